/-
  DERIVED. Join, for every union and ids.
-/
import Derived.Test.YtmhifofeobhhgaaUJoin
set_option linter.unusedVariables false
set_option linter.unusedSimpArgs false
namespace Go.Proofs.Ytmhifofeobhhgaa
open Go.RowKit Go.Proofs.UnionMath
theorem PU.look2 {w : World} {p mb ag : Nat} {iv : Value} {S : List Int} {R : Nat → Nat} (h : PU w p mb ag iv S R) {z : Int} (hz : I64 z) : ∃ c : Int, (Instr.lookup 41 (.map (some mb)) (.int .i64 z) true).run Try.prog w = .ok (.tuple #[.int .i64 c, .bool (decide (z ∈ S))]) w := by
  obtain ⟨n, hm⟩ := h.map
  have := hm.look hz
  have e : (plc S z).isSome = decide (z ∈ S) := by
    by_cases g : z ∈ S
    · obtain ⟨k, hk, rfl⟩ := List.mem_iff_getElem.1 g
      rw [plc_some h.ids.up hk]; simp
    · rw [plc_none g]; simp [g]
  exact ⟨(plc S z).getD 0, by rw [this, e]⟩
set_option maxHeartbeats 4000000 in
set_option maxRecDepth 100000 in
theorem join_no (p mb ag : Nat) (iv : Value) (S : List Int) (R : Nat → Nat) (a b : Int) (ha : I64 a) (hb : I64 b) (w : World) (h : PU w p mb ag iv S R) (hn : ¬ (a ∈ S ∧ b ∈ S)) :
    Calls Try.prog 10 #[Pt p, .int .i64 a, .int .i64 b] w fun e w' => e = .returned (.int .i64 131) ∧ w' = w := by
  obtain ⟨c1, g1⟩ := h.look2 ha
  obtain ⟨c2, g2⟩ := h.look2 hb
  have pc := h.cells.2.1
  obtain ⟨B1, h1⟩ : ∃ B1, decide (a ∈ S) = B1 := ⟨_, rfl⟩
  obtain ⟨B2, h2⟩ : ∃ B2, decide (b ∈ S) = B2 := ⟨_, rfl⟩
  rw [h1] at g1
  rw [h2] at g2
  have hB : (B1 && B2) = false := by
    rw [← h1, ← h2]
    by_cases q : a ∈ S
    · have : b ∉ S := fun q2 => hn ⟨q, q2⟩
      simp [this]
    · simp [q]
  clear h1 h2 hn h ha hb
  cases B1 <;> cases B2
  · go_enter Try.func10, Try.ntmps10
    go_wp2
    go_ret
    exact ⟨rfl, rfl⟩
  · go_enter Try.func10, Try.ntmps10
    go_wp2
    go_ret
    exact ⟨rfl, rfl⟩
  · go_enter Try.func10, Try.ntmps10
    go_wp2
    go_ret
    exact ⟨rfl, rfl⟩
  · simp at hB
set_option maxHeartbeats 4000000 in
set_option maxRecDepth 100000 in
theorem join_yes (p mb ag : Nat) (iv : Value) (S : List Int) (R : Nat → Nat) (i j : Nat) (hi : i < S.length) (hj : j < S.length) (w : World) (h : PU w p mb ag iv S R) :
    Calls Try.prog 10 #[Pt p, .int .i64 S[i], .int .i64 S[j]] w fun e w' => e = .returned (.int .i64 0) ∧ PU w' p mb ag iv S (jn R i j) ∧ Stay (fun k => k = ag) w w' := by
  obtain ⟨c1, g1⟩ := h.look2 (h.ids.i64 (List.getElem_mem hi))
  obtain ⟨c2, g2⟩ := h.look2 (h.ids.i64 (List.getElem_mem hj))
  have pc := h.cells.2.1
  rw [show decide (S[i] ∈ S) = true from by simp] at g1
  rw [show decide (S[j] ∈ S) = true from by simp] at g2
  have hu := unite_any p mb ag iv S R i j hi hj w h
  obtain ⟨a, ha⟩ : ∃ a, S[i] = a := ⟨_, rfl⟩
  obtain ⟨b, hb⟩ : ∃ b, S[j] = b := ⟨_, rfl⟩
  rw [ha] at g1 hu
  rw [hb] at g2 hu
  rw [ha, hb]
  clear h ha hb
  go_enter Try.func10, Try.ntmps10
  go_wp2_with (go_at_call 19; refine hu.mono ?_; clear hu; rintro e w1 ⟨⟨v, rfl⟩, k1, s1⟩; have HK := Hid.mk (And.intro k1 s1); clear k1 s1)
  go_ret
  exact ⟨rfl, HK.out.1, HK.out.2⟩
end Go.Proofs.Ytmhifofeobhhgaa
