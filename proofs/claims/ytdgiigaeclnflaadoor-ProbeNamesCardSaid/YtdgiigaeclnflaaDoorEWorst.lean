/-
  DERIVED. A top's Worst; two tops beside each other.
-/
import Derived.Test.YtdgiigaeclnflaaDoorELawS
set_option linter.unusedVariables false
set_option linter.unusedSimpArgs false
namespace Go.Proofs.YtdgiigaeclnflaaDoor
open Go.RowKit
/-- The k-th one's distance. -/
def wrs (k : Nat) (X : List Ht) : Int := if X.length = k then (match X.getLast? with | some x => x.d | none => -1) else 0
theorem wrs_not {k : Nat} {X : List Ht} (h : ¬ X.length = k) : wrs k X = 0 := by unfold wrs; rw [if_neg h]
theorem wrs_nil {k : Nat} {X : List Ht} (h : X.length = k) (h0 : k = 0) : wrs k X = -1 := by
  unfold wrs; rw [if_pos h, List.eq_nil_of_length_eq_zero (h.trans h0)]; rfl
theorem wrs_last {k : Nat} {X : List Ht} {x : Ht} (h : X.length = k) (hx : X = X.dropLast ++ [x]) : wrs k X = x.d := by
  unfold wrs; rw [if_pos h]
  have : X.getLast? = some x := by rw [hx]; simp
  rw [this]
set_option maxHeartbeats 1000000 in
set_option maxRecDepth 100000 in
theorem worst_any (t k kp : Nat) (X : List Ht) (w : World) (hT : TT w t k kp X) :
    Calls Tryd.prog 14 #[Pk t] w fun r w' => r = .returned (.tuple #[.int .i64 (wrs k X), .bool (decide (X.length = k))]) ∧ Below w.heap.size w w' := by
  have hfull := full_any t k kp X w hT
  by_cases hf : X.length = k
  · rw [decide_eq_true hf] at hfull ⊢
    by_cases h0 : k = 0
    · rw [wrs_nil hf h0]
      have hk0 : ((k : Int) == 0) = true := by simp [h0]
      obtain ⟨c0, c1⟩ := hT.1.cells
      clear hT hf h0
      go_enter Tryd.func14, Tryd.ntmps14
      go_wp2_with (go_at_call 23; refine hfull.mono ?_; clear hfull; rintro r w2 ⟨rfl, q, rfl⟩)
      go_ret2
      exact ⟨rfl, Drew.below ⟨q, rfl⟩ _⟩
    · have hne : X ≠ [] := fun e => by rw [e] at hf; simp at hf; omega
      obtain ⟨x, hx⟩ := hT.2.1.lastOf hne
      rw [wrs_last hf hx]
      have hk0 : ((k : Int) == 0) = false := by simp; omega
      obtain ⟨c0, c1⟩ := hT.1.cells
      have hla := fun q => last_any kp X x (w.drewN q) (hT.2.1.below (Drew.below ⟨q, rfl⟩ _)) hx
      simp only [hC] at hla
      have hfl : ∀ W : World, (Instr.field 67 (.agg #[.int .i64 x.d, .int .i64 x.i, .string x.c]) 0).run Tryd.prog W = .ok (.int .i64 x.d) W := fun W => by kernel_rfl
      clear hT hf h0 hne hx
      go_enter Tryd.func14, Tryd.ntmps14
      go_wp2_with first
        | (go_at_call 23; refine hfull.mono ?_; clear hfull; rintro r w2 ⟨rfl, q, rfl⟩)
        | (go_at_call 24; refine (hla q).mono ?_; clear hla; rintro r w3 ⟨rfl, b3⟩)
      go_ret2
      exact ⟨rfl, (Drew.below ⟨q, rfl⟩ _).trans b3⟩
  · rw [decide_eq_false hf] at hfull ⊢
    rw [wrs_not hf]
    clear hT hf
    go_enter Tryd.func14, Tryd.ntmps14
    go_wp2_with (go_at_call 23; refine hfull.mono ?_; clear hfull; rintro r w2 ⟨rfl, q, rfl⟩)
    go_ret2
    exact ⟨rfl, Drew.below ⟨q, rfl⟩ _⟩
/-- Two tops of the call's own. -/
structure Two (w W : World) (ta tb k kpa kpb : Nat) (X Y : List Ht) : Prop where
  a : Own w W ta k kpa X
  b : Own w W tb k kpb Y
  apart : ∀ j, Ft W kpa j → Ft W kpb j → False
theorem Two.swap {w W : World} {ta tb k kpa kpb : Nat} {X Y : List Ht} (h : Two w W ta tb k kpa kpb X Y) : Two w W tb ta k kpb kpa Y X := ⟨h.b, h.a, fun j h1 h2 => h.apart j h2 h1⟩
theorem Two.frk {w W W' : World} {ta tb k kpa kpb : Nat} {X Y Z : List Ht} (h : Two w W ta tb k kpa kpb X Y) (hT : TT W' ta k kpa Z) (f : FrK kpa W W') : Two w W' ta tb k kpa kpb Z Y := by
  obtain ⟨h1, h2⟩ := h.b.tt.keep f.stay (h.a.tt.2.1.top h.b.tt.1) (fun j hj hF => h.apart j hF hj)
  refine ⟨h.a.frk hT f, ⟨h1, fun j hj => h.b.far j ((h2 j).1 hj), h.b.tfar, (h.a.frk hT f).below⟩, fun j ha hb => ?_⟩
  have hb' := (h2 j).1 hb
  rcases f.loc j ha with h3 | h3
  · exact h.apart j h3 hb'
  · have := h.b.tt.2.1.ftlt j hb'; omega
theorem Two.more {w W W' : World} {ta tb k kpa kpb : Nat} {X Y : List Ht} (h : Two w W ta tb k kpa kpb X Y) (b : Below W.heap.size W W') : Two w W' ta tb k kpa kpb X Y :=
  ⟨h.a.more b, h.b.more b, fun j h1 h2 => h.apart j (((h.a.tt.below b).2 j).1 h1) (((h.b.tt.below b).2 j).1 h2)⟩
theorem Two.mk' {w W W' : World} {ta tb k kpa kpb : Nat} {X Y : List Ht} (ha : Own w W ta k kpa X) (hb : Own W W' tb k kpb Y) : Two w W' ta tb k kpa kpb X Y :=
  ⟨ha.more hb.below, ⟨hb.tt, fun j hj => Nat.le_trans ha.below.size (hb.far j hj), Nat.le_trans ha.below.size hb.tfar, ha.below.trans (hb.below.mono ha.below.size)⟩, fun j h1 h2 => by
    have h3 := ha.tt.2.1.ftlt j (((ha.tt.below hb.below).2 j).1 h1)
    have h4 := hb.far j h2
    omega⟩
/-- What the bound was holds on. -/
structure Was (k : Nat) (X : List Ht) (was : Bool) (last : Int) : Prop where
  full : was = true → X.length = k
  nil : was = true → k = 0 → last = -1
  le : was = true → ∀ x ∈ X, x.d ≤ last
theorem cpH_d {a b : Ht} (h : cpH a b ≤ 0) : a.d ≤ b.d := by
  unfold cpH at h
  have := cmpI a.d b.d
  by_cases e : a.d = b.d
  · omega
  · rw [if_neg e] at h; omega
theorem cpH_dlt {a b : Ht} (h : a.d < b.d) : cpH a b < 0 := by
  unfold cpH
  have := cmpI a.d b.d
  rw [if_neg (by omega)]; omega
theorem srt_le {X : List Ht} {x y : Ht} (hX : Srt X) (hx : X = X.dropLast ++ [x]) (hy : y ∈ X) : cpH y x ≤ 0 := by
  rw [hx] at hy hX
  rcases List.mem_append.1 hy with h | h
  · exact Int.le_of_lt ((List.pairwise_append.1 hX).2.2 y h x (by simp))
  · rw [List.mem_singleton.1 h, cpH_self]; exact Int.le_refl _
theorem ins_ge (h : Ht) : ∀ l : List Ht, l.length ≤ (ins h l).length
  | [] => by simp [ins]
  | x :: l => by
    unfold ins
    split
    · simp; exact ins_ge h l
    · split <;> simp
/-- Behind a hit the bound is no higher. -/
theorem was_step {k : Nat} {X : List Ht} {h : Ht} (hX : Srt X) (hl : X.length ≤ k) : Was k (putK k h X) (decide (X.length = k)) (wrs k X) := by
  refine ⟨fun e => ?_, fun e e0 => ?_, fun e x hx => ?_⟩
  · have e := of_decide_eq_true e
    unfold putK
    rw [List.length_take]
    have := ins_ge h X
    omega
  · exact wrs_nil (of_decide_eq_true e) e0
  · have e := of_decide_eq_true e
    have hne : X ≠ [] := fun e1 => by
      rw [e1] at e; simp at e
      rw [← e] at hx; simp [putK] at hx
    obtain ⟨y, hy⟩ : ∃ y, X = X.dropLast ++ [y] := ⟨_, (List.dropLast_concat_getLast hne).symm⟩
    rw [wrs_last e hy]
    by_cases hg : 0 < cpH h y
    · have := (top_out (h := h) hX hy hg).1
      rw [e] at this
      unfold putK at hx
      rw [this] at hx
      exact cpH_d (srt_le hX hy hx)
    · have hx' : x ∈ ins h X := List.mem_of_mem_take hx
      rcases (ins_mem h x X).1 hx' with rfl | hx'
      · exact cpH_d (by omega)
      · exact cpH_d (srt_le hX hy hx')
/-- Above the bound nothing is kept. -/
theorem above_out {k : Nat} {X : List Ht} {h : Ht} (hX : Srt X) (hf : X.length = k) (ha : wrs k X < h.d) : putK k h X = X ∧ h ∉ X := by
  by_cases h0 : k = 0
  · have : X = [] := List.eq_nil_of_length_eq_zero (hf.trans h0)
    subst this
    subst h0
    exact ⟨by simp [putK], by simp⟩
  · have hne : X ≠ [] := fun e1 => by rw [e1] at hf; simp at hf; omega
    obtain ⟨y, hy⟩ : ∃ y, X = X.dropLast ++ [y] := ⟨_, (List.dropLast_concat_getLast hne).symm⟩
    rw [wrs_last hf hy] at ha
    have := top_out (h := h) hX hy (by have := cpH_dlt ha; have := cpH_rev y h; omega)
    rw [hf] at this
    exact this
end Go.Proofs.YtdgiigaeclnflaaDoor
