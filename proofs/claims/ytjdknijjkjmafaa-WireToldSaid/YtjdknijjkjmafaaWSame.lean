/-
  DERIVED. The laws' own: the same hits, the same reply.
-/
import Derived.Test.YtjdknijjkjmafaaWOnly2
import Derived.Deep.QuietTactic
import Derived.BigQuiet
set_option linter.unusedVariables false
set_option linter.unusedSimpArgs false
namespace Go.Proofs.Ytjdknijjkjmafaa
open Go.RowKit Go.Proofs.SealMath
set_option maxHeartbeats 4000000 in
set_option maxRecDepth 100000 in
theorem sameHits_any (L : List Ht) (a a' : Option Addr) (c c' : Nat) (w : World) (h1 : HsAt w a L) (h2 : HsAt w a' L) (hn : L.length ≤ 65536) :
    Calls Try.prog 17 #[.slice a L.length c, .slice a' L.length c'] w fun e w' => e = .returned (.bool true) ∧ Drew w w' := by
  obtain ⟨n, hne⟩ : ∃ n, n = L.length := ⟨_, rfl⟩
  rw [← hne]
  have HH := Hid.mk (And.intro h1 (And.intro h2 (And.intro hne hn)))
  clear h1 h2 hne hn
  go_enter Try.func17, Try.ntmps17
  go_wp2
  go_loopw [5] (fun u wr => ∃ i : Nat, u = .int .i64 i ∧ i ≤ n ∧ Drew w wr) (fun u _ => n - (intOf u).toNat)
  case atStart => exact ⟨0, rfl, Nat.zero_le _, Drew.refl _⟩
  case round =>
    obtain ⟨i, rfl, hin, hd⟩ := hrel
    obtain ⟨nq, rfl⟩ := hd
    by_cases hlt : i < n
    · have hlt' : (i : Int) < (n : Int) := by omega
      have i0 : 0 ≤ (i : Int) := by omega
      have hil : i < L.length := by have := HH.out.2.2.1; omega
      have hw1 : Hid (IntKind.i64.wrap ((i : Int) + 1) = ((i + 1 : Nat) : Int)) := i64_in _ (by omega) (by have := HH.out.2.2; omega)
      rcases HH.out.1 with h | ⟨g, off, rfl, hg, hc⟩
      · rw [h] at hil; simp at hil
      rcases HH.out.2.1 with h | ⟨g', off', rfl, hg', hc'⟩
      · rw [h] at hil; simp at hil
      obtain ⟨p0, p1, p2⟩ := hc i hil
      obtain ⟨q0, q1, q2⟩ := hc' i hil
      have heq := fun W => ht_neq L[i] L[i] W
      have hE : htE L[i] L[i] = true := (htE_iff _ _).2 rfl
      rw [hE] at heq
      obtain ⟨x, hx⟩ : ∃ x, x = L[i] := ⟨_, rfl⟩
      rw [← hx] at p0 p1 p2 q0 q1 q2 heq
      obtain ⟨x0, x1, x2⟩ := x
      simp only [htV, Bool.not_true] at p0 p1 p2 q0 q1 q2 heq
      clear hx hE hc hc' hg hg'
      have hw := hw1.out
      clear hw1 hil
      go_wp2
      go_quiet (fail)
      go_wp2
      clear hw
      exact ⟨⟨i + 1, rfl, by omega, ⟨_, rfl⟩⟩, by simp only [intOf]; omega⟩
    · have hlt' : ¬ (i : Int) < (n : Int) := by omega
      clear hlt
      go_wp2
      go_ret
      exact ⟨rfl, ⟨_, rfl⟩⟩
set_option maxHeartbeats 4000000 in
set_option maxRecDepth 100000 in
theorem same_any (r : Rp) (L : List Ht) (a a' : Option Addr) (c c' : Nat) (w : World) (h1 : HsAt w a L) (h2 : HsAt w a' L) (hn : L.length ≤ 65536) :
    Calls Try.prog 10 #[.agg (rpC r (.slice a L.length c)), .agg (rpC r (.slice a' L.length c'))] w fun e w' => e = .returned (.bool true) ∧ Below w.heap.size w w' := by
  have bA : Below w.heap.size w ((w.alloc (.cells (rpC r (.slice a L.length c)) 29)).alloc (.cells (rpC r (.slice a' L.length c')) 29)) := ((Below.refl _ w).alloc (Nat.le_refl _) _).alloc (by simp) _
  have hs := sameHits_any L a a' c c' _ (h1.below bA) (h2.below bA) hn
  have k1 : HC ((w.alloc (.cells (rpC r (.slice a L.length c)) 29)).alloc (.cells (rpC r (.slice a' L.length c')) 29)) w.heap.size (rpC r (.slice a L.length c)) 29 := HC.alloc (HC.new w _ _) _
  have k2 : HC ((w.alloc (.cells (rpC r (.slice a L.length c)) 29)).alloc (.cells (rpC r (.slice a' L.length c')) 29)) (w.heap.size + 1) (rpC r (.slice a' L.length c')) 29 := by
    have := HC.new (w.alloc (.cells (rpC r (.slice a L.length c)) 29)) (rpC r (.slice a' L.length c')) 29
    have e : (w.alloc (.cells (rpC r (.slice a L.length c)) 29)).heap.size = w.heap.size + 1 := by simp
    rw [e] at this
    exact this
  obtain ⟨n, hne⟩ : ∃ n, n = L.length := ⟨_, rfl⟩
  rw [← hne] at bA hs k1 k2 ⊢
  obtain ⟨e, n', t⟩ := r
  obtain ⟨V, hV⟩ : ∃ V, V = (w.alloc (.cells (rpC ⟨e, n', t⟩ (.slice a n c)) 29)).alloc (.cells (rpC ⟨e, n', t⟩ (.slice a' n c')) 29) := ⟨_, rfl⟩
  rw [← hV] at bA hs k1 k2
  have hV5 : (w.alloc (.cells #[.int .i64 e, .int .i64 n', .string t, .slice a n c] 29)).alloc (.cells #[.int .i64 e, .int .i64 n', .string t, .slice a' n c'] 29) = V := hV.symm
  have x0 : V.cell? ⟨w.heap.size, 0, none⟩ = some (.int .i64 e) := k1.cell rfl
  have x1 : V.cell? ⟨w.heap.size, 1, none⟩ = some (.int .i64 n') := k1.cell rfl
  have x2 : V.cell? ⟨w.heap.size, 2, none⟩ = some (.string t) := k1.cell rfl
  have x3 : V.cell? ⟨w.heap.size, 3, none⟩ = some (.slice a n c) := k1.cell rfl
  have y0 : V.cell? ⟨w.heap.size + 1, 0, none⟩ = some (.int .i64 e) := k2.cell rfl
  have y1 : V.cell? ⟨w.heap.size + 1, 1, none⟩ = some (.int .i64 n') := k2.cell rfl
  have y2 : V.cell? ⟨w.heap.size + 1, 2, none⟩ = some (.string t) := k2.cell rfl
  have y3 : V.cell? ⟨w.heap.size + 1, 3, none⟩ = some (.slice a' n c') := k2.cell rfl
  have HB := Hid.mk bA
  clear hV k1 k2 h1 h2 hn hne bA
  go_enter Try.func10, Try.ntmps10
  go_wp2_with (go_at_call 17; (try rw [hV5]); refine hs.mono ?_; clear hs; rintro y w1 ⟨rfl, nq, rfl⟩)
  go_ret
  exact ⟨rfl, ⟨HB.out.os, HB.out.tape, HB.out.output, HB.out.size, HB.out.block⟩⟩
end Go.Proofs.Ytjdknijjkjmafaa
