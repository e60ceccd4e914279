/-
  DERIVED. Entries are compared: the program's way and the document's.
-/
import Derived.Test.YtchikfabfhjkgaaMBase
import Derived.Test.YtchikfabfhjkgaaShelf
set_option linter.unusedVariables false
set_option linter.unusedSimpArgs false
namespace Go.Proofs.Ytchikfabfhjkgaa
open Go.RowKit
/-- How two entries stand. -/
def cpE (a b : En) : Int := if a.v = b.v then (if Lib.compareBytes a.c.data.toList b.c.data.toList = 0 then Lib.compareInt a.i b.i else Lib.compareBytes a.c.data.toList b.c.data.toList) else Lib.compareInt a.v b.v
theorem cmpI (a b : Int) : (Lib.compareInt a b < 0 ↔ a < b) ∧ (Lib.compareInt a b = 0 ↔ a = b) ∧ (0 < Lib.compareInt a b ↔ b < a) := by
  unfold Lib.compareInt
  split
  · omega
  · split <;> omega
theorem cpI_lt {a b : Int} (h : a < b) : Lib.compareInt a b = -1 := by unfold Lib.compareInt; rw [if_pos h]
theorem cpI_gt {a b : Int} (h : b < a) : Lib.compareInt a b = 1 := by unfold Lib.compareInt; rw [if_neg (by omega), if_pos h]
theorem cpI_eq (a : Int) : Lib.compareInt a a = 0 := (cmpI a a).2.1.2 rfl
theorem cpE_self (a : En) : cpE a a = 0 := by unfold cpE; rw [if_pos rfl, if_pos ((cmp_zero _ _).2 rfl)]; exact cpI_eq _
set_option maxHeartbeats 1000000 in
set_option maxRecDepth 100000 in
theorem compare_any (a b : En) (w : World) :
    Calls Try.prog 9 #[.agg (enC a).toArray, .agg (enC b).toArray] w fun r w' => r = .returned (.int .i64 (cpE a b)) ∧ Below w.heap.size w w' := by
  obtain ⟨v, c, i, s, d⟩ := a
  obtain ⟨v', c', i', s', d'⟩ := b
  have bA : Below w.heap.size w ((w.alloc (.cells #[.int .i64 v, .string c, .int .i64 i, .int .i64 s, .bool d] 23)).alloc (.cells #[.int .i64 v', .string c', .int .i64 i', .int .i64 s', .bool d'] 23)) := ((Below.refl _ w).alloc (Nat.le_refl _) _).alloc (by simp) _
  have k1 := fun W => Try.cmp_Compare_int v v' W
  have k2 := fun W => Try.strings_Compare c c' W
  have k3 := fun W => Try.cmp_Compare_int i i' W
  unfold cpE
  simp only [enC]
  by_cases h1 : v = v'
  · rw [if_pos h1]
    have h1' : (v != v') = false := by simp [h1]
    by_cases h2 : Lib.compareBytes c.data.toList c'.data.toList = 0
    · rw [if_pos h2]
      have h2' : (Lib.compareBytes c.data.toList c'.data.toList != 0) = false := by simp [h2]
      obtain ⟨q, hq⟩ : ∃ q, q = Lib.compareBytes c.data.toList c'.data.toList := ⟨_, rfl⟩
      rw [← hq] at k2 h2'
      clear h2 hq k1 h1
      go_enter Try.func9, Try.ntmps9
      go_wp2_with first
        | (go_at_call 35; refine (k2 _).mono ?_; rintro e w' ⟨rfl, rfl⟩)
        | (go_at_call 34; refine (k3 _).mono ?_; rintro e w' ⟨rfl, rfl⟩)
      go_ret
      exact ⟨rfl, bA⟩
    · rw [if_neg h2]
      have h2' : (Lib.compareBytes c.data.toList c'.data.toList != 0) = true := by simpa using h2
      obtain ⟨q, hq⟩ : ∃ q, q = Lib.compareBytes c.data.toList c'.data.toList := ⟨_, rfl⟩
      rw [← hq] at k2 h2' ⊢
      clear h2 hq k1 h1 k3
      go_enter Try.func9, Try.ntmps9
      go_wp2_with (go_at_call 35; refine (k2 _).mono ?_; rintro e w' ⟨rfl, rfl⟩)
      go_ret
      exact ⟨rfl, bA⟩
  · rw [if_neg h1]
    have h1' : (v != v') = true := by simpa using h1
    clear h1 k2 k3
    go_enter Try.func9, Try.ntmps9
    go_wp2_with (go_at_call 34; refine (k1 _).mono ?_; rintro e w' ⟨rfl, rfl⟩)
    go_ret
    exact ⟨rfl, bA⟩
theorem bl_t {c c' : ByteArray} (h : Lib.compareBytes c.data.toList c'.data.toList = -1) : Op.bytesLess c.toList c'.toList = true ∧ Op.bytesLess c'.toList c.toList = false := by
  rw [ByteArray.toList_eq, ByteArray.toList_eq, bytesLess_cmp, bytesLess_cmp, cmpB_rev c.data.toList, h]; decide
theorem eq_z {c c' : ByteArray} (h : Lib.compareBytes c.data.toList c'.data.toList = 0) : (c.toList == c'.toList) = true := by
  rw [ByteArray.toList_eq, ByteArray.toList_eq, (cmp_zero _ _).1 h]; simp
theorem eq_n {c c' : ByteArray} (h : ¬ Lib.compareBytes c.data.toList c'.data.toList = 0) : (c.toList == c'.toList) = false := by
  rw [ByteArray.toList_eq, ByteArray.toList_eq]
  exact beq_false_of_ne (fun e => h ((cmp_zero _ _).2 e))
theorem bl_z {c c' : ByteArray} (h : Lib.compareBytes c.data.toList c'.data.toList = 0) : Op.bytesLess c.toList c'.toList = false ∧ Op.bytesLess c'.toList c.toList = false := by
  rw [ByteArray.toList_eq, ByteArray.toList_eq, bytesLess_cmp, bytesLess_cmp, cmpB_rev c.data.toList, h]; decide
theorem bl_g {c c' : ByteArray} (h : Lib.compareBytes c.data.toList c'.data.toList = 1) : Op.bytesLess c.toList c'.toList = false ∧ Op.bytesLess c'.toList c.toList = true := by
  rw [ByteArray.toList_eq, ByteArray.toList_eq, bytesLess_cmp, bytesLess_cmp, cmpB_rev c.data.toList, h]; decide
set_option maxHeartbeats 1000000 in
set_option maxRecDepth 100000 in
theorem rcompare_any (a b : En) (w : World) :
    Calls Try.prog 10 #[.agg (enC a).toArray, .agg (enC b).toArray] w fun r w' => r = .returned (.int .i64 (cpE a b)) ∧ Below w.heap.size w w' := by
  obtain ⟨v, c, i, s, d⟩ := a
  obtain ⟨v', c', i', s', d'⟩ := b
  have bA : Below w.heap.size w ((w.alloc (.cells #[.int .i64 v, .string c, .int .i64 i, .int .i64 s, .bool d] 23)).alloc (.cells #[.int .i64 v', .string c', .int .i64 i', .int .i64 s', .bool d'] 23)) := ((Below.refl _ w).alloc (Nat.le_refl _) _).alloc (by simp) _
  unfold cpE
  simp only [enC]
  by_cases h1 : v = v'
  · rw [if_pos h1]
    subst h1
    rcases cmpB_one c.data.toList c'.data.toList with h2 | h2 | h2
    · obtain ⟨b1, b2⟩ := bl_t h2
      have b3 := eq_n (c := c) (c' := c') (by rw [h2]; decide)
      rw [h2, if_neg (by decide)]
      clear h2
      go_enter Try.func10, Try.ntmps10
      go_wp2
      go_ret
      exact ⟨rfl, bA⟩
    · obtain ⟨b1, b2⟩ := bl_z h2
      have b3 := eq_z (c := c) (c' := c') h2
      rw [h2, if_pos rfl]
      clear h2
      go_enter Try.func10, Try.ntmps10
      go_wp2
      all_goals go_ret
      all_goals refine ⟨ret_int ?_, bA⟩
      · rw [cpI_lt (by assumption)]
      · rw [cpI_gt (by assumption)]
      · have : i = i' := by omega
        rw [this, cpI_eq]
    · obtain ⟨b1, b2⟩ := bl_g h2
      have b3 := eq_n (c := c) (c' := c') (by rw [h2]; decide)
      rw [h2, if_neg (by decide)]
      clear h2
      go_enter Try.func10, Try.ntmps10
      go_wp2
      go_ret
      exact ⟨rfl, bA⟩
  · rw [if_neg h1]
    by_cases h2 : v < v'
    · rw [cpI_lt h2]
      clear h1
      go_enter Try.func10, Try.ntmps10
      go_wp2
      go_ret
      exact ⟨rfl, bA⟩
    · have h3 : v' < v := by omega
      rw [cpI_gt h3]
      clear h1
      go_enter Try.func10, Try.ntmps10
      go_wp2
      go_ret
      exact ⟨rfl, bA⟩
/-- The mark n. -/
def mkE (n : Int) : En := ⟨-n, ⟨#[109, 97, 114, 107]⟩, -n, -n, false⟩
set_option maxRecDepth 100000 in
theorem mark_any (n : Int) (h0 : 0 ≤ n) (h1 : n < 4611686018427387904) (w : World) :
    Calls Try.prog 11 #[.int .i64 n] w fun r w' => r = .returned (.agg (enC (mkE n)).toArray) ∧ Below w.heap.size w w' := by
  have hw : IntKind.i64.wrap (-n) = -n := by rw [IntKind.wrap_i64]; omega
  go_enter Try.func11, Try.ntmps11
  go_wp2
  refine bodyPost_ret (v := .agg (enC (mkE n)).toArray) (by simp [results, Try.results11, go_sem]; try rfl) rfl ?_
  exact ⟨rfl, (Below.refl _ w).alloc (Nat.le_refl _) _⟩
def rises : List En → Bool
  | a :: b :: r => decide (cpE a b < 0) && rises (b :: r)
  | _ => true
def sE (b : Bool) : Int := if b then 0 else 50
theorem rises_step (l : List En) (j : Nat) (h : j + 1 < l.length) : rises (l.drop j) = (decide (cpE l[j] l[j + 1] < 0) && rises (l.drop (j + 1))) := by
  rw [List.drop_eq_getElem_cons (show j < l.length by omega), List.drop_eq_getElem_cons h, rises]
theorem rises_end (l : List En) (j : Nat) (h : l.length ≤ j + 1) : rises (l.drop j) = true := by
  by_cases hj : j < l.length
  · rw [List.drop_eq_getElem_cons hj, List.drop_eq_nil_of_le (by omega)]; rfl
  · rw [List.drop_eq_nil_of_le (by omega)]; rfl
end Go.Proofs.Ytchikfabfhjkgaa
