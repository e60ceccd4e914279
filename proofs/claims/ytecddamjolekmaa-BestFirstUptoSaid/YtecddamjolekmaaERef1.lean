/-
  DERIVED. The document's own answers: the order, a hit put in, the first k of a list.
-/
import Derived.Test.YtecddamjolekmaaEList
import Derived.Test.YtecddamjolekmaaEFirst
set_option linter.unusedVariables false
set_option linter.unusedSimpArgs false
namespace Go.Proofs.Ytecddamjolekmaa
open Go.RowKit
set_option maxHeartbeats 1000000 in
set_option maxRecDepth 100000 in
theorem rless_any (a b : Ht) (w : World) :
    Calls Try.prog 26 #[.agg (hC a).toArray, .agg (hC b).toArray] w fun r w' => r = .returned (.bool (decide (cpH a b < 0))) ∧ Below w.heap.size w w' := by
  obtain ⟨d, i, c⟩ := a
  obtain ⟨d', i', c'⟩ := b
  have bA : Below w.heap.size w ((w.alloc (.cells #[.int .i64 d, .int .i64 i, .string c] 28)).alloc (.cells #[.int .i64 d', .int .i64 i', .string c'] 28)) := ((Below.refl _ w).alloc (Nat.le_refl _) _).alloc (by simp) _
  unfold cpH
  simp only [hC]
  by_cases h1 : d = d'
  · rw [if_pos h1]
    have h1' : (d != d') = false := by simp [h1]
    by_cases h2 : i = i'
    · rw [if_pos h2]
      have h2' : (i != i') = false := by simp [h2]
      have hb := bl_iff c c'
      obtain ⟨q, hq⟩ : ∃ q, q = decide (Lib.compareBytes c.data.toList c'.data.toList < 0) := ⟨_, rfl⟩
      rw [← hq] at hb ⊢
      clear h2 h1 hq
      go_enter Try.func26, Try.ntmps26
      go_wp2
      go_ret
      exact ⟨rfl, bA⟩
    · rw [if_neg h2]
      have h2' : (i != i') = true := by simpa using h2
      have hb : decide (Lib.compareInt i i' < 0) = decide (i < i') := by simp [(cmpI i i').1]
      rw [hb]
      clear h2 h1 hb
      go_enter Try.func26, Try.ntmps26
      go_wp2
      go_ret
      exact ⟨rfl, bA⟩
  · rw [if_neg h1]
    have h1' : (d != d') = true := by simpa using h1
    have hb : decide (Lib.compareInt d d' < 0) = decide (d < d') := by simp [(cmpI d d').1]
    rw [hb]
    clear h1 hb
    go_enter Try.func26, Try.ntmps26
    go_wp2
    go_ret
    exact ⟨rfl, bA⟩
/-- Where a hit is put in. -/
theorem ins_split {h : Ht} : ∀ {X : List Ht} {i : Nat}, (∀ x ∈ X.take i, cpH x h < 0) → (∀ x, X[i]? = some x → ¬ cpH x h < 0 ∧ x ≠ h) → i ≤ X.length → ins h X = X.take i ++ h :: X.drop i
  | [], i, _, _, _ => by simp [ins]
  | x :: X, 0, h1, h2, _ => by
    obtain ⟨h3, h4⟩ := h2 x rfl
    unfold ins
    rw [if_neg h3, if_neg h4]; rfl
  | x :: X, i + 1, h1, h2, h3 => by
    unfold ins
    rw [if_pos (h1 x (by simp)), ins_split (i := i) (fun y hy => h1 y (by simp [hy])) (fun y hy => h2 y (by simpa using hy)) (by simpa using h3)]
    simp
theorem LAt.take {w : World} {la : Option Addr} {l : List Ht} (h : LAt w la l) (i : Nat) : LAt w la (l.take i) := ⟨fun hn => by
  obtain ⟨g, off, e, hr⟩ := h.at' (fun e => hn (by rw [e]; simp))
  refine ⟨g, off, e, fun j x hx => hr j x ?_⟩
  conv => lhs; rw [← List.take_append_drop i l, List.flatMap_append]
  rw [List.getElem?_append_left (List.getElem?_eq_some_iff.1 hx).1]
  exact hx⟩
theorem LAt.drop {w : World} {g off : Nat} {l : List Ht} (h : LAt w (some ⟨g, off, none⟩) l) (i : Nat) : LAt w (some ⟨g, off + i * 3, none⟩) (l.drop i) := ⟨fun hn => by
  obtain ⟨g', off', e, hr⟩ := h.at' (fun e => hn (by rw [e]; simp))
  simp only [Option.some.injEq, Addr.mk.injEq] at e
  obtain ⟨rfl, rfl, -⟩ := e
  refine ⟨g, off + i * 3, rfl, fun j x hx => ?_⟩
  have hi : i ≤ l.length := by
    rcases Nat.lt_or_ge i l.length with h | h
    · omega
    · exact absurd (List.drop_eq_nil_of_le h) hn
  have := hr (i * 3 + j) x (by
    conv => lhs; rw [← List.take_append_drop i l, List.flatMap_append]
    rw [List.getElem?_append_right (by rw [flat_len3, List.length_take]; omega), flat_len3, List.length_take]
    rw [show i * 3 + j - min i l.length * 3 = j by rw [Nat.min_eq_left hi]; omega]
    exact hx)
  rw [show off + i * 3 + j = off + (i * 3 + j) by omega]
  exact this⟩
end Go.Proofs.Ytecddamjolekmaa
