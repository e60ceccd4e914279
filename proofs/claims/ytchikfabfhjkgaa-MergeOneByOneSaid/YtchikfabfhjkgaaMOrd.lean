/-
  DERIVED. The order of the merger's heap is one; what a Pop takes out.
-/
import Derived.Test.YtchikfabfhjkgaaMHeap3
set_option linter.unusedVariables false
set_option linter.unusedSimpArgs false
namespace Go.Proofs.Ytchikfabfhjkgaa
open Go.RowKit
theorem cmpB_tr : ∀ a b c : List UInt8, Lib.compareBytes a b ≤ 0 → Lib.compareBytes b c ≤ 0 → Lib.compareBytes a c ≤ 0 ∧ (Lib.compareBytes a c = 0 → Lib.compareBytes a b = 0 ∧ Lib.compareBytes b c = 0)
  | [], [], [] => by simp [Lib.compareBytes]
  | [], [], _ :: _ => by simp [Lib.compareBytes]
  | [], _ :: _, [] => by simp [Lib.compareBytes]
  | [], _ :: _, _ :: _ => by simp [Lib.compareBytes]
  | _ :: _, [], [] => by simp [Lib.compareBytes]
  | _ :: _, [], _ :: _ => by simp [Lib.compareBytes]
  | _ :: _, _ :: _, [] => by simp [Lib.compareBytes]
  | a :: x, b :: y, c :: z => by
    unfold Lib.compareBytes
    intro h1 h2
    by_cases p1 : a < b
    · by_cases q1 : b < c
      · have : a < c := UInt8.lt_trans p1 q1
        simp [this]
      · by_cases q2 : c < b
        · simp [q1, q2] at h2
        · have e : b = c := UInt8.le_antisymm (UInt8.not_lt.1 q2) (UInt8.not_lt.1 q1)
          subst e
          simp [p1]
    · by_cases p2 : b < a
      · simp [p1, p2] at h1
      · have e : a = b := UInt8.le_antisymm (UInt8.not_lt.1 p2) (UInt8.not_lt.1 p1)
        subst e
        simp [p1] at h1
        by_cases q1 : a < c
        · simp [q1]
        · by_cases q2 : c < a
          · simp [q1, q2] at h2
          · have e : a = c := UInt8.le_antisymm (UInt8.not_lt.1 q2) (UInt8.not_lt.1 q1)
            subst e
            simp [q1] at h2
            have := cmpB_tr x y z h1 h2
            simpa [p1] using this
theorem cmpB_tri (a b : List UInt8) : Lib.compareBytes a b < 0 ∨ Lib.compareBytes a b = 0 ∨ 0 < Lib.compareBytes a b := by omega
theorem cpE_rev (a b : En) : cpE b a = - cpE a b := by
  unfold cpE
  have hb := cmpB_rev a.c.data.toList b.c.data.toList
  have hi : ∀ x y : Int, Lib.compareInt y x = - Lib.compareInt x y := fun x y => by
    unfold Lib.compareInt
    split <;> split <;> first | omega | (split <;> omega)
  by_cases h1 : a.v = b.v
  · rw [if_pos h1, if_pos h1.symm, hb]
    by_cases h2 : Lib.compareBytes a.c.data.toList b.c.data.toList = 0
    · rw [if_pos h2, if_pos (by omega), hi]
    · rw [if_neg h2, if_neg (by omega)]
  · rw [if_neg h1, if_neg (fun h => h1 h.symm), hi]
/-- Not above, and not above: not above; and at one place only if all are. -/
theorem cpE_tr (a b c : En) (h1 : cpE a b ≤ 0) (h2 : cpE b c ≤ 0) : cpE a c ≤ 0 ∧ (cpE a c = 0 → cpE a b = 0 ∧ cpE b c = 0) := by
  have tr := cmpB_tr a.c.data.toList b.c.data.toList c.c.data.toList
  have z1 := cmp_zero a.c.data.toList b.c.data.toList
  have z2 := cmp_zero b.c.data.toList c.c.data.toList
  have z3 := cmp_zero a.c.data.toList c.c.data.toList
  have i1 := cmpI a.v b.v
  have i2 := cmpI b.v c.v
  have i3 := cmpI a.v c.v
  have j1 := cmpI a.i b.i
  have j2 := cmpI b.i c.i
  have j3 := cmpI a.i c.i
  unfold cpE at h1 h2 ⊢
  by_cases p1 : a.v = b.v
  · by_cases p2 : b.v = c.v
    · rw [if_pos p1] at h1
      rw [if_pos p2] at h2
      rw [if_pos p1, if_pos p2, if_pos (p1.trans p2)]
      by_cases q1 : Lib.compareBytes a.c.data.toList b.c.data.toList = 0
      · by_cases q2 : Lib.compareBytes b.c.data.toList c.c.data.toList = 0
        · rw [if_pos q1] at h1
          rw [if_pos q2] at h2
          rw [if_pos q1, if_pos q2, if_pos (z3.2 ((z1.1 q1).trans (z2.1 q2)))]
          omega
        · rw [if_neg q2] at h2
          rw [if_pos q1] at h1
          have q3 : Lib.compareBytes a.c.data.toList c.c.data.toList ≠ 0 := fun e => q2 ((tr (by omega) h2).2 e).2
          rw [if_neg q3]
          have := (tr (by omega) h2).1
          exact ⟨this, fun e => absurd e q3⟩
      · rw [if_neg q1] at h1
        have h2' : Lib.compareBytes b.c.data.toList c.c.data.toList ≤ 0 := by
          by_cases q2 : Lib.compareBytes b.c.data.toList c.c.data.toList = 0
          · omega
          · rw [if_neg q2] at h2; exact h2
        have q3 : Lib.compareBytes a.c.data.toList c.c.data.toList ≠ 0 := fun e => q1 ((tr h1 h2').2 e).1
        rw [if_neg q3]
        exact ⟨(tr h1 h2').1, fun e => absurd e q3⟩
    · rw [if_neg p2] at h2
      rw [if_neg (fun e => p2 (p1.symm.trans e))]
      have : a.v < c.v := by have := i2; omega
      exact ⟨by omega, fun e => by omega⟩
  · rw [if_neg p1] at h1
    have hlt : a.v < b.v := by omega
    have hle : b.v ≤ c.v := by
      by_cases p2 : b.v = c.v
      · omega
      · rw [if_neg p2] at h2; omega
    rw [if_neg (show ¬ a.v = c.v by omega)]
    exact ⟨by omega, fun e => by omega⟩
theorem ltS_iff (a b : St) : ltS a b = true ↔ cpE a.e b.e < 0 ∨ (cpE a.e b.e = 0 ∧ a.e.s < b.e.s) := by
  unfold ltS
  by_cases h : cpE a.e b.e = 0
  · rw [if_pos h]; simp [h]
  · rw [if_neg h]; simp [h]
theorem ltS_not (a b : St) : ltS a b = false ↔ cpE b.e a.e < 0 ∨ (cpE a.e b.e = 0 ∧ b.e.s ≤ a.e.s) := by
  have h := ltS_iff a b
  have hr := cpE_rev a.e b.e
  constructor
  · intro hf
    have : ¬ (cpE a.e b.e < 0 ∨ (cpE a.e b.e = 0 ∧ a.e.s < b.e.s)) := fun x => by rw [h.2 x] at hf; cases hf
    omega
  · intro hf
    cases hx : ltS a b with
    | false => rfl
    | true => have := h.1 hx; omega
theorem ordS : Ord ltS where
  asym := fun a b h => by
    rw [ltS_not]
    have := (ltS_iff a b).1 h
    have hr := cpE_rev a.e b.e
    omega
  ge := fun a b c h1 h2 => by
    rw [ltS_not] at h1 h2 ⊢
    have r1 := cpE_rev a.e b.e
    have r2 := cpE_rev b.e c.e
    have r3 := cpE_rev a.e c.e
    have t := cpE_tr a.e b.e c.e (by omega) (by omega)
    omega
/-- What a Pop leaves. -/
theorem pop_pure (ys : List St) (n : Nat) (hn : ys.length = n + 1) (h : HeapN ltS ys ys.length) :
    ∃ ys' x, downL ltS (swapL ys 0 n) 0 n = ys' ++ [x] ∧ ys[0]? = some x ∧ ys'.length = n ∧ (x :: ys').Perm ys ∧ HeapN ltS ys' ys'.length ∧ ∀ b ∈ ys', ltS b x = false := by
  have h0 : 0 < ys.length := by omega
  have hnl : n < ys.length := by omega
  obtain ⟨p1, p2⟩ := down_perm ltS n n (swapL ys 0 n) 0 (by omega) (by rw [swapL_len]; omega)
  have hd : DownTo ltS (swapL ys 0 n) 0 n := ⟨fun j hp hj hne => by
      rw [swap_at ys 0 n h0 hnl, sw_o (k := j) (by omega) (by omega), sw_o (k := (j - 1) / 2) (by omega) (by omega)]
      exact h j hp (by omega), fun j hp hj hi => by omega⟩
  have hh := down_heap ordS n n (swapL ys 0 n) 0 (by omega) (by rw [swapL_len]; omega) hd
  obtain ⟨zs, hz⟩ : ∃ zs, zs = downL ltS (swapL ys 0 n) 0 n := ⟨_, rfl⟩
  rw [← hz] at p1 p2 hh
  have hzl : zs.length = n + 1 := by rw [p1.length_eq, swapL_len, hn]
  have hx : zs[n]? = ys[0]? := by rw [p2 n (Nat.le_refl _), swap_get? ys 0 n h0 hnl, sw_j]
  have hsplit : zs = zs.take n ++ [ys[0]] := by
    have : zs.drop n = [ys[0]] := by
      rw [List.drop_eq_getElem_cons (by omega), List.drop_eq_nil_of_le (by omega)]
      rw [List.getElem?_eq_getElem (by omega), List.getElem?_eq_getElem h0] at hx
      rw [Option.some.inj hx]
    rw [← this, List.take_append_drop]
  have hperm : (ys[0] :: zs.take n).Perm ys := by
    refine List.Perm.trans ?_ (p1.trans (swap_perm ys 0 n h0 hnl))
    conv => rhs; rw [hsplit]
    exact List.perm_append_comm (l₁ := [ys[0]])
  refine ⟨zs.take n, ys[0], by rw [← hz]; exact hsplit, List.getElem?_eq_getElem h0, by rw [List.length_take]; omega, hperm, ?_, ?_⟩
  · intro j hp hj
    have hjn : j < n := by rw [List.length_take] at hj; omega
    have := hh j hp hjn
    unfold ltAt at this ⊢
    rw [List.getElem?_take_of_lt hjn, List.getElem?_take_of_lt (by omega)]
    exact this
  · intro b hb
    have hb' : b ∈ ys := hperm.mem_iff.1 (List.mem_cons_of_mem _ hb)
    obtain ⟨j, hj, rfl⟩ := List.getElem_of_mem hb'
    have := heap_least ordS h j hj
    rw [ltAt_eq ltS ys j 0 hj h0] at this
    exact this
end Go.Proofs.Ytchikfabfhjkgaa
