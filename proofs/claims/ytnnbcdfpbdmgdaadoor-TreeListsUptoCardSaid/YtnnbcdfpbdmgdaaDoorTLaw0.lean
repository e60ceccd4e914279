/-
  DERIVED. What a search answers, by its members and its order; a tree of a call's own.
-/
import Derived.Test.YtnnbcdfpbdmgdaaDoorTWithin
set_option linter.unusedVariables false
set_option linter.unusedSimpArgs false
namespace Go.Proofs.YtnnbcdfpbdmgdaaDoor
open Go.RowKit Go.Maps Go.Sort Go.Proofs.BitMath Go.Proofs.TreeMath
/-- Hits in order. -/
def hlt {n : Nat} (x y : Nat × Cd n) : Prop := x.1 < y.1 ∨ (x.1 = y.1 ∧ byC x.2 < byC y.2)
theorem hlt_irr {n : Nat} (x : Nat × Cd n) : ¬ hlt x x := fun h => by
  rcases h with h | h
  · omega
  · exact List.lt_irrefl _ h.2
theorem hlt_asy {n : Nat} (x y : Nat × Cd n) (h : hlt x y) : ¬ hlt y x := fun k => by
  rcases h with h | h
  · rcases k with k | k <;> omega
  · rcases k with k | k
    · omega
    · exact List.lt_irrefl _ (List.lt_trans h.2 k.2)
theorem mem_hitsR {n : Nat} (R : List (List (Cd n))) (m : Nat) (x : Nat × Cd n) : x ∈ hitsR R m ↔ x.1 < m ∧ x.2 ∈ R.getD x.1 [] := by
  unfold hitsR
  rw [List.mem_flatMap]
  constructor
  · rintro ⟨i, hi, hx⟩
    obtain ⟨c, hc, rfl⟩ := List.mem_map.1 hx
    exact ⟨List.mem_range.1 hi, (srtC_perm _).mem_iff.1 hc⟩
  · rintro ⟨h1, h2⟩
    exact ⟨x.1, List.mem_range.2 h1, List.mem_map.2 ⟨x.2, (srtC_perm _).mem_iff.2 h2, rfl⟩⟩
theorem mem_ansL {n : Nat} {k b0 : Nat} {q : Cd n} {A : List (Cd n)} {x : Nat × Cd n} : x ∈ ansL k b0 q A ↔ x.2 ∈ A ∧ dC x.2 q = x.1 ∧ x.1 ≤ bdM k b0 q A := by
  unfold ansL
  rw [mem_hitsR]
  have hb := bdM_le k b0 q A
  constructor
  · rintro ⟨h1, h2⟩
    have e1 : (RL q A b0 (bdM k b0 q A)).getD x.1 [] = atJ q A (bdM k b0 q A) x.1 := by
      rw [List.getD_eq_getElem?_getD, RL_at q A b0 _ (by omega)]; rfl
    rw [e1] at h2
    unfold atJ at h2
    split at h2
    · next hle =>
      rw [List.mem_filter] at h2
      exact ⟨h2.1, by simpa using h2.2, hle⟩
    · cases h2
  · rintro ⟨h1, h2, h3⟩
    refine ⟨by omega, ?_⟩
    rw [List.getD_eq_getElem?_getD, RL_at q A b0 _ (by omega)]
    show x.2 ∈ atJ q A (bdM k b0 q A) x.1
    unfold atJ
    rw [if_pos h3, List.mem_filter]
    exact ⟨h1, by simpa using h2⟩
theorem hitsR_sorted {n : Nat} (R : List (List (Cd n))) (hR : ∀ l ∈ R, l.Nodup) : ∀ m, (hitsR R m).Pairwise hlt := by
  intro m
  induction m with
  | zero => simp [hitsR]
  | succ m ih =>
    rw [hitsR_succ, List.pairwise_append]
    refine ⟨ih, ?_, fun x hx y hy => ?_⟩
    · have hnd : (R.getD m []).Nodup := by
        rw [List.getD_eq_getElem?_getD]
        cases h : R[m]? with
        | none => exact List.nodup_nil
        | some l => exact hR l (List.mem_of_getElem? h)
      rw [List.pairwise_map]
      exact (srtC_rising hnd).imp fun {a b} h => .inr ⟨rfl, h⟩
    · obtain ⟨c, -, rfl⟩ := List.mem_map.1 hy
      have := ((mem_hitsR R m x).1 hx).1
      exact .inl this
theorem ansL_sorted {n : Nat} (k b0 : Nat) (q : Cd n) {A : List (Cd n)} (hA : A.Nodup) : (ansL k b0 q A).Pairwise hlt := by
  unfold ansL
  refine hitsR_sorted _ (fun l hl => ?_) _
  unfold RL at hl
  obtain ⟨j, -, rfl⟩ := List.mem_map.1 hl
  unfold atJ
  split
  · exact List.Nodup.sublist List.filter_sublist hA
  · exact List.nodup_nil
/-- What is so ordered and has these members is the answer. -/
theorem ansL_eq {n : Nat} {k b0 : Nat} {q : Cd n} {A : List (Cd n)} (hA : A.Nodup) {l : List (Nat × Cd n)} (h1 : l.Pairwise hlt) (h2 : ∀ x, x ∈ l ↔ x.2 ∈ A ∧ dC x.2 q = x.1 ∧ x.1 ≤ bdM k b0 q A) : ansL k b0 q A = l :=
  sorted_ext hlt hlt_irr hlt_asy _ _ (ansL_sorted k b0 q hA) h1 fun x => by rw [mem_ansL, h2]
theorem bdM_all {n : Nat} (b0 : Nat) (q : Cd n) (A : List (Cd n)) (h : A.length < 9223372036854775807) : bdM 9223372036854775807 b0 q A = b0 := by
  unfold bdM
  exact lower_few _ _ (by simpa [dqs] using h)
/-- A hit's cells in a row. -/
theorem hit_cell {n : Nat} {w : World} {B : Nat} {v : Value} {A : List (Nat × Cd n)} (h : w.ownsRow B 36 3 v A.length (A.flatMap hV)) (i : Nat) (hi : i < A.length) : ∃ g cap, v = .slice (some ⟨g, 0, none⟩) A.length cap ∧ w.cell? ⟨g, i * 3, none⟩ = some (.int .i64 (A[i].1 : Nat)) ∧ w.cell? ⟨g, i * 3 + 1, none⟩ = some (.int .i64 0) ∧ w.cell? ⟨g, i * 3 + 2, none⟩ = some (.string A[i].2.1) := by
  rcases h.2 with ⟨h2, h3⟩ | ⟨g, cap, cur, h2, h3, h4, h5, h6, h7, h8⟩
  · omega
  · have hc : ∀ j, j < 3 → w.cell? ⟨g, i * 3 + j, none⟩ = (hV A[i])[j]? := fun j hj => by
      have e : (cur.toList.take (A.length * 3))[i * 3 + j]? = (hV A[i])[j]? := by
        rw [h8]
        have key : ∀ (l : List (Nat × Cd n)) (i j : Nat) (hi : i < l.length), j < 3 → (l.flatMap hV)[i * 3 + j]? = (hV l[i])[j]? := by
          intro l
          induction l with
          | nil => intro i j hi; simp at hi
          | cons x l ih =>
            intro i j hi hj
            cases i with
            | zero => rw [List.flatMap_cons, Nat.zero_mul, Nat.zero_add, List.getElem?_append_left (by simpa [hV] using hj)]; rfl
            | succ i =>
              have := ih i j (by simpa using hi) hj
              rw [List.flatMap_cons, List.getElem?_append_right (by simp [hV]; omega)]
              rw [show (i + 1) * 3 + j - (hV x).length = i * 3 + j from by simp [hV]; omega, this]; rfl
        exact key A i j hi hj
      rw [List.getElem?_take_of_lt (by omega)] at e
      simp only [World.cell?, h4]
      rw [← e]
      simp
    exact ⟨g, cap, h2, hc 0 (by omega), hc 1 (by omega), hc 2 (by omega)⟩
/-- What a block of a tree is. -/
theorem TR.kind {n : Nat} {W : World} {t wd : Nat} {T : List (Nd (Cd n))} {bs : List Nat} {ms : List (Option Nat)} {x : Num} (h : TR W t wd T bs ms x) {k : Nat} (hk : TFoot t bs ms k) {cs : Array Value} {ty : TypeId} {fr : Nat × Nat} (he : W.heap[k]? = some (.cells cs ty fr)) : ty = 64 ∨ ty = 73 := by
  rcases hk with rfl | hk | hk
  · rw [h.tree] at he; simp at he; exact .inl he.2.1.symm
  · obtain ⟨j, hj, rfl⟩ := List.getElem_of_mem hk
    have h1 : j < T.length := by rw [← h.lb]; exact hj
    have h2 : j < ms.length := by rw [h.lm]; exact h1
    have := h.node j _ _ _ (List.getElem?_eq_getElem h1) (List.getElem?_eq_getElem hj) (List.getElem?_eq_getElem h2)
    rw [this] at he; simp at he; exact .inr he.2.1.symm
  · obtain ⟨j, hj, he2⟩ := List.getElem_of_mem hk
    obtain ⟨c, D, hown, -⟩ := (h.kids j k (by rw [List.getElem?_eq_getElem hj, he2])).ex
    obtain ⟨es, cl, hb, -⟩ := hown
    rw [hb] at he; simp at he
/-- A tree of the call's own. -/
structure OT {n : Nat} (W0 wr : World) (t wd : Nat) (T : List (Nd (Cd n))) (bs : List Nat) (ms : List (Option Nat)) (x : Num) : Prop where
  tr : TR wr t wd T bs ms x
  own : ∀ k, TFoot t bs ms k → W0.heap.size ≤ k
  be : Below W0.heap.size W0 wr
theorem OT.below {n : Nat} {W0 wr w' : World} {t wd : Nat} {T : List (Nd (Cd n))} {bs : List Nat} {ms : List (Option Nat)} {x : Num} (h : OT W0 wr t wd T bs ms x) (b : Below wr.heap.size wr w') : OT W0 w' t wd T bs ms x := ⟨h.tr.below b, h.own, chain h.be b (Nat.le_refl _)⟩
theorem OT.moved {n : Nat} {W0 wr w' : World} {t wd : Nat} {T T' : List (Nd (Cd n))} {bs : List Nat} {ms : List (Option Nat)} {x : Num} (h : OT W0 wr t wd T bs ms x) (m : Moved wr w' t wd T' bs ms x) : ∃ bs' ms' x', OT W0 w' t wd T' bs' ms' x' ∧ x'.looked = x.looked := by
  obtain ⟨⟨bs', ms', x', h1, h2, h3⟩, h4⟩ := m
  refine ⟨bs', ms', x', ⟨h1, fun k hk => ?_, ?_⟩, h2⟩
  · rcases h3 k hk with e | e
    · exact h.own k e
    · exact Nat.le_trans h.be.size e
  · exact h.be.trans (h4.toBelow (fun k hk e => by have := h.own k e; omega) h.be.size)
theorem OT.srch {n : Nat} {W0 wr w' : World} {t wd : Nat} {T : List (Nd (Cd n))} {bs : List Nat} {ms : List (Option Nat)} {x : Num} {k b0 nv : Nat} {q : Cd n} {v : Value} (h : OT W0 wr t wd T bs ms x) (s : Srch wr w' t wd T bs ms x k b0 q v nv) : OT W0 w' t wd T bs ms { x with looked := lkN x.looked nv } :=
  ⟨s.tr, h.own, h.be.trans (s.st.toBelow (fun k hk e => by
    rcases e with e | e
    · have := h.own k (.inl e); omega
    · have := h.be.size; omega) h.be.size)⟩
/-- A row of other things is kept while a tree is changed. -/
theorem row_tree {n : Nat} {wr w' : World} {t wd : Nat} {T : List (Nd (Cd n))} {bs : List Nat} {ms : List (Option Nat)} {x : Num} {B e sz m : Nat} {v : Value} {xs : List Value} (h : TR wr t wd T bs ms x) (s : Stay (TFoot t bs ms) wr w') (hr : wr.ownsRow B e sz v m xs) (h1 : e ≠ 64) (h2 : e ≠ 73) : w'.ownsRow B e sz v m xs := row_kept hr s (fun k hk e => by
  obtain ⟨cur, hc⟩ := row_block hr hk
  rcases h.kind e hc with h3 | h3
  · exact h1 h3
  · exact h2 h3)
theorem row_srch {n : Nat} {wr w' : World} {t wd : Nat} {T : List (Nd (Cd n))} {bs : List Nat} {ms : List (Option Nat)} {x : Num} {B e sz m : Nat} {v : Value} {xs : List Value} (h : TR wr t wd T bs ms x) (s : Stay (fun j => j = t ∨ wr.heap.size ≤ j) wr w') (hr : wr.ownsRow B e sz v m xs) (h1 : e ≠ 64) : w'.ownsRow B e sz v m xs := row_kept hr s (fun k hk e => by
  obtain ⟨cur, hc⟩ := row_block hr hk
  rcases e with e | e
  · subst e
    rw [h.tree] at hc
    simp at hc
    exact h1 hc.2.symm
  · have := row_lt hr hk; omega)
/-- Add, of a code that is not there. -/
theorem add_fresh {n t wd : Nat} {T : List (Nd (Cd n))} {bs : List Nat} {ms : List (Option Nat)} {x : Num} (c : Cd n) (W : World) (h : TR W t wd T bs ms x) (ht : Tab W) (hW0 : 0 < W.heap.size) (hsm : T.length < 1099511627776) (hc : c ∉ T.map Nd.code) :
    Calls Tryd.prog 11 #[.pointer (some ⟨t, 0, none⟩), .string c.1] W (fun r w' => r = .returned (.tuple #[.bool true, .int .i64 0]) ∧ Moved W w' t wd (TreeMath.hang dC T c) bs ms x) := by
  refine (add_any c.1 W h ht hW0 hsm).mono ?_
  rintro r w' (⟨h1, -⟩ | ⟨hs, (⟨-, h2, h3⟩ | ⟨j, nd, h2, h3, -⟩)⟩)
  · exact absurd c.2 h1
  · exact ⟨h2, h3⟩
  · exact absurd (List.mem_map.2 ⟨nd, List.mem_of_getElem? h2, by rw [h3]⟩) hc
end Go.Proofs.YtnnbcdfpbdmgdaaDoor
