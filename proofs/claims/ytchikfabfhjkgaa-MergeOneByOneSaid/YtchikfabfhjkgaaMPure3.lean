/-
  DERIVED. Merge, in its own words.
-/
import Derived.Test.YtchikfabfhjkgaaMPure2
set_option linter.unusedVariables false
set_option linter.unusedSimpArgs false
namespace Go.Proofs.Ytchikfabfhjkgaa
theorem Bgn.one {R : List (List En)} {ys : List St} {rs : List (List En)} (h : Bgn R ys rs) {y y' : St} (hy : y ∈ ys) (hy' : y' ∈ ys) (e : y'.num = y.num) : y' = y := nodup_count h.nums hy' hy e
theorem Bgn.inv {R : List (List En)} {ys : List St} {rs : List (List En)} (h : Bgn R ys rs) (hup : ∀ r ∈ R, rises r = true) : InvP ys [] rs := by
  refine ⟨by rw [List.append_nil]; exact h.nums, fun y hy r hr => ?_, fun j r hr hn => ?_, fun y hy => ?_⟩
  · rw [List.append_nil] at hy
    have hj := h.lt y hy
    rcases h.rem.lo y.num _ hj (List.getElem?_eq_getElem hj) with ⟨-, -, k⟩ | ⟨y', hy', e', r', k1, k⟩
    · exact absurd rfl (k y hy)
    · have := h.one hy hy' e'
      subst this
      rw [hr] at k1; cases k1
      rw [← k]
      exact hup _ (List.getElem_mem hj)
  · have hj : j < R.length := by rw [← h.rem.len]; exact (List.getElem?_eq_some_iff.1 hr).1
    rcases h.rem.lo j _ hj (List.getElem?_eq_getElem hj) with ⟨-, k, -⟩ | ⟨y', hy', e', r', k1, k⟩
    · rw [hr] at k; cases k; exact absurd rfl hn
    · exact ⟨y', by rw [List.append_nil]; exact hy', e'⟩
  · rw [List.append_nil] at hy
    rw [h.rem.len]; exact h.lt y hy
theorem Bgn.upto {R : List (List En)} {ys : List St} {rs : List (List En)} (h : Bgn R ys rs) : ∀ i, i ≤ R.length → ((ys.filter (fun y => decide (y.num < i))).map St.e ++ (rs.take i).flatten).Perm ((R.take i).flatten)
  | 0, _ => by simp
  | i + 1, hi => by
    have ih := h.upto i (by omega)
    have hiR : i < R.length := by omega
    have hir : i < rs.length := by rw [h.rem.len]; exact hiR
    rw [List.take_succ_eq_append_getElem hiR, List.take_succ_eq_append_getElem hir, List.flatten_append, List.flatten_append, List.flatten_singleton, List.flatten_singleton]
    rcases h.rem.lo i _ hiR (List.getElem?_eq_getElem hiR) with ⟨k0, k, k2⟩ | ⟨y, hy, e', r', k1, k⟩
    · rw [List.getElem?_eq_getElem hir] at k
      simp only [Option.some.injEq] at k
      rw [k0, k, List.append_nil, List.append_nil]
      have e : ys.filter (fun y => decide (y.num < i + 1)) = ys.filter (fun y => decide (y.num < i)) := List.filter_congr fun y hy => by
        have := k2 y hy
        exact decide_eq_decide.2 ⟨fun h => by omega, fun h => by omega⟩
      rw [e]; exact ih
    · rw [List.getElem?_eq_getElem hir] at k1
      simp only [Option.some.injEq] at k1
      rw [k, k1]
      obtain ⟨s, t, est⟩ := List.append_of_mem hy
      have hn := h.nums
      rw [est] at ih hn ⊢
      simp only [List.map_append, List.map_cons, List.nodup_append, List.nodup_cons, List.mem_map, List.mem_cons] at hn
      have es : s.filter (fun y => decide (y.num < i + 1)) = s.filter (fun y => decide (y.num < i)) := List.filter_congr fun z hz => by
        have : z.num ≠ i := fun e => hn.2.2 z.num ⟨z, hz, rfl⟩ y.num (.inl rfl) (by omega)
        exact decide_eq_decide.2 ⟨fun h => by omega, fun h => by omega⟩
      have et : t.filter (fun y => decide (y.num < i + 1)) = t.filter (fun y => decide (y.num < i)) := List.filter_congr fun z hz => by
        have : z.num ≠ i := fun e => hn.2.1.1 ⟨z, hz, by omega⟩
        exact decide_eq_decide.2 ⟨fun h => by omega, fun h => by omega⟩
      rw [List.filter_append, List.filter_cons_of_neg (by simp; omega)] at ih
      rw [List.filter_append, List.filter_cons_of_pos (by simp; omega), es, et]
      have e1 : ∀ (A B C D : List En) (z : En), (A ++ B ++ C).Perm D → (A ++ z :: B ++ (C ++ r')).Perm (D ++ z :: r') := fun A B C D z hp => by
        have q1 : (A ++ z :: B ++ (C ++ r')).Perm (z :: ((A ++ B ++ C) ++ r')) := by simp
        have q2 : (D ++ z :: r').Perm (z :: (D ++ r')) := List.perm_middle
        exact q1.trans (((hp.append_right r').cons z).trans q2.symm)
      simp only [List.map_append, List.map_cons] at ih ⊢
      exact e1 _ _ _ _ _ ih
theorem Bgn.pool {R : List (List En)} {ys : List St} {rs : List (List En)} (h : Bgn R ys rs) : (pool ys rs).Perm R.flatten := by
  have k := h.upto R.length (Nat.le_refl _)
  rw [List.take_length, List.take_of_length_le (Nat.le_of_eq h.rem.len), List.filter_eq_self.2 (fun y hy => decide_eq_true (h.lt y hy))] at k
  exact k
/-- What is told of lists that rise. -/
structure Told (R : List (List En)) (bottom : Bool) (out : List En) : Prop where
  up : out.Pairwise (fun a b => cpE a b < 0)
  mem : ∀ x, x ∈ out ↔ (Top x R.flatten ∧ (x.d && bottom) = false)
theorem MOut.says {R : List (List En)} {bottom : Bool} {w w' : World} {r : Ending} (h : MOut R bottom w r w') (hup : ∀ l ∈ R, rises l = true) :
    (Uniq R.flatten ∧ ∃ out v, Told R bottom out ∧ r = .returned (.tuple #[v, .int .i64 0]) ∧ w'.ownsRow 0 23 5 v out.length (out.flatMap enC) ∧ (∀ k, v.ownBlock = some k → w.heap.size ≤ k)) ∨ (¬ Uniq R.flatten ∧ r = .returned (.tuple #[.slice none 0 0, .int .i64 51])) := by
  obtain ⟨ys, rs, out, hB, ⟨k, v, k1, k2, k3⟩ | ⟨k, k1⟩⟩ := h
  · obtain ⟨j1, j2⟩ := k.says (hB.inv hup)
    refine .inl ⟨(Uniq.perm hB.pool).1 (j1.1 rfl), out, v, ⟨(j2 rfl).1, fun x => ?_⟩, k1, k2, k3⟩
    rw [(j2 rfl).2 x, Top.perm hB.pool]
  · obtain ⟨j1, -⟩ := k.says (hB.inv hup)
    exact .inr ⟨fun hu => (by have := j1.2 ((Uniq.perm hB.pool).2 hu); cases this), k1⟩
end Go.Proofs.Ytchikfabfhjkgaa
