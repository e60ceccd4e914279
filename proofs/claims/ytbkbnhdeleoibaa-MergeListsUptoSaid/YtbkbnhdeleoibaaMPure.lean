/-
  DERIVED. What Merge tells, as mathematics.
-/
import Derived.Test.YtbkbnhdeleoibaaMMerge
set_option linter.unusedVariables false
set_option linter.unusedSimpArgs false
namespace Go.Proofs.Ytbkbnhdeleoibaa
theorem cp_lt {a b c : En} (h1 : cpE a b < 0) (h2 : cpE b c ≤ 0) : cpE a c < 0 := by
  have k := cpE_tr a b c (by omega) h2
  rcases Int.lt_or_eq_of_le k.1 with h | h
  · exact h
  · have := (k.2 h).1; omega
theorem cp_lt' {a b c : En} (h1 : cpE a b ≤ 0) (h2 : cpE b c < 0) : cpE a c < 0 := by
  have k := cpE_tr a b c h1 (by omega)
  rcases Int.lt_or_eq_of_le k.1 with h | h
  · exact h
  · have := (k.2 h).2; omega
theorem rises_all : ∀ (a : En) (r : List En), rises (a :: r) = true → ∀ x ∈ r, cpE a x < 0
  | a, [], _, x, hx => by simp at hx
  | a, b :: r, h, x, hx => by
    obtain ⟨h1, h2⟩ := rises_tail h
    rcases List.mem_cons.1 hx with rfl | hx
    · exact h1
    · exact cp_lt h1 (Int.le_of_lt (rises_all b r h2 x hx))
/-- All that is still to come. -/
def pool (ys : List St) (rs : List (List En)) : List En := ys.map St.e ++ rs.flatten
theorem flat_set_perm : ∀ (rs : List (List En)) (i : Nat) (e : En) (r : List En), rs[i]? = some (e :: r) → (e :: (rs.set i r).flatten).Perm rs.flatten
  | [], _, _, _, h => by simp at h
  | x :: rs, 0, e, r, h => by simp at h; subst h; simp
  | x :: rs, i + 1, e, r, h => by
    have k := flat_set_perm rs i e r (by simpa using h)
    simp only [List.set_cons_succ, List.flatten_cons]
    exact List.perm_middle.symm.trans (k.append_left x)
theorem Asked.pool {s : St} {ys ys1 : List St} {rs rs1 : List (List En)} (k : Asked s ys ys1 rs rs1) : (pool ys1 rs1).Perm (pool ys rs) := by
  rcases k with ⟨-, rfl, rfl⟩ | ⟨e, r, h1, hp, rfl⟩
  · exact List.Perm.refl _
  · unfold Proofs.Ytbkbnhdeleoibaa.pool
    refine ((hp.map St.e).append_right _).trans ?_
    rw [List.map_append, List.append_assoc]
    exact (flat_set_perm rs s.num e r h1).append_left _
theorem AskedAll.pool {P ys ys2 : List St} {rs rs2 : List (List En)} (k : AskedAll P ys ys2 rs rs2) : (pool ys2 rs2).Perm (pool ys rs) := by
  induction k using AskedAll.ind with
  | nil => exact List.Perm.refl _
  | cons h _ ih => exact ih.trans h.pool
structure InvP (ys P : List St) (rs : List (List En)) : Prop where
  nums : ((ys ++ P).map St.num).Nodup
  up : ∀ y ∈ ys ++ P, ∀ r, rs[y.num]? = some r → rises (y.e :: r) = true
  cover : ∀ j r, rs[j]? = some r → r ≠ [] → ∃ y ∈ ys ++ P, y.num = j
  lt : ∀ y ∈ ys ++ P, y.num < rs.length
theorem InvP.perm {ys P ys' P' : List St} {rs : List (List En)} (h : InvP ys P rs) (k : (ys' ++ P').Perm (ys ++ P)) : InvP ys' P' rs :=
  ⟨(k.map St.num).nodup_iff.2 h.nums, fun y hy => h.up y (k.mem_iff.1 hy), fun j r h1 h2 => by
    obtain ⟨y, hy, e⟩ := h.cover j r h1 h2
    exact ⟨y, k.mem_iff.2 hy, e⟩, fun y hy => h.lt y (k.mem_iff.1 hy)⟩
theorem InvP.ask {s : St} {ys ys1 P : List St} {rs rs1 : List (List En)} (h : InvP ys (s :: P) rs) (k : Asked s ys ys1 rs rs1) : InvP ys1 P rs1 := by
  have h0 : InvP [s] (ys ++ P) rs := h.perm (by simpa using List.perm_middle.symm)
  have hn := h0.nums
  simp only [List.map_append, List.map_cons, List.map_nil, List.cons_append, List.nil_append, List.nodup_cons, List.mem_append, List.mem_map, not_or, not_exists, not_and] at hn
  have hnot : ∀ y ∈ ys ++ P, y.num ≠ s.num := fun y hy e => by
    rcases List.mem_append.1 hy with k | k
    · exact hn.1.1 y k e
    · exact hn.1.2 y k e
  rcases k with ⟨h1, rfl, rfl⟩ | ⟨e, r, h1, hp, rfl⟩
  · refine ⟨by simpa using hn.2, fun y hy => h0.up y (List.mem_append_right _ hy), fun j r h2 h3 => ?_, fun y hy => h0.lt y (List.mem_append_right _ hy)⟩
    obtain ⟨y, hy, e⟩ := h0.cover j r h2 h3
    rcases List.mem_append.1 hy with k | k
    · simp at k; subst k; subst e; rw [h1] at h2; cases h2; exact absurd rfl h3
    · exact ⟨y, k, e⟩
  · have hsl : s.num < rs.length := (List.getElem?_eq_some_iff.1 h1).1
    have hpp : (ys1 ++ P).Perm (s.upd e :: (ys ++ P)) := (hp.append_right P).trans (by simp)
    refine ⟨(hpp.map St.num).nodup_iff.2 ?_, fun y hy r' hr' => ?_, fun j r' h2 h3 => ?_, fun y hy => ?_⟩
    · rw [List.map_cons, List.nodup_cons]
      refine ⟨fun hm => ?_, by simpa using hn.2⟩
      obtain ⟨y, hy, e'⟩ := List.mem_map.1 hm
      exact hnot y hy e'
    · rcases List.mem_cons.1 (hpp.mem_iff.1 hy) with k | k
      · subst k
        have e2 : (s.upd e).num = s.num := rfl
        rw [e2, List.getElem?_set_self hsl] at hr'; cases hr'
        exact (rises_tail (h0.up s (by simp) _ h1)).2
      · have hne := hnot y k
        rw [List.getElem?_set_ne (fun e' => hne e'.symm)] at hr'
        exact h0.up y (List.mem_append_right _ k) r' hr'
    · by_cases hj : j = s.num
      · subst hj; exact ⟨s.upd e, hpp.mem_iff.2 (by simp), rfl⟩
      · rw [List.getElem?_set_ne (fun e' => hj e'.symm)] at h2
        obtain ⟨y, hy, e'⟩ := h0.cover j r' h2 h3
        rcases List.mem_append.1 hy with k | k
        · simp at k; subst k; exact absurd e'.symm hj
        · exact ⟨y, hpp.mem_iff.2 (List.mem_cons_of_mem _ k), e'⟩
    · rw [List.length_set]
      rcases List.mem_cons.1 (hpp.mem_iff.1 hy) with k | k
      · subst k; exact hsl
      · exact h0.lt y (List.mem_append_right _ k)
theorem InvP.all {P ys ys2 : List St} {rs rs2 : List (List En)} (k : AskedAll P ys ys2 rs rs2) (h : InvP ys P rs) : InvP ys2 [] rs2 := by
  induction k using AskedAll.ind with
  | nil => exact h
  | cons h1 _ ih => exact ih (h.ask h1)
theorem LP.split {ys L L' ys' ys2 : List St} {rs rs2 : List (List En)} (h : LP ys L ys') (hi : InvP ys [] rs) (hp : L'.Perm L) (hk : AskedAll L' ys' ys2 rs rs2) :
    InvP ys2 [] rs2 ∧ (pool ys rs).Perm (L.map St.e ++ pool ys2 rs2) ∧ ∀ a ∈ L, ∀ x ∈ pool ys2 rs2, cpE a.e x < 0 := by
  have hi2 : InvP ys' L' rs := hi.perm (by
    rw [List.append_nil]
    exact (List.perm_append_comm.trans (hp.append_right ys')).trans h.perm)
  have hp1 : (pool ys rs).Perm (L.map St.e ++ pool ys' rs) := by
    unfold pool
    rw [← List.append_assoc, ← List.map_append]
    exact (h.perm.symm.map St.e).append_right _
  have hys : ∀ a ∈ L, ∀ y ∈ ys', cpE a.e y.e < 0 := fun a ha y hy => by
    rcases (ltS_not y a).1 (h.le a ha y hy) with k | ⟨k, -⟩
    · exact k
    · exact absurd k (h.all a ha y hy)
  refine ⟨.all hk hi2, hp1.trans (hk.pool.symm.append_left _), fun a ha x hx => ?_⟩
  rcases List.mem_append.1 (hk.pool.mem_iff.1 hx) with k | k
  · obtain ⟨y, hy, rfl⟩ := List.mem_map.1 k
    exact hys a ha y hy
  · obtain ⟨r, hr, hxr⟩ := List.mem_flatten.1 k
    obtain ⟨j, hj, e⟩ := List.getElem_of_mem hr
    have hrj : rs[j]? = some r := by rw [List.getElem?_eq_getElem hj, e]
    obtain ⟨y, hy, e2⟩ := hi2.cover j r hrj (fun h => by rw [h] at hxr; simp at hxr)
    subst e2
    have h1 := rises_all y.e r (hi2.up y hy r hrj) x hxr
    rcases List.mem_append.1 hy with k | k
    · exact cp_lt' (Int.le_of_lt (hys a ha y k)) h1
    · have := h.same a ha y (hp.mem_iff.1 k)
      exact cp_lt' (by omega) h1
end Go.Proofs.Ytbkbnhdeleoibaa
