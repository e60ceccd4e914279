/-
  DERIVED. A merger over feeds tells Merge's list, one by one.
-/
import Derived.Test.YtchikfabfhjkgaaFPure
import Derived.Test.YtchikfabfhjkgaaMPure4
set_option linter.unusedVariables false
set_option linter.unusedSimpArgs false
namespace Go.Proofs.Ytchikfabfhjkgaa.Fd
open Go.RowKit
/-- What is still to be told. -/
structure Tl (bottom : Bool) (ys : List St) (rs : List (Option (List En))) (l : List En) : Prop where
  uq : Uniq (pool ys (dn rs))
  up : l.Pairwise (fun a b => cpE a b < 0)
  mem : ∀ x, x ∈ l ↔ (Top x (pool ys (dn rs)) ∧ (x.d && bottom) = false)
theorem cp_irr {a : En} (h : cpE a a < 0) : False := by rw [cpE_self] at h; omega
/-- Next, where so much is still to be told. -/
theorem Tl.next {bottom : Bool} {ys ys2 : List St} {rs rs2 : List (Option (List En))} {r : NR} {l : List En} (t : Tl bottom ys rs l) (hi : InvP ys [] (dn rs)) (k : NextR bottom ys rs r ys2 rs2) :
    (l = [] ∧ r = .none) ∨ ∃ e l', l = e :: l' ∧ r = .give e ∧ Tl bottom ys2 rs2 l' := by
  obtain ⟨s1, s2, s3⟩ := k.dn.says hi
  rcases r with _ | _ | e
  · refine .inl ⟨?_, rfl⟩
    cases l with
    | nil => rfl
    | cons e l' =>
      obtain ⟨h1, h2⟩ := (t.mem e).1 (by simp)
      rw [(s2 rfl).2 e h1] at h2; cases h2
  · exact absurd t.uq (s1 rfl)
  · obtain ⟨j1, j2, j3, j4⟩ := s3 e rfl
    have he : e ∈ l := (t.mem e).2 ((j4 e).2 (.inl rfl))
    cases l with
    | nil => simp at he
    | cons e' l' =>
      obtain ⟨u1, u2⟩ := List.pairwise_cons.1 t.up
      have mem : ∀ x, x ∈ e' :: l' ↔ (x = e ∨ (Top x (pool ys2 (Fd.dn rs2)) ∧ (x.d && bottom) = false)) := fun x => (t.mem x).trans (j4 x)
      have ee : e' = e := by
        rcases List.mem_cons.1 he with h | h
        · exact h.symm
        · rcases (mem e').1 (by simp) with h' | h'
          · exact h'
          · exact (cp_irr (cp_lt (u1 e h) (Int.le_of_lt (j3 e' h'.1.1)))).elim
      subst ee
      refine .inr ⟨e', l', rfl, rfl, ⟨j2.1 t.uq, u2, fun x => ?_⟩⟩
      constructor
      · intro hx
        rcases (mem x).1 (List.mem_cons_of_mem _ hx) with h | h
        · subst h; exact (cp_irr (u1 x hx)).elim
        · exact h
      · intro hx
        rcases List.mem_cons.1 ((mem x).2 (.inr hx)) with h | h
        · subst h; exact (cp_irr (j3 x hx.1.1)).elim
        · exact h
/-- How a merger over feeds has begun, as one over lists. -/
theorem bgn_of {R : List (List En)} {ys : List St} {rs : List (Option (List En))} (h : RemTo R.length ys rs R) (hn : (ys.map St.num).Nodup) (hl : ∀ y ∈ ys, y.num < R.length) (ht : totT ys rs = totT [] (R.map some)) (hc : ∀ r ∈ R, ∀ e ∈ r, e.c.size ≤ 281474976710656) : Bgn R ys (dn rs) where
  rem := ⟨by unfold dn; rw [List.length_map]; exact h.len, fun j l hj hl => by
      rcases h.lo j l hj hl with ⟨h1, h2, h3⟩ | ⟨y, hy, h2, r, h3, h4⟩
      · exact .inl ⟨h1, dn_at h2, h3⟩
      · exact .inr ⟨y, hy, h2, r, dn_at h3, h4⟩, fun j hj => by
      refine ⟨?_, (h.hi j hj).2⟩
      have := (h.hi j hj).1
      rw [List.getElem?_eq_none hj] at this ⊢
      unfold dn
      rw [List.getElem?_map, this]; rfl⟩
  tot := by
    have e1 : Go.Proofs.Ytchikfabfhjkgaa.totT ys (dn rs) = totT ys rs := by
      unfold Go.Proofs.Ytchikfabfhjkgaa.totT totT dn
      rw [List.map_map]; rfl
    have e2 : Go.Proofs.Ytchikfabfhjkgaa.totT [] R = totT [] (R.map some) := by
      unfold Go.Proofs.Ytchikfabfhjkgaa.totT totT
      rw [List.map_map]; rfl
    rw [e1, e2, ht]
  csz := by
    have rr : ∀ y ∈ ys, ∃ l ∈ R, y.e ∈ l := fun y hy => by
      have hlt := hl y hy
      rcases h.lo y.num R[y.num] hlt (List.getElem?_eq_getElem hlt) with ⟨-, -, h3⟩ | ⟨y', hy', h2, r, h3, h4⟩
      · exact absurd rfl (h3 y hy)
      · have : y' = y := nodup_count hn hy' hy h2
        subst this
        exact ⟨_, List.getElem_mem hlt, by rw [h4]; simp⟩
    refine ⟨fun y hy => ?_, fun r hr e he => ?_⟩
    · obtain ⟨l, h1, h2⟩ := rr y hy
      exact hc l h1 _ h2
    · obtain ⟨j, hj, e1⟩ := List.getElem_of_mem hr
      have hj2 : j < rs.length := by unfold dn at hj; rw [List.length_map] at hj; exact hj
      have hlt : j < R.length := by have := h.len; omega
      have hat : (dn rs)[j]? = some r := by rw [List.getElem?_eq_getElem hj, e1]
      rcases h.lo j R[j] hlt (List.getElem?_eq_getElem hlt) with ⟨-, h2, -⟩ | ⟨y', hy', h2, r', h3, h4⟩
      · rw [dn_at h2] at hat; cases hat; simp at he
      · rw [dn_at h3] at hat; cases hat
        exact hc _ (List.getElem_mem hlt) e (by rw [h4]; exact List.mem_cons_of_mem _ he)
  nums := hn
  lt := hl
/-- What is known when a merger over feeds has begun. -/
theorem pi_of {R : List (List En)} {ys : List St} {rs : List (Option (List En))} (h : RemTo R.length ys rs R) (hn : (ys.map St.num).Nodup) (hl : ∀ y ∈ ys, y.num < R.length) (ht : totT ys rs = totT [] (R.map some)) (hc : ∀ r ∈ R, ∀ e ∈ r, e.c.size ≤ 281474976710656) (hup : ∀ r ∈ R, rises r = true) {bottom : Bool} {out : List En} (hu : Uniq R.flatten) (ho : Told R bottom out) : PI R ys rs ∧ Tl bottom ys rs out := by
  have hB := bgn_of h hn hl ht hc
  have hp := hB.pool
  refine ⟨⟨hB.inv hup, fun y hy => ?_, fun z hz j X o i e h1 h2 h3 h4 => ?_, fun j hj => ?_⟩, ⟨(Uniq.perm hp).2 hu, ho.up, fun x => by rw [ho.mem, Top.perm hp]⟩⟩
  · have hlt := hl y hy
    rcases h.lo y.num R[y.num] hlt (List.getElem?_eq_getElem hlt) with ⟨-, -, h3⟩ | ⟨y', hy', h2, r, h3, h4⟩
    · exact absurd rfl (h3 y hy)
    · have : y' = y := nodup_count hn hy' hy h2
      subst this
      refine ⟨_, r, List.getElem?_eq_getElem hlt, h3, ?_, ?_, ?_⟩ <;> rw [h4] <;> simp
  · have hlt := (List.getElem?_eq_some_iff.1 h1).1
    have hi : i < X.length := (List.getElem?_eq_some_iff.1 h4).1
    rcases h.lo j X hlt h1 with ⟨e1, -, -⟩ | ⟨y', hy', e2, r, e3, e4⟩
    · subst e1; simp at hi
    · rw [e3] at h2; cases h2
      subst e4
      simp only [usd, List.length_cons] at h3
      omega
  · have hlt : j < R.length := by have := h.len; omega
    rcases h.lo j R[j] hlt (List.getElem?_eq_getElem hlt) with ⟨-, h2, -⟩ | ⟨y', hy', h2, -⟩
    · exact .inl h2
    · exact .inr ⟨y', hy', h2⟩
end Go.Proofs.Ytchikfabfhjkgaa.Fd
