/-
  DERIVED. A merger over feeds: what was asked, and what was told by then.
-/
import Derived.Test.YtchikfabfhjkgaaFNext
import Derived.Test.YtchikfabfhjkgaaMPure2
set_option linter.unusedVariables false
set_option linter.unusedSimpArgs false
namespace Go.Proofs.Ytchikfabfhjkgaa.Fd
open Go.RowKit
/-- What is left, whether its end was told or not. -/
def dn (rs : List (Option (List En))) : List (List En) := rs.map (fun o => o.getD [])
theorem dn_at {rs : List (Option (List En))} {i : Nat} {o : Option (List En)} (h : rs[i]? = some o) : (dn rs)[i]? = some (o.getD []) := by
  unfold dn
  rw [List.getElem?_map, h]; rfl
theorem dn_set (rs : List (Option (List En))) (i : Nat) (o : Option (List En)) : dn (rs.set i o) = (dn rs).set i (o.getD []) := by
  unfold dn
  rw [List.map_set]
theorem set_same {α : Type} {l : List α} {i : Nat} {x : α} (h : l[i]? = some x) : l.set i x = l := by
  apply List.ext_getElem?
  intro j
  by_cases e : i = j
  · subst e
    rw [List.getElem?_set_self (List.getElem?_eq_some_iff.1 h).1, h]
  · rw [List.getElem?_set_ne e]
theorem Asked.dn {s : St} {ys ys1 : List St} {rs rs1 : List (Option (List En))} (h : Asked s ys ys1 rs rs1) : Go.Proofs.Ytchikfabfhjkgaa.Asked s ys ys1 (dn rs) (dn rs1) := by
  rcases h with ⟨h1, rfl, rfl⟩ | ⟨e, r, h1, h2, rfl⟩
  · have h3 := dn_at h1
    exact .inl ⟨h3, rfl, by rw [dn_set]; exact set_same h3⟩
  · exact .inr ⟨e, r, dn_at h1, h2, dn_set _ _ _⟩
theorem AskedAll.dn {P ys ys2 : List St} {rs rs2 : List (Option (List En))} (h : AskedAll P ys ys2 rs rs2) : Go.Proofs.Ytchikfabfhjkgaa.AskedAll P ys ys2 (dn rs) (dn rs2) := by
  induction h using AskedAll.ind with
  | nil ys rs => exact .nil _ _
  | cons h _ ih => exact .cons h.dn ih
theorem NextR.dn {bottom : Bool} {ys ys2 : List St} {rs rs2 : List (Option (List En))} {r : NR} (h : NextR bottom ys rs r ys2 rs2) : Go.Proofs.Ytchikfabfhjkgaa.NextR bottom ys (dn rs) r ys2 (dn rs2) := by
  induction h using NextR.ind with
  | done rs => exact .done _
  | dup h d => exact .dup h d
  | give h d ha hp hk hd => exact .give h d ha hp hk.dn hd
  | skip h d ha hp hk hd _ ih => exact .skip h d ha hp hk.dn hd ih
/-- Every feed has a stand, or its end was told. -/
def Cov (S : List St) (rs : List (Option (List En))) : Prop := ∀ j, j < rs.length → rs[j]? = some none ∨ ∃ y ∈ S, y.num = j
theorem Asked.cov {s : St} {ys ys1 P : List St} {rs rs1 : List (Option (List En))} (h : Asked s ys ys1 rs rs1) (c : Cov (ys ++ s :: P) rs) : Cov (ys1 ++ P) rs1 := by
  rcases h with ⟨h1, rfl, rfl⟩ | ⟨e, r, h1, h2, rfl⟩
  · have hlt := (List.getElem?_eq_some_iff.1 h1).1
    intro j hj
    rw [List.length_set] at hj
    by_cases e : j = s.num
    · subst e
      exact .inl (by rw [List.getElem?_set_self hlt])
    · rw [List.getElem?_set_ne (fun x => e x.symm)]
      rcases c j hj with k | ⟨y, hy, k⟩
      · exact .inl k
      · refine .inr ⟨y, ?_, k⟩
        rcases List.mem_append.1 hy with hy | hy
        · exact List.mem_append_left _ hy
        · rcases List.mem_cons.1 hy with hy | hy
          · subst hy; exact absurd k.symm e
          · exact List.mem_append_right _ hy
  · have hlt := (List.getElem?_eq_some_iff.1 h1).1
    intro j hj
    rw [List.length_set] at hj
    have mem : ∀ y, y ∈ ys1 ↔ y ∈ ys ∨ y = s.upd e := fun y => by rw [h2.mem_iff, List.mem_append]; simp
    by_cases e' : j = s.num
    · subst e'
      exact .inr ⟨s.upd e, List.mem_append_left _ ((mem _).2 (.inr rfl)), rfl⟩
    · rw [List.getElem?_set_ne (fun x => e' x.symm)]
      rcases c j hj with k | ⟨y, hy, k⟩
      · exact .inl k
      · refine .inr ⟨y, ?_, k⟩
        rcases List.mem_append.1 hy with hy | hy
        · exact List.mem_append_left _ ((mem y).2 (.inl hy))
        · rcases List.mem_cons.1 hy with hy | hy
          · subst hy; exact absurd k.symm e'
          · exact List.mem_append_right _ hy
theorem AskedAll.cov {P ys ys2 : List St} {rs rs2 : List (Option (List En))} (h : AskedAll P ys ys2 rs rs2) (c : Cov (ys ++ P) rs) : Cov ys2 rs2 := by
  induction h using AskedAll.ind with
  | nil ys rs => simpa using c
  | cons h _ ih => exact ih (h.cov c)
theorem Cov.perm {S S' : List St} {rs : List (Option (List En))} (c : Cov S rs) (p : ∀ y, y ∈ S → y ∈ S') : Cov S' rs := fun j hj => by
  rcases c j hj with k | ⟨y, hy, k⟩
  · exact .inl k
  · exact .inr ⟨y, p y hy, k⟩
theorem lp_mem {ys L L' ys' : List St} (h : LP ys L ys') (hp : L'.Perm L) (y : St) : y ∈ ys ↔ y ∈ ys' ++ L' := by
  rw [← h.perm.mem_iff, List.mem_append, List.mem_append, hp.mem_iff]
  exact Or.comm
theorem NextR.cov {bottom : Bool} {ys ys2 : List St} {rs rs2 : List (Option (List En))} {r : NR} (h : NextR bottom ys rs r ys2 rs2) (c : Cov ys rs) (hr : r ≠ .seq) : Cov ys2 rs2 := by
  induction h using NextR.ind with
  | done rs => exact c
  | dup h d => exact absurd rfl hr
  | give h d ha hp hk hd => exact hk.cov (c.perm fun y hy => (lp_mem h hp y).1 hy)
  | skip h d ha hp hk hd _ ih => exact ih (hk.cov (c.perm fun y hy => (lp_mem h hp y).1 hy)) hr
theorem NextR.end' {bottom : Bool} {ys ys2 : List St} {rs rs2 : List (Option (List En))} (h : NextR bottom ys rs .none ys2 rs2) : ys2 = [] := by
  generalize hr : NR.none = r at h
  induction h using NextR.ind with
  | done rs => rfl
  | dup h d => cases hr
  | give h d ha hp hk hd => cases hr
  | skip h d ha hp hk hd _ ih => exact ih hr
/-- Each stand's entry is the one that was told last of its feed. -/
def Cur (Xs : List (List En)) (S : List St) (rs : List (Option (List En))) : Prop := ∀ y ∈ S, ∃ X r, Xs[y.num]? = some X ∧ rs[y.num]? = some (some r) ∧ r.length < X.length ∧ X[X.length - r.length - 1]? = some y.e ∧ r = X.drop (X.length - r.length)
/-- Q holds of every entry that was told of a feed, but the last; if its end was told, of all. -/
def Low (Xs : List (List En)) (rs : List (Option (List En))) (Q : En → Prop) : Prop := ∀ (j : Nat) (X : List En) (o : Option (List En)) (i : Nat) (e : En), Xs[j]? = some X → rs[j]? = some o → i + 1 < usd X o → X[i]? = some e → Q e
theorem Low.mono {Xs : List (List En)} {rs : List (Option (List En))} {Q Q' : En → Prop} (h : Low Xs rs Q) (k : ∀ e, Q e → Q' e) : Low Xs rs Q' := fun j X o i e h1 h2 h3 h4 => k e (h j X o i e h1 h2 h3 h4)
theorem Asked.low {s : St} {ys ys1 P : List St} {rs rs1 : List (Option (List En))} {Xs : List (List En)} {Q : En → Prop} (h : Asked s ys ys1 rs rs1) (hn : ((ys ++ s :: P).map St.num).Nodup) (c : Cur Xs (ys ++ s :: P) rs) (l : Low Xs rs Q) (q : Q s.e) : Cur Xs (ys1 ++ P) rs1 ∧ Low Xs rs1 Q := by
  have hsm : s ∈ ys ++ s :: P := by simp
  obtain ⟨X, r0, x1, x2, x3, x4, x5⟩ := c s hsm
  have hlt := (List.getElem?_eq_some_iff.1 x2).1
  have sub : ∀ y, y ∈ ys ++ P → y ∈ ys ++ s :: P := fun y hy => by
    rcases List.mem_append.1 hy with k | k
    · exact List.mem_append_left _ k
    · exact List.mem_append_right _ (List.mem_cons_of_mem _ k)
  have hnn : ∀ y ∈ ys ++ P, y.num ≠ s.num := fun y hy e => by
    rw [List.map_append, List.map_cons, List.nodup_append] at hn
    obtain ⟨-, h2, h3⟩ := hn
    rw [List.nodup_cons] at h2
    rcases List.mem_append.1 hy with k | k
    · exact h3 _ (List.mem_map_of_mem k) _ (by simp) e
    · exact h2.1 (e ▸ List.mem_map_of_mem k)
  have key : ∀ o, usd X o ≤ X.length - r0.length + 1 → ∀ i e, i + 1 < usd X o → X[i]? = some e → Q e := fun o ho i e h1 h2 => by
    by_cases k : i + 1 < X.length - r0.length
    · exact l s.num X (some r0) i e x1 x2 k h2
    · have : i = X.length - r0.length - 1 := by omega
      subst this
      rw [x4] at h2; cases h2; exact q
  rcases h with ⟨h1, rfl, rfl⟩ | ⟨e, r, h1, h2, rfl⟩
  · rw [x2] at h1
    cases h1
    refine ⟨fun y hy => ?_, fun j Y o i e j1 j2 j3 j4 => ?_⟩
    · obtain ⟨Y, r, y1, y2, y3⟩ := c y (sub y hy)
      exact ⟨Y, r, y1, by rw [List.getElem?_set_ne (fun e => hnn y hy e.symm)]; exact y2, y3⟩
    · by_cases e' : j = s.num
      · subst e'
        rw [List.getElem?_set_self hlt] at j2; cases j2
        rw [x1] at j1; cases j1
        exact key none (by simp [usd]) i e j3 j4
      · rw [List.getElem?_set_ne (fun e => e' e.symm)] at j2
        exact l j Y o i e j1 j2 j3 j4
  · rw [x2] at h1
    cases h1
    have memx : ∀ y, y ∈ ys1 ++ P → y = s.upd e ∨ y ∈ ys ++ P := fun y hy => by
      rcases List.mem_append.1 hy with k | k
      · rcases List.mem_append.1 (h2.mem_iff.1 k) with k | k
        · exact .inr (List.mem_append_left _ k)
        · simp at k; exact .inl k
      · exact .inr (List.mem_append_right _ k)
    obtain ⟨u1, u2, u3, u4⟩ := usd_cons (Nat.le_of_lt x3) x5
    simp only [List.length_cons] at x3
    refine ⟨fun y hy => ?_, fun j Y o i e' j1 j2 j3 j4 => ?_⟩
    · rcases memx y hy with e1 | hy
      · subst e1
        refine ⟨X, r, x1, by rw [show (s.upd e).num = s.num from rfl, List.getElem?_set_self hlt], by omega, ?_, u4⟩
        rw [← show usd X (some (e :: r)) = X.length - r.length - 1 by simp only [usd, List.length_cons]; omega]
        exact u1
      · obtain ⟨Y, r1, y1, y2, y3⟩ := c y (sub y hy)
        exact ⟨Y, r1, y1, by rw [List.getElem?_set_ne (fun e => hnn y hy e.symm)]; exact y2, y3⟩
    · by_cases e1 : j = s.num
      · subst e1
        rw [List.getElem?_set_self hlt] at j2; cases j2
        rw [x1] at j1; cases j1
        exact key (some r) (by simp only [usd, List.length_cons]; omega) i e' j3 j4
      · rw [List.getElem?_set_ne (fun e => e1 e.symm)] at j2
        exact l j Y o i e' j1 j2 j3 j4
theorem Asked.nums {s : St} {ys ys1 P : List St} {rs rs1 : List (Option (List En))} (h : Asked s ys ys1 rs rs1) (hn : ((ys ++ s :: P).map St.num).Nodup) : ((ys1 ++ P).map St.num).Nodup := by
  rcases h with ⟨-, rfl, -⟩ | ⟨e, r, -, h2, -⟩
  · exact hn.sublist (((List.Sublist.refl ys1).append (List.sublist_cons_self s P)).map _)
  · have hp : (ys1 ++ P).Perm (ys ++ s.upd e :: P) := by
      have := h2.append_right P
      rw [List.append_assoc] at this
      exact this
    have e1 : ((ys1 ++ P).map St.num).Perm ((ys ++ s :: P).map St.num) := by
      have := hp.map St.num
      simpa [St.upd] using this
    exact e1.nodup_iff.2 hn
theorem AskedAll.low {P ys ys2 : List St} {rs rs2 : List (Option (List En))} {Xs : List (List En)} {Q : En → Prop} (h : AskedAll P ys ys2 rs rs2) (hn : ((ys ++ P).map St.num).Nodup) (c : Cur Xs (ys ++ P) rs) (l : Low Xs rs Q) (q : ∀ s ∈ P, Q s.e) : Cur Xs ys2 rs2 ∧ Low Xs rs2 Q := by
  induction h using AskedAll.ind with
  | nil ys rs => exact ⟨by simpa using c, l⟩
  | cons h _ ih =>
    obtain ⟨c2, l2⟩ := h.low hn c l (q _ (by simp))
    exact ih (h.nums hn) c2 l2 (fun s hs => q s (List.mem_cons_of_mem _ hs))
/-- What is known between two calls of Next. -/
structure PI (Xs : List (List En)) (ys : List St) (rs : List (Option (List En))) : Prop where
  inv : InvP ys [] (dn rs)
  cur : Cur Xs ys rs
  low : ∀ z ∈ pool ys (dn rs), Low Xs rs (fun e => cpE e z < 0)
  cov : Cov ys rs
theorem PI.cut {Xs : List (List En)} {ys L L' ys' ys2 : List St} {rs rs2 : List (Option (List En))} {a : St} (p : PI Xs ys rs) (h : LP ys L ys') (d : ∀ i, ¬ dupAt L i) (ha : L[L.length - 1]? = some a) (hp : L'.Perm L) (hk : AskedAll L' ys' ys2 rs rs2) : PI Xs ys2 rs2 ∧ Low Xs rs2 (fun e => cpE e a.e ≤ 0) := by
  obtain ⟨h1, h2⟩ := h.cut d ha p.inv hp hk.dn
  have haL : a ∈ L := List.mem_of_getElem? ha
  have hap : a.e ∈ pool ys (dn rs) := by
    unfold pool
    exact List.mem_append_left _ (List.mem_map_of_mem (h.perm.mem_iff.1 (List.mem_append_left _ haL)))
  have hpm : (ys' ++ L').Perm ys := (List.perm_append_comm.trans (hp.append_right ys')).trans h.perm
  have hn := p.inv.nums
  rw [List.append_nil] at hn
  obtain ⟨c2, l2⟩ := hk.low (Q := fun e => cpE e a.e ≤ 0) ((hpm.map St.num).nodup_iff.2 hn) (fun y hy => p.cur y (hpm.mem_iff.1 hy)) ((p.low a.e hap).mono fun e he => Int.le_of_lt he) (fun s hs => Int.le_of_eq (h.same s (hp.mem_iff.1 hs) a haL))
  exact ⟨⟨h1, c2, fun z hz => l2.mono fun e he => cp_lt' he (h2.above z hz), hk.cov (p.cov.perm fun y hy => hpm.mem_iff.2 hy)⟩, l2⟩
theorem NextR.pi {bottom : Bool} {Xs : List (List En)} {ys ys2 : List St} {rs rs2 : List (Option (List En))} {r : NR} (h : NextR bottom ys rs r ys2 rs2) (p : PI Xs ys rs) : (r ≠ .seq → PI Xs ys2 rs2) ∧ ∀ e, r = .give e → Low Xs rs2 (fun x => cpE x e ≤ 0) := by
  induction h using NextR.ind with
  | done rs => exact ⟨fun _ => p, fun e he => by cases he⟩
  | dup h d => exact ⟨fun h => absurd rfl h, fun e he => by cases he⟩
  | give h d ha hp hk hd =>
    obtain ⟨p1, p2⟩ := p.cut h d ha hp hk
    exact ⟨fun _ => p1, fun e he => by cases he; exact p2⟩
  | skip h d ha hp hk hd _ ih => exact ih (p.cut h d ha hp hk).1
end Go.Proofs.Ytchikfabfhjkgaa.Fd
