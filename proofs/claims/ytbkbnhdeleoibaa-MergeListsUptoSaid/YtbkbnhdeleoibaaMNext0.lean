/-
  DERIVED. A merger's Next: what it comes to, and that it ends.
-/
import Derived.Test.YtbkbnhdeleoibaaMBegin
set_option linter.unusedVariables false
set_option linter.unusedSimpArgs false
namespace Go.Proofs.Ytbkbnhdeleoibaa
open Go.RowKit
/-- What Next answers. -/
abbrev NR : Type := Option (Option En)
abbrev NR.none : NR := Option.none
abbrev NR.seq : NR := Option.some Option.none
abbrev NR.give (e : En) : NR := Option.some (Option.some e)
/-- What Next answers from here on, and where the merger stands then. -/
def NextR (bottom : Bool) (ys : List St) (rs : List (List En)) (r : NR) (ys2 : List St) (rs2 : List (List En)) : Prop :=
  ∀ C : List St → List (List En) → NR → List St → List (List En) → Prop, (∀ rs : List (List En), C [] rs .none [] rs) → (∀ (ys L ys' : List St) (rs : List (List En)), LP ys L ys' → (∃ i, dupAt L i) → C ys rs .seq ys' rs) → (∀ (ys L L' ys' ys2 : List St) (rs rs2 : List (List En)) (a : St), LP ys L ys' → (∀ i, ¬ dupAt L i) → L[L.length - 1]? = some a → L'.Perm L → AskedAll L' ys' ys2 rs rs2 → (a.e.d && bottom) = false → C ys rs (.give a.e) ys2 rs2) → (∀ (ys L L' ys' ys2 ys3 : List St) (rs rs2 rs3 : List (List En)) (a : St) (r : NR), LP ys L ys' → (∀ i, ¬ dupAt L i) → L[L.length - 1]? = some a → L'.Perm L → AskedAll L' ys' ys2 rs rs2 → (a.e.d && bottom) = true → C ys2 rs2 r ys3 rs3 → C ys rs r ys3 rs3) → C ys rs r ys2 rs2
section
variable {bottom : Bool}
theorem NextR.done (rs : List (List En)) : NextR bottom [] rs .none [] rs := fun C c1 c2 c3 c4 => c1 rs
theorem NextR.dup {ys L ys' : List St} {rs : List (List En)} (h : LP ys L ys') (d : ∃ i, dupAt L i) : NextR bottom ys rs .seq ys' rs := fun C c1 c2 c3 c4 => c2 _ _ _ _ h d
theorem NextR.give {ys L L' ys' ys2 : List St} {rs rs2 : List (List En)} {a : St} (h : LP ys L ys') (d : ∀ i, ¬ dupAt L i) (ha : L[L.length - 1]? = some a) (hp : L'.Perm L) (hk : AskedAll L' ys' ys2 rs rs2) (hd : (a.e.d && bottom) = false) : NextR bottom ys rs (.give a.e) ys2 rs2 := fun C c1 c2 c3 c4 => c3 _ _ _ _ _ _ _ _ h d ha hp hk hd
theorem NextR.skip {ys L L' ys' ys2 ys3 : List St} {rs rs2 rs3 : List (List En)} {a : St} {r : NR} (h : LP ys L ys') (d : ∀ i, ¬ dupAt L i) (ha : L[L.length - 1]? = some a) (hp : L'.Perm L) (hk : AskedAll L' ys' ys2 rs rs2) (hd : (a.e.d && bottom) = true) (k : NextR bottom ys2 rs2 r ys3 rs3) : NextR bottom ys rs r ys3 rs3 := fun C c1 c2 c3 c4 => c4 _ _ _ _ _ _ _ _ _ _ _ h d ha hp hk hd (k C c1 c2 c3 c4)
theorem NextR.ind {M : (ys : List St) → (rs : List (List En)) → (r : NR) → (ys2 : List St) → (rs2 : List (List En)) → NextR bottom ys rs r ys2 rs2 → Prop} (done : ∀ rs : List (List En), M [] rs .none [] rs (.done rs))
    (dup : ∀ {ys L ys' : List St} {rs : List (List En)} (h : LP ys L ys') (d : ∃ i, dupAt L i), M ys rs .seq ys' rs (.dup h d))
    (give : ∀ {ys L L' ys' ys2 : List St} {rs rs2 : List (List En)} {a : St} (h : LP ys L ys') (d : ∀ i, ¬ dupAt L i) (ha : L[L.length - 1]? = some a) (hp : L'.Perm L) (hk : AskedAll L' ys' ys2 rs rs2) (hd : (a.e.d && bottom) = false), M ys rs (.give a.e) ys2 rs2 (.give h d ha hp hk hd))
    (skip : ∀ {ys L L' ys' ys2 ys3 : List St} {rs rs2 rs3 : List (List En)} {a : St} {r : NR} (h : LP ys L ys') (d : ∀ i, ¬ dupAt L i) (ha : L[L.length - 1]? = some a) (hp : L'.Perm L) (hk : AskedAll L' ys' ys2 rs rs2) (hd : (a.e.d && bottom) = true) (k : NextR bottom ys2 rs2 r ys3 rs3), M ys2 rs2 r ys3 rs3 k → M ys rs r ys3 rs3 (.skip h d ha hp hk hd k))
    {ys : List St} {rs : List (List En)} {r : NR} {ys2 : List St} {rs2 : List (List En)} (k : NextR bottom ys rs r ys2 rs2) : M ys rs r ys2 rs2 k :=
  (k (fun ys rs r ys2 rs2 => ∃ h : NextR bottom ys rs r ys2 rs2, M ys rs r ys2 rs2 h) (fun rs => ⟨_, done rs⟩) (fun _ _ _ _ h d => ⟨_, dup h d⟩) (fun _ _ _ _ _ _ _ _ h d ha hp hk hd => ⟨_, give h d ha hp hk hd⟩) (fun _ _ _ _ _ _ _ _ _ _ _ h d ha hp hk hd k => k.elim fun k m => ⟨_, skip h d ha hp hk hd k m⟩)).elim fun _ h => h
end
theorem AskedAll.tot {P ys ys2 : List St} {rs rs2 : List (List En)} (h : AskedAll P ys ys2 rs rs2) : totT ys2 rs2 = totT ys rs := by
  induction h using AskedAll.ind with
  | nil => rfl
  | cons h _ ih => exact ih.trans h.tot
theorem LP.tot {ys L ys' : List St} (h : LP ys L ys') (rs : List (List En)) : totT ys' rs < totT ys rs := by
  unfold totT
  have h1 := h.perm.length_eq
  have h2 := List.length_pos_iff.2 h.ne
  rw [List.length_append] at h1
  omega
/-- The length that a cell's slice has. -/
def lenC (W : World) (p : Addr) : Nat := match W.cell? p with
  | some (.slice _ n _) => n
  | _ => 0
def measT (m : Nat) (bxs : List Nat) (W : World) : Nat := lenC W ⟨m, 1, none⟩ + (bxs.map fun b => lenC W ⟨b, 0, none⟩).sum
theorem MQ.meas {w0 : World} {B m : Nat} {bxs : List Nat} {c0 c2 c3 lv : Value} {LL ys P : List St} {rs : List (List En)} {W : World} (h : MQ w0 B m bxs c0 c2 c3 lv LL ys P rs W) : measT m bxs W = totT ys rs := by
  unfold measT totT
  congr 1
  · obtain ⟨av, hm, hr, -⟩ := h.hm
    obtain ⟨a, c, rfl, -⟩ := slice_form hr.own
    unfold lenC
    rw [hm.cell.1]
  · congr 1
    apply List.ext_getElem?
    intro i
    rw [List.getElem?_map, List.getElem?_map]
    by_cases hi : i < bxs.length
    · have hb : bxs[i]? = some bxs[i] := List.getElem?_eq_getElem hi
      have hr : rs[i]? = some (rs[i]'(by rw [h.len]; exact hi)) := List.getElem?_eq_getElem _
      obtain ⟨la, lc, hx, -⟩ := (h.src i _ _ hb hr).ex
      rw [hb, hr]
      simp only [Option.map_some, lenC]
      rw [cell_of_row _ _ 0 _ _ (0, 0) hx]
      rfl
    · rw [List.getElem?_eq_none (by omega), List.getElem?_eq_none (by rw [h.len]; omega)]; rfl
end Go.Proofs.Ytbkbnhdeleoibaa
