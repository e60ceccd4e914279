/-
  DERIVED. What stands between the two pairs of unions.
-/
import Derived.Test.YtmhifofeobhhgaaULawD
set_option linter.unusedVariables false
set_option linter.unusedSimpArgs false
namespace Go.Proofs.Ytmhifofeobhhgaa
open Go.RowKit Go.Proofs.UnionMath
theorem mix_set (A B : List Int) (k : Nat) (h : k < A.length) (hB : k < B.length) : (A.take k ++ B.drop k).set k A[k] = A.take (k + 1) ++ B.drop (k + 1) := by
  have hl : (A.take k).length = k := by rw [List.length_take]; omega
  rw [List.set_append_right _ _ (by omega), hl, Nat.sub_self, List.drop_eq_getElem_cons hB, List.set_cons_zero, List.take_add_one, List.getElem?_eq_getElem h, List.append_assoc]
  rfl
/-- The list in hand, and both first unions. -/
structure CS (w wr : World) (fg fc n lo hi ub rp : Nat) (S X : List Int) : Prop where
  row : iE.Row wr (.slice (some ⟨fg, 0, none⟩) (n + 1) fc) X
  mu : MU lo hi wr ub rp S (fun k => k)
  bl : Below w.heap.size w wr
  hh : hi ≤ wr.heap.size
  f0 : w.heap.size ≤ fg
  f1 : fg < lo
theorem CS.below {w wr wy : World} {fg fc n lo hi ub rp : Nat} {S X : List Int} (h : CS w wr fg fc n lo hi ub rp S X) (b : Below wr.heap.size wr wy) : CS w wy fg fc n lo hi ub rp S X :=
  ⟨El.Row.below h.row b, h.mu.below b, chain h.bl b (Nat.le_refl _), Nat.le_trans h.hh b.size, h.f0, h.f1⟩
theorem CS.len {w wr : World} {fg fc n lo hi ub rp : Nat} {S X : List Int} (h : CS w wr fg fc n lo hi ub rp S X) : X.length = n + 1 := by
  obtain ⟨a, c, e, -⟩ := h.row.form
  injection e with _ e2 _
  exact e2.symm
theorem CS.cell {w wr : World} {fg fc n lo hi ub rp : Nat} {S X : List Int} (h : CS w wr fg fc n lo hi ub rp S X) (k : Nat) (hk : k < X.length) : wr.cell? ⟨fg, k, none⟩ = some (.int .i64 X[k]) ∧ wr.frozen? ⟨fg, k, none⟩ = false := i_cell' h.row k hk
theorem stay_fg (wr : World) (fg k : Nat) (u : Value) : Stay (fun j => j = fg) wr (wr.setCell ⟨fg, k, none⟩ u) := Stay.setCell (F := fun j => j = fg) (p := ⟨fg, k, none⟩) (Stay.refl _ wr) (fun _ => rfl) _
theorem CS.set {w wr : World} {fg fc n lo hi ub rp : Nat} {S X : List Int} (h : CS w wr fg fc n lo hi ub rp S X) (k : Nat) (hk : k < X.length) (z : Int) : CS w (wr.setCell ⟨fg, k, none⟩ (.int .i64 z)) fg fc n lo hi ub rp S (X.set k z) := by
  have s := stay_fg wr fg k (.int .i64 z)
  exact ⟨i_set h.row h.len.symm k hk z, h.mu.kept s (fun j a b e => by have := h.f1; omega), h.bl.setCell h.f0 _, Nat.le_trans h.hh s.size, h.f0, h.f1⟩
/-- The second pair: refused both, or both unions of the same ids. -/
def VV (lo : Nat) (W : World) (vv yv : Value) : Prop := (vv = .pointer none ∧ yv = .pointer none) ∨ ∃ T vp yp hi, vv = Pt vp ∧ yv = Pt yp ∧ PUI lo hi W T (fun k => k) vp ∧ RUI lo hi W T (fun k => k) yp
theorem VV.kept {lo : Nat} {W W' : World} {vv yv : Value} {F : Nat → Prop} (h : VV lo W vv yv) (s : Stay F W W') (hF : ∀ k, lo ≤ k → ¬ F k) : VV lo W' vv yv := by
  rcases h with h | ⟨T, vp, yp, hi, e1, e2, h1, h2⟩
  · exact .inl h
  · exact .inr ⟨T, vp, yp, hi, e1, e2, h1.kept s (fun k a _ => hF k a), h2.kept s (fun k a _ => hF k a)⟩
theorem PUI.groups {lo hi : Nat} {W : World} {S : List Int} {R : Nat → Nat} {p : Nat} (h : PUI lo hi W S R p) (m : Int) : Calls Try.prog 8 #[Pt p, .int .i64 m] W (GrO W (gA S R m)) := by
  obtain ⟨mb, ag, iv, hu, -⟩ := h.ex
  exact groups_any p mb ag iv S R m W hu
theorem RUI.groups {lo hi : Nat} {W : World} {S : List Int} {R : Nat → Nat} {p : Nat} (h : RUI lo hi W S R p) (m : Int) : Calls Try.prog 9 #[Pt p, .int .i64 m] W (GrO W (gA S R m)) := by
  obtain ⟨iv, lv, hu, -⟩ := h.ex
  exact rgroups_any p iv lv S R m W hu
theorem RUI.few {lo hi : Nat} {W : World} {S : List Int} {R : Nat → Nat} {p : Nat} (h : RUI lo hi W S R p) : S.length ≤ 1048576 := by
  obtain ⟨iv, lv, hu, -⟩ := h.ex
  exact hu.ids.few
theorem RUI.below {lo hi : Nat} {W W' : World} {S : List Int} {R : Nat → Nat} {p : Nat} (h : RUI lo hi W S R p) (b : Below W.heap.size W W') : RUI lo hi W' S R p := h.kept (F := fun _ => False) (.below b) (fun _ _ _ h => h)
end Go.Proofs.Ytmhifofeobhhgaa
