/-
  DERIVED. BestTop: tops of the program's and of the document's.
-/
import Derived.Test.YtnhihpekdimbbaaETopped
import Derived.Test.YtnhihpekdimbbaaERef7
import Derived.Test.YtnhihpekdimbbaaELawD
import Derived.Test.YtnhihpekdimbbaaELawW
set_option linter.unusedVariables false
set_option linter.unusedSimpArgs false
namespace Go.Proofs.Ytnhihpekdimbbaa
open Go.RowKit
set_option maxRecDepth 100000 in
theorem newTop_bad (r : Int) (h : r < 0 ∨ 4096 < r) (w : World) : Calls Try.prog 24 #[.int .i64 r] w fun e w' => e = .returned (.tuple #[.pointer none, .int .i64 100]) ∧ w' = w := by
  by_cases h1 : r < 0
  · clear h
    go_enter Try.func24, Try.ntmps24
    go_wp2
    go_ret2
    exact ⟨rfl, rfl⟩
  · have h2 : (4096 : Int) < r := h.resolve_left h1
    clear h
    go_enter Try.func24, Try.ntmps24
    go_wp2
    go_ret2
    exact ⟨rfl, rfl⟩
set_option maxRecDepth 100000 in
theorem rnewTop_bad (r : Int) (h : r < 0 ∨ 4096 < r) (w : World) : Calls Try.prog 25 #[.int .i64 r] w fun e w' => e = .returned (.tuple #[.pointer none, .int .i64 100]) ∧ w' = w := by
  by_cases h1 : r < 0
  · clear h
    go_enter Try.func25, Try.ntmps25
    go_wp2
    go_ret2
    exact ⟨rfl, rfl⟩
  · have h2 : (4096 : Int) < r := h.resolve_left h1
    clear h
    go_enter Try.func25, Try.ntmps25
    go_wp2
    go_ret2
    exact ⟨rfl, rfl⟩
theorem TT.gkeep {W W' : World} {b kp k : Nat} {X : List Ht} {F : Nat → Prop} (h : TT W b k kp X) (s : Stay F W W') (hF : ∀ j, Gb W b kp j → ¬ F j) : TT W' b k kp X ∧ ∀ j, Gb W' b kp j ↔ Gb W b kp j := by
  obtain ⟨h1, h2⟩ := h.keep s (hF b (.inl rfl)) (fun j hj => hF j (.inr hj))
  exact ⟨h1, fun j => by unfold Gb; rw [h2 j]⟩
theorem TT.glt {W : World} {b kp k : Nat} {X : List Ht} (h : TT W b k kp X) (j : Nat) (hj : Gb W b kp j) : j < W.heap.size := by
  rcases hj with e | e
  · rw [e]; exact h.1.lt
  · exact h.2.1.ftlt j e
/-- Four tops, two of each side. -/
structure FourT (w W : World) (t kt o ko u p : Nat) (k : Nat) (X Y X' Y' : List Ht) : Prop where
  tt : TT W t k kt X
  oo : TT W o 3 ko Y
  uu : RTp 73 W u k X'
  pp : RTp 73 W p 3 Y'
  fo : ∀ j, Gb W t kt j → Gb W o ko j → False
  fu : ∀ j, Gb W t kt j → RFt W u j → False
  fp : ∀ j, Gb W t kt j → RFt W p j → False
  ou : ∀ j, Gb W o ko j → RFt W u j → False
  op : ∀ j, Gb W o ko j → RFt W p j → False
  up : ∀ j, RFt W u j → RFt W p j → False
  nt : ∀ j, Gb W t kt j → w.heap.size ≤ j
  no : ∀ j, Gb W o ko j → w.heap.size ≤ j
  nu : ∀ j, RFt W u j → w.heap.size ≤ j
  np : ∀ j, RFt W p j → w.heap.size ≤ j
  below : Below w.heap.size w W
theorem FourT.ft {w W W' : World} {t kt o ko u p : Nat} {k : Nat} {X Y X' Y' Z : List Ht} (h : FourT w W t kt o ko u p k X Y X' Y') (hT : TT W' t k kt Z) (f : FrK kt W W') : FourT w W' t kt o ko u p k Z Y X' Y' := by
  obtain ⟨o1, o2⟩ := h.oo.gkeep f.stay (fun j hj hF => h.fo j (.inr hF) hj)
  obtain ⟨u1, u2⟩ := h.uu.keep f.stay (fun j hj hF => h.fu j (.inr hF) hj)
  obtain ⟨p1, p2⟩ := h.pp.keep f.stay (fun j hj hF => h.fp j (.inr hF) hj)
  have loc : ∀ j, Gb W' t kt j → Gb W t kt j ∨ W.heap.size ≤ j := fun j hj => by
    rcases hj with e | e
    · exact .inl (.inl e)
    · exact (f.loc j e).imp .inr id
  exact ⟨hT, o1, u1, p1, dis_step h.fo loc o2 (fun j hj => h.oo.glt j hj), dis_step h.fu loc u2 (fun j hj => h.uu.ftlt j hj), dis_step h.fp loc p2 (fun j hj => h.pp.ftlt j hj), fun j h1 h2 => h.ou j ((o2 j).1 h1) ((u2 j).1 h2), fun j h1 h2 => h.op j ((o2 j).1 h1) ((p2 j).1 h2), fun j h1 h2 => h.up j ((u2 j).1 h1) ((p2 j).1 h2),
    fun j hj => (loc j hj).elim (h.nt j) (fun e => Nat.le_trans h.below.size e), fun j hj => h.no j ((o2 j).1 hj), fun j hj => h.nu j ((u2 j).1 hj), fun j hj => h.np j ((p2 j).1 hj), h.below.trans (f.stay.toBelow (fun j hj hF => by have := h.nt j (.inr hF); omega) h.below.size)⟩
theorem FourT.fo' {w W W' : World} {t kt o ko u p : Nat} {k : Nat} {X Y X' Y' Z : List Ht} (h : FourT w W t kt o ko u p k X Y X' Y') (hT : TT W' o 3 ko Z) (f : FrK ko W W') : FourT w W' t kt o ko u p k X Z X' Y' := by
  obtain ⟨t1, t2⟩ := h.tt.gkeep f.stay (fun j hj hF => h.fo j hj (.inr hF))
  obtain ⟨u1, u2⟩ := h.uu.keep f.stay (fun j hj hF => h.ou j (.inr hF) hj)
  obtain ⟨p1, p2⟩ := h.pp.keep f.stay (fun j hj hF => h.op j (.inr hF) hj)
  have loc : ∀ j, Gb W' o ko j → Gb W o ko j ∨ W.heap.size ≤ j := fun j hj => by
    rcases hj with e | e
    · exact .inl (.inl e)
    · exact (f.loc j e).imp .inr id
  exact ⟨t1, hT, u1, p1, fun j h1 h2 => dis_step (fun j a b => h.fo j b a) loc t2 (fun j hj => h.tt.glt j hj) j h2 h1, fun j h1 h2 => h.fu j ((t2 j).1 h1) ((u2 j).1 h2), fun j h1 h2 => h.fp j ((t2 j).1 h1) ((p2 j).1 h2), dis_step h.ou loc u2 (fun j hj => h.uu.ftlt j hj), dis_step h.op loc p2 (fun j hj => h.pp.ftlt j hj), fun j h1 h2 => h.up j ((u2 j).1 h1) ((p2 j).1 h2),
    fun j hj => h.nt j ((t2 j).1 hj), fun j hj => (loc j hj).elim (h.no j) (fun e => Nat.le_trans h.below.size e), fun j hj => h.nu j ((u2 j).1 hj), fun j hj => h.np j ((p2 j).1 hj), h.below.trans (f.stay.toBelow (fun j hj hF => by have := h.no j (.inr hF); omega) h.below.size)⟩
theorem FourT.fu' {w W W' : World} {t kt o ko u p : Nat} {k : Nat} {X Y X' Y' Z : List Ht} (h : FourT w W t kt o ko u p k X Y X' Y') (hT : RTp 73 W' u k Z) (f : FrR u W W') : FourT w W' t kt o ko u p k X Y Z Y' := by
  obtain ⟨t1, t2⟩ := h.tt.gkeep f.stay (fun j hj hF => h.fu j hj hF)
  obtain ⟨o1, o2⟩ := h.oo.gkeep f.stay (fun j hj hF => h.ou j hj hF)
  obtain ⟨p1, p2⟩ := h.pp.keep f.stay (fun j hj hF => h.up j hF hj)
  exact ⟨t1, o1, hT, p1, fun j h1 h2 => h.fo j ((t2 j).1 h1) ((o2 j).1 h2), fun j h1 h2 => dis_step (fun j a b => h.fu j b a) f.loc t2 (fun j hj => h.tt.glt j hj) j h2 h1, fun j h1 h2 => h.fp j ((t2 j).1 h1) ((p2 j).1 h2), fun j h1 h2 => dis_step (fun j a b => h.ou j b a) f.loc o2 (fun j hj => h.oo.glt j hj) j h2 h1, fun j h1 h2 => h.op j ((o2 j).1 h1) ((p2 j).1 h2), dis_step h.up f.loc p2 (fun j hj => h.pp.ftlt j hj),
    fun j hj => h.nt j ((t2 j).1 hj), fun j hj => h.no j ((o2 j).1 hj), fun j hj => (f.loc j hj).elim (h.nu j) (fun e => Nat.le_trans h.below.size e), fun j hj => h.np j ((p2 j).1 hj), h.below.trans (f.stay.toBelow (fun j hj hF => by have := h.nu j hF; omega) h.below.size)⟩
theorem FourT.fp' {w W W' : World} {t kt o ko u p : Nat} {k : Nat} {X Y X' Y' Z : List Ht} (h : FourT w W t kt o ko u p k X Y X' Y') (hT : RTp 73 W' p 3 Z) (f : FrR p W W') : FourT w W' t kt o ko u p k X Y X' Z := by
  obtain ⟨t1, t2⟩ := h.tt.gkeep f.stay (fun j hj hF => h.fp j hj hF)
  obtain ⟨o1, o2⟩ := h.oo.gkeep f.stay (fun j hj hF => h.op j hj hF)
  obtain ⟨u1, u2⟩ := h.uu.keep f.stay (fun j hj hF => h.up j hj hF)
  exact ⟨t1, o1, u1, hT, fun j h1 h2 => h.fo j ((t2 j).1 h1) ((o2 j).1 h2), fun j h1 h2 => h.fu j ((t2 j).1 h1) ((u2 j).1 h2), fun j h1 h2 => dis_step (fun j a b => h.fp j b a) f.loc t2 (fun j hj => h.tt.glt j hj) j h2 h1, fun j h1 h2 => h.ou j ((o2 j).1 h1) ((u2 j).1 h2), fun j h1 h2 => dis_step (fun j a b => h.op j b a) f.loc o2 (fun j hj => h.oo.glt j hj) j h2 h1, fun j h1 h2 => dis_step (fun j a b => h.up j b a) f.loc u2 (fun j hj => h.uu.ftlt j hj) j h2 h1,
    fun j hj => h.nt j ((t2 j).1 hj), fun j hj => h.no j ((o2 j).1 hj), fun j hj => h.nu j ((u2 j).1 hj), fun j hj => (f.loc j hj).elim (h.np j) (fun e => Nat.le_trans h.below.size e), h.below.trans (f.stay.toBelow (fun j hj hF => by have := h.np j hF; omega) h.below.size)⟩
theorem FourT.more {w W W' : World} {t kt o ko u p : Nat} {k : Nat} {X Y X' Y' : List Ht} (h : FourT w W t kt o ko u p k X Y X' Y') (b : Below W.heap.size W W') : FourT w W' t kt o ko u p k X Y X' Y' := h.ft (h.tt.below b).1 (h.tt.2.1.frk b)
end Go.Proofs.Ytnhihpekdimbbaa
