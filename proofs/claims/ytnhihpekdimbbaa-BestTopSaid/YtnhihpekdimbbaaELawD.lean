/-
  DERIVED. BestBall: balls of the program's and of the document's.
-/
import Derived.Test.YtnhihpekdimbbaaEBalled
import Derived.Test.YtnhihpekdimbbaaELawB
set_option linter.unusedVariables false
set_option linter.unusedSimpArgs false
namespace Go.Proofs.Ytnhihpekdimbbaa
open Go.RowKit
set_option maxRecDepth 100000 in
theorem newBall_bad (r : Int) (h : r < 0 ∨ 1024 < r) (w : World) : Calls Try.prog 18 #[.int .i64 r] w fun e w' => e = .returned (.tuple #[.pointer none, .int .i64 101]) ∧ w' = w := by
  by_cases h1 : r < 0
  · clear h
    go_enter Try.func18, Try.ntmps18
    go_wp2
    go_ret2
    exact ⟨rfl, rfl⟩
  · have h2 : (1024 : Int) < r := h.resolve_left h1
    clear h
    go_enter Try.func18, Try.ntmps18
    go_wp2
    go_ret2
    exact ⟨rfl, rfl⟩
set_option maxRecDepth 100000 in
theorem rnewBall_bad (r : Int) (h : r < 0 ∨ 1024 < r) (w : World) : Calls Try.prog 19 #[.int .i64 r] w fun e w' => e = .returned (.tuple #[.pointer none, .int .i64 101]) ∧ w' = w := by
  by_cases h1 : r < 0
  · clear h
    go_enter Try.func19, Try.ntmps19
    go_wp2
    go_ret2
    exact ⟨rfl, rfl⟩
  · have h2 : (1024 : Int) < r := h.resolve_left h1
    clear h
    go_enter Try.func19, Try.ntmps19
    go_wp2
    go_ret2
    exact ⟨rfl, rfl⟩
/-- What a ball of the program's may write, and it itself. -/
def Gb (W : World) (b kp j : Nat) : Prop := j = b ∨ Ft W kp j
theorem RTp.keep {T : TypeId} {W W' : World} {t : Nat} {k : Int} {X : List Ht} {F : Nat → Prop} (h : RTp T W t k X) (s : Stay F W W') (hF : ∀ j, RFt W t j → ¬ F j) : RTp T W' t k X ∧ ∀ j, RFt W' t j ↔ RFt W t j := by
  obtain ⟨v, h1, h2, h3⟩ := h.at'
  have h1' : RAt T W' t k v := (s.block t h1.lt (hF t (.inl rfl))).trans h1
  exact ⟨⟨⟨v, h1', row_kept h2 s (fun j hj => hF j (.inr ⟨v, h1.cells.2.1, hj⟩)), h3⟩, h.srt, h.fit⟩, fun j => by unfold RFt; rw [h1'.cells.2.1, h1.cells.2.1]⟩
theorem RTp.ftlt {T : TypeId} {W : World} {t : Nat} {k : Int} {X : List Ht} (h : RTp T W t k X) (j : Nat) (hj : RFt W t j) : j < W.heap.size := by
  obtain ⟨v, h1, h2, h3⟩ := h.at'
  rcases hj with e | ⟨u, e1, e2⟩
  · rw [e]; exact h1.lt
  · rw [h1.cells.2.1] at e1; cases e1
    exact row_lt h2 e2
theorem BT.gkeep {W W' : World} {b kp : Nat} {r : Int} {X : List Ht} {F : Nat → Prop} (h : BT W b r kp X) (s : Stay F W W') (hF : ∀ j, Gb W b kp j → ¬ F j) : BT W' b r kp X ∧ ∀ j, Gb W' b kp j ↔ Gb W b kp j := by
  obtain ⟨h1, h2⟩ := h.keep s (hF b (.inl rfl)) (fun j hj => hF j (.inr hj))
  exact ⟨h1, fun j => by unfold Gb; rw [h2 j]⟩
theorem BT.glt {W : World} {b kp : Nat} {r : Int} {X : List Ht} (h : BT W b r kp X) (j : Nat) (hj : Gb W b kp j) : j < W.heap.size := by
  rcases hj with e | e
  · rw [e]; exact h.1.lt
  · exact h.2.ftlt j e
theorem dis_step {A : World} {G1 G1' G2 G2' : Nat → Prop} (hd : ∀ j, G1 j → G2 j → False) (loc : ∀ j, G1' j → G1 j ∨ A.heap.size ≤ j) (same : ∀ j, G2' j ↔ G2 j) (lt : ∀ j, G2 j → j < A.heap.size) : ∀ j, G1' j → G2' j → False := fun j h1 h2 => by
  have h3 := (same j).1 h2
  rcases loc j h1 with h | h
  · exact hd j h h3
  · have := lt j h3; omega
/-- Four balls, two of each side. -/
structure Four (w W : World) (t kt o ko u p : Nat) (r : Int) (X Y X' Y' : List Ht) : Prop where
  tt : BT W t r kt X
  oo : BT W o 2 ko Y
  uu : RTp 69 W u r X'
  pp : RTp 69 W p 2 Y'
  fo : ∀ j, Gb W t kt j → Gb W o ko j → False
  fu : ∀ j, Gb W t kt j → RFt W u j → False
  fp : ∀ j, Gb W t kt j → RFt W p j → False
  ou : ∀ j, Gb W o ko j → RFt W u j → False
  op : ∀ j, Gb W o ko j → RFt W p j → False
  up : ∀ j, RFt W u j → RFt W p j → False
  nt : ∀ j, Gb W t kt j → w.heap.size ≤ j
  no : ∀ j, Gb W o ko j → w.heap.size ≤ j
  nu : ∀ j, RFt W u j → w.heap.size ≤ j
  np : ∀ j, RFt W p j → w.heap.size ≤ j
  below : Below w.heap.size w W
theorem Four.ft {w W W' : World} {t kt o ko u p : Nat} {r : Int} {X Y X' Y' Z : List Ht} (h : Four w W t kt o ko u p r X Y X' Y') (hT : BT W' t r kt Z) (f : FrK kt W W') : Four w W' t kt o ko u p r Z Y X' Y' := by
  obtain ⟨o1, o2⟩ := h.oo.gkeep f.stay (fun j hj hF => h.fo j (.inr hF) hj)
  obtain ⟨u1, u2⟩ := h.uu.keep f.stay (fun j hj hF => h.fu j (.inr hF) hj)
  obtain ⟨p1, p2⟩ := h.pp.keep f.stay (fun j hj hF => h.fp j (.inr hF) hj)
  have loc : ∀ j, Gb W' t kt j → Gb W t kt j ∨ W.heap.size ≤ j := fun j hj => by
    rcases hj with e | e
    · exact .inl (.inl e)
    · exact (f.loc j e).imp .inr id
  exact ⟨hT, o1, u1, p1, dis_step h.fo loc o2 (fun j hj => h.oo.glt j hj), dis_step h.fu loc u2 (fun j hj => h.uu.ftlt j hj), dis_step h.fp loc p2 (fun j hj => h.pp.ftlt j hj), fun j h1 h2 => h.ou j ((o2 j).1 h1) ((u2 j).1 h2), fun j h1 h2 => h.op j ((o2 j).1 h1) ((p2 j).1 h2), fun j h1 h2 => h.up j ((u2 j).1 h1) ((p2 j).1 h2),
    fun j hj => (loc j hj).elim (h.nt j) (fun e => Nat.le_trans h.below.size e), fun j hj => h.no j ((o2 j).1 hj), fun j hj => h.nu j ((u2 j).1 hj), fun j hj => h.np j ((p2 j).1 hj), h.below.trans (f.stay.toBelow (fun j hj hF => by have := h.nt j (.inr hF); omega) h.below.size)⟩
theorem Four.fo' {w W W' : World} {t kt o ko u p : Nat} {r : Int} {X Y X' Y' Z : List Ht} (h : Four w W t kt o ko u p r X Y X' Y') (hT : BT W' o 2 ko Z) (f : FrK ko W W') : Four w W' t kt o ko u p r X Z X' Y' := by
  obtain ⟨t1, t2⟩ := h.tt.gkeep f.stay (fun j hj hF => h.fo j hj (.inr hF))
  obtain ⟨u1, u2⟩ := h.uu.keep f.stay (fun j hj hF => h.ou j (.inr hF) hj)
  obtain ⟨p1, p2⟩ := h.pp.keep f.stay (fun j hj hF => h.op j (.inr hF) hj)
  have loc : ∀ j, Gb W' o ko j → Gb W o ko j ∨ W.heap.size ≤ j := fun j hj => by
    rcases hj with e | e
    · exact .inl (.inl e)
    · exact (f.loc j e).imp .inr id
  exact ⟨t1, hT, u1, p1, fun j h1 h2 => dis_step (fun j a b => h.fo j b a) loc t2 (fun j hj => h.tt.glt j hj) j h2 h1, fun j h1 h2 => h.fu j ((t2 j).1 h1) ((u2 j).1 h2), fun j h1 h2 => h.fp j ((t2 j).1 h1) ((p2 j).1 h2), dis_step h.ou loc u2 (fun j hj => h.uu.ftlt j hj), dis_step h.op loc p2 (fun j hj => h.pp.ftlt j hj), fun j h1 h2 => h.up j ((u2 j).1 h1) ((p2 j).1 h2),
    fun j hj => h.nt j ((t2 j).1 hj), fun j hj => (loc j hj).elim (h.no j) (fun e => Nat.le_trans h.below.size e), fun j hj => h.nu j ((u2 j).1 hj), fun j hj => h.np j ((p2 j).1 hj), h.below.trans (f.stay.toBelow (fun j hj hF => by have := h.no j (.inr hF); omega) h.below.size)⟩
theorem Four.fu' {w W W' : World} {t kt o ko u p : Nat} {r : Int} {X Y X' Y' Z : List Ht} (h : Four w W t kt o ko u p r X Y X' Y') (hT : RTp 69 W' u r Z) (f : FrR u W W') : Four w W' t kt o ko u p r X Y Z Y' := by
  obtain ⟨t1, t2⟩ := h.tt.gkeep f.stay (fun j hj hF => h.fu j hj hF)
  obtain ⟨o1, o2⟩ := h.oo.gkeep f.stay (fun j hj hF => h.ou j hj hF)
  obtain ⟨p1, p2⟩ := h.pp.keep f.stay (fun j hj hF => h.up j hF hj)
  exact ⟨t1, o1, hT, p1, fun j h1 h2 => h.fo j ((t2 j).1 h1) ((o2 j).1 h2), fun j h1 h2 => dis_step (fun j a b => h.fu j b a) f.loc t2 (fun j hj => h.tt.glt j hj) j h2 h1, fun j h1 h2 => h.fp j ((t2 j).1 h1) ((p2 j).1 h2), fun j h1 h2 => dis_step (fun j a b => h.ou j b a) f.loc o2 (fun j hj => h.oo.glt j hj) j h2 h1, fun j h1 h2 => h.op j ((o2 j).1 h1) ((p2 j).1 h2), dis_step h.up f.loc p2 (fun j hj => h.pp.ftlt j hj),
    fun j hj => h.nt j ((t2 j).1 hj), fun j hj => h.no j ((o2 j).1 hj), fun j hj => (f.loc j hj).elim (h.nu j) (fun e => Nat.le_trans h.below.size e), fun j hj => h.np j ((p2 j).1 hj), h.below.trans (f.stay.toBelow (fun j hj hF => by have := h.nu j hF; omega) h.below.size)⟩
theorem Four.fp' {w W W' : World} {t kt o ko u p : Nat} {r : Int} {X Y X' Y' Z : List Ht} (h : Four w W t kt o ko u p r X Y X' Y') (hT : RTp 69 W' p 2 Z) (f : FrR p W W') : Four w W' t kt o ko u p r X Y X' Z := by
  obtain ⟨t1, t2⟩ := h.tt.gkeep f.stay (fun j hj hF => h.fp j hj hF)
  obtain ⟨o1, o2⟩ := h.oo.gkeep f.stay (fun j hj hF => h.op j hj hF)
  obtain ⟨u1, u2⟩ := h.uu.keep f.stay (fun j hj hF => h.up j hj hF)
  exact ⟨t1, o1, u1, hT, fun j h1 h2 => h.fo j ((t2 j).1 h1) ((o2 j).1 h2), fun j h1 h2 => h.fu j ((t2 j).1 h1) ((u2 j).1 h2), fun j h1 h2 => dis_step (fun j a b => h.fp j b a) f.loc t2 (fun j hj => h.tt.glt j hj) j h2 h1, fun j h1 h2 => h.ou j ((o2 j).1 h1) ((u2 j).1 h2), fun j h1 h2 => dis_step (fun j a b => h.op j b a) f.loc o2 (fun j hj => h.oo.glt j hj) j h2 h1, fun j h1 h2 => dis_step (fun j a b => h.up j b a) f.loc u2 (fun j hj => h.uu.ftlt j hj) j h2 h1,
    fun j hj => h.nt j ((t2 j).1 hj), fun j hj => h.no j ((o2 j).1 hj), fun j hj => h.nu j ((u2 j).1 hj), fun j hj => (f.loc j hj).elim (h.np j) (fun e => Nat.le_trans h.below.size e), h.below.trans (f.stay.toBelow (fun j hj hF => by have := h.np j hF; omega) h.below.size)⟩
theorem Four.more {w W W' : World} {t kt o ko u p : Nat} {r : Int} {X Y X' Y' : List Ht} (h : Four w W t kt o ko u p r X Y X' Y') (b : Below W.heap.size W W') : Four w W' t kt o ko u p r X Y X' Y' := h.ft (h.tt.below b).1 (h.tt.2.frk b)
end Go.Proofs.Ytnhihpekdimbbaa
