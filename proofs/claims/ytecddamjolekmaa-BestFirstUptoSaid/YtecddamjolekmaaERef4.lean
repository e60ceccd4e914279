/-
  DERIVED. The document's own tops and balls.
-/
import Derived.Test.YtecddamjolekmaaERef3
set_option linter.unusedVariables false
set_option linter.unusedSimpArgs false
namespace Go.Proofs.Ytecddamjolekmaa
open Go.RowKit
/-- A struct of the document's: a number and a list. -/
def RAt (T : TypeId) (W : World) (t : Nat) (k : Int) (v : Value) : Prop := W.heap[t]? = some (.cells #[.int .i64 k, v] T (0, 0))
theorem RAt.cells {T : TypeId} {W : World} {t : Nat} {k : Int} {v : Value} (h : RAt T W t k v) : W.cell? ⟨t, 0, none⟩ = some (.int .i64 k) ∧ W.cell? ⟨t, 1, none⟩ = some v ∧ ∀ j, W.frozen? ⟨t, j, none⟩ = false :=
  ⟨by rw [cell_of_row _ _ 0 _ _ (0, 0) h]; rfl, by rw [cell_of_row _ _ 1 _ _ (0, 0) h]; rfl, fun j => frozen_of_row _ _ _ _ _ h⟩
theorem RAt.lt {T : TypeId} {W : World} {t : Nat} {k : Int} {v : Value} (h : RAt T W t k v) : t < W.heap.size := (Array.getElem?_eq_some_iff.1 h).1
theorem RAt.set {T : TypeId} {W : World} {t : Nat} {k : Int} {v : Value} (h : RAt T W t k v) (v' : Value) : RAt T (W.setCell ⟨t, 1, none⟩ v') t k v' := by
  unfold RAt
  rw [heap_setCell_same W t 1 _ _ _ h]; rfl
/-- All hits that were handed in, in order. -/
structure RTp (T : TypeId) (W : World) (t : Nat) (k : Int) (X : List Ht) : Prop where
  at' : ∃ v, RAt T W t k v ∧ HRow W v X ∧ v.ownBlock ≠ some t
  srt : Srt X
  fit : ∀ x ∈ X, HtW x
/-- What it may write. -/
def RFt (W : World) (t j : Nat) : Prop := j = t ∨ ∃ v, W.cell? ⟨t, 1, none⟩ = some v ∧ v.ownBlock = some j
structure FrR (t : Nat) (A B : World) : Prop where
  stay : Stay (RFt A t) A B
  loc : ∀ k, RFt B t k → RFt A t k ∨ A.heap.size ≤ k
theorem RTp.below {T : TypeId} {W W' : World} {t : Nat} {k : Int} {X : List Ht} (h : RTp T W t k X) (b : Below W.heap.size W W') : RTp T W' t k X ∧ ∀ j, RFt W' t j ↔ RFt W t j := by
  obtain ⟨v, h1, h2, h3⟩ := h.at'
  have h1' : RAt T W' t k v := (b.block t h1.lt).trans h1
  exact ⟨⟨⟨v, h1', HRow.below h2 b, h3⟩, h.srt, h.fit⟩, fun j => by unfold RFt; rw [h1'.cells.2.1, h1.cells.2.1]⟩
theorem RTp.frr {T : TypeId} {W W' : World} {t : Nat} {k : Int} {X : List Ht} (h : RTp T W t k X) (b : Below W.heap.size W W') : FrR t W W' := ⟨.below b, fun j hj => .inl (((h.below b).2 j).1 hj)⟩
theorem FrR.trans {t : Nat} {A B C : World} (h : FrR t A B) (k : FrR t B C) : FrR t A C :=
  ⟨h.stay.andThen k.stay (fun i hi hB => (h.loc i hB).resolve_right (by omega)), fun i hC => by
    rcases k.loc i hC with h1 | h1
    · exact h.loc i h1
    · exact .inr (Nat.le_trans h.stay.size h1)⟩
set_option maxRecDepth 100000 in
theorem rnewTop_any (k : Nat) (hk : k ≤ 4096) (w : World) : Calls Try.prog 11 #[.int .i64 k] w fun r w' => ∃ t, r = .returned (.tuple #[Pk t, .int .i64 0]) ∧ RTp 45 w' t k [] ∧ (∀ j, RFt w' t j → w.heap.size ≤ j) ∧ Below w.heap.size w w' := by
  have h1 : ¬ (k : Int) < 0 := by omega
  have h2 : ¬ (4096 : Int) < (k : Int) := by omega
  go_enter Try.func11, Try.ntmps11
  go_wp2
  go_ret2
  have b3 := (Below.refl w.heap.size w).alloc (Nat.le_refl _) (.cells #[.int .i64 k, .slice none 0 0] 45)
  have ha : RAt 45 (w.alloc (.cells #[.int .i64 k, .slice none 0 0] 45)) w.heap.size k (.slice none 0 0) := heap_alloc_last w _
  exact ⟨w.heap.size, rfl, ⟨⟨_, ha, ⟨rfl, .inl ⟨rfl, rfl⟩⟩, fun e => by cases e⟩, by simp [Srt], fun x hx => by simp at hx⟩, (fun j hj => by
    rcases hj with e | ⟨v, e1, e2⟩
    · omega
    · rw [ha.cells.2.1] at e1; cases e1; cases e2), b3⟩
/-- Behind a Put that is stored. -/
theorem put_store {T : TypeId} {w W W' : World} {t : Nat} {k : Int} {v v' : Value} {X : List Ht} {h : Ht} (hT : RTp T w t k X) (hv : RAt T w t k v) (hW : Below w.heap.size w W) (hp : PutR W v W' v' h X) (hh : HtW h) (hr : HRow w v X) (hne : v.ownBlock ≠ some t) :
    RTp T (W'.setCell ⟨t, 1, none⟩ v') t k (ins h X) ∧ FrR t w (W'.setCell ⟨t, 1, none⟩ v') := by
  obtain ⟨p1, p2, p3⟩ := hp
  have bW : Below w.heap.size w W' := hW.trans (p3.mono hW.size)
  have hv' : RAt T W' t k v := (bW.block t hv.lt).trans hv
  have hne' : v'.ownBlock ≠ some t := fun e => by
    rcases p2 t e with h1 | h1
    · exact hne h1
    · have := hv.lt; have := hW.size; omega
  have s1 : Stay (fun k => k = t) W' (W'.setCell ⟨t, 1, none⟩ v') := stay_one' _ _ _ _
  refine ⟨⟨⟨v', hv'.set v', row_kept p1 s1 (fun k hk e => hne' (e ▸ hk)), hne'⟩, ins_srt h X hT.srt, fun x hx => ?_⟩, ⟨?_, fun j hj => ?_⟩⟩
  · rcases (ins_mem h x X).1 hx with rfl | hx
    · exact hh
    · exact hT.fit x hx
  · exact (Stay.below bW).trans (s1.mono (fun j _ e => .inl e)) |>.mono (fun j _ e => e)
  · rcases hj with e | ⟨u, e1, e2⟩
    · exact .inl (.inl e)
    · rw [(hv'.set v').cells.2.1] at e1
      cases e1
      rcases p2 j e2 with h1 | h1
      · exact .inl (.inr ⟨v, hv.cells.2.1, h1⟩)
      · exact .inr (Nat.le_trans hW.size h1)
end Go.Proofs.Ytecddamjolekmaa
