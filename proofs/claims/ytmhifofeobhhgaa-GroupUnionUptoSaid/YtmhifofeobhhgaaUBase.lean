/-
  DERIVED. Rows of numbers, a map from numbers to numbers, a union in memory: the program's and the document's.
-/
import Derived.Test.YtmhifofeobhhgaaZRow
import Derived.Test.YtmhifofeobhhgaaUMath
import Derived.Maps.OwnOps
import Derived.Maps.OwnSet
import Derived.Maps.Views
set_option linter.unusedVariables false
set_option linter.unusedSimpArgs false
namespace Go.Proofs.Ytmhifofeobhhgaa
open Go.RowKit Go.Maps Go.ChangeMaps Go.MapKept Go.WideShapes Go.Proofs.UnionMath
/-- Numbers in a row. -/
def iE : El Int := { ty := 3, sl := 22, ll := 0, sz := 1, by' := 8, z := .int .i64 0, f := fun z => [.int .i64 z] }
theorem iOk : iE.Ok Try.prog := ⟨fun _ => rfl, fun x u hu => by simp [iE] at hu; subst hu; rfl, by decide, rfl, by decide, by kernel_rfl, by kernel_rfl⟩
theorem iCells (l : List Int) : l.flatMap iE.f = l.map (fun z => Value.int .i64 z) := by
  induction l with
  | nil => rfl
  | cons x l ih => rw [List.flatMap_cons, List.map_cons, ih]; rfl
/-- A number of a row. -/
theorem i_cell {W : World} {v : Value} {X : List Int} (h : iE.Row W v X) (i : Nat) (hi : i < X.length) : ∃ g cap, v = .slice (some ⟨g, 0, none⟩) X.length cap ∧ W.cell? ⟨g, i, none⟩ = some (.int .i64 X[i]) ∧ W.frozen? ⟨g, i, none⟩ = false := by
  obtain ⟨g, cap, e, hc, hf⟩ := El.cells iOk h i hi
  refine ⟨g, cap, e, ?_, hf i⟩
  have := hc 0 (.int .i64 X[i]) rfl
  simpa [iE] using this
theorem i_cell' {W : World} {g n cap : Nat} {X : List Int} (h : iE.Row W (.slice (some ⟨g, 0, none⟩) n cap) X) (i : Nat) (hi : i < X.length) : W.cell? ⟨g, i, none⟩ = some (.int .i64 X[i]) ∧ W.frozen? ⟨g, i, none⟩ = false := by
  obtain ⟨g', cap', e, hc⟩ := i_cell h i hi
  cases e
  exact hc
theorem i_set {W : World} {g cap n : Nat} {X : List Int} (h : iE.Row W (.slice (some ⟨g, 0, none⟩) n cap) X) (hn : n = X.length) (i : Nat) (hi : i < X.length) (x : Int) : iE.Row (W.setCell ⟨g, i, none⟩ (.int .i64 x)) (.slice (some ⟨g, 0, none⟩) n cap) (X.set i x) := by
  have := El.set iOk h hn i hi x
  simpa [iE, putL] using this
theorem i_len {W : World} {g cap n : Nat} {X : List Int} (h : iE.Row W (.slice (some ⟨g, 0, none⟩) n cap) X) : n = X.length := by
  obtain ⟨a, c, e, _⟩ := h.form
  cases e; rfl
/-! a map from numbers to numbers -/
theorem law3 : Keyed Try.prog 3 := int_keyed Try.underlying3
theorem zero3 (w : World) : (zeroValue 3).run Try.prog w = .ok (.int .i64 0) w := by kernel_rfl
abbrev I64 (n : Int) : Prop := -9223372036854775808 ≤ n ∧ n ≤ 9223372036854775807
theorem wf_i64 {n : Int} (h : I64 n) : (Lit.int .i64 n).wf = true := by
  have e1 : IntKind.i64.min = -9223372036854775808 := rfl
  have e2 : IntKind.i64.max = 9223372036854775807 := rfl
  simp [Lit.wf, e1, e2]
  omega
abbrev iD (n : Int) : DataW Unit := .lit (.int .i64 n)
def iOf : DataW Unit → Int
  | .lit (.int _ n) => n
  | _ => 0
/-- The map in block mb is this function. -/
structure IM (W : World) (mb n : Nat) (f : Int → Option Int) : Prop where
  ex : ∃ D : DataW Unit, W.ownsMap Try.prog 3 (plainElem Try.prog 3) mb n D ∧ ∀ z, I64 z → Maps.has D (.int .i64 z) = (f z).isSome ∧ ∀ v, f z = some v → D.atKey (.int .i64 z) (iD 0) = iD v
theorem IM.lt {W : World} {mb n : Nat} {f : Int → Option Int} (h : IM W mb n f) : mb < W.heap.size := by
  obtain ⟨D, h1, _⟩ := h.ex
  exact h1.lt
theorem IM.kept {W W' : World} {mb n : Nat} {f : Int → Option Int} {F : Nat → Prop} (h : IM W mb n f) (s : Stay F W W') (hF : ¬ F mb) : IM W' mb n f := by
  have hl := h.lt
  obtain ⟨D, ⟨es, clock, hb, r⟩, h2⟩ := h.ex
  exact ⟨D, ⟨es, clock, (s.block mb hl hF).trans hb, r⟩, h2⟩
theorem IM.isMap {W : World} {mb n : Nat} {f : Int → Option Int} (h : IM W mb n f) : ∃ es c, W.heap[mb]? = some (.map es c) := by
  obtain ⟨D, ⟨es, clock, hb, r⟩, h2⟩ := h.ex
  exact ⟨es, clock, hb⟩
theorem IM.made (W : World) : IM (W.alloc (.map #[] 0)) W.heap.size 0 (fun _ => none) := ⟨_, World.ownsMap_made (H := Unit) W Try.prog 3 (plainElem Try.prog 3), fun z _ => ⟨by simp [Maps.has_eq], fun v h => by cases h⟩⟩
theorem IM.look {W : World} {mb n : Nat} {f : Int → Option Int} (h : IM W mb n f) {z : Int} (hz : I64 z) : (Instr.lookup 41 (.map (some mb)) (.int .i64 z) true).run Try.prog W = .ok (.tuple #[.int .i64 ((f z).getD 0), .bool (f z).isSome]) W := by
  obtain ⟨D, h1, h2⟩ := h.ex
  obtain ⟨g1, g2⟩ := h2 z hz
  obtain ⟨v, ps, hr, hv⟩ := h1.look_ok law3 Try.underlying41 (zero3 W) (plainElem_int (H := Unit) Try.underlying3 (show (Lit.int .i64 0).wf = true by decide)) (keyOf_int_mk Try.underlying3 (wf_i64 hz))
  obtain ⟨c, rfl, hc, hwc⟩ := plainElem_int_inv Try.underlying3 hv
  rw [hr, g1]
  cases hf : f z with
  | none =>
    have hn : Maps.has D (.int .i64 z) = false := by rw [g1, hf]; rfl
    rw [Maps.atKey_of_not_has hn] at hc
    have : (0 : Int) = c := congrArg iOf (congrArg Prod.fst hc)
    rw [← this]; rfl
  | some v =>
    rw [g2 v hf] at hc
    have : v = c := congrArg iOf (congrArg Prod.fst hc)
    rw [← this]; rfl
theorem IM.look1 {W : World} {mb n : Nat} {f : Int → Option Int} (h : IM W mb n f) {z : Int} (hz : I64 z) : (Instr.lookup 41 (.map (some mb)) (.int .i64 z) false).run Try.prog W = .ok (.int .i64 ((f z).getD 0)) W := by
  obtain ⟨D, h1, h2⟩ := h.ex
  obtain ⟨g1, g2⟩ := h2 z hz
  obtain ⟨k, e1, e2, -⟩ := h1.lookup_int law3 Try.underlying41 Try.underlying3 (zero3 _) (keyOf_int_mk Try.underlying3 (wf_i64 hz))
  rw [e1]
  cases hf : f z with
  | none =>
    have hn : Maps.has D (.int .i64 z) = false := by rw [g1, hf]; rfl
    rw [Maps.atKey_of_not_has hn] at e2
    have : (0 : Int) = k := congrArg iOf e2
    rw [← this]; rfl
  | some v =>
    rw [g2 v hf] at e2
    have : v = k := congrArg iOf e2
    rw [← this]; rfl
theorem IM.put {W : World} {mb n : Nat} {f : Int → Option Int} (h : IM W mb n f) {z v : Int} (hz : I64 z) (hv : I64 v) (hn : n < maxLen) :
    ∃ W', (Instr.mapUpdate 41 (.map (some mb)) (.int .i64 z) (.int .i64 v)).run Try.prog W = .ok () W' ∧ IM W' mb (n + 1) (fun y => if y = z then some v else f y) ∧ Stay (fun k => k = mb) W W' ∧ W'.heap.size = W.heap.size := by
  obtain ⟨D, h1, h2⟩ := h.ex
  obtain ⟨W', hr, ho, ht⟩ := h1.store law3 Try.underlying41 hn (keyOf_int_mk Try.underlying3 (wf_i64 hz)) (plainElem_int (H := Unit) Try.underlying3 (wf_i64 hv))
  have hsz : W'.heap.size = W.heap.size := by
    obtain ⟨es, cl, es', cl', hb, rfl⟩ := ht
    simp [setBlock]
  refine ⟨W', hr, ⟨_, ho, fun y hy => ?_⟩, .grown ht.grown (fun k e => by cases e; rfl), hsz⟩
  by_cases e : y = z
  · subst e
    rw [Maps.has_put_same h1.isMap (by trivial), Maps.atKey_put_same h1.isMap (by trivial)]
    simp
  · have e' : (Lit.int .i64 y) ≠ .int .i64 z := fun h => by injection h with _ h; exact e h
    rw [Maps.has_put_other e', Maps.atKey_put_other e', if_neg e]
    exact h2 y hy
/-! the program's union -/
/-- Where an id stands. -/
def plc (S : List Int) (z : Int) : Option Int := (S.idxOf? z).map (fun k => (k : Int))
def aL (n : Nat) (A : Nat → Nat) : List Int := (List.range n).map (fun k => (A k : Int))
theorem aL_len (n : Nat) (A : Nat → Nat) : (aL n A).length = n := by simp [aL]
theorem aL_get (n : Nat) (A : Nat → Nat) (i : Nat) (h : i < (aL n A).length) : (aL n A)[i] = (A i : Int) := by simp [aL]
theorem aL_set (n : Nat) (A : Nat → Nat) (i x : Nat) : (aL n A).set i (x : Int) = aL n (upd A i x) := by
  apply List.ext_getElem
  · simp [aL]
  · intro k h1 h2
    rw [List.getElem_set, aL_get n (upd A i x) k h2]
    by_cases e : i = k
    · subst e; rw [if_pos rfl, upd_same]
    · rw [if_neg e, aL_get, upd_other _ (fun h => e h.symm)]
/-- What is known of a list of ids: rising, in bounds. -/
structure Ids (S : List Int) : Prop where
  up : S.Pairwise (· < ·)
  lo : ∀ z ∈ S, 0 ≤ z ∧ z ≤ 281474976710656
  few : S.length ≤ 1048576
theorem Ids.i64 {S : List Int} (h : Ids S) {z : Int} (hz : z ∈ S) : I64 z := by have := h.lo z hz; constructor <;> omega
/-- A union in memory: its ids S, the first of each group R. -/
structure PU (w : World) (p mb ag : Nat) (iv : Value) (S : List Int) (R : Nat → Nat) : Prop where
  ids : Ids S
  box : w.heap[p]? = some (.cells #[iv, .map (some mb), .slice (some ⟨ag, 0, none⟩) S.length S.length] 48 (0, 0))
  row : iE.Row w iv S
  map : ∃ n, IM w mb n (plc S)
  abv : ∃ A, iE.Row w (.slice (some ⟨ag, 0, none⟩) S.length S.length) (aL S.length A) ∧ Up S.length A R
  ap : iv.ownBlock ≠ some ag
theorem PU.cells {w : World} {p mb ag : Nat} {iv : Value} {S : List Int} {R : Nat → Nat} (h : PU w p mb ag iv S R) : w.cell? ⟨p, 0, none⟩ = some iv ∧ w.cell? ⟨p, 1, none⟩ = some (.map (some mb)) ∧ w.cell? ⟨p, 2, none⟩ = some (.slice (some ⟨ag, 0, none⟩) S.length S.length) := by
  have hb := h.box
  refine ⟨?_, ?_, ?_⟩ <;> simp [World.cell?, hb]
theorem PU.agb {w : World} {p mb ag : Nat} {iv : Value} {S : List Int} {R : Nat → Nat} (h : PU w p mb ag iv S R) : ∃ cur, w.heap[ag]? = some (.cells cur 3 (0, 0)) := by
  obtain ⟨A, hr, -⟩ := h.abv
  exact row_block hr rfl
theorem PU.kept {w w' : World} {p mb ag : Nat} {iv : Value} {S : List Int} {R : Nat → Nat} {F : Nat → Prop} (h : PU w p mb ag iv S R) (s : Stay F w w') (h1 : ¬ F p) (h2 : ¬ F mb) (h3 : ¬ F ag) (h4 : ∀ k, iv.ownBlock = some k → ¬ F k) : PU w' p mb ag iv S R := by
  obtain ⟨A, hr, hU⟩ := h.abv
  obtain ⟨n, hm⟩ := h.map
  have hb := h.box
  exact ⟨h.ids, (s.block p (Array.getElem?_eq_some_iff.1 hb).1 h1).trans hb, row_kept h.row s h4, ⟨n, hm.kept s h2⟩, ⟨A, row_kept hr s (fun k hk => by cases hk; exact h3), hU⟩, h.ap⟩
theorem PU.below {w w' : World} {p mb ag : Nat} {iv : Value} {S : List Int} {R : Nat → Nat} (h : PU w p mb ag iv S R) (b : Below w.heap.size w w') : PU w' p mb ag iv S R := h.kept (F := fun _ => False) (.below b) (fun h => h) (fun h => h) (fun h => h) (fun _ _ h => h)
theorem PU.drew {w : World} {p mb ag : Nat} {iv : Value} {S : List Int} {R : Nat → Nat} (h : PU w p mb ag iv S R) : PU w.drew p mb ag iv S R := h.below (b_drew w)
/-- The ways alone are written. -/
theorem PU.abv' {w w' : World} {p mb ag : Nat} {iv : Value} {S : List Int} {R R' : Nat → Nat} {A : Nat → Nat} (h : PU w p mb ag iv S R) (s : Stay (fun k => k = ag) w w') (hr : iE.Row w' (.slice (some ⟨ag, 0, none⟩) S.length S.length) (aL S.length A)) (hU : Up S.length A R') : PU w' p mb ag iv S R' := by
  obtain ⟨n, hm⟩ := h.map
  obtain ⟨cur, hc⟩ := h.agb
  have hb := h.box
  obtain ⟨es, c, hmb⟩ := hm.isMap
  have n1 : ¬ p = ag := fun e => by rw [e, hc] at hb; injection hb with hb; injection hb with _ hb; revert hb; decide
  have n2 : ¬ mb = ag := fun e => by rw [e, hc] at hmb; cases hmb
  exact ⟨h.ids, (s.block p (Array.getElem?_eq_some_iff.1 hb).1 n1).trans hb, row_kept h.row s (fun k hk e => h.ap (by rw [hk, e])), ⟨n, hm.kept s n2⟩, ⟨A, hr, hU⟩, h.ap⟩
theorem plc_some {S : List Int} {k : Nat} (h : S.Pairwise (· < ·)) (hk : k < S.length) : plc S S[k] = some (k : Int) := by
  unfold plc
  have : S.idxOf? S[k] = some k := by
    rw [List.idxOf?, List.findIdx?_eq_some_iff_getElem]
    refine ⟨hk, by simp, fun j hj => ?_⟩
    have := List.pairwise_iff_getElem.1 h j k (by omega) hk hj
    simp; omega
  rw [this]; rfl
theorem plc_none {S : List Int} {z : Int} (h : z ∉ S) : plc S z = none := by
  unfold plc
  have : S.idxOf? z = none := by
    rw [List.idxOf?, List.findIdx?_eq_none_iff]
    intro x hx; simp; exact fun e => h (e ▸ hx)
  rw [this]; rfl
end Go.Proofs.Ytmhifofeobhhgaa
