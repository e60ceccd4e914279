/-
  DERIVED. Whole numbers in cells: what a block holds, what a store makes of it; small facts on worlds and values.
-/
import Derived.Test.YteiaopjpnfhbgabDoorRows
import Derived.Test.YteiaopjpnfhbgabDoorBin
import Derived.WalkKit
import Derived.WalkSpells
import Derived.WalkLawsBesides
import Derived.Deep.QuietTactic
import Derived.BigQuiet
import Derived.Laws.BitsAllLaws
import Derived.Deep.RegionLaw
import Derived.Deep.MidRow
import Derived.Deep.WholeRow
namespace Go.Proofs.YteiaopjpnfhbgabDoor
open Go.RowKit Go.Proofs.MaskMath
theorem ret2 {a b c d : Value} (h : a = c) (k : b = d) : Ending.returned (.tuple #[a, b]) = .returned (.tuple #[c, d]) := by rw [h, k]
theorem ival {k : IntKind} {a b : Int} (h : a = b) : Value.int k a = .int k b := by rw [h]
theorem ret_int {k : IntKind} {a b : Int} (h : a = b) : Ending.returned (.int k a) = .returned (.int k b) := by rw [h]
theorem ret_bool {a b : Bool} (h : a = b) : Ending.returned (.bool a) = .returned (.bool b) := by rw [h]
theorem chain {B : Nat} {a b c : World} (h : Below B a b) (k : Below b.heap.size b c) (hB : B ≤ a.heap.size) : Below B a c := h.trans (k.mono (Nat.le_trans hB h.size))
theorem addr_ne {a b : Addr} (h : a.block ≠ b.block) : a ≠ b := fun e => h (congrArg Addr.block e)
/-- A number as a cell. -/
abbrev IV (x : Int) : Value := .int .i64 x
/-- The cells of a function. -/
def cellsF (f : Nat → Int) (n : Nat) : List Value := (List.range n).map fun k => IV (f k)
theorem cellsF_len (f : Nat → Int) (n : Nat) : (cellsF f n).length = n := by simp [cellsF]
theorem cellsF_at {f : Nat → Int} {n k : Nat} (h : k < n) : (cellsF f n)[k]? = some (IV (f k)) := by simp [cellsF, h]
theorem cellsF_one (f : Nat → Int) (n : Nat) : ∀ v ∈ cellsF f n, v.oneCell' = true := by
  intro v hv
  simp only [cellsF, List.mem_map] at hv
  obtain ⟨k, _, rfl⟩ := hv
  rfl
theorem cellsF_ext {f g : Nat → Int} {n : Nat} (h : ∀ k, k < n → f k = g k) : cellsF f n = cellsF g n := by
  unfold cellsF
  refine List.map_congr_left fun k hk => ?_
  rw [h k (List.mem_range.1 hk)]
theorem cellsF_part (f : Nat → Int) (N o n : Nat) (h : o + n ≤ N) : (((cellsF f N).drop o).take n) = cellsF (fun k => f (o + k)) n := by
  refine List.ext_getElem? fun k => ?_
  by_cases hk : k < n
  · rw [List.getElem?_take_of_lt hk, List.getElem?_drop, cellsF_at (by omega), cellsF_at hk]
  · rw [List.getElem?_eq_none (by rw [List.length_take]; omega), List.getElem?_eq_none (by rw [cellsF_len]; omega)]
theorem cellsF_size (f : Nat → Int) (n : Nat) : (cellsF f n).toArray.size = n := by simp [cellsF]
theorem cellsF_all (f : Nat → Int) (n : Nat) : (cellsF f n).toArray.all (·.oneCell') = true := all_oneCell_toArray (cellsF_one f n)
/-- One result, in a cell. -/
theorem results_cell1 {fn : Func} {p : Tmp} {ty : TypeId} (h : fn.results = #[.cell p ty]) (tmps : Array Value) (P : Program) (w : World) (a : Addr) (v : Value)
    (hp : tmps.getD p undef = .pointer (some a)) (hl : (loadVar ty a).run P w = .ok v w) : (results fn tmps).run P w = .ok v w := by
  have hp' : tmps[p]?.getD undef = .pointer (some a) := by simpa using hp
  simp [results, h, hp', asAddr, hl]
/-- The first n cells of block g hold these numbers, and may be written. -/
def Arr (W : World) (g n : Nat) (f : Nat → Int) : Prop := ∀ k, k < n → W.cell? ⟨g, k, none⟩ = some (IV (f k)) ∧ W.frozen? ⟨g, k, none⟩ = false
theorem Arr.ext {W : World} {g n : Nat} {f f' : Nat → Int} (h : Arr W g n f) (e : ∀ k, k < n → f k = f' k) : Arr W g n f' := fun k hk => by rw [← e k hk]; exact h k hk
theorem Arr.set {W : World} {g n : Nat} {f : Nat → Int} (h : Arr W g n f) (j : Nat) (x : Int) : Arr (W.setCell ⟨g, j, none⟩ (IV x)) g n (fun k => if k = j then x else f k) := fun k hk => by
  obtain ⟨h1, h2⟩ := h k hk
  refine ⟨?_, by rw [World.frozen?_setCell]; exact h2⟩
  by_cases e : k = j
  · subst e; rw [World.cell?_setCell_same _ _ _ h1]; simp
  · rw [World.cell?_setCell_other _ _ _ _ (fun he => e (by cases he; rfl)), h1]; simp [e]
theorem Arr.other {W : World} {g n : Nat} {f : Nat → Int} (h : Arr W g n f) {a : Addr} (ha : a.block ≠ g) (v : Value) : Arr (W.setCell a v) g n f := fun k hk => by
  obtain ⟨h1, h2⟩ := h k hk
  exact ⟨(World.cell?_setCell_other _ _ _ _ (addr_ne ha)).trans h1, (World.frozen?_setCell _ _ _ _).trans h2⟩
theorem Arr.below {W W' : World} {g B n : Nat} {f : Nat → Int} (h : Arr W g n f) (hb : Below B W W') (hg : g < B) : Arr W' g n f := fun k hk => by
  obtain ⟨h1, h2⟩ := h k hk
  exact ⟨(hb.cell (p := ⟨g, k, none⟩) hg).trans h1, (hb.frozen (p := ⟨g, k, none⟩) hg).trans h2⟩
theorem Arr.drew {W : World} {g n : Nat} {f : Nat → Int} (h : Arr W g n f) : Arr W.drew g n f := h
theorem Arr.lt {W : World} {g n : Nat} {f : Nat → Int} (h : Arr W g n f) (hn : 0 < n) : g < W.heap.size := World.block_lt_of_cell? W _ (h 0 hn).1
theorem Arr.alloc {W : World} {g n : Nat} {f : Nat → Int} (h : Arr W g n f) (o : Obj) : Arr (W.alloc o) g n f := fun k hk => by
  obtain ⟨h1, h2⟩ := h k hk
  have hb := World.block_lt_of_cell? W _ h1
  exact ⟨(World.cell?_alloc_lt _ _ _ hb).trans h1, (World.frozen?_alloc_past _ _ _ hb).trans h2⟩
theorem Arr.new (W : World) (t : TypeId) (f : Nat → Int) (n : Nat) : Arr (W.alloc (.cells (cellsF f n).toArray t)) W.heap.size n f := fun k hk => by
  have hh : (W.alloc (.cells (cellsF f n).toArray t)).heap[W.heap.size]? = some (.cells (cellsF f n).toArray t) := heap_alloc_last W _
  refine ⟨?_, frozen_of_row _ _ _ _ _ hh⟩
  rw [cell_of_row _ _ k _ t (0, 0) hh]
  simpa using cellsF_at hk
theorem Arr.range {W : World} {g n : Nat} {f : Nat → Int} (h : Arr W g n f) (o m : Nat) (hm : o + m ≤ n) : W.rangeAt g o (cellsF (fun k => f (o + k)) m) := fun j v hv => by
  have hj : j < m := by have := (List.getElem?_eq_some_iff.1 hv).1; rwa [cellsF_len] at this
  rw [cellsF_at hj] at hv
  rw [(h (o + j) (by omega)).1]; exact hv
theorem Arr.there {W : World} {g n : Nat} {f : Nat → Int} (h : Arr W g n f) (o m : Nat) (hm : o + m ≤ n) : W.there g o m := fun j hj => by
  obtain ⟨h1, h2⟩ := h (o + j) (by omega)
  exact ⟨by rw [h1]; rfl, h2⟩
theorem Arr.there' {W : World} {g n : Nat} {f : Nat → Int} (h : Arr W g n f) (v : Nat → Int) (o m : Nat) (hm : o + m ≤ n) : W.there g o (cellsF v m).toArray.size := by rw [cellsF_size]; exact h.there o m hm
theorem Arr.load {P : Program} {W : World} {g n : Nat} {f : Nat → Int} (h : Arr W g n f) (o m : Nat) (hm : o + m ≤ n) (ty : TypeId) (d : TypeDesc) (hu : P.underlying ty = some d) (hd : d.isRow = true) (hi : (P.info? ty).map (·.size) = some m) :
    (loadVar ty ⟨g, o, none⟩).run P W = .ok (.agg (cellsF (fun k => f (o + k)) m).toArray) W :=
  run_loadVar_mid W g o ty _ d (h.range o m hm) hu hd (by rw [cellsF_len]; exact hi)
theorem Arr.sets {g n : Nat} : ∀ (m o : Nat) (v f : Nat → Int) (W : World), Arr W g n f → Arr (W.setCells g o (cellsF v m)) g n (fun k => if o ≤ k ∧ k < o + m then v (k - o) else f k)
  | 0, o, v, f, W, h => by
    show Arr W g n _
    exact h.ext fun k _ => by rw [if_neg (by omega)]
  | m + 1, o, v, f, W, h => by
    have e : cellsF v (m + 1) = IV (v 0) :: cellsF (fun k => v (k + 1)) m := by
      unfold cellsF; rw [List.range_succ_eq_map]; simp
    rw [e]
    show Arr ((W.setCell ⟨g, o, none⟩ (IV (v 0))).setCells g (o + 1) (cellsF (fun k => v (k + 1)) m)) g n _
    refine (Arr.sets m (o + 1) (fun k => v (k + 1)) _ _ (h.set o (v 0))).ext fun k _ => ?_
    by_cases h1 : k = o
    · subst h1; rw [if_neg (by omega), if_pos rfl, if_pos (by omega)]; congr 1; omega
    · by_cases h2 : o + 1 ≤ k ∧ k < o + 1 + m
      · rw [if_pos h2, if_pos (by omega)]; congr 1; omega
      · rw [if_neg h2, if_neg h1, if_neg (by omega)]
theorem sets_other {g' n : Nat} {f : Nat → Int} (g : Nat) (hg : g ≠ g') : ∀ (vs : List Value) (o : Nat) (W : World), Arr W g' n f → Arr (W.setCells g o vs) g' n f
  | [], _, _, h => h
  | v :: r, o, _, h => sets_other g hg r (o + 1) _ (h.other hg v)
theorem below_sets {B : Nat} {w : World} (g : Nat) (hg : B ≤ g) : ∀ (vs : List Value) (o : Nat) (W : World), Below B w W → Below B w (W.setCells g o vs)
  | [], _, _, h => h
  | v :: r, o, _, h => below_sets g hg r (o + 1) _ (h.setCell (p := ⟨g, o, none⟩) hg v)
end Go.Proofs.YteiaopjpnfhbgabDoor
