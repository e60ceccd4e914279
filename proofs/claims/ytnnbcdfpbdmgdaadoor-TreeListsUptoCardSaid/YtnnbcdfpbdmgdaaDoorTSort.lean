/-
  DERIVED. Steps that wait: the last ones are sorted, the furthest first.
-/
import Derived.Test.YtnnbcdfpbdmgdaaDoorTHits
import Derived.Test.YtnnbcdfpbdmgdaaDoorSortS
import Derived.Shelf.SlSortCmp.NoneTotal
set_option linter.unusedVariables false
set_option linter.unusedSimpArgs false
namespace Go.Proofs.YtnnbcdfpbdmgdaaDoor
open Go.RowKit Go.Shelf Go.Lib Go.Maps Go.Sort Go.Proofs.BitMath Go.Proofs.TreeMath
/-- A step's cells. -/
def stV (bs : List Nat) (s : St) : List Value := [ptr bs (some s.node), .int .i64 (s.edge : Nat), .int .i64 (s.par : Nat)]
theorem stV_len (bs : List Nat) (s : St) : (stV bs s).length = 3 := rfl
theorem stV_one (bs : List Nat) (s : St) : ∀ u ∈ stV bs s, u.oneCell' = true := fun u hu => by
  simp [stV, ptr] at hu
  rcases hu with rfl | rfl | rfl <;> rfl
theorem stV_flat (bs : List Nat) (l : List St) : (l.flatMap (stV bs)).length = l.length * 3 := by
  induction l with
  | nil => rfl
  | cons a l ih => rw [List.flatMap_cons, List.length_append, ih, stV_len, List.length_cons]; omega
def cpS (a b : St) : Int := compareInt b.edge a.edge
theorem cpS_lt (a b : St) : ltOf cpS a b = decide (b.edge < a.edge) := by
  unfold ltOf cpS compareInt
  by_cases h : b.edge < a.edge
  · rw [if_pos (by omega)]; simp [h]
  · rw [if_neg (by omega)]
    split <;> simp [h]
theorem swoS : SWO (ltOf cpS) := ⟨fun x => by rw [cpS_lt]; simp, fun x y z h1 h2 => by rw [cpS_lt] at *; simp at *; omega, fun x y z h1 h2 => by rw [cpS_lt] at *; simp at *; omega⟩
set_option maxHeartbeats 1000000 in
theorem cmpS_any (bs : List Nat) (a b : St) (w : World) :
    Calls Tryd.prog 68 #[.agg (stV bs a).toArray, .agg (stV bs b).toArray] w fun r w' => r = .returned (.int .i64 (cpS a b)) ∧ w' = (w.alloc (.cells (stV bs a).toArray 91)).alloc (.cells (stV bs b).toArray 91) := by
  have k1 := fun W => Tryd.cmp_Compare_int (b.edge : Int) (a.edge : Int) W
  unfold cpS
  simp only [stV, ptr]
  go_enter Tryd.func68, Tryd.ntmps68
  go_wp2_with (go_at_call 69; refine (k1 _).mono ?_; rintro e w' ⟨rfl, rfl⟩)
  go_ret
  exact ⟨rfl, rfl⟩
theorem cmpS_lays [Inhabited St] (bs : List Nat) (b off : Nat) (w : World) (n : Nat) : CmpLays Tryd.prog 68 #[] (stV bs) 3 cpS b off n w := fun m os dk hs x y => (cmpS_any bs x y _).mono fun r w' ⟨e, e2⟩ => ⟨e, 0, #[.cells (stV bs x).toArray 91, .cells (stV bs y).toArray 91], by
  subst e2
  show _ = grow _ _
  unfold grow World.alloc
  simp [World.drewN]
  apply Array.ext'
  simp⟩
theorem sw_heap' {α : Type} [Inhabited α] (enc : α → Value) (w : World) (blk off m : Nat) (d : Array α) (os : Array Obj) (k : Nat) (hk : k < w.heap.size) (hne : k ≠ blk) : (sortWorld enc w blk off m d os).heap[k]? = w.heap[k]? := by
  unfold sortWorld grow putRow mapBlock Sort.ahead
  show ((w.heap.modify blk _) ++ os)[k]? = _
  rw [Array.getElem?_append_left (by simpa using hk), Array.getElem?_modify, if_neg (fun h => hne h.symm)]
theorem sw_row' {α : Type} [Inhabited α] (enc : α → Value) (w : World) (blk off m : Nat) (d : Array α) (os : Array Obj) {cur : Array Value} {t : TypeId} {fr : Nat × Nat} (h : w.heap[blk]? = some (.cells cur t fr)) : (sortWorld enc w blk off m d os).heap[blk]? = some (.cells (putCells enc off d cur) t fr) := by
  unfold sortWorld grow putRow mapBlock Sort.ahead
  show ((w.heap.modify blk _) ++ os)[blk]? = _
  rw [Array.getElem?_append_left (by simpa using (Array.getElem?_eq_some_iff.1 h).1), Array.getElem?_modify, if_pos rfl, h]
  rfl
theorem sw_stay' {α : Type} [Inhabited α] (enc : α → Value) (w : World) (blk off m : Nat) (d : Array α) (os : Array Obj) : Stay (fun k => k = blk) w (sortWorld enc w blk off m d os) :=
  ⟨rfl, rfl, rfl, by
    unfold sortWorld grow putRow mapBlock Sort.ahead
    show _ ≤ ((w.heap.modify blk _) ++ os).size
    simp, fun k hk hne => sw_heap' enc w blk off m d os k hk hne⟩
theorem st_at (bs : List Nat) : ∀ (l : List St) (i j : Nat) (hi : i < l.length), j < 3 → (l.flatMap (stV bs))[i * 3 + j]? = (stV bs l[i])[j]?
  | x :: l, 0, j, hi, hj => by rw [List.flatMap_cons, Nat.zero_mul, Nat.zero_add, List.getElem?_append_left (by rw [stV_len]; exact hj)]; rfl
  | x :: l, i + 1, j, hi, hj => by
    have := st_at bs l i j (by simpa using hi) hj
    rw [List.flatMap_cons, List.getElem?_append_right (by rw [stV_len]; omega), stV_len]
    rw [show (i + 1) * 3 + j - 3 = i * 3 + j from by omega, this]; rfl
theorem flatS_list [Inhabited St] (bs : List Nat) (d : Array St) : (flatK (stV bs) 3 d).toList = d.toList.flatMap (stV bs) := by
  apply List.ext_getElem?
  intro t
  by_cases ht : t < d.size * 3
  · have h1 : t / 3 < d.toList.length := by simp; omega
    have h2 := st_at bs d.toList (t / 3) (t % 3) h1 (by omega)
    have h3 : t / 3 * 3 + t % 3 = t := by omega
    rw [h3] at h2
    rw [h2]
    have h4 := get_flatK (stV bs) 3 d t ht
    have h5 : t < (flatK (stV bs) 3 d).size := by rw [size_flatK]; exact ht
    rw [getElem!_pos _ t h5, getElem!_pos d (t / 3) (by simpa using h1)] at h4
    rw [Array.getElem?_toList, Array.getElem?_eq_getElem h5, h4]
    have h6 : t % 3 < (stV bs d[t / 3]).length := by rw [stV_len]; omega
    rw [getElem!_pos _ (t % 3) h6]
    simp
  · rw [List.getElem?_eq_none (by simp; omega), List.getElem?_eq_none (by rw [stV_flat]; simp; omega)]
set_option maxHeartbeats 1000000 in
/-- The last ones of a row are sorted. -/
theorem sort_steps (bs : List Nat) (L K : List St) (B g cap : Nat) (w : World) (h : w.ownsRow B 91 3 (.slice (some ⟨g, 0, none⟩) (L ++ K).length cap) (L ++ K).length ((L ++ K).flatMap (stV bs))) (hl : (L ++ K).length ≤ 4398046511104) (c2 : Nat) :
    Calls Tryd.prog 67 #[.slice (some ⟨g, L.length * 3, none⟩) K.length c2, .func (.func 68) #[] #[]] w fun r w' => r = .returned (.tuple #[]) ∧ ∃ K', K'.Perm K ∧ K'.Pairwise (fun a b => b.edge ≤ a.edge) ∧ w'.ownsRow B 91 3 (.slice (some ⟨g, 0, none⟩) (L ++ K).length cap) (L ++ K).length ((L ++ K').flatMap (stV bs)) ∧ Stay (fun k => k = g) w w' := by
  haveI : Inhabited St := ⟨⟨0, 0, 0⟩⟩
  have hlt : (L ++ K).length = L.length + K.length := List.length_append
  rcases h.2 with ⟨h0, _⟩ | ⟨g', cap', cur, hv, hbase, k2, k3, k4, k5, k6⟩
  · simp at h0
  simp only [Value.slice.injEq, Option.some.injEq, Addr.mk.injEq] at hv
  obtain ⟨⟨rfl, -, -⟩, -, rfl⟩ := hv
  let d : Array St := K.toArray
  have hds : d.size = K.length := by simp [d]
  have hdl : d.toList = K := by simp [d]
  have hcell : ∀ j, j < (L ++ K).length * 3 → w.cell? ⟨g, j, none⟩ = ((L ++ K).flatMap (stV bs))[j]? := fun j hj => by
    rw [← k6, List.getElem?_take_of_lt hj]
    simp [World.cell?, k2]
  have hH : HoldsK (stV bs) 3 w g (L.length * 3) d := fun j hj => by
    have hfl := flatS_list bs d
    rw [hdl] at hfl
    rw [size_flatK, hds] at hj
    have hj2 : j < (flatK (stV bs) 3 d).size := by rw [size_flatK, hds]; exact hj
    refine ⟨?_, by simp [World.frozen?, k2]⟩
    rw [hcell (L.length * 3 + j) (by omega), List.flatMap_append, List.getElem?_append_right (by rw [stV_flat]; omega), stV_flat, Nat.add_sub_cancel_left, ← hfl, Array.getElem?_toList, getElem!_pos _ j hj2, Array.getElem?_eq_getElem hj2]
    rfl
  have hblk : g < w.heap.size := (Array.getElem?_eq_some_iff.1 k2).1
  have hc := AnyQ.slices_SortFunc (P := Tryd.prog) Tryd.sortL 3 (fun w => by kernel_rfl) (fun w => by kernel_rfl) (stV bs) (stV_len bs) (stV_one bs) cpS swoS 68 #[] g (L.length * 3) c2 d w (fun args W => by kernel_rfl) (cmpS_lays bs g (L.length * 3) w d.size) hH hblk (by rw [hds]; omega)
  rw [hds] at hc
  refine hc.mono ?_
  rintro r w' ⟨rfl, d', n, os, hpm, hsrt, rfl⟩
  have hsz : d'.size = K.length := hpm.1.trans hds
  have hperm : d'.toList.Perm K := by
    have h1 := hpm.2.2
    have e1 : d'.extract 0 K.length = d' := by rw [← hsz]; simp
    have e2 : d.extract 0 K.length = d := by rw [← hds]; simp
    rw [e1, e2, hdl] at h1
    exact h1
  refine ⟨rfl, d'.toList, hperm, ?_, ?_, Stay.mono (sw_stay' id w g (L.length * 3) n (flatK (stV bs) 3 d') os) (fun k _ e => e)⟩
  · rw [List.pairwise_iff_getElem]
    intro i j hi hj hij
    have hj' : j < d'.size := by simpa using hj
    have := hsrt i j (Nat.zero_le _) hij (by rw [← hsz]; exact hj')
    rw [getElem!_pos d' i (by omega), getElem!_pos d' j hj', cpS_lt] at this
    simpa using this
  · have hpl : d'.toList.length = K.length := by simpa using hsz
    refine ⟨by rw [stV_flat, List.length_append, hpl, hlt], .inr ⟨g, cap, putCells id (L.length * 3) (flatK (stV bs) 3 d') cur, rfl, hbase, sw_row' id w g (L.length * 3) n (flatK (stV bs) 3 d') os k2, k3, k4, by simp [putCells, k5], ?_⟩⟩
    have hfl := flatS_list bs d'
    have hfs : (flatK (stV bs) 3 d').size = K.length * 3 := by rw [size_flatK, hsz]
    apply List.ext_getElem?
    intro t
    by_cases ht : t < (L ++ K).length * 3
    · have htc : t < cur.size := by rw [k5]; omega
      rw [List.getElem?_take_of_lt ht]
      simp only [putCells, Array.toList_mapIdx, List.getElem?_mapIdx]
      rw [Array.getElem?_toList, Array.getElem?_eq_getElem htc]
      simp only [Option.map_some]
      rw [List.flatMap_append]
      by_cases h5 : L.length * 3 ≤ t
      · have h6 : t - L.length * 3 < (flatK (stV bs) 3 d').size := by rw [hfs]; omega
        rw [if_pos ⟨h5, by rw [hfs]; omega⟩, List.getElem?_append_right (by rw [stV_flat]; exact h5), stV_flat, ← hfl, Array.getElem?_toList, Array.getElem?_eq_getElem h6, getElem!_pos (flatK (stV bs) 3 d') (t - L.length * 3) h6]
        rfl
      · rw [if_neg (fun h => h5 h.1), List.getElem?_append_left (by rw [stV_flat]; omega)]
        have h7 : (cur.toList.take ((L ++ K).length * 3))[t]? = ((L ++ K).flatMap (stV bs))[t]? := by rw [k6]
        rw [List.getElem?_take_of_lt ht, List.flatMap_append, List.getElem?_append_left (by rw [stV_flat]; omega)] at h7
        rw [← h7, Array.getElem?_toList, Array.getElem?_eq_getElem htc]
    · rw [List.getElem?_eq_none (by rw [List.length_take]; omega), List.getElem?_eq_none (by rw [stV_flat, List.length_append, hpl]; omega)]
end Go.Proofs.YtnnbcdfpbdmgdaaDoor
