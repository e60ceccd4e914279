/-
  DERIVED. Stands are sorted by their sources' numbers.
-/
import Derived.Test.YtchikfabfhjkgaaMAsk
import Derived.Test.YtchikfabfhjkgaaSort
set_option linter.unusedVariables false
set_option linter.unusedSimpArgs false
namespace Go.Proofs.Ytchikfabfhjkgaa
open Go.RowKit Go.Shelf Go.Lib Go.Sort
theorem sw_heap {α : Type} [Inhabited α] (enc : α → Value) (w : World) (blk m : Nat) (d : Array α) (os : Array Obj) (k : Nat) (hk : k < w.heap.size) (hne : k ≠ blk) : (sortWorld enc w blk 0 m d os).heap[k]? = w.heap[k]? := by
  unfold sortWorld grow putRow mapBlock Sort.ahead
  show ((w.heap.modify blk _) ++ os)[k]? = _
  rw [Array.getElem?_append_left (by simpa using hk), Array.getElem?_modify, if_neg (fun h => hne h.symm)]
theorem sw_row {α : Type} [Inhabited α] (enc : α → Value) (w : World) (blk m : Nat) (d : Array α) (os : Array Obj) {cur : Array Value} {t : TypeId} {fr : Nat × Nat} (h : w.heap[blk]? = some (.cells cur t fr)) : (sortWorld enc w blk 0 m d os).heap[blk]? = some (.cells (putCells enc 0 d cur) t fr) := by
  unfold sortWorld grow putRow mapBlock Sort.ahead
  show ((w.heap.modify blk _) ++ os)[blk]? = _
  rw [Array.getElem?_append_left (by simpa using (Array.getElem?_eq_some_iff.1 h).1), Array.getElem?_modify, if_pos rfl, h]
  rfl
theorem sw_size {α : Type} [Inhabited α] (enc : α → Value) (w : World) (blk m : Nat) (d : Array α) (os : Array Obj) : w.heap.size ≤ (sortWorld enc w blk 0 m d os).heap.size := by
  unfold sortWorld grow putRow mapBlock Sort.ahead
  show _ ≤ ((w.heap.modify blk _) ++ os).size
  simp
theorem sw_stay {α : Type} [Inhabited α] (enc : α → Value) (w : World) (blk m : Nat) (d : Array α) (os : Array Obj) : Stay (fun k => k = blk) w (sortWorld enc w blk 0 m d os) :=
  ⟨rfl, rfl, rfl, sw_size enc w blk m d os, fun k hk hne => sw_heap enc w blk m d os k hk hne⟩
/-- By number. -/
def cfN {L : List St} (x y : {s : St // s ∈ L}) : Int := Lib.compareInt x.1.num y.1.num
theorem ltN {L : List St} (x y : {s : St // s ∈ L}) : ltOf cfN x y = decide (x.1.num < y.1.num) := by
  unfold ltOf cfN
  have := (cmpI (x.1.num : Int) (y.1.num : Int)).1
  by_cases h : x.1.num < y.1.num
  · rw [decide_eq_true h, decide_eq_true (this.2 (by omega))]
  · rw [decide_eq_false h, decide_eq_false (fun h2 => h (by have := this.1 h2; omega))]
set_option maxRecDepth 100000 in
theorem take1_any (a b : St) (w : World) (ha : StAt w a) (hb : StAt w b) :
    Calls Try.prog 55 #[.pointer (some ⟨a.a, 0, none⟩), .pointer (some ⟨b.a, 0, none⟩)] w fun r w' => r = .returned (.int .i64 (Lib.compareInt a.num b.num)) ∧ ∃ q, w' = w.drewN q := by
  have x0 := ha.cells 1 _ rfl
  have y0 := hb.cells 1 _ rfl
  have k1 := fun W => Try.cmp_Compare_int (a.num : Int) (b.num : Int) W
  clear ha hb
  go_enter Try.func55, Try.ntmps55
  go_wp2
  obtain ⟨q, hq⟩ : ∃ q, q = Lib.compareInt (a.num : Int) (b.num : Int) := ⟨_, rfl⟩
  rw [← hq] at k1
  have HQ := Hid.mk hq
  clear hq
  go_region_held (fun w' => w' = w.drew ∧ w'.cell? ⟨a.a, 1, none⟩ = some (.int .i64 a.num) ∧ w'.cell? ⟨b.a, 1, none⟩ = some (.int .i64 b.num))
    (exact ⟨rfl, x0, y0⟩)
    ((go_at_call 34; refine (k1 _).mono ?_; clear k1; rintro r w4 ⟨rfl, rfl⟩))
  all_goals
    rename_i hHeld
    go_wp2
    go_ret
    exact ⟨ret_int HQ.out, 1, rfl⟩
set_option maxHeartbeats 1000000 in
theorem sort_any (L : List St) (lv : Value) (w : World) (h : SRow w lv L) (hne : L ≠ []) (hl : L.length < 100000) :
    Calls Try.prog 54 #[lv, .func (.func 55) #[] #[]] w fun r w' => r = .returned (.tuple #[]) ∧ ∃ L', L'.Perm L ∧ L'.Pairwise (fun a b => a.num ≤ b.num) ∧ SRow w' lv L' ∧ Stay (fun k => lv.ownBlock = some k) w w' := by
  have hpos : 0 < L.length := List.length_pos_iff.2 hne
  obtain ⟨b, cap, rfl, -, -⟩ := h.at' 0 hpos
  haveI : Inhabited {s : St // s ∈ L} := ⟨⟨L[0], List.getElem_mem hpos⟩⟩
  let enc : {s : St // s ∈ L} → Value := fun x => Pp x.1
  let d : Array {s : St // s ∈ L} := L.attach.toArray
  have hds : d.size = L.length := by simp [d]
  have hdg : ∀ j (hj : j < L.length), (d[j]!).1 = L[j] := fun j hj => by
    rw [getElem!_pos d j (by rw [hds]; exact hj)]
    simp [d]
  have hH : Holds enc w b 0 d := fun j hj => by
    rw [hds] at hj
    obtain ⟨b', cap', hv, p1, f1⟩ := h.at' j hj
    simp only [Value.slice.injEq, Option.some.injEq, Addr.mk.injEq] at hv
    obtain ⟨⟨rfl, -, -⟩, -, -⟩ := hv
    rw [Nat.zero_add]
    refine ⟨?_, f1⟩
    rw [p1]
    show some (Value.pointer (some ⟨L[j].a, 0, none⟩)) = some (Pp (d[j]!).1)
    rw [hdg j hj]
  have hcmp : CmpLays1 Try.prog 55 #[] enc cfN b 0 d.size w := (show CmpReads _ _ _ _ _ _ _ _ _ from fun m os dk hs x y => by
    have hx : StAt (sortWorld enc w b 0 m dk os) x.1 := (sw_heap enc w b m dk os x.1.a (Array.getElem?_eq_some_iff.1 (h.st _ x.2)).1 (h.apart rfl (h.st _ x.2))).trans (h.st _ x.2)
    have hy : StAt (sortWorld enc w b 0 m dk os) y.1 := (sw_heap enc w b m dk os y.1.a (Array.getElem?_eq_some_iff.1 (h.st _ y.2)).1 (h.apart rfl (h.st _ y.2))).trans (h.st _ y.2)
    exact take1_any x.1 y.1 _ hx hy).lays
  have hO : SWO (ltOf (cfN (L := L))) := ⟨fun x => by rw [ltN]; simp, fun x y z h1 h2 => by rw [ltN] at *; simp at *; omega, fun x y z h1 h2 => by rw [ltN] at *; simp at *; omega⟩
  have hblk : b < w.heap.size := row_lt h.own rfl
  have hc := Any.slices_SortFunc (P := Try.prog) Try.sortL enc (fun x => rfl) cfN hO 55 #[] b 0 cap d w (fun args W => by kernel_rfl) hcmp hH hblk (by rw [hds]; omega)
  rw [hds] at hc
  refine hc.mono ?_
  rintro r w' ⟨rfl, d', n, os, hp, hsrt, rfl⟩
  have hsz : d'.size = L.length := hp.1.trans hds
  have hperm : (d'.toList.map (·.1)).Perm L := by
    have h1 := hp.2.2
    have e1 : d'.extract 0 L.length = d' := by rw [← hsz]; simp
    have e2 : d.extract 0 L.length = d := by rw [← hds]; simp
    rw [e1, e2] at h1
    have h2 := h1.map (·.1)
    have e3 : d.toList.map (·.1) = L := by simp [d]
    rw [e3] at h2
    exact h2
  have hlen : (d'.toList.map (·.1)).length = L.length := by simp [hsz]
  refine ⟨rfl, d'.toList.map (·.1), hperm, ?_, ⟨?_, fun s hs => ?_⟩, (sw_stay enc w b n d' os).mono (fun k _ e => by rw [e]; rfl)⟩
  · rw [List.pairwise_iff_getElem]
    intro i j hi hj hij
    have hj' : j < d'.size := by rw [hsz, ← hlen]; exact hj
    have := hsrt i j (Nat.zero_le _) hij (by rw [← hsz]; exact hj')
    rw [ltN, getElem!_pos d' i (by omega), getElem!_pos d' j hj'] at this
    simp at this
    simpa using this
  · rcases h.own.2 with ⟨h0, _⟩ | ⟨g, c, cur, hv, k1, k2, k3, k4, k5, k6⟩
    · simp at h0
    · simp only [Value.slice.injEq, Option.some.injEq, Addr.mk.injEq] at hv
      obtain ⟨⟨rfl, -, -⟩, -, rfl⟩ := hv
      rw [hlen]
      refine ⟨by simp [hsz], .inr ⟨b, cap, putCells enc 0 d' cur, rfl, k1, sw_row enc w b n d' os k2, k3, k4, by simp [putCells, k5], ?_⟩⟩
      apply List.ext_getElem?
      intro t
      by_cases ht : t < L.length
      · have htc : t < cur.size := by rw [k5]; omega
        have htd : t < d'.size := by omega
        rw [List.getElem?_take_of_lt (by omega)]
        simp only [putCells, Array.toList_mapIdx, List.getElem?_mapIdx, Nat.zero_le, true_and, Nat.zero_add, Nat.sub_zero]
        rw [Array.getElem?_toList, Array.getElem?_eq_getElem htc]
        simp only [Option.map_some, htd, if_true]
        rw [List.map_map, List.getElem?_map, Array.getElem?_toList, Array.getElem?_eq_getElem htd, getElem!_pos d' t htd]
        rfl
      · rw [List.getElem?_eq_none (by rw [List.length_take]; omega), List.getElem?_eq_none (by simp; omega)]
  · have hs' : s ∈ L := hperm.mem_iff.1 hs
    exact (sw_heap enc w b n d' os s.a (Array.getElem?_eq_some_iff.1 (h.st _ hs')).1 (h.apart rfl (h.st _ hs'))).trans (h.st _ hs')
end Go.Proofs.Ytchikfabfhjkgaa
