/-
  DERIVED. A plain map's Histogram.
-/
import Derived.Test.YtekgppmhcbmpeaaDoorGAns
set_option linter.unusedVariables false
set_option linter.unusedSimpArgs false
namespace Go.Proofs.YtekgppmhcbmpeaaDoor
open Go.RowKit Go.Maps Go.Proofs.BitMath
/-- How many hits there are at each distance. -/
def cnt (hs : List Ht) (d : Nat) : Nat := (hs.filter (fun h => decide (h.d = (d : Int)))).length
def cnts (m : Nat) (hs : List Ht) : List Int := (List.range m).map (fun d => (cnt hs d : Int))
theorem cnts_len (m : Nat) (hs : List Ht) : (cnts m hs).length = m := by simp [cnts]
theorem cnt_perm {hs gs : List Ht} (h : hs.Perm gs) (d : Nat) : cnt hs d = cnt gs d := (h.filter _).length_eq
theorem cnts_perm {hs gs : List Ht} (h : hs.Perm gs) (m : Nat) : cnts m hs = cnts m gs := by
  unfold cnts
  exact List.map_congr_left (fun d _ => by rw [cnt_perm h])
theorem cnts_get {m : Nat} {hs : List Ht} {d : Nat} (h : d < m) : (cnts m hs)[d]? = some (cnt hs d : Int) := by simp [cnts, h]
theorem cnt_le (hs : List Ht) (d : Nat) : cnt hs d ≤ hs.length := List.length_filter_le _ _
theorem cnts_snoc {m : Nat} {hs : List Ht} {x : Ht} {d : Nat} (hd : x.d = (d : Int)) (h : d < m) : cnts m (hs ++ [x]) = (cnts m hs).set d ((cnt hs d : Int) + 1) := by
  apply List.ext_getElem?
  intro j
  rw [List.getElem?_set, cnts_len]
  by_cases hj : j < m
  · rw [cnts_get hj]
    by_cases e : d = j
    · subst e
      rw [if_pos rfl, if_pos hj]
      simp [cnt, List.filter_append, hd]
    · rw [if_neg e, cnts_get hj]
      have : ¬ x.d = (j : Int) := by omega
      simp [cnt, List.filter_append, this]
  · have e1 : (cnts m (hs ++ [x]))[j]? = none := List.getElem?_eq_none (by rw [cnts_len]; omega)
    have e2 : (cnts m hs)[j]? = none := List.getElem?_eq_none (by rw [cnts_len]; omega)
    rw [e1, e2, if_neg (show ¬ d = j by omega)]
def iV (n : Int) : Value := .int .i64 n
/-- A list of ints of the call's own. -/
def IRow (W : World) (g m : Nat) (X : List Int) : Prop := W.ownsRow 0 3 1 (.slice (some ⟨g, 0, none⟩) m m) m (X.map iV)
/-- What a look keeps that counts. -/
structure HI (B g cb m r : Nat) (hs : List Ht) (W : World) : Prop where
  box : W.cell? ⟨g, 0, none⟩ = some (.slice (some ⟨cb, 0, none⟩) m m)
  row : IRow W cb m (cnts m hs)
  cB : B ≤ cb
  cr : cb ≠ r
  gr : g ≠ r
  cg : cb ≠ g
theorem HI.stay {B g cb m r : Nat} {hs : List Ht} {W W' : World} (h : HI B g cb m r hs W) (s : Stay (fun j => j = r) W W') : HI B g cb m r hs W' := by
  refine ⟨?_, row_kept h.row s (fun k hk => by cases hk; exact h.cr), h.cB, h.cr, h.gr, h.cg⟩
  have hb := s.block g (World.block_lt_of_cell? W _ h.box) h.gr
  rw [← h.box]; simp only [World.cell?, hb]
set_option maxRecDepth 100000 in
theorem histLit_any (B g cb m r : Nat) (hs : List Ht) (x : Ht) (d : Nat) (W : World) (hd : x.d = (d : Int)) (hdm : d < m) (hl : hs.length < 1048576) (h : HI B g cb m r hs W) :
    Calls Tryd.prog 38 #[.agg (hC x).toArray, Pt g] W fun e W' => e = .returned (.tuple #[]) ∧ HI B g cb m r (hs ++ [x]) W' ∧ Stay (fun j => B ≤ j ∧ j ≠ r) W W' := by
  have bA : Below W.heap.size W (W.alloc (.cells (hC x).toArray 36)) := (Below.refl _ W).alloc (Nat.le_refl _) _
  have h1 := h.stay (.below bA)
  obtain ⟨W1, hW1⟩ : ∃ W1, W1 = W.alloc (.cells (hC x).toArray 36) := ⟨_, rfl⟩
  rw [← hW1] at h1 bA
  have c0 := h1.box
  have c1 : W1.cell? ⟨cb, d, none⟩ = some (.int .i64 (cnt hs d : Nat)) := by
    rw [h1.row.cellAt d (by omega), List.getElem?_map, cnts_get hdm]; rfl
  have hb1 : W1.heap[W.heap.size]? = some (.cells (hC x).toArray 36 (0, 0)) := by rw [hW1]; exact heap_alloc_last W _
  obtain ⟨z0, z1, z2⟩ := box_cells hb1
  rw [hd] at z0
  have hf := h1.row.frozenAt d
  have hcl := cnt_le hs d
  have hwc : IntKind.i64.wrap ((cnt hs d : Int) + 1) = (cnt hs d : Int) + 1 := by rw [IntKind.wrap_i64]; omega
  have hst := h1.row.stored d (.int .i64 ((cnt hs d : Int) + 1))
  have HE : Hid (HI B g cb m r (hs ++ [x]) (W1.setCell ⟨cb, d, none⟩ (.int .i64 ((cnt hs d : Int) + 1))) ∧ Stay (fun j => B ≤ j ∧ j ≠ r) W (W1.setCell ⟨cb, d, none⟩ (.int .i64 ((cnt hs d : Int) + 1)))) := by
    refine ⟨⟨?_, ?_, h1.cB, h1.cr, h1.gr, h1.cg⟩, Stay.setCell (Stay.below bA) (fun _ => ⟨h1.cB, h1.cr⟩) _⟩
    · rw [← c0]
      have hb := Below.heap_setCell W1 ⟨cb, d, none⟩ (.int .i64 ((cnt hs d : Int) + 1)) g (fun e => h1.cg e.symm)
      simp only [World.cell?, hb]
    · have := hst.1
      unfold IRow
      rw [cnts_snoc hd hdm, List.map_set]
      exact this
  have d1 : (d : Int) < (m : Int) := by omega
  have d2 : (0 : Int) ≤ (d : Int) := by omega
  obtain ⟨ct, hct⟩ : ∃ ct : Int, ct = (cnt hs d : Int) := ⟨_, rfl⟩
  rw [← hct] at c1 hwc HE
  have hw' : W.alloc (.cells #[.int .i64 d, .int .i64 x.i, .string x.c] 36) = W1 := by rw [hW1, ← hd]; rfl
  simp only [hC, hd] at *
  clear hst h1 h bA hcl hct hW1 hb1
  go_enter Tryd.func38, Tryd.ntmps38
  go_wp2
  go_end0
  exact ⟨rfl, HE.out⟩
set_option maxRecDepth 100000 in
theorem ent_hist (args : Array Value) (W : World) : (callFunc 38 args).run Tryd.prog W = .ok (.enter 38 args) W := rfl
theorem cnts_nil (m : Nat) : cnts m [] = List.replicate m 0 := by
  apply List.ext_getElem?
  intro j
  by_cases hj : j < m
  · rw [cnts_get hj, List.getElem?_replicate, if_pos hj]; rfl
  · rw [List.getElem?_eq_none (by rw [cnts_len]; omega), List.getElem?_eq_none (by simp; omega)]
theorem made_ints (n : Nat) : (madeCells (Value.int .i64 0).cells (n * 1)).toList = (List.replicate n (0 : Int)).map iV := by
  rw [Nat.mul_one]; show (madeCells #[Value.int .i64 0] n).toList = _; rw [toList_madeCells_one, List.map_replicate]; rfl
theorem look_hist (p mb : Nat) (wd n : Int) (xs : List Pr) (q : ByteArray) (g cb m : Nat) (w W0 : World) (h : MP w p mb wd xs n) (hq : (q.size : Int) = wd / 8) (ht : Tab w) (hl : xs.length ≤ 1048576) (hm : (m : Int) = wd + 1) (bA : Below w.heap.size w W0) (hI : HI w.heap.size g cb m W0.heap.size [] W0) :
    Calls Tryd.prog 30 #[Pt p, .string q, .func (.func 38) #[] #[Pt g]] W0 fun e w' => e = .returned (.tuple #[]) ∧ w'.cell? ⟨g, 0, none⟩ = some (.slice (some ⟨cb, 0, none⟩) m m) ∧ IRow w' cb m (cnts m (hitsOf q xs)) ∧ Below w.heap.size w w' := by
  have hm' := h.below bA
  have hW := hit_W h.isW hq h.fit
  refine (look_any p mb w.heap.size wd n xs q 38 (Pt g) (HI w.heap.size g cb m) W0 hm' hq (ht.lat bA) ht.lt h.at'.lt h.pm.lt bA.size hl ent_hist (fun W' b => hI.stay (.below b)) (fun r hs W W' h s => h.stay s) (fun r hs x W hr hr2 hx hlen hI => histLit_any _ _ _ _ _ _ _ x.d.toNat _ (by have := hW x hx; omega) (by have := hW x hx; omega) (by omega) hI)).mono ?_
  rintro e w' ⟨rfl, r, sn, hp, hI', st⟩
  refine ⟨rfl, hI'.box, ?_, bA.trans (st.toBelow (fun k hk => by omega) bA.size)⟩
  have e := cnts_perm (m := m) (hp.map (htOf q))
  unfold hitsOf
  rw [← e]; exact hI'.row
theorem Tryd.info3 : (Tryd.prog.info? 3).map (fun i => (i.zero, i.size, i.bytes)) = some (some (.int .i64 0), 1, 8) := by kernel_rfl
set_option maxHeartbeats 2000000 in
set_option maxRecDepth 100000 in
theorem histogram_any (p mb : Nat) (wd n : Int) (xs : List Pr) (q : ByteArray) (m : Nat) (w : World) (h : MP w p mb wd xs n) (hq : (q.size : Int) = wd / 8) (ht : Tab w) (hl : xs.length ≤ 1048576) (hm : (m : Int) = wd + 1) :
    Calls Tryd.prog 14 #[Pt p, .string q] w fun e w' => ∃ cb, e = .returned (.tuple #[.slice (some ⟨cb, 0, none⟩) m m, .int .i64 0]) ∧ IRow w' cb m (cnts m (hitsOf q xs)) ∧ w.heap.size ≤ cb ∧ Below w.heap.size w w' := by
  have htk := takes_any p mb wd n xs q w h
  rw [decide_eq_true hq] at htk
  obtain ⟨c0, -⟩ := h.at'.cells
  obtain ⟨i0, hi, hz0, hz1, hz2⟩ := info_parts Tryd.info3
  have hb := isW_bd h.isW
  have hwm : IntKind.i64.wrap (wd + 1) = (m : Int) := by rw [IntKind.wrap_i64]; omega
  have hml : m ≤ 1025 := by omega
  have HL := Hid.mk (fun g cb W0 bA hI => look_hist p mb wd n xs q g cb m w W0 h hq ht hl hm bA hI)
  clear h hq ht hl hb hm
  go_enter Tryd.func14, Tryd.ntmps14
  go_wp2_with (first
    | (go_at_call 28; refine htk.mono ?_; clear htk; rintro e w1 ⟨rfl, h1⟩; subst h1)
    | (at_make; refine wpList_make_full _ rfl _ _ 38 rfl 0 3 i0 (.int .i64 0) 1 Tryd.underlying38 hi hz0 hz1 _ _ _ _ m rfl rfl rfl rfl (by rw [hz2]; omega) (by unfold maxLen; omega) (Nat.zero_le _) ?_; intro w2 hown hgr))
  have hb2 : Below w1.heap.size w1 w2 := (Below.refl _ _).grown hgr (Nat.le_refl _) (fun k h => by cases h)
  have hlt : w1.heap.size < w2.heap.size := row_lt hown rfl
  have hrow : IRow w2 w1.heap.size m (cnts m []) := by
    unfold IRow
    rw [cnts_nil, ← made_ints]
    exact hown
  have bA : Below w1.heap.size w1 (w2.alloc (.cells #[.slice (some ⟨w1.heap.size, 0, none⟩) m m] 38)) := hb2.alloc hb2.size _
  have hI : HI w1.heap.size w2.heap.size w1.heap.size m (w2.alloc (.cells #[.slice (some ⟨w1.heap.size, 0, none⟩) m m] 38)).heap.size [] (w2.alloc (.cells #[.slice (some ⟨w1.heap.size, 0, none⟩) m m] 38)) := by
    refine ⟨?_, World.ownsRow.alloc hrow _, Nat.le_refl _, by simp; omega, by simp, by omega⟩
    rw [cell_of_row _ _ 0 _ _ (0, 0) (heap_alloc_last w2 _)]; rfl
  have hlk := HL.out w2.heap.size w1.heap.size _ bA hI
  clear hI bA hrow hlt hb2 hown hgr
  go_wp2_with (go_at_call 30; refine hlk.mono ?_; clear hlk; rintro e w3 ⟨rfl, C3, R3, b3⟩)
  go_ret2
  exact ⟨_, rfl, R3, Nat.le_refl _, b3⟩
end Go.Proofs.YtekgppmhcbmpeaaDoor
