/-
  DERIVED. CUn2, SNext, SHead, SClone, SParse, SPm, CDec, MStore, MStoreW, as one text.
-/
import Derived.Test.YtkoannkecojhmaaGreatDoorCUn
import Derived.Test.YtkoannkecojhmaaGreatDoorCCheck
import Derived.Deep.RegionHeld
import Derived.Test.YtkoannkecojhmaaGreatDoorSFrame
import Derived.OwnWalk
import Derived.Lib.UnsafeStr
import Derived.Lib.BufferWrite
import Derived.Laws.MakeOwn
import Derived.Test.YtkoannkecojhmaaGreatDoorDFun
set_option linter.unusedVariables false
set_option linter.unusedSimpArgs false
namespace Go.Proofs.YtkoannkecojhmaaGreatDoor
open Go.RowKit Go.Proofs.SealMath
abbrev Zr (w : World) (r : Nat) : Prop := w.heap[r]? = some (.cells #[.int .i64 0, .int .i64 0, .int .i64 0, .int .i64 0, .int .i64 0, .int .i64 0, .slice none 0 0] 26 (0, 0))
theorem zr_cells {w : World} {r : Nat} (h : Zr w r) : w.cell? ⟨r, 0, none⟩ = some (.int .i64 0) ∧ w.cell? ⟨r, 1, none⟩ = some (.int .i64 0) ∧ w.cell? ⟨r, 2, none⟩ = some (.int .i64 0) ∧ w.cell? ⟨r, 3, none⟩ = some (.int .i64 0) ∧ w.cell? ⟨r, 4, none⟩ = some (.int .i64 0) ∧ w.cell? ⟨r, 5, none⟩ = some (.int .i64 0) ∧ w.cell? ⟨r, 6, none⟩ = some (.slice none 0 0) ∧ (∀ j, w.frozen? ⟨r, j, none⟩ = false) := by
  refine ⟨?_, ?_, ?_, ?_, ?_, ?_, ?_, fun j => ?_⟩ <;> simp [World.cell?, World.frozen?, h]
theorem fin7 {W : World} {r : Nat} (h : Zr W r) (y0 y1 y2 y3 y4 y5 y6 : Value) : ∃ W5, set7 W r y0 y1 y2 y3 y4 y5 y6 = W5 ∧ Stay (fun k => k = r) W W5 ∧ W5.cell? ⟨r, 0, none⟩ = some y0 ∧ W5.cell? ⟨r, 1, none⟩ = some y1 ∧ W5.cell? ⟨r, 2, none⟩ = some y2 ∧ W5.cell? ⟨r, 3, none⟩ = some y3 ∧ W5.cell? ⟨r, 4, none⟩ = some y4 ∧ W5.cell? ⟨r, 5, none⟩ = some y5 ∧ W5.cell? ⟨r, 6, none⟩ = some y6 := by
  have H := set7_heap W r _ _ _ _ _ _ _ y0 y1 y2 y3 y4 y5 y6 _ h
  refine ⟨_, rfl, set7_stay W r y0 y1 y2 y3 y4 y5 y6, ?_, ?_, ?_, ?_, ?_, ?_, ?_⟩ <;> simp [World.cell?, H]
theorem mb_cells {w : World} {g : Nat} {z0 z1 z2 z3 z4 z5 : Int} {v : Value} (h : MB w g [z0, z1, z2, z3, z4, z5] v) : w.cell? ⟨g, 0, none⟩ = some (.int .i64 z0) ∧ w.cell? ⟨g, 1, none⟩ = some (.int .i64 z1) ∧ w.cell? ⟨g, 2, none⟩ = some (.int .i64 z2) ∧ w.cell? ⟨g, 3, none⟩ = some (.int .i64 z3) ∧ w.cell? ⟨g, 4, none⟩ = some (.int .i64 z4) ∧ w.cell? ⟨g, 5, none⟩ = some (.int .i64 z5) ∧ w.cell? ⟨g, 6, none⟩ = some v := by
  have h' : w.heap[g]? = some (.cells #[.int .i64 z0, .int .i64 z1, .int .i64 z2, .int .i64 z3, .int .i64 z4, .int .i64 z5, v] 26 (0, 0)) := h
  refine ⟨?_, ?_, ?_, ?_, ?_, ?_, ?_⟩ <;> simp [World.cell?, h']
theorem six (zs : List Int) (h : zs.length = 6) : ∃ z0 z1 z2 z3 z4 z5, zs = [z0, z1, z2, z3, z4, z5] := by
  match zs, h with
  | [z0, z1, z2, z3, z4, z5], _ => exact ⟨_, _, _, _, _, _, rfl⟩
theorem rd_err {b : ByteArray} {most : Nat} : ∀ {n a : Nat} {e : Int}, rd b most n a = .error e → e ≠ 0
  | 0, a, e, h => by simp only [rd] at h; cases h
  | n + 1, a, e, h => by
    simp only [rd] at h
    split at h
    · next he => cases h; exact he
    · split at h
      · cases h; decide
      · cases hr : rd b most n (vA b a).2.1 with
        | error e' => rw [hr] at h; cases h; exact rd_err hr
        | ok q => rw [hr] at h; cases h
theorem ne_b {e : Int} (h : e ≠ 0) : (e != 0) = true := by simpa [bne_iff_ne] using h
/-- What unpack leaves. -/
def UnR (w : World) (p : ByteArray) (e : Ending) (w' : World) : Prop :=
  ∃ (m : Mf) (la : Option Addr) (c : Nat) (er : Int), e = .returned (.tuple #[.agg (mfC m la c).toArray, .int .i64 er]) ∧ er = unE (unP p) ∧ Below w.heap.size w w' ∧
    (∀ m', unP p = .ok m' → m = m' ∧ w'.ownsRow 0 54 4 (.slice la m.rs.length c) m.rs.length (m.rs.flatMap ruC) ∧ ∀ k, (Value.slice la m.rs.length c).ownBlock = some k → w.heap.size ≤ k)
/-- What is kept while the runs are read. -/
def RU (w : World) (p : ByteArray) (n : Nat) (z0 z1 z2 z3 z4 z5 : Int) (R : Except Int (List Ru × Nat)) (av u : Value) (wr : World) : Prop :=
  ∃ (i a : Nat) (pre : List Ru) (la : Option Addr) (c : Nat), av = .int .i64 a ∧ u = .int .i64 i ∧ i ≤ n ∧ a ≤ p.size ∧ pre.length = i ∧ Hid (R = (rdRs p (n - i) a).map fun q => (pre ++ q.1, q.2)) ∧ MB wr (w.heap.size + 1) [z0, z1, z2, z3, z4, z5] (.slice la i c) ∧ wr.ownsRow 0 54 4 (.slice la i c) i (pre.flatMap ruC) ∧ (∀ k, (Value.slice la i c).ownBlock = some k → w.heap.size + 2 ≤ k) ∧ Zr wr w.heap.size ∧ Below w.heap.size w wr
theorem rdRs_err {p : ByteArray} : ∀ {n a : Nat} {e : Int}, rdRs p n a = .error e → e ≠ 0
  | 0, a, e, h => by simp only [rdRs] at h; cases h
  | n + 1, a, e, h => by
    simp only [rdRs] at h
    cases hr : rd p 1152921504606846976 4 a with
    | error e' => rw [hr] at h; cases h; exact rd_err hr
    | ok q =>
      obtain ⟨l, a'⟩ := q
      rw [hr] at h
      simp only at h
      cases hr2 : rdRs p n a' with
      | error e' => rw [hr2] at h; cases h; exact rdRs_err hr2
      | ok q => rw [hr2] at h; cases h
theorem four (zs : List Int) (h : zs.length = 4) : ∃ z0 z1 z2 z3, zs = [z0, z1, z2, z3] := by
  match zs, h with
  | [z0, z1, z2, z3], _ => exact ⟨_, _, _, _, rfl⟩
/-- One run is read into a new box. -/
theorem read_run (p : ByteArray) (a : Nat) (wr w3 : World) (ha : a ≤ p.size) (hb : p.size < 4611686018427387904) (hq : RowAt w3 (wr.heap.size + 1) 0 (ptsV wr.heap.size 4)) (b3 : Below (wr.heap.size + 1) (wr.alloc (.cells #[.int .i64 0, .int .i64 0, .int .i64 0, .int .i64 0] 54)) w3) :
    Calls Tryz.prog 105 #[.string p, .int .i64 a, .int .u64 (1152921504606846976 : Nat), .slice (some ⟨wr.heap.size + 1, 0, none⟩) 4 4] w3 fun e w' => e = .returned (.tuple #[.int .i64 (rdA (rd p 1152921504606846976 4 a)), .int .i64 (rdE (rd p 1152921504606846976 4 a))]) ∧ Below wr.heap.size wr w' ∧ wr.heap.size + 1 ≤ w'.heap.size ∧
      ∃ z0 z1 z2 z3 : Int, SAt w' wr.heap.size (ruC ⟨z0, z1, z2, z3⟩) ∧ ∀ l p', rd p 1152921504606846976 4 a = .ok (l, p') → (⟨z0, z1, z2, z3⟩ : Ru) = ruOf l ∧ p' ≤ p.size := by
  have nb0 : Nb (wr.alloc (.cells #[.int .i64 0, .int .i64 0, .int .i64 0, .int .i64 0] 54)) wr.heap.size 54 [0, 0, 0, 0] [] := heap_alloc_last wr _
  have nb3 : Nb w3 wr.heap.size 54 [0, 0, 0, 0] [] := (b3.block wr.heap.size (by omega)).trans nb0
  have x1 : Below wr.heap.size wr (wr.alloc (.cells #[.int .i64 0, .int .i64 0, .int .i64 0, .int .i64 0] 54)) := (Below.refl _ wr).alloc (Nat.le_refl _) _
  have x3 : Below wr.heap.size wr w3 := x1.trans (b3.mono (by omega))
  have s3 := b3.size
  simp at s3
  have cr := cread_any p a 1152921504606846976 wr.heap.size (wr.heap.size + 1) 4 54 [0, 0, 0, 0] [] w3 nb3 hq (by omega) ha hb (Nat.le_refl _) (by decide)
  simp only [List.length_cons, List.length_nil, Nat.zero_add, Nat.reduceAdd] at cr
  refine cr.mono ?_
  rintro e w' ⟨rfl, st, zs, hz, nb, hl⟩
  obtain ⟨z0, z1, z2, z3, rfl⟩ := four zs hz
  refine ⟨rfl, x3.trans (st.toBelow (B := wr.heap.size) (fun k hk h => by (have h' : k = wr.heap.size := h; omega)) x3.size), by have := st.size; omega, z0, z1, z2, z3, ?_, fun l p' h => ?_⟩
  · intro j v hv
    have h' : w'.heap[wr.heap.size]? = some (.cells (ruC ⟨z0, z1, z2, z3⟩).toArray 54 (0, 0)) := by have := nb; simpa [Nb, IV, ruC] using this
    rw [cell_of_row _ _ j _ _ _ h']
    simpa using hv
  · obtain ⟨h1, h2⟩ := hl l p' h
    refine ⟨?_, h2⟩
    have hl4 := (rd_len h).1
    match l, hl4 with
    | [n0, n1, n2, n3], _ =>
      simp only [List.map_cons, List.map_nil, List.cons.injEq, and_true] at h1
      obtain ⟨rfl, rfl, rfl, rfl⟩ := h1
      rfl
/-- One run more in the list. -/
theorem un_step {w w4 : World} {pre : List Ru} {la : Option Addr} {c i : Nat} {z0 z1 z2 z3 z4 z5 : Int} (run : Ru) (hpre : pre.length = i) (hi : i ≤ 24) (mb : MB w4 (w.heap.size + 1) [z0, z1, z2, z3, z4, z5] (.slice la i c)) (ow : w4.ownsRow 0 54 4 (.slice la i c) i (pre.flatMap ruC)) (own : ∀ k, (Value.slice la i c).ownBlock = some k → w.heap.size + 2 ≤ k) (zr : Zr w4 w.heap.size) (bw : Below w.heap.size w w4) (h2 : w.heap.size + 2 ≤ w4.heap.size) :
    ∃ (la' : Option Addr) (c' : Nat) (w6 : World), (Builtin.append_ #[24, 24] 24 #[.slice la i c, .slice (some ⟨w4.heap.size, 0, none⟩) 1 1]).run Tryz.prog (w4.alloc (.cells (ruC run).toArray 54)) = .ok (.slice la' (i + 1) c') w6 ∧ w6.cell? ⟨w.heap.size + 1, 6, none⟩ = some (.slice la i c) ∧ w6.frozen? ⟨w.heap.size + 1, 6, none⟩ = false ∧
      MB (w6.setCell ⟨w.heap.size + 1, 6, none⟩ (.slice la' (i + 1) c')) (w.heap.size + 1) [z0, z1, z2, z3, z4, z5] (.slice la' (i + 1) c') ∧ (w6.setCell ⟨w.heap.size + 1, 6, none⟩ (.slice la' (i + 1) c')).ownsRow 0 54 4 (.slice la' (i + 1) c') (i + 1) ((pre ++ [run]).flatMap ruC) ∧ (∀ k, (Value.slice la' (i + 1) c').ownBlock = some k → w.heap.size + 2 ≤ k) ∧ Zr (w6.setCell ⟨w.heap.size + 1, 6, none⟩ (.slice la' (i + 1) c')) w.heap.size ∧ Below w.heap.size w (w6.setCell ⟨w.heap.size + 1, 6, none⟩ (.slice la' (i + 1) c')) := by
  obtain ⟨w5, hw5⟩ : ∃ w5, w5 = w4.alloc (.cells (ruC run).toArray 54) := ⟨_, rfl⟩
  have b5 : Below w4.heap.size w4 w5 := by rw [hw5]; exact (Below.refl _ w4).alloc (Nat.le_refl _) _
  have RI : RowAt w5 w4.heap.size 0 (([run] : List Ru).flatMap ruC) := fun j x hx => by
    rw [hw5, Nat.zero_add]; exact SAt.new w4 (ruC run) _ j x (by simpa using hx)
  have ow5 := row_kept (F := fun _ => False) ow (.below b5) (fun _ _ h => h)
  rw [← hpre] at ow5
  obtain ⟨v', w6, hr, ow6, st6, loc6⟩ := ru_app w5 pre [run] _ ow5 (some ⟨w4.heap.size, 0, none⟩) 1 (fun _ => ⟨_, _, rfl, RI⟩) (by simp; omega)
  obtain ⟨la', c', rfl, -⟩ := slice_form ow6
  have hl : (pre ++ [run]).length = i + 1 := by rw [List.length_append, hpre]; rfl
  rw [hl] at hr ow6 loc6
  rw [hpre, show ([run] : List Ru).length = 1 from rfl] at hr
  rw [hpre] at st6 loc6
  have s5 := b5.size
  have n1 : ¬ ((Value.slice la i c).ownBlock = some (w.heap.size + 1)) := fun h => by have := own _ h; omega
  have n0 : ¬ ((Value.slice la i c).ownBlock = some w.heap.size) := fun h => by have := own _ h; omega
  have mb6 : MB w6 (w.heap.size + 1) [z0, z1, z2, z3, z4, z5] (.slice la i c) := (mb.kept (F := fun _ => False) (.below b5) (fun h => h)).kept st6 n1
  have zr5 : Zr w5 w.heap.size := (b5.block _ (by omega)).trans zr
  have zr6 : Zr w6 w.heap.size := (st6.block _ (by omega) n0).trans zr5
  have x5 := chain bw b5 (Nat.le_refl _)
  have x6 : Below w.heap.size w w6 := x5.trans (st6.toBelow (B := w.heap.size) (fun k hk h => by have := own _ h; omega) x5.size)
  have own' : ∀ k, (Value.slice la' (i + 1) c').ownBlock = some k → w.heap.size + 2 ≤ k := fun k hk => by
    rcases loc6 k hk with h | h
    · exact own k h
    · omega
  have st7 : Stay (fun k => k = w.heap.size + 1) w6 (w6.setCell ⟨w.heap.size + 1, 6, none⟩ (.slice la' (i + 1) c')) := (Stay.refl (fun k => k = w.heap.size + 1) w6).setCell (fun _ => rfl) _
  rw [← hw5]
  refine ⟨la', c', w6, hr, mb6.cell6 rfl, mb6.free 6, ?_, row_kept ow6 st7 (fun k hk h => by (have h' : k = w.heap.size + 1 := h; have := own' k hk; omega)), own', (st7.block _ (Array.getElem?_eq_some_iff.1 zr6).1 (by (show ¬ (w.heap.size = w.heap.size + 1)); omega)).trans zr6, x6.trans (st7.toBelow (B := w.heap.size) (fun k hk h => by (have h' : k = w.heap.size + 1 := h; omega)) x6.size)⟩
  have h6 : w6.heap[w.heap.size + 1]? = some (.cells #[.int .i64 z0, .int .i64 z1, .int .i64 z2, .int .i64 z3, .int .i64 z4, .int .i64 z5, .slice la i c] 26 (0, 0)) := mb6
  show (w6.setCell _ _).heap[w.heap.size + 1]? = _
  rw [heap_setCell_same w6 (w.heap.size + 1) 6 _ _ _ h6]
  rfl
theorem unless_yes (e : Int) (w : World) : Calls Tryz.prog 48 #[.bool true, .int .i64 e] w fun x w' => x = .returned (.int .i64 0) ∧ w' = w := by
  refine (unless_any true e w).mono ?_
  rintro x w' ⟨rfl, rfl⟩
  exact ⟨by rw [if_pos rfl], rfl⟩
theorem unless_no (e : Int) (w : World) : Calls Tryz.prog 48 #[.bool false, .int .i64 e] w fun x w' => x = .returned (.int .i64 e) ∧ w' = w := by
  refine (unless_any false e w).mono ?_
  rintro x w' ⟨rfl, rfl⟩
  exact ⟨by rw [if_neg (by decide)], rfl⟩
set_option maxHeartbeats 16000000 in
set_option maxRecDepth 100000 in
theorem unpack_any (p : ByteArray) (w : World) (hb : p.size < 4611686018427387904) :
    Calls Tryz.prog 90 #[.string p] w (UnR w p) := by
  obtain ⟨U, hU⟩ : ∃ U, U = unP p := ⟨_, rfl⟩
  have HU := hU
  unfold unP at HU
  obtain ⟨wa, hwa⟩ : ∃ wa, wa = w.alloc (.cells #[.int .i64 0, .int .i64 0, .int .i64 0, .int .i64 0, .int .i64 0, .int .i64 0, .slice none 0 0] 26) := ⟨_, rfl⟩
  have ba : Below w.heap.size w wa := by rw [hwa]; exact (Below.refl _ w).alloc (Nat.le_refl _) _
  have sza : wa.heap.size = w.heap.size + 1 := by rw [hwa]; simp
  have ZA : Zr wa w.heap.size := by rw [hwa]; exact heap_alloc_last w _
  have hwa' : w.alloc (.cells #[.int .i64 0, .int .i64 0, .int .i64 0, .int .i64 0, .int .i64 0, .int .i64 0, .slice none 0 0] 26) = wa := hwa.symm
  obtain ⟨wb, hwb⟩ : ∃ wb, wb = wa.alloc (.cells #[.int .i64 0, .int .i64 0, .int .i64 0, .int .i64 0, .int .i64 0, .int .i64 0, .slice none 0 0] 26) := ⟨_, rfl⟩
  have bb : Below wa.heap.size wa wb := by rw [hwb]; exact (Below.refl _ wa).alloc (Nat.le_refl _) _
  have szb : wb.heap.size = w.heap.size + 2 := by rw [hwb]; simp [sza]
  have NB : MB wb (w.heap.size + 1) [0, 0, 0, 0, 0, 0] (.slice none 0 0) := by rw [← sza, hwb]; exact heap_alloc_last wa _
  have ZB : Zr wb w.heap.size := (bb.block w.heap.size (by omega)).trans ZA
  have hwb' : wa.alloc (.cells #[.int .i64 0, .int .i64 0, .int .i64 0, .int .i64 0, .int .i64 0, .int .i64 0, .slice none 0 0] 26) = wb := hwb.symm
  have b0 := chain ba bb (Nat.le_refl _)
  have cr := fun (W : World) q (h1 : MB W (w.heap.size + 1) [0, 0, 0, 0, 0, 0] (.slice none 0 0)) h2 h3 => cread_any p 0 1152921504606846976 (w.heap.size + 1) q 6 26 [0, 0, 0, 0, 0, 0] [.slice none 0 0] W h1 h2 h3 (Nat.zero_le _) hb (Nat.le_refl _) (by decide)
  simp only [List.length_cons, List.length_nil] at cr
  obtain ⟨R1, hR1⟩ : ∃ R1, R1 = rd p 1152921504606846976 6 0 := ⟨_, rfl⟩
  have hR1' : rd p 1152921504606846976 (0 + 1 + 1 + 1 + 1 + 1 + 1) 0 = R1 := hR1.symm
  have HR1 := Hid.mk hR1.symm
  rw [← hR1] at HU
  rw [hR1'] at cr
  have HUh := Hid.mk HU
  have HU0 := Hid.mk hU
  clear hwa hwb ba bb ZA HU hU hR1 hR1'
  have ARM : ∀ (w3 : World), RowAt w3 (w.heap.size + 2) 0 (ptsV (w.heap.size + 1) 6) → Below wb.heap.size wb w3 → Calls Tryz.prog 105 #[.string p, .int .i64 (0 : Nat), .int .u64 (1152921504606846976 : Nat), .slice (some ⟨w.heap.size + 2, 0, none⟩) 6 6] w3 fun e w' => e = .returned (.tuple #[.int .i64 (rdA R1), .int .i64 (rdE R1)]) ∧ Zr w' w.heap.size ∧ Below w.heap.size w w' ∧ w.heap.size + 2 ≤ w'.heap.size ∧ ∃ z0 z1 z2 z3 z4 z5 : Int, MB w' (w.heap.size + 1) [z0, z1, z2, z3, z4, z5] (.slice none 0 0) ∧ ∀ l p', R1 = .ok (l, p') → [z0, z1, z2, z3, z4, z5] = l.map (fun (n : Nat) => (n : Int)) ∧ p' ≤ p.size := fun w3 h1 b => by
    refine (cr w3 (w.heap.size + 2) (NB.kept (F := fun _ => False) (.below b) (fun h => h)) h1 (by omega)).mono ?_
    rintro e w' ⟨rfl, st, zs, hz, nb, hl⟩
    obtain ⟨z0, z1, z2, z3, z4, z5, rfl⟩ := six zs hz
    have b3 := chain b0 b (Nat.le_refl _)
    have z3' : Zr w3 w.heap.size := (b.block w.heap.size (by omega)).trans ZB
    refine ⟨rfl, (st.block w.heap.size (Array.getElem?_eq_some_iff.1 z3').1 (by (show ¬ (w.heap.size = w.heap.size + 1)); omega)).trans z3', b3.trans (st.toBelow (B := w.heap.size) (fun k hk h => by (have h' : k = w.heap.size + 1 := h; omega)) b3.size), ?_, z0, z1, z2, z3, z4, z5, nb, hl⟩
    have := b.size; have := st.size; omega
  clear cr NB ZB
  cases hr1 : R1 with
  | error e1 =>
    rw [hr1] at ARM HUh HR1
    have hr1' := HR1.out
    have hU1 : U = .error e1 := HUh.out
    have e1n : (e1 != 0) = true := ne_b (rd_err hr1')
    simp only [rdA, rdE] at ARM
    rw [hU1] at HU0
    clear hr1 HUh hU1 hr1' HR1
    go_enter Tryz.func90, Tryz.ntmps90
    go_wp2_with first
      | (go_at_call 20; refine (numbers_any (w.heap.size + 1) _).mono ?_; rintro e w3 ⟨rfl, rq, b3⟩; rw [szb] at rq; rw [szb])
      | (go_at_call 105; refine (ARM w3 rq b3).mono ?_; rintro e w4 ⟨rfl, Z4, b4, -, z0, z1, z2, z3, z4, z5, mb, -⟩; obtain ⟨m0, m1, m2, m3, m4, m5, m6⟩ := mb_cells mb; obtain ⟨c0, c1, c2, c3, c4, c5, c6, cf⟩ := zr_cells Z4)
    obtain ⟨W5, hW5, st5, o0, o1, o2, o3, o4, o5, o6⟩ := fin7 Z4 (.int .i64 z0) (.int .i64 z1) (.int .i64 z2) (.int .i64 z3) (.int .i64 z4) (.int .i64 z5) (.slice none 0 0)
    unfold set7 at hW5
    rw [hW5]
    refine bodyPost_ret (v := .tuple #[.agg #[.int .i64 z0, .int .i64 z1, .int .i64 z2, .int .i64 z3, .int .i64 z4, .int .i64 z5, .slice none 0 0], .int .i64 e1]) (by simp [results, Tryz.results90, go_sem, o0, o1, o2, o3, o4, o5, o6]; try rfl) rfl ?_
    refine ⟨⟨z0, z1, z2, z3, z4, z5, []⟩, none, 0, e1, rfl, by rw [← HU0.out]; rfl, b4.trans (st5.toBelow (B := w.heap.size) (fun k hk h => by (have h' : k = w.heap.size := h; omega)) b4.size), fun m' h => ?_⟩
    rw [← HU0.out] at h; cases h
  | ok q1 =>
    obtain ⟨l1, a1⟩ := q1
    rw [hr1] at ARM HUh HR1
    have hU1 : U = _ := HUh.out
    simp only at hU1
    simp only [rdA, rdE] at ARM
    have hl1 := (rd_len HR1.out).1
    have ha1 : a1 ≤ p.size := rd_place (Nat.zero_le _) HR1.out
    obtain ⟨R2, hR2⟩ : ∃ R2, R2 = rd p 24 1 a1 := ⟨_, rfl⟩
    rw [← hR2] at hU1
    have HR2 := Hid.mk hR2.symm
    have HUh2 := Hid.mk hU1
    have ARM2 : ∀ (w4 : World), Zr w4 w.heap.size → Below w.heap.size w w4 → w.heap.size + 2 ≤ w4.heap.size → ∀ z0 z1 z2 z3 z4 z5 : Int, MB w4 (w.heap.size + 1) [z0, z1, z2, z3, z4, z5] (.slice none 0 0) → Calls Tryz.prog 105 #[.string p, .int .i64 a1, .int .u64 (24 : Nat), .slice (some ⟨w4.heap.size + 1, 0, none⟩) 1 1] ((w4.alloc (.cells #[.int .i64 0] 3)).alloc (.cells #[.pointer (some ⟨w4.heap.size, 0, none⟩)] 102)) fun e w' => e = .returned (.tuple #[.int .i64 (rdA R2), .int .i64 (rdE R2)]) ∧ Zr w' w.heap.size ∧ Below w.heap.size w w' ∧ w4.heap.size + 2 ≤ w'.heap.size ∧ MB w' (w.heap.size + 1) [z0, z1, z2, z3, z4, z5] (.slice none 0 0) ∧ ∃ x : Int, w'.cell? ⟨w4.heap.size, 0, none⟩ = some (.int .i64 x) ∧ ∀ l p', R2 = .ok (l, p') → [x] = l.map (fun (n : Nat) => (n : Int)) ∧ p' ≤ p.size := fun w4 Z4 b4 g4 z0 z1 z2 z3 z4 z5 mb => by
      obtain ⟨W1, hW1⟩ : ∃ W1, W1 = w4.alloc (.cells #[.int .i64 0] 3) := ⟨_, rfl⟩
      have sz1 : W1.heap.size = w4.heap.size + 1 := by rw [hW1]; simp
      have x1 : Below w4.heap.size w4 W1 := by rw [hW1]; exact (Below.refl _ w4).alloc (Nat.le_refl _) _
      obtain ⟨W2, hW2⟩ : ∃ W2, W2 = W1.alloc (.cells #[.pointer (some ⟨w4.heap.size, 0, none⟩)] 102) := ⟨_, rfl⟩
      have sz2 : W2.heap.size = w4.heap.size + 2 := by rw [hW2]; simp [sz1]
      have x2 : Below W1.heap.size W1 W2 := by rw [hW2]; exact (Below.refl _ W1).alloc (Nat.le_refl _) _
      have x12 := chain x1 x2 (Nat.le_refl _)
      have nb1 : Nb W1 w4.heap.size 3 [0] [] := by rw [hW1]; exact heap_alloc_last w4 _
      have nb2 : Nb W2 w4.heap.size 3 [0] [] := nb1.kept (F := fun _ => False) (.below x2) (fun h => h)
      have rq2 : RowAt W2 (w4.heap.size + 1) 0 (ptsV w4.heap.size 1) := fun j x hx => by
        rw [Nat.zero_add, ← sz1, hW2]; exact SAt.new W1 _ _ j x hx
      rw [← hW1, ← hW2]
      have cr := cread_any p a1 24 w4.heap.size (w4.heap.size + 1) 1 3 [0] [] W2 nb2 rq2 (by omega) ha1 hb (by decide) (by decide)
      simp only [List.length_cons, List.length_nil, Nat.zero_add] at cr
      rw [← hR2] at cr
      refine cr.mono ?_
      rintro e w' ⟨rfl, st, zs, hz, nb, hl⟩
      match zs, hz with
      | [x], _ =>
        have y2 := chain b4 x12 (Nat.le_refl _)
        refine ⟨rfl, ?_, y2.trans (st.toBelow (B := w.heap.size) (fun k hk h => by (have h' : k = w4.heap.size := h; omega)) y2.size), ?_, ?_, x, nb.cell 0 (by simp), hl⟩
        · have zz : Zr W2 w.heap.size := (x12.block w.heap.size (by omega)).trans Z4
          exact (st.block w.heap.size (by omega) (by (show ¬ (w.heap.size = w4.heap.size)); omega)).trans zz
        · have := st.size; omega
        · exact (mb.kept (F := fun _ => False) (.below x12) (fun h => h)).kept st (by (show ¬ (w.heap.size + 1 = w4.heap.size)); omega)
    clear HUh hU1 hR2 hr1
    cases hr2 : R2 with
    | error e2 =>
      rw [hr2] at ARM2 HUh2 HR2
      have hU2 : U = .error e2 := HUh2.out
      have e2n : (e2 != 0) = true := ne_b (rd_err HR2.out)
      simp only [rdA, rdE] at ARM2
      rw [hU2] at HU0
      clear hr2 HUh2 hU2 HR2 HR1
      go_enter Tryz.func90, Tryz.ntmps90
      have t1 : True := trivial
      go_wp2_with first
        | (go_at_call 20; refine (numbers_any (w.heap.size + 1) _).mono ?_; rintro e w3 ⟨rfl, rq, b3⟩; rw [szb] at rq; rw [szb])
        | (go_at_call 105; have _t := t1; refine (ARM w3 rq b3).mono ?_; rintro e w4 ⟨rfl, Z4, b4, g4, z0, z1, z2, z3, z4, z5, mb, hz⟩; clear t1 ARM)
        | (go_at_call 105; refine (ARM2 w4 Z4 b4 g4 z0 z1 z2 z3 z4 z5 mb).mono ?_; rintro e w5 ⟨rfl, Z5, b5, g5, mb5, x, cx, -⟩; obtain ⟨m0, m1, m2, m3, m4, m5, m6⟩ := mb_cells mb5; obtain ⟨c0, c1, c2, c3, c4, c5, c6, cf⟩ := zr_cells Z5)
      obtain ⟨W5, hW5, st5, o0, o1, o2, o3, o4, o5, o6⟩ := fin7 Z5 (.int .i64 z0) (.int .i64 z1) (.int .i64 z2) (.int .i64 z3) (.int .i64 z4) (.int .i64 z5) (.slice none 0 0)
      unfold set7 at hW5
      rw [hW5]
      refine bodyPost_ret (v := .tuple #[.agg #[.int .i64 z0, .int .i64 z1, .int .i64 z2, .int .i64 z3, .int .i64 z4, .int .i64 z5, .slice none 0 0], .int .i64 e2]) (by simp [results, Tryz.results90, go_sem, o0, o1, o2, o3, o4, o5, o6]; try rfl) rfl ?_
      refine ⟨⟨z0, z1, z2, z3, z4, z5, []⟩, none, 0, e2, rfl, by rw [← HU0.out]; rfl, b5.trans (st5.toBelow (B := w.heap.size) (fun k hk h => by (have h' : k = w.heap.size := h; omega)) b5.size), fun m' h => ?_⟩
      rw [← HU0.out] at h; cases h
    | ok q2 =>
      obtain ⟨l2, a2⟩ := q2
      rw [hr2] at ARM2 HUh2 HR2
      have hU2 : U = _ := HUh2.out
      simp only at hU2
      simp only [rdA, rdE] at ARM2
      have hl2 := rd_len HR2.out
      have ha2 : a2 ≤ p.size := rd_place ha1 HR2.out
      match l2, hl2 with
      | [n], hl2 =>
        have hn24 : n ≤ 24 := hl2.2 n (by simp)
        simp only [List.getD_cons_zero] at hU2
        obtain ⟨R3, hR3⟩ : ∃ R3, R3 = rdRs p n a2 := ⟨_, rfl⟩
        rw [← hR3] at hU2
        have HR3 := Hid.mk hR3.symm
        have HUh3 := Hid.mk hU2
        clear hr2 HUh2 hU2 HR2 hR3 hl2
        go_enter Tryz.func90, Tryz.ntmps90
        have t1 : True := trivial
        go_wp2_with first
          | (go_at_call 20; refine (numbers_any (w.heap.size + 1) _).mono ?_; rintro e w3 ⟨rfl, rq, b3⟩; rw [szb] at rq; rw [szb])
          | (go_at_call 105; have _t := t1; refine (ARM w3 rq b3).mono ?_; rintro e w4 ⟨rfl, Z4, b4, g4, z0, z1, z2, z3, z4, z5, mb, hz⟩; clear t1 ARM)
          | (go_at_call 105; refine (ARM2 w4 Z4 b4 g4 z0 z1 z2 z3 z4 z5 mb).mono ?_; rintro e w5 ⟨rfl, Z5, b5, g5, mb5, x, cx, hx⟩; have hxx : x = (n : Int) := (by have := (hx _ _ rfl).1; simpa using this); rw [hxx] at cx)
        have hzz : [z0, z1, z2, z3, z4, z5] = l1.map (fun (n : Nat) => (n : Int)) := (hz _ _ rfl).1
        have HZ := Hid.mk hzz
        have HZ5 := Hid.mk Z5
        have HM5 := Hid.mk mb5
        have HB5 := Hid.mk b5
        have hH5 : w.heap.size + 2 ≤ w5.heap.size := by omega
        clear ARM2 Z4 b4 g4 mb hz Z5 mb5 b5 g5 hx hxx cx hzz rq b3 hwa' hwb'
        go_loopw [5, 31] (fun av u wr => RU w p n z0 z1 z2 z3 z4 z5 R3 av u wr) (fun _ u _ => n - (intOf u).toNat)
        case atStart =>
          refine ⟨0, a2, [], none, 0, rfl, rfl, Nat.zero_le _, ha2, rfl, ?_, HM5.out, World.ownsRow_nil _ _ _ _, (fun k hk => by cases hk), HZ5.out, HB5.out⟩
          show _ = _
          rw [Nat.sub_zero, HR3.out]
          cases R3 <;> rfl
        case round =>
          obtain ⟨i, a, pre, la, c, rfl, rfl, hi, ha, hpre, HR, mbr, ow, own, zr, bw⟩ := hrel
          by_cases hlt : i < n
          · have hr := HR.out
            rw [show n - i = (n - (i + 1)) + 1 by omega, rdRs] at hr
            have cr := fun w3 h1 h2 => read_run p a wr w3 ha hb h1 h2
            obtain ⟨R4, hR4⟩ : ∃ R4, R4 = rd p 1152921504606846976 4 a := ⟨_, rfl⟩
            rw [← hR4] at hr cr
            have mlt := mbr.lt
            have sz1 : (wr.alloc (.cells #[.int .i64 0, .int .i64 0, .int .i64 0, .int .i64 0] 54)).heap.size = wr.heap.size + 1 := by simp
            have HMb := Hid.mk mbr
            have HOw := Hid.mk ow
            have HOn := Hid.mk own
            have HZr := Hid.mk zr
            have HBw := Hid.mk bw
            have HR4 := Hid.mk hR4.symm
            clear HR mbr ow own zr bw hR4
            cases hr4 : R4 with
            | error e4 =>
              rw [hr4] at hr cr HR4
              have h3 : R3 = .error e4 := hr
              have hu3 : U = .error e4 := by have := HUh3.out; rw [h3] at this; exact this
              rw [hu3] at HU0
              have e4n : (e4 != 0) = true := ne_b (rd_err HR4.out)
              simp only [rdA, rdE] at cr
              clear hr h3 hu3 HUh3 HR3 hr4 HR4
              go_wp2_with first
                | (go_at_call 23; refine (runNumbers_any wr.heap.size _).mono ?_; rintro e w3 ⟨rfl, rq, b3⟩; rw [sz1] at rq b3; rw [sz1])
                | (go_at_call 105; refine (cr w3 rq b3).mono ?_; rintro e w4 ⟨rfl, b4, g4, y0, y1, y2, y3, sr, -⟩; obtain ⟨m0, m1, m2, m3, m4, m5, m6⟩ := mb_cells (HMb.out.kept (F := fun _ => False) (.below b4) (fun h => h)); have Z4 : Zr w4 w.heap.size := (b4.block _ (by omega)).trans HZr.out; obtain ⟨c0, c1, c2, c3, c4, c5, c6, cf⟩ := zr_cells Z4; have bw4 := chain HBw.out b4 (Nat.le_refl _))
              obtain ⟨W5, hW5, st5, o0, o1, o2, o3, o4, o5, o6⟩ := fin7 Z4 (.int .i64 z0) (.int .i64 z1) (.int .i64 z2) (.int .i64 z3) (.int .i64 z4) (.int .i64 z5) (.slice la i c)
              unfold set7 at hW5
              rw [hW5]
              refine bodyPost_ret (v := .tuple #[.agg #[.int .i64 z0, .int .i64 z1, .int .i64 z2, .int .i64 z3, .int .i64 z4, .int .i64 z5, .slice la i c], .int .i64 e4]) (by simp [results, Tryz.results90, go_sem, o0, o1, o2, o3, o4, o5, o6]; try rfl) rfl ?_
              refine ⟨⟨z0, z1, z2, z3, z4, z5, pre⟩, la, c, e4, by rw [mfC, hpre], by rw [← HU0.out]; rfl, bw4.trans (st5.toBelow (B := w.heap.size) (fun k hk h => by (have h' : k = w.heap.size := h; omega)) bw4.size), fun m' h => ?_⟩
              rw [← HU0.out] at h; cases h
            | ok q4 =>
              obtain ⟨l4, a4⟩ := q4
              rw [hr4] at hr cr HR4
              simp only at hr
              rw [rdRs_map] at hr
              have HR' := Hid.mk hr
              simp only [rdA, rdE] at cr
              have HP : Hid ((pre ++ [ruOf l4]).length = i + 1) := by show _ = _; rw [List.length_append, hpre]; rfl
              clear hr hr4 HR4 HUh3 HR3
              go_wp2_with (go_at_call 23; refine (runNumbers_any wr.heap.size _).mono ?_; rintro e w3 ⟨rfl, rq, b3⟩; rw [sz1] at rq b3; rw [sz1])
              refine (cr w3 rq b3).mono ?_
              rintro e w4 ⟨rfl, b4, g4, y0, y1, y2, y3, sr, hl4⟩
              obtain ⟨hru, ha4⟩ := hl4 _ _ rfl
              rw [hru] at sr
              have mb4 := HMb.out.kept (F := fun _ => False) (.below b4) (fun h => h)
              have ow4 := row_kept (F := fun _ => False) HOw.out (.below b4) (fun _ _ h => h)
              have zr4 : Zr w4 w.heap.size := (b4.block _ (by omega)).trans HZr.out
              have bw4 := chain HBw.out b4 (Nat.le_refl _)
              obtain ⟨la', c', w6, hap, x6, f6, mb7, ow7, own7, zr7, bw7⟩ := un_step (ruOf l4) hpre (by omega) mb4 ow4 HOn.out zr4 bw4 (by omega)
              have q6 := MB.cell6 mb4 rfl
              have s0 := sr 0 _ rfl
              have s1 := sr 1 _ rfl
              have s2 := sr 2 _ rfl
              have s3 := sr 3 _ rfl
              simp only [ruC] at hap
              have HF := Hid.mk (And.intro mb7 (And.intro ow7 (And.intro own7 (And.intro zr7 bw7))))
              clear mb7 ow7 own7 zr7 bw7 sr hru hl4 mb4 ow4 zr4
              go_wp2_with (at_builtin; refine wpList_append_eqC rfl _ _ _ _ rfl _ _ _ _ rfl rfl hap ?_)
              obtain ⟨mb7, ow7, own7, zr7, bw7⟩ := HF.out
              exact ⟨⟨i + 1, a4, pre ++ [ruOf l4], la', c', rfl, rfl, hlt, ha4, HP.out, HR', mb7, ow7, own7, zr7, bw7⟩, by simp only [intOf]; omega⟩
          · have e : i = n := by omega
            subst e
            have h3 : R3 = .ok (pre, a) := by rw [HR.out, Nat.sub_self]; simp [rdRs, Except.map]
            obtain ⟨m0, m1, m2, m3, m4, m5, m6⟩ := mb_cells mbr
            obtain ⟨c0, c1, c2, c3, c4, c5, c6, cf⟩ := zr_cells zr
            have hu3 := HUh3.out
            rw [h3] at hu3
            simp only at hu3
            clear HR HR3 HUh3
            go_wp2
            by_cases hap : a = p.size
            · rw [if_pos hap] at hu3
              rw [hu3] at HU0
              have hE : ((a : Int) == (p.size : Int)) = true := by rw [hap]; simp
              go_region_with (go_at_call 48; refine (unless_yes _ _).mono ?_; rintro e w' ⟨rfl, rfl⟩)
              all_goals
                go_wp2
                obtain ⟨W5, hW5, st5, p0, p1, p2, p3, p4, p5, p6⟩ := fin7 zr (.int .i64 z0) (.int .i64 z1) (.int .i64 z2) (.int .i64 z3) (.int .i64 z4) (.int .i64 z5) (.slice la i c)
                unfold set7 at hW5
                rw [hW5]
                have o0 : W5.drew.cell? _ = _ := p0
                have o1 : W5.drew.cell? _ = _ := p1
                have o2 : W5.drew.cell? _ = _ := p2
                have o3 : W5.drew.cell? _ = _ := p3
                have o4 : W5.drew.cell? _ = _ := p4
                have o5 : W5.drew.cell? _ = _ := p5
                have o6 : W5.drew.cell? _ = _ := p6
                refine bodyPost_ret (v := .tuple #[.agg #[.int .i64 z0, .int .i64 z1, .int .i64 z2, .int .i64 z3, .int .i64 z4, .int .i64 z5, .slice la i c], .int .i64 0]) (by simp [results, Tryz.results90, go_sem, o0, o1, o2, o3, o4, o5, o6]; try rfl) rfl ?_
                have b5' : Below w.heap.size w W5.drew := (bw.trans (st5.toBelow (B := w.heap.size) (fun k hk h => by (have h' : k = w.heap.size := h; omega)) bw.size)).drew
                refine ⟨⟨z0, z1, z2, z3, z4, z5, pre⟩, la, c, 0, by rw [mfC, hpre], by rw [← HU0.out]; rfl, b5', fun m' h => ?_⟩
                rw [← HU0.out] at h
                have h' : mfOf l1 pre = m' := by injection h
                refine ⟨?_, ?_, ?_⟩
                · rw [← h']
                  have hz := HZ.out
                  match l1, hl1 with
                  | [n0, n1, n2, n3, n4, n5], _ =>
                    simp only [List.map_cons, List.map_nil, List.cons.injEq, and_true] at hz
                    obtain ⟨rfl, rfl, rfl, rfl, rfl, rfl⟩ := hz
                    rfl
                · simp only [hpre]
                  exact row_kept (F := fun k => k = w.heap.size) ow st5.drew (fun k hk h => by (have h2 : k = w.heap.size := h; have := own k hk; omega))
                · simp only [hpre]
                  exact fun k hk => by have := own k hk; omega
            · rw [if_neg hap] at hu3
              rw [hu3] at HU0
              have hE' : (a : Int) ≠ (p.size : Int) := by omega
              have hE : ((a : Int) == (p.size : Int)) = false := by simpa using hE'
              clear hE'
              go_region_with (go_at_call 48; refine (unless_no _ _).mono ?_; rintro e w' ⟨rfl, rfl⟩)
              all_goals
                go_wp2
                obtain ⟨W5, hW5, st5, p0, p1, p2, p3, p4, p5, p6⟩ := fin7 zr (.int .i64 z0) (.int .i64 z1) (.int .i64 z2) (.int .i64 z3) (.int .i64 z4) (.int .i64 z5) (.slice la i c)
                unfold set7 at hW5
                rw [hW5]
                have o0 : W5.drew.cell? _ = _ := p0
                have o1 : W5.drew.cell? _ = _ := p1
                have o2 : W5.drew.cell? _ = _ := p2
                have o3 : W5.drew.cell? _ = _ := p3
                have o4 : W5.drew.cell? _ = _ := p4
                have o5 : W5.drew.cell? _ = _ := p5
                have o6 : W5.drew.cell? _ = _ := p6
                refine bodyPost_ret (v := .tuple #[.agg #[.int .i64 z0, .int .i64 z1, .int .i64 z2, .int .i64 z3, .int .i64 z4, .int .i64 z5, .slice la i c], .int .i64 37]) (by simp [results, Tryz.results90, go_sem, o0, o1, o2, o3, o4, o5, o6]; try rfl) rfl ?_
                have b5' : Below w.heap.size w W5.drew := (bw.trans (st5.toBelow (B := w.heap.size) (fun k hk h => by (have h' : k = w.heap.size := h; omega)) bw.size)).drew
                refine ⟨⟨z0, z1, z2, z3, z4, z5, pre⟩, la, c, 37, by rw [mfC, hpre], by rw [← HU0.out]; rfl, b5', fun m' h => ?_⟩
                rw [← HU0.out] at h
                cases h
end Go.Proofs.YtkoannkecojhmaaGreatDoor
namespace Go.Proofs.YtkoannkecojhmaaGreatDoor
open Go.RowKit Go.Proofs.SealMath
/-- The text and the place that the literal holds. -/
structure Fld (W : World) (b : ByteArray) (a g : Nat) : Prop where
  text : W.cell? ⟨g, 0, none⟩ = some (.string b)
  place : W.cell? ⟨g + 1, 0, none⟩ = some (.int .i64 a)
  free : W.frozen? ⟨g + 1, 0, none⟩ = false
theorem Fld.below {W W' : World} {b : ByteArray} {a g B : Nat} (h : Fld W b a g) (hb : Below B W W') (hg : g + 1 < B) : Fld W' b a g :=
  ⟨(hb.cell (p := ⟨g, 0, none⟩) (by show g < B; omega)).trans h.text, (hb.cell (p := ⟨g + 1, 0, none⟩) hg).trans h.place, (hb.frozen (p := ⟨g + 1, 0, none⟩) hg).trans h.free⟩
theorem Fld.size {W : World} {b : ByteArray} {a g : Nat} (h : Fld W b a g) : g + 1 < W.heap.size := World.block_lt_of_cell? W _ h.place
theorem Fld.set {W : World} {b : ByteArray} {a g : Nat} (h : Fld W b a g) (c : Nat) : Fld (W.setCell ⟨g + 1, 0, none⟩ (.int .i64 c)) b c g :=
  ⟨(World.cell?_setCell_other _ _ _ _ (fun he => by cases he)).trans h.text, World.cell?_setCell_same _ _ _ h.place, (World.frozen?_setCell _ _ _ _).trans h.free⟩
/-- Where the literal stands behind a field of n bytes; what it tells. -/
def nxA (b : ByteArray) (a n : Nat) : Nat := if a + n ≤ b.size then a + n else b.size
def nxT (b : ByteArray) (a n : Nat) : ByteArray := if a + n ≤ b.size then b.extract a (a + n) else ⟨#[]⟩
abbrev lit (g : Nat) : Value := .func (.func 112) #[] #[.pointer (some ⟨g, 0, none⟩), .pointer (some ⟨g + 1, 0, none⟩)]
set_option maxRecDepth 100000 in
set_option maxHeartbeats 1000000 in
theorem next_any (b : ByteArray) (a n g B : Nat) (w : World) (hF : Fld w b a g) (ha : a ≤ b.size) (hb : b.size < 4611686018427387904) (hn : n < 4611686018427387904) (hB : B ≤ g) :
    Calls Tryz.prog 112 #[.int .i64 n, .pointer (some ⟨g, 0, none⟩), .pointer (some ⟨g + 1, 0, none⟩)] w fun e w' => e = .returned (.string (nxT b a n)) ∧ Fld w' b (nxA b a n) g ∧ Below B w w' ∧ w'.heap.size = w.heap.size := by
  have h1 := hF.text
  have h2 := hF.place
  have h3 := hF.free
  unfold nxT nxA
  by_cases h : a + n ≤ b.size
  · rw [if_pos h, if_pos h]
    go_enter Tryz.func112, Tryz.ntmps112
    go_wp2
    go_ret
    exact ⟨rfl, hF.set (a + n), (Below.refl _ w).setCell (p := ⟨g + 1, 0, none⟩) (by show B ≤ g + 1; omega) _, by simp⟩
  · rw [if_neg h, if_neg h]
    go_enter Tryz.func112, Tryz.ntmps112
    go_wp2
    go_ret
    exact ⟨rfl, hF.set b.size, (Below.refl _ w).setCell (p := ⟨g + 1, 0, none⟩) (by show B ≤ g + 1; omega) _, by simp⟩
theorem nxA_le (b : ByteArray) (a n : Nat) : nxA b a n ≤ b.size := by unfold nxA; split <;> omega
theorem nxT_list (b : ByteArray) (a n : Nat) (h : a + n ≤ b.size) : (nxT b a n).data.toList = sub b a n := by
  unfold nxT sub; rw [if_pos h, ByteArray.data_extract, Array.toList_extract, List.extract_eq_take_drop]
  congr 1; omega
theorem ba_size (T : ByteArray) : T.size = T.data.toList.length := Array.length_toList.symm
theorem nxT_size (b : ByteArray) (a n : Nat) (h : a + n ≤ b.size) : (nxT b a n).size = n := by rw [ba_size, nxT_list b a n h, sub_len b a n h]
theorem nxA_yes (b : ByteArray) (a n : Nat) (h : a + n ≤ b.size) : nxA b a n = a + n := by unfold nxA; rw [if_pos h]
theorem nxT_no (b : ByteArray) (a n : Nat) (h : ¬ a + n ≤ b.size) : nxT b a n = ⟨#[]⟩ := by unfold nxT; rw [if_neg h]
theorem told_none (b : ByteArray) (a m n o : Nat) (h : b.size < a + m + n + o) (ho : 0 < o) : nxT b (nxA b (nxA b a m) n) o = ⟨#[]⟩ := by
  apply nxT_no
  unfold nxA
  split <;> split <;> omega
theorem told_none2 (b : ByteArray) (a m o : Nat) (h : b.size < a + m + o) (ho : 0 < o) : nxT b (nxA b a m) o = ⟨#[]⟩ := by
  apply nxT_no
  unfold nxA
  split <;> omega
theorem sub_add (b : ByteArray) (a m n : Nat) : sub b a (m + n) = sub b a m ++ sub b (a + m) n := by
  unfold sub; rw [List.take_add, List.drop_drop]
/-- What head answers. -/
def hdA (b : ByteArray) (a : Nat) : Nat × Nat × Nat × Int :=
  if b.size ≤ a then (0, 0, 0, 31)
  else if sub b a 1 = [167] then
    if b.size < a + 10 then (0, 0, 0, 31)
    else if sub b (a + 6) 4 = lowL (crc 0 (sub b a 6)) then
      if numL (sub b (a + 1) 1) = 0 then (0, 0, 0, 35)
      else if numL (sub b (a + 2) 4) ≤ 65536 then (numL (sub b (a + 1) 1), numL (sub b (a + 2) 4), crc 0 (sub b a 6), 0)
      else (0, 0, 0, 36)
    else (0, 0, 0, 34)
  else (0, 0, 0, 33)
theorem one_ba (T : ByteArray) (c : UInt8) (h : T.data.toList = [c]) : T = ⟨#[c]⟩ := ba_ext (by rw [h])
end Go.Proofs.YtkoannkecojhmaaGreatDoor
namespace Go.Proofs.YtkoannkecojhmaaGreatDoor
open Go.RowKit Go.Proofs.SealMath
/-- Four results. -/
theorem results_tmp4 {fn : Func} {t u v x : Tmp} (h : fn.results = #[.tmp t, .tmp u, .tmp v, .tmp x]) (tmps : Array Value) (P : Program) (w : World) :
    (results fn tmps).run P w = .ok (.tuple #[tmps.getD t undef, tmps.getD u undef, tmps.getD v undef, tmps.getD x undef]) w := by
  simp [results, h]
theorem toL (T : ByteArray) : T.toList = T.data.toList := ByteArray.toList_eq T
set_option maxRecDepth 100000 in
set_option maxHeartbeats 4000000 in
theorem head_31 (b : ByteArray) (a g B : Nat) (w : World) (hF : Fld w b a g) (ha : a = b.size) (hb : b.size < 4611686018427387904) (hB : B ≤ g) :
    Calls Tryz.prog 104 #[lit g] w fun e w' => e = .returned (.tuple #[.int .i64 0, .int .i64 0, .int .u32 0, .int .i64 31]) ∧ Below B w w' := by
  have hT : (nxT b a 1).toList = [] := by rw [nxT_no b a 1 (by omega), toL]
  go_enter Tryz.func104, Tryz.ntmps104
  go_wp2_with fail
  refine (next_any b a 1 g B _ hF (by omega) hb (by omega) hB).mono ?_
  rintro e w1 ⟨rfl, f1, b1, s1⟩
  generalize nxT b a 1 = T1 at *
  go_wp2
  refine bodyPost_ret (results_tmp4 rfl _ _ _) rfl ?_
  exact ⟨rfl, b1⟩
set_option maxRecDepth 100000 in
set_option maxHeartbeats 4000000 in
theorem head_33 (b : ByteArray) (a g B : Nat) (w : World) (hF : Fld w b a g) (ha : a < b.size) (h1 : sub b a 1 ≠ [167]) (hb : b.size < 4611686018427387904) (hB : B ≤ g) :
    Calls Tryz.prog 104 #[lit g] w fun e w' => e = .returned (.tuple #[.int .i64 0, .int .i64 0, .int .u32 0, .int .i64 33]) ∧ Below B w w' := by
  have hT0 : (nxT b a 1).toList = sub b a 1 := by rw [toL, nxT_list b a 1 (by omega)]
  have hT : ((nxT b a 1).toList == [167]) = false := by rw [hT0, beq_eq_false_iff_ne]; exact h1
  have hE : (nxT b a 1).toList.isEmpty = false := by
    rw [hT0]; have := sub_len b a 1 (by omega)
    cases h : sub b a 1 with
    | nil => rw [h] at this; simp at this
    | cons c l => rfl
  clear hT0 h1
  go_enter Tryz.func104, Tryz.ntmps104
  go_wp2_with fail
  refine (next_any b a 1 g B _ hF (by omega) hb (by omega) hB).mono ?_
  rintro e w1 ⟨rfl, f1, b1, s1⟩
  generalize nxT b a 1 = T1 at *
  go_wp2
  refine bodyPost_ret (results_tmp4 rfl _ _ _) rfl ?_
  exact ⟨rfl, b1⟩
set_option maxRecDepth 100000 in
set_option maxHeartbeats 4000000 in
theorem head_31b (b : ByteArray) (a g B : Nat) (w : World) (hF : Fld w b a g) (ha : a < b.size) (h1 : sub b a 1 = [167]) (h10 : b.size < a + 10) (hb : b.size < 4611686018427387904) (hB : B ≤ g) :
    Calls Tryz.prog 104 #[lit g] w fun e w' => e = .returned (.tuple #[.int .i64 0, .int .i64 0, .int .u32 0, .int .i64 31]) ∧ Below B w w' := by
  have hT : (nxT b a 1).toList = [167] := by rw [toL, nxT_list b a 1 (by omega), h1]
  have hD : (nxT b (nxA b (nxA b (a + 1) 1) 4) 4).toList = [] := by rw [told_none b (a + 1) 1 4 4 (by omega) (by omega), toL]
  clear h1
  go_enter Tryz.func104, Tryz.ntmps104
  go_wp2_with fail
  refine (next_any b a 1 g B _ hF (by omega) hb (by omega) hB).mono ?_
  rintro e w1 ⟨rfl, f1, b1, s1⟩
  generalize nxT b a 1 = T1 at *
  go_wp2_with fail
  refine (next_any b (a + 1) 1 g B _ (by rw [nxA_yes b a 1 (by omega)] at f1; exact f1) (by omega) hb (by omega) hB).mono ?_
  rintro e w2 ⟨rfl, f2, b2, s2⟩
  have hn2 := nxA_le b (a + 1) 1
  generalize nxT b (a + 1) 1 = T2 at *
  generalize nxA b (a + 1) 1 = a2 at *
  go_wp2_with fail
  refine (next_any b a2 4 g B _ f2 hn2 hb (by omega) hB).mono ?_
  rintro e w3 ⟨rfl, f3, b3, s3⟩
  have hn3 := nxA_le b a2 4
  generalize nxT b a2 4 = T3 at *
  generalize nxA b a2 4 = a3 at *
  go_wp2_with fail
  refine (next_any b a3 4 g B _ f3 hn3 hb (by omega) hB).mono ?_
  rintro e w4 ⟨rfl, f4, b4, s4⟩
  generalize nxT b a3 4 = T4 at *
  go_wp2
  refine bodyPost_ret (results_tmp4 rfl _ _ _) rfl ?_
  exact ⟨rfl, ((b1.trans b2).trans b3).trans b4⟩
theorem sub_one (b : ByteArray) (a : Nat) (h : a + 1 ≤ b.size) : ∃ c, sub b a 1 = [c] := by
  have := sub_len b a 1 h
  cases hs : sub b a 1 with
  | nil => rw [hs] at this; simp at this
  | cons c l => rw [hs] at this; simp at this; rw [this]; exact ⟨c, rfl⟩
theorem sub_whole (T : ByteArray) (l : List UInt8) (h : T.data.toList = l) (n : Nat) (hn : l.length = n) : sub T 0 n = l := by
  unfold sub; rw [h, List.drop_zero, List.take_of_length_le (by omega)]
set_option maxRecDepth 100000 in
set_option maxHeartbeats 8000000 in
theorem head_10 (b : ByteArray) (a g B : Nat) (w : World) (hF : Fld w b a g) (ha : a + 10 ≤ b.size) (h1 : sub b a 1 = [167]) (hb : b.size < 4611686018427387904) (hB : B ≤ g) (ht : Tab w) (hB0 : 0 < B) (R : Nat × Nat × Nat × Int)
    (hR : R = if sub b (a + 6) 4 = lowL (crc 0 (sub b a 6)) then
      if numL (sub b (a + 1) 1) = 0 then (0, 0, 0, 35)
      else if numL (sub b (a + 2) 4) ≤ 65536 then (numL (sub b (a + 1) 1), numL (sub b (a + 2) 4), crc 0 (sub b a 6), 0)
      else (0, 0, 0, 36)
    else (0, 0, 0, 34)) :
    Calls Tryz.prog 104 #[lit g] w fun e w' => e = .returned (.tuple #[.int .i64 R.1, .int .i64 R.2.1, .int .u32 R.2.2.1, .int .i64 R.2.2.2]) ∧ Fld w' b (a + 10) g ∧ Below B w w' := by
  have hT : (nxT b a 1).toList = [167] := by rw [toL, nxT_list b a 1 (by omega), h1]
  have H1 : Hid (sub b a 1 = [167]) := h1
  have HR : Hid (R = if sub b (a + 6) 4 = lowL (crc 0 (sub b a 6)) then
      if numL (sub b (a + 1) 1) = 0 then (0, 0, 0, 35)
      else if numL (sub b (a + 2) 4) ≤ 65536 then (numL (sub b (a + 1) 1), numL (sub b (a + 2) 4), crc 0 (sub b a 6), 0)
      else (0, 0, 0, 36)
    else (0, 0, 0, 34)) := hR
  clear h1 hR
  go_enter Tryz.func104, Tryz.ntmps104
  go_wp2_with fail
  refine (next_any b a 1 g B _ hF (by omega) hb (by omega) hB).mono ?_
  rintro e w1 ⟨rfl, f1, b1, s1⟩
  rw [nxA_yes b a 1 (by omega)] at f1
  generalize nxT b a 1 = T1 at *
  go_wp2_with fail
  refine (next_any b (a + 1) 1 g B _ f1 (by omega) hb (by omega) hB).mono ?_
  rintro e w2 ⟨rfl, f2, b2, s2⟩
  rw [nxA_yes b (a + 1) 1 (by omega)] at f2
  have l2 := nxT_list b (a + 1) 1 (by omega)
  obtain ⟨c, hc⟩ := sub_one b (a + 1) (by omega)
  rw [hc] at l2
  have e2 := one_ba _ c l2
  rw [e2]
  clear l2 e2
  go_wp2_with fail
  refine (next_any b (a + 2) 4 g B _ f2 (by omega) hb (by omega) hB).mono ?_
  rintro e w3 ⟨rfl, f3, b3, s3⟩
  rw [nxA_yes b (a + 2) 4 (by omega)] at f3
  obtain ⟨T3, e3⟩ : ∃ T, T = nxT b (a + 2) 4 := ⟨_, rfl⟩
  have L3 : Hid (T3.data.toList = sub b (a + 2) 4) := by show _ = _; rw [e3]; exact nxT_list b (a + 2) 4 (by omega)
  have s3' : T3.size = 4 := by rw [e3]; exact nxT_size b (a + 2) 4 (by omega)
  rw [← e3]
  clear e3
  go_wp2_with fail
  refine (next_any b (a + 6) 4 g B _ f3 (by omega) hb (by omega) hB).mono ?_
  rintro e w4 ⟨rfl, f4, b4, s4⟩
  rw [nxA_yes b (a + 6) 4 (by omega)] at f4
  obtain ⟨T4, e4⟩ : ∃ T, T = nxT b (a + 6) 4 := ⟨_, rfl⟩
  have L4 : Hid (T4.toList = sub b (a + 6) 4) := by show _ = _; rw [e4, toL]; exact nxT_list b (a + 6) 4 (by omega)
  have s4' : T4.toList.isEmpty = false := by
    have := nxT_size b (a + 6) 4 (by omega)
    rw [ba_size, ← toL, ← e4] at this
    cases h : T4.toList with
    | nil => rw [h] at this; simp at this
    | cons c l => rfl
  rw [← e4]
  clear e4
  have b14 := ((b1.trans b2).trans b3).trans b4
  go_wp2_with fail
  obtain ⟨S, hS⟩ : ∃ S : ByteArray, S = ⟨#[167]⟩ ++ ⟨#[c]⟩ ++ T3 := ⟨_, rfl⟩
  rw [← hS]
  have hSl : S.data.toList = sub b a 6 := by
    rw [hS, ByteArray.data_append, ByteArray.data_append, Array.toList_append, Array.toList_append, L3.out, sub_add b a 1 5, H1.out, sub_add b (a + 1) 1 4, hc]; rfl
  have hSs : S.size = 6 := by rw [ba_size, hSl, sub_len b a 6 (by omega)]
  clear hS
  have HC : Hid (sub b (a + 1) 1 = [c]) := hc
  clear hc
  refine (sum_any S w4 (ht.below b14 hB0) (by omega)).mono ?_
  rintro e w5 ⟨rfl, rfl⟩
  rw [hSl]
  clear hSl
  have hsl := crc_lt (s := 0) (sub b a 6) (by omega)
  obtain ⟨s, hs⟩ : ∃ s, s = crc 0 (sub b a 6) := ⟨_, rfl⟩
  rw [← hs]
  rw [← hs] at hsl
  have HS : Hid (s = crc 0 (sub b a 6)) := hs
  clear hs
  go_wp2_with fail
  refine (low_any s w5 hsl).mono ?_
  rintro e w6 ⟨rfl, b6⟩
  have hgz := f4.size
  have f6 := f4.below b6 hgz
  have b16 := b14.trans (b6.mono (by omega))
  have hn6 := numL_sub_lt b (a + 2) 4 4 (by omega) (by omega)
  have hR := HR.out
  have hc0 : ((⟨#[c]⟩ : ByteArray)[0]'(Nat.lt_succ_self 0)).toNat = c.toNat := rfl
  have hcl := c.toNat_lt
  have hcn : numL (sub b (a + 1) 1) = c.toNat := by rw [HC.out]; simp [numL]
  rw [hcn] at hR
  clear HR hcn
  by_cases hq : sub b (a + 6) 4 = lowL (crc 0 (sub b a 6))
  · rw [if_pos hq] at hR
    have hEq : T4.toList = lowL s := by rw [L4.out, hq, HS.out]
    clear hq
    by_cases hz : c.toNat = 0
    · rw [if_pos hz] at hR
      subst hR
      go_wp2
      refine bodyPost_ret (results_tmp4 rfl _ _ _) rfl ?_
      exact ⟨rfl, f6, b16⟩
    · rw [if_neg hz] at hR
      go_wp2_with fail
      refine (fix_ok T3 0 4 w6 (by omega) (by omega) (by omega) (by omega)).mono ?_
      rintro e w7 ⟨rfl, rfl⟩
      rw [sub_whole T3 _ L3.out 4 (sub_len b (a + 2) 4 (by omega))]
      have hn : numL (sub b (a + 2) 4) < 4294967296 := hn6
      clear hn6
      obtain ⟨n, hnE⟩ : ∃ n, n = numL (sub b (a + 2) 4) := ⟨_, rfl⟩
      rw [← hnE] at hR hn ⊢
      clear hnE
      by_cases h6 : n ≤ 65536
      · rw [if_pos h6, ← HS.out] at hR
        subst hR
        go_wp2
        refine bodyPost_ret (results_tmp4 rfl _ _ _) rfl ?_
        exact ⟨rfl, f6, b16⟩
      · rw [if_neg h6] at hR
        subst hR
        go_wp2
        refine bodyPost_ret (results_tmp4 rfl _ _ _) rfl ?_
        exact ⟨rfl, f6, b16⟩
  · rw [if_neg hq] at hR
    subst hR
    have hEq : (T4.toList == lowL s) = false := by
      rw [L4.out, beq_eq_false_iff_ne, HS.out]; exact hq
    go_wp2
    refine bodyPost_ret (results_tmp4 rfl _ _ _) rfl ?_
    exact ⟨rfl, f6, b16⟩
/-- Behind head: where the literal stands, if it tells a payload's size. -/
theorem head_any (b : ByteArray) (a g B : Nat) (w : World) (hF : Fld w b a g) (ha : a ≤ b.size) (hb : b.size < 4611686018427387904) (hB : B ≤ g) (ht : Tab w) (hB0 : 0 < B) :
    Calls Tryz.prog 104 #[lit g] w fun e w' => e = .returned (.tuple #[.int .i64 (hdA b a).1, .int .i64 (hdA b a).2.1, .int .u32 (hdA b a).2.2.1, .int .i64 (hdA b a).2.2.2]) ∧ ((hdA b a).2.2.2 = 0 → Fld w' b (a + 10) g) ∧ Below B w w' := by
  unfold hdA
  by_cases h0 : b.size ≤ a
  · rw [if_pos h0]
    refine (head_31 b a g B w hF (by omega) hb hB).mono ?_
    rintro e w' ⟨rfl, b1⟩
    exact ⟨rfl, fun h => by simp at h, b1⟩
  · rw [if_neg h0]
    by_cases h1 : sub b a 1 = [167]
    · rw [if_pos h1]
      by_cases h10 : b.size < a + 10
      · rw [if_pos h10]
        refine (head_31b b a g B w hF (by omega) h1 h10 hb hB).mono ?_
        rintro e w' ⟨rfl, b1⟩
        exact ⟨rfl, fun h => by simp at h, b1⟩
      · rw [if_neg h10]
        refine (head_10 b a g B w hF (by omega) h1 hb hB ht hB0 _ rfl).mono ?_
        rintro e w' ⟨rfl, f1, b1⟩
        exact ⟨rfl, fun _ => f1, b1⟩
    · rw [if_neg h1]
      refine (head_33 b a g B w hF (by omega) h1 hb hB).mono ?_
      rintro e w' ⟨rfl, b1⟩
      exact ⟨rfl, fun h => by simp at h, b1⟩
end Go.Proofs.YtkoannkecojhmaaGreatDoor
namespace Go.Proofs.YtkoannkecojhmaaGreatDoor
open Go.RowKit
set_option maxHeartbeats 4000000 in
set_option maxRecDepth 100000 in
theorem slite_any (s : ByteArray) (w : World) (hs : s.size ≤ 65536) :
    Calls Tryz.prog 84 #[.string s] w fun e w' => e = .returned (.string s) ∧ Below w.heap.size w w' := by
  by_cases h0 : s.size = 0
  · obtain rfl : s = ⟨#[]⟩ := ByteArray.ext (Array.eq_empty_of_size_eq_zero h0)
    go_enter Tryz.func84, Tryz.ntmps84
    go_wp2
    go_ret
    exact ⟨rfl, Below.refl _ _⟩
  · obtain ⟨i0, hi, hz0, hz1, hz2⟩ := info_parts Tryz.info5
    obtain ⟨M, hM⟩ : ∃ M, M = madeCells (Value.int .u8 0).cells (((s.size : Nat) : Int).toNat * i0.size) := ⟨_, rfl⟩
    have hMs : M.size = s.size := by rw [hM, size_madeCells, hz1]; simp
    have hmk : ∀ W : World, (Instr.makeSlice 57 (.int .i64 (s.size : Int)) (.int .i64 (s.size : Int))).run Tryz.prog W = .ok (.slice (some ⟨W.heap.size, 0, none⟩) s.size s.size) (W.alloc (.cells M 5)) := fun W => by
      have h := run_make (P := Tryz.prog) W 57 5 i0 (.int .u8 0) Tryz.underlying57 hi hz0 .i64 .i64 (s.size : Int) (s.size : Int) (by omega) (by omega) (by rw [hz2]; omega) (by omega)
      rw [← hM] at h
      simpa using h
    clear hM
    have hcp := Lib.run_copy_row_string (P := Tryz.prog) (w.alloc (.cells M 5)) 57 9 3 5 w.heap.size 0 s.size s.size s M 5 Tryz.underlying57 (by rw [hi]; simp [hz1]) (heap_alloc_new w _) (Nat.le_refl _) (by omega)
    obtain ⟨Y, hY⟩ : ∃ Y, Y = (M.toList.take 0 ++ Lib.byteCells s.data.toList ++ M.toList.drop (0 + s.size)).toArray := ⟨_, rfl⟩
    rw [← hY] at hcp
    have hYl : Y.toList = Lib.byteCells s.data.toList := by
      rw [hY, List.toList_toArray, List.take_zero, List.nil_append, List.drop_of_length_le (by rw [Array.length_toList]; omega), List.append_nil]
    have hYs : Y.size = s.size := by rw [← Array.length_toList, hYl, Lib.byteCells_length, ← Lib.size_eq]
    have hgY : ((w.alloc (.cells M 5)).setRow w.heap.size Y).heap[w.heap.size]? = some (.cells Y 5 (0, 0)) := setRow_heap _ _ M _ 5 (0, 0) (heap_alloc_new w _)
    have hUS := Lib.run_unsafeString_row (P := Tryz.prog) ((w.alloc (.cells M 5)).setRow w.heap.size Y) 110 3 9 5 Tryz.underlying110 (by simp [Program.cellsOf, hi, hz1]) w.heap.size Y.size (by unfold World.shape?; rw [hgY]) s.data.toList (fun e => h0 (by rw [Lib.size_eq, e]; rfl)) (by rw [← Lib.size_eq]; omega) (by rw [← Lib.size_eq]; omega)
      (fun j x hx => Lib.cells_of_row hgY Y.size j _ (by rw [List.take_of_length_le (by rw [Array.length_toList]; exact Nat.le_refl _), hYl]; simp [Lib.byteCells, hx]))
    rw [← Lib.size_eq] at hUS
    clear hY
    go_enter Tryz.func84, Tryz.ntmps84
    go_wp2
    go_ret
    have hb2 : Below w.heap.size (w.alloc (.cells M 5)) ((w.alloc (.cells M 5)).setRow w.heap.size Y) := ⟨rfl, rfl, rfl, by simp, fun k hk => setRow_other _ _ _ _ (by omega)⟩
    exact ⟨rfl, Lib.below_freeze (((Below.refl _ w).alloc (Nat.le_refl _) _).trans hb2) (p := ⟨w.heap.size, 0, none⟩) (Nat.le_refl _) _⟩
theorem sclone_any (s : ByteArray) (w : World) (hs : s.size ≤ 65536) :
    Calls Tryz.prog 72 #[.string s] w fun e w' => e = .returned (.string s) ∧ Below w.heap.size w w' := by
  go_enter Tryz.func72, Tryz.ntmps72
  go_wp2_with fail
  refine (slite_any s _ hs).mono ?_
  rintro e w1 ⟨rfl, b1⟩
  go_wp2
  go_ret
  exact ⟨rfl, b1⟩
end Go.Proofs.YtkoannkecojhmaaGreatDoor
namespace Go.Proofs.YtkoannkecojhmaaGreatDoor
open Go.RowKit Go.Proofs.SealMath
theorem ret4 {a b c d e f g h : Value} (h1 : a = e) (h2 : b = f) (h3 : c = g) (h4 : d = h) : Ending.returned (.tuple #[a, b, c, d]) = .returned (.tuple #[e, f, g, h]) := by rw [h1, h2, h3, h4]
theorem fld_new (w : World) (b : ByteArray) (a : Nat) : Fld ((w.alloc (Obj.cells #[Value.string b] 9)).alloc (Obj.cells #[Value.int IntKind.i64 a] 3)) b a w.heap.size := by
  have h1 := heap_alloc_last w (Obj.cells #[Value.string b] 9)
  have h2 := heap_alloc_last (w.alloc (Obj.cells #[Value.string b] 9)) (Obj.cells #[Value.int IntKind.i64 a] 3)
  have e : (w.alloc (Obj.cells #[Value.string b] 9)).heap.size = w.heap.size + 1 := by simp
  rw [e] at h2
  refine ⟨?_, ?_, frozen_of_row _ _ _ _ _ h2⟩
  · rw [World.cell?_alloc_lt _ _ _ (by simp), cell_of_row _ _ 0 _ 9 (0, 0) h1]; rfl
  · rw [cell_of_row _ _ 0 _ 3 (0, 0) h2]; rfl
set_option maxRecDepth 100000 in
theorem fields_any (b : ByteArray) (a : Nat) (w : World) :
    Calls Tryz.prog 103 #[.string b, .int .i64 a] w fun e w' => e = .returned (lit w.heap.size) ∧ Fld w' b a w.heap.size ∧ Below w.heap.size w w' := by
  have hmf : ∀ (fn : Fn) (first cap : Array Value) (w : World), (Instr.makeFunc fn first cap).run Tryz.prog w = .ok (.func fn first cap) w := fun _ _ _ _ => rfl
  go_enter Tryz.func103, Tryz.ntmps103
  go_wp2
  go_ret
  exact ⟨rfl, fld_new w b a, ((Below.refl _ w).alloc (Nat.le_refl _) _).alloc (by simp) _⟩
/-- What Parse answers at a place. -/
def psA (b : ByteArray) (a : Nat) : Nat × List UInt8 × Nat × Int :=
  if (hdA b a).2.2.2 = 0 then
    if b.size < a + 14 + (hdA b a).2.1 then (0, [], 0, 31)
    else if sub b (a + 10 + (hdA b a).2.1) 4 = lowL (crc (hdA b a).2.2.1 (sub b (a + 10) (hdA b a).2.1)) then ((hdA b a).1, sub b (a + 10) (hdA b a).2.1, a + 14 + (hdA b a).2.1, 0)
    else (0, [], 0, 34)
  else (0, [], 0, (hdA b a).2.2.2)
theorem hdA_ok (b : ByteArray) (a : Nat) (h : (hdA b a).2.2.2 = 0) : a + 10 ≤ b.size ∧ (hdA b a).2.1 ≤ 65536 ∧ (hdA b a).1 ≤ 255 ∧ (hdA b a).2.2.1 < 4294967296 := by
  unfold hdA at h ⊢
  split at h
  · simp at h
  · split at h
    · split at h
      · simp at h
      · split at h
        · split at h
          · simp at h
          · split at h
            · rename_i h1 h2 h3 h4 h5 h6
              rw [if_neg h1, if_pos h2, if_neg h3, if_pos h4, if_neg h5, if_pos h6]
              have := numL_sub_lt b (a + 1) 1 1 (by omega) (by omega)
              exact ⟨by omega, h6, by show numL _ ≤ 255; omega, crc_lt _ (by omega)⟩
            · simp at h
        · simp at h
    · simp at h
set_option maxRecDepth 100000 in
set_option maxHeartbeats 8000000 in
theorem parse_ok (b : ByteArray) (a : Nat) (R : Nat × List UInt8 × Nat × Int) (w : World) (ht : Tab w) (hg : 0 < w.heap.size) (hb : b.size < 4611686018427387904) (ha : a ≤ b.size) (hR : R = psA b a) :
    Calls Tryz.prog 89 #[.string b, .int .i64 a] w fun e w' => e = .returned (.tuple #[.int .i64 R.1, .string ⟨R.2.1.toArray⟩, .int .i64 R.2.2.1, .int .i64 R.2.2.2]) ∧ Below w.heap.size w w' := by
  have HR : Hid (R = psA b a) := hR
  clear hR
  go_enter Tryz.func89, Tryz.ntmps89
  go_wp2_with fail
  refine (isPlace_any _ _ _).mono ?_
  rintro e w0 ⟨rfl, rfl⟩
  rw [decide_eq_true (by omega : 0 ≤ (a : Int) ∧ (a : Int) ≤ b.size)]
  go_wp2_with fail
  refine (fields_any b a w0).mono ?_
  rintro e w1 ⟨rfl, f1, b1⟩
  go_wp2_with fail
  refine (head_any b a w0.heap.size w0.heap.size w1 f1 ha hb (Nat.le_refl _) (ht.below b1 hg) hg).mono ?_
  rintro e w2 ⟨rfl, f2, b2⟩
  have hok := hdA_ok b a
  have hR := HR.out
  unfold psA at hR
  clear HR
  obtain ⟨⟨k, n, s, x⟩, hH⟩ : ∃ H, H = hdA b a := ⟨_, rfl⟩
  rw [← hH] at hR hok f2 ⊢
  clear hH
  dsimp only at hR hok f2 ⊢
  have b12 := b1.trans b2
  by_cases hx : x = 0
  · subst hx
    rw [if_pos rfl] at hR
    obtain ⟨ha10, hn, hk, hs⟩ := hok rfl
    have f2' := f2 rfl
    clear hok f2
    go_wp2_with fail
    refine (next_any b (a + 10) n w0.heap.size w0.heap.size _ f2' (by omega) hb (by omega) (Nat.le_refl _)).mono ?_
    rintro e w3 ⟨rfl, f3, b3, s3⟩
    by_cases h14 : b.size < a + 14 + n
    · rw [if_pos h14] at hR
      subst hR
      have hD : (nxT b (nxA b (a + 10) n) 4).toList = [] := by rw [told_none2 b (a + 10) n 4 (by omega) (by omega), toL]
      have hn3 := nxA_le b (a + 10) n
      generalize nxT b (a + 10) n = T1 at *
      generalize nxA b (a + 10) n = a3 at *
      go_wp2_with fail
      refine (next_any b a3 4 w0.heap.size w0.heap.size _ f3 hn3 hb (by omega) (Nat.le_refl _)).mono ?_
      rintro e w4 ⟨rfl, f4, b4, s4⟩
      generalize nxT b a3 4 = T2 at *
      go_wp2
      refine bodyPost_ret (results_tmp4 rfl _ _ _) rfl ?_
      exact ⟨rfl, (b12.trans b3).trans b4⟩
    · rw [if_neg h14] at hR
      rw [nxA_yes b (a + 10) n (by omega)] at f3
      obtain ⟨T1, e1⟩ : ∃ T, T = nxT b (a + 10) n := ⟨_, rfl⟩
      have L1 := nxT_list b (a + 10) n (by omega)
      have s1 := nxT_size b (a + 10) n (by omega)
      rw [← e1] at L1 s1 ⊢
      clear e1
      go_wp2_with fail
      refine (next_any b (a + 10 + n) 4 w0.heap.size w0.heap.size _ f3 (by omega) hb (by omega) (Nat.le_refl _)).mono ?_
      rintro e w4 ⟨rfl, f4, b4, s4⟩
      obtain ⟨T2, e2⟩ : ∃ T, T = nxT b (a + 10 + n) 4 := ⟨_, rfl⟩
      have L2 : Hid (T2.toList = sub b (a + 10 + n) 4) := by show _ = _; rw [e2, toL]; exact nxT_list b (a + 10 + n) 4 (by omega)
      have s2 : T2.toList.isEmpty = false := by
        have := nxT_size b (a + 10 + n) 4 (by omega)
        rw [ba_size, ← toL, ← e2] at this
        cases h : T2.toList with
        | nil => rw [h] at this; simp at this
        | cons c l => rfl
      rw [← e2]
      clear e2
      have b14 := (b12.trans b3).trans b4
      have HL1 : Hid (T1.data.toList = sub b (a + 10) n) := L1
      clear L1
      go_wp2_with fail
      refine (on_any s T1 w4 (ht.below b14 hg) hs (by omega)).mono ?_
      rintro e w5 ⟨rfl, rfl⟩
      rw [HL1.out]
      have htl := crc_lt (s := s) (sub b (a + 10) n) hs
      obtain ⟨t, hts⟩ : ∃ t, t = crc s (sub b (a + 10) n) := ⟨_, rfl⟩
      rw [← hts] at htl hR ⊢
      clear hts
      go_wp2_with fail
      refine (low_any t w5 htl).mono ?_
      rintro e w6 ⟨rfl, b6⟩
      have b16 := chain b14 b6 (Nat.le_refl _)
      by_cases hq : sub b (a + 10 + n) 4 = lowL t
      · rw [if_pos hq] at hR
        have hEq : T2.toList = lowL t := by rw [L2.out, hq]
        rw [← HL1.out] at hR
        subst hR
        clear hq
        go_wp2_with fail
        refine (sclone_any T1 w6 (by omega)).mono ?_
        rintro e w7 ⟨rfl, b7⟩
        go_wp2
        refine bodyPost_ret (results_tmp4 rfl _ _ _) rfl ?_
        refine ⟨ret4 rfl rfl (ival ?_) rfl, chain b16 b7 (Nat.le_refl _)⟩
        show (a : Int) + 10 + n + 4 = ((a + 14 + n : Nat) : Int)
        omega
      · rw [if_neg hq] at hR
        subst hR
        have hEq : (T2.toList == lowL t) = false := by rw [L2.out, beq_eq_false_iff_ne]; exact hq
        go_wp2
        refine bodyPost_ret (results_tmp4 rfl _ _ _) rfl ?_
        exact ⟨rfl, b16⟩
  · rw [if_neg hx] at hR
    subst hR
    go_wp2
    refine bodyPost_ret (results_tmp4 rfl _ _ _) rfl ?_
    exact ⟨rfl, b12⟩
/-- What Parse answers. -/
def prA (b : ByteArray) (p : Int) : Nat × List UInt8 × Nat × Int := if 0 ≤ p ∧ p ≤ b.size then psA b p.toNat else (0, [], 0, 13)
set_option maxRecDepth 100000 in
set_option maxHeartbeats 1000000 in
theorem parse_any (b : ByteArray) (p : Int) (w : World) (ht : Tab w) (hg : 0 < w.heap.size) (hb : b.size < 4611686018427387904) :
    Calls Tryz.prog 89 #[.string b, .int .i64 p] w fun e w' => e = .returned (.tuple #[.int .i64 (prA b p).1, .string ⟨(prA b p).2.1.toArray⟩, .int .i64 (prA b p).2.2.1, .int .i64 (prA b p).2.2.2]) ∧ Below w.heap.size w w' := by
  unfold prA
  by_cases h : 0 ≤ p ∧ p ≤ b.size
  · rw [if_pos h]
    obtain ⟨a, rfl⟩ : ∃ a : Nat, p = a := ⟨p.toNat, by omega⟩
    exact parse_ok b a _ w ht hg hb (by omega) rfl
  · rw [if_neg h]
    go_enter Tryz.func89, Tryz.ntmps89
    go_wp2_with fail
    refine (isPlace_any _ _ _).mono ?_
    rintro e w1 ⟨rfl, rfl⟩
    rw [decide_eq_false h]
    clear h
    go_wp2
    refine bodyPost_ret (results_tmp4 rfl _ _ _) rfl ?_
    exact ⟨rfl, Below.refl _ _⟩
end Go.Proofs.YtkoannkecojhmaaGreatDoor
namespace Go.Proofs.YtkoannkecojhmaaGreatDoor
open Go.RowKit Go.Proofs.SealMath
theorem numL_four (a b c d : UInt8) : numL [a, b, c, d] = 16777216 * a.toNat + 65536 * b.toNat + 256 * c.toNat + d.toNat := by
  simp only [numL, List.foldl_cons, List.foldl_nil]; omega
theorem fixL_four (n : Nat) : fixL n 4 = [UInt8.ofNat (n / 16777216 % 256), UInt8.ofNat (n / 65536 % 256), UInt8.ofNat (n / 256 % 256), UInt8.ofNat (n % 256)] := by
  have e : List.range 4 = [0, 1, 2, 3] := by decide
  unfold fixL fxB; rw [e]; simp
theorem num_fix (n : Nat) (h : n < 4294967296) : numL (fixL n 4) = n := by
  rw [fixL_four, numL_four, u8n, u8n, u8n, u8n]; omega
theorem four_of (l : List UInt8) (h : l.length = 4) : ∃ a b c d, l = [a, b, c, d] := by
  match l, h with
  | [a, b, c, d], _ => exact ⟨a, b, c, d, rfl⟩
theorem fix_num (l : List UInt8) (h : l.length = 4) : fixL (numL l) 4 = l := by
  obtain ⟨a, b, c, d, rfl⟩ := four_of l h
  have ha := a.toNat_lt; have hb := b.toNat_lt; have hc := c.toNat_lt; have hd := d.toNat_lt
  rw [fixL_four, numL_four]
  simp only [List.cons.injEq, and_true]
  refine ⟨?_, ?_, ?_, ?_⟩ <;> apply UInt8.toNat_inj.1 <;> rw [u8n] <;> omega
theorem num_one (c : UInt8) : numL [c] = c.toNat := by simp [numL]
theorem of_one (c : UInt8) : UInt8.ofNat (numL [c]) = c := by rw [num_one]; apply UInt8.toNat_inj.1; rw [u8n]; exact Nat.mod_eq_of_lt c.toNat_lt
/-- Where head tells no refusal. -/
theorem hdA_yes (b : ByteArray) (a : Nat) (h : (hdA b a).2.2.2 = 0) : a + 10 ≤ b.size ∧ ∃ k n, 1 ≤ k ∧ k ≤ 255 ∧ n ≤ 65536 ∧ hdA b a = (k, n, crc 0 (hdL k n), 0) ∧ sub b a 6 = hdL k n ∧ sub b (a + 6) 4 = lowL (crc 0 (hdL k n)) := by
  unfold hdA at h
  split at h
  · simp at h
  · split at h
    · split at h
      · simp at h
      · split at h
        · split at h
          · simp at h
          · split at h
            · rename_i h1 h2 h3 h4 h5 h6
              have e : hdA b a = (numL (sub b (a + 1) 1), numL (sub b (a + 2) 4), crc 0 (sub b a 6), 0) := by
                unfold hdA; rw [if_neg h1, if_pos h2, if_neg h3, if_pos h4, if_neg h5, if_pos h6]
              obtain ⟨c, hc⟩ := sub_one b (a + 1) (by omega)
              have hl := c.toNat_lt
              have h6' : sub b a 6 = hdL (numL (sub b (a + 1) 1)) (numL (sub b (a + 2) 4)) := by
                unfold hdL
                rw [fix_num _ (sub_len b (a + 2) 4 (by omega)), sub_add b a 1 5, h2, sub_add b (a + 1) 1 4, hc, of_one]; rfl
              rw [hc, num_one] at h5
              refine ⟨by omega, numL (sub b (a + 1) 1), numL (sub b (a + 2) 4), by rw [hc, num_one]; omega, by rw [hc, num_one]; omega, h6, by rw [e, ← h6'], h6', by rw [← h6']; exact h4⟩
            · simp at h
        · simp at h
    · simp at h
/-- What Parse takes is a frame. -/
theorem psA_yes (b : ByteArray) (a : Nat) (h : (psA b a).2.2.2 = 0) : ∃ k p, 1 ≤ k ∧ k ≤ 255 ∧ p.length ≤ 65536 ∧ a + (p.length + 14) ≤ b.size ∧ psA b a = (k, p, a + (p.length + 14), 0) ∧ sub b a (p.length + 14) = frL k p := by
  unfold psA at h ⊢
  by_cases h0 : (hdA b a).2.2.2 = 0
  · rw [if_pos h0] at h ⊢
    obtain ⟨h10, k, n, hk1, hk2, hn, e, e6, e4⟩ := hdA_yes b a h0
    rw [e] at h ⊢
    dsimp only at h ⊢
    by_cases h14 : b.size < a + 14 + n
    · rw [if_pos h14] at h; simp at h
    · rw [if_neg h14] at h ⊢
      by_cases hq : sub b (a + 10 + n) 4 = lowL (crc (crc 0 (hdL k n)) (sub b (a + 10) n))
      · rw [if_pos hq]
        have hl := sub_len b (a + 10) n (by omega)
        refine ⟨k, sub b (a + 10) n, hk1, hk2, by omega, by omega, by rw [hl, show a + 14 + n = a + (n + 14) by omega], ?_⟩
        unfold frL
        rw [hl, show n + 14 = 6 + 4 + n + 4 by omega, sub_add b a (6 + 4 + n) 4, sub_add b a (6 + 4) n, sub_add b a 6 4, e6, e4, show a + (6 + 4 + n) = a + 10 + n by omega, hq, crc_append]
      · rw [if_neg hq] at h; simp at h
  · rw [if_neg h0] at h; exact absurd h h0
theorem sub_part (b : ByteArray) (a n i m : Nat) (l : List UInt8) (h : sub b a n = l) (him : i + m ≤ n) : sub b (a + i) m = (l.drop i).take m := by
  subst h; unfold sub
  rw [List.drop_take, List.take_take, List.drop_drop]
  congr 1; omega
theorem lowL_len (s : Nat) : (lowL s).length = 4 := rfl
/-- A frame is taken, wherever it stands. -/
theorem psA_frame (b : ByteArray) (a k : Nat) (p : List UInt8) (hk1 : 1 ≤ k) (hk2 : k ≤ 255) (hp : p.length ≤ 65536) (hs : a + (p.length + 14) ≤ b.size) (h : sub b a (p.length + 14) = frL k p) :
    psA b a = (k, p, a + (p.length + 14), 0) := by
  have hd := hdL_len k p.length
  have e6 : sub b a 6 = hdL k p.length := by
    have := sub_part b a _ 0 6 _ h (by omega)
    rw [Nat.add_zero] at this
    rw [this]; unfold frL
    rw [List.drop_zero, List.append_assoc, List.append_assoc, List.take_append_of_le_length (by omega), List.take_of_length_le (by omega)]
  have e4 : sub b (a + 6) 4 = lowL (crc 0 (hdL k p.length)) := by
    have := sub_part b a _ 6 4 _ h (by omega)
    rw [this]; unfold frL
    rw [List.append_assoc, List.append_assoc, List.drop_append_of_le_length (by omega), List.drop_of_length_le (by omega), List.nil_append, List.take_append_of_le_length (by rw [lowL_len]; omega), List.take_of_length_le (by rw [lowL_len]; omega)]
  have ep : sub b (a + 10) p.length = p := by
    have := sub_part b a _ 10 p.length _ h (by omega)
    rw [this]; unfold frL
    rw [List.append_assoc, List.drop_append_of_le_length (by simp [hd, lowL_len]), List.drop_of_length_le (by simp [hd, lowL_len]), List.nil_append, List.take_append_of_le_length (by omega), List.take_of_length_le (by omega)]
  have es : sub b (a + 10 + p.length) 4 = lowL (crc 0 (hdL k p.length ++ p)) := by
    have := sub_part b a _ (10 + p.length) 4 _ h (by omega)
    rw [Nat.add_assoc, this]; unfold frL
    rw [List.drop_append_of_le_length (by simp [hd, lowL_len]; omega), List.drop_of_length_le (by simp [hd, lowL_len]; omega), List.nil_append, List.take_of_length_le (by rw [lowL_len]; omega)]
  have e1 : sub b a 1 = [167] := by
    have := sub_part b a 6 0 1 _ e6 (by omega)
    rw [Nat.add_zero] at this; rw [this]; rfl
  have ek : sub b (a + 1) 1 = [UInt8.ofNat k] := by
    have := sub_part b a 6 1 1 _ e6 (by omega)
    rw [this]; rfl
  have en : sub b (a + 2) 4 = fixL p.length 4 := by
    have := sub_part b a 6 2 4 _ e6 (by omega)
    rw [this]
    show (fixL p.length 4).take 4 = _
    rw [List.take_of_length_le (by rw [fixL_len]; omega)]
  have ekn : numL (sub b (a + 1) 1) = k := by rw [ek, num_one, u8n]; omega
  have enn : numL (sub b (a + 2) 4) = p.length := by rw [en, num_fix _ (by omega)]
  have eh : hdA b a = (k, p.length, crc 0 (hdL k p.length), 0) := by
    unfold hdA
    rw [if_neg (by omega), if_pos e1, if_neg (by omega), e6, if_pos e4, ekn, enn, if_neg (by omega), if_pos hp]
  unfold psA
  rw [eh]
  dsimp only
  rw [if_pos rfl, if_neg (by omega), ep, ← crc_append, if_pos es, show a + 14 + p.length = a + (p.length + 14) by omega]
/-- Frame's answers. -/
theorem frT_ok (k : Int) (p : ByteArray) (h : frE k p = 0) : ∃ a : Nat, k = a ∧ 1 ≤ a ∧ a ≤ 255 ∧ p.data.toList.length ≤ 65536 ∧ frT k p = frL a p.data.toList := by
  unfold frE at h
  unfold frT
  by_cases h1 : 1 ≤ k ∧ k ≤ 255
  · rw [if_pos h1] at h ⊢
    by_cases h2 : p.size ≤ 65536
    · rw [if_pos h2]
      exact ⟨k.toNat, by omega, by omega, by omega, by rw [← ba_size]; exact h2, rfl⟩
    · rw [if_neg h2] at h; simp at h
  · rw [if_neg h1] at h; simp at h
theorem frT_no (k : Int) (p : ByteArray) (h : frE k p ≠ 0) : frT k p = [] := by
  unfold frE at h
  unfold frT
  by_cases h1 : 1 ≤ k ∧ k ≤ 255
  · rw [if_pos h1] at h ⊢
    by_cases h2 : p.size ≤ 65536
    · rw [if_pos h2] at h; exact absurd rfl h
    · rw [if_neg h2]
  · rw [if_neg h1]
theorem frT_yes (k : Nat) (p : ByteArray) (h1 : 1 ≤ k) (h2 : k ≤ 255) (h3 : p.data.toList.length ≤ 65536) : frE (k : Int) p = 0 ∧ frT (k : Int) p = frL k p.data.toList := by
  have hh : 1 ≤ (k : Int) ∧ (k : Int) ≤ 255 := by omega
  rw [← ba_size] at h3
  unfold frE frT
  rw [if_pos hh, if_pos h3, if_pos hh, if_pos h3]
  exact ⟨rfl, rfl⟩
/-- Parse of a frame that stands alone or among other bytes. -/
theorem prA_frame (b : ByteArray) (a k : Nat) (p : List UInt8) (x y : List UInt8) (hk1 : 1 ≤ k) (hk2 : k ≤ 255) (hp : p.length ≤ 65536) (hb : b.data.toList = x ++ frL k p ++ y) (ha : x.length = a) :
    prA b a = (k, p, a + (p.length + 14), 0) := by
  have hs : b.size = a + (p.length + 14) + y.length := by rw [ba_size, hb]; simp [frL_len, ha]; omega
  unfold prA
  rw [if_pos (by omega), Int.toNat_natCast]
  refine psA_frame b a k p hk1 hk2 hp (by omega) ?_
  unfold sub
  rw [hb, List.append_assoc, List.drop_append_of_le_length (by omega), List.drop_of_length_le (by omega), List.nil_append, List.take_append_of_le_length (by rw [frL_len]; omega), List.take_of_length_le (by rw [frL_len]; omega)]
theorem known : crc 0 [49, 50, 51, 52, 53, 54, 55, 56, 57] = 3808858755 := by decide +kernel
end Go.Proofs.YtkoannkecojhmaaGreatDoor
set_option linter.unusedVariables false
set_option linter.unusedSimpArgs false
namespace Go.Proofs.YtkoannkecojhmaaGreatDoor
open Go.RowKit Go.Proofs.SealMath
theorem pay_le (b : ByteArray) (a : Nat) : (⟨(psA b a).2.1.toArray⟩ : ByteArray).size ≤ 65536 := by
  show (psA b a).2.1.toArray.size ≤ 65536
  rw [List.size_toArray]
  by_cases h : (psA b a).2.2.2 = 0
  · obtain ⟨k, p, h1, h2, h3, h4, h5, h6⟩ := psA_yes b a h
    rw [h5]; exact h3
  · unfold psA at h ⊢
    split at h
    · split at h
      · rename_i h1 h2; rw [if_pos h1, if_pos h2]; simp
      · split at h
        · simp at h
        · rename_i h1 h2 h3; rw [if_pos h1, if_neg h2, if_neg h3]; simp
    · rename_i h1; rw [if_neg h1]; simp
theorem prA0 (b : ByteArray) : prA b 0 = psA b 0 := by unfold prA; rw [if_pos (by omega)]; rfl
theorem quad {α β γ δ : Type} (p : α × β × γ × δ) : p = (p.1, p.2.1, p.2.2.1, p.2.2.2) := rfl

/-- What a text says, whether it goes or not; what Decode tells. -/
def dcU (b : ByteArray) : Except Int Mf :=
  if (psA b 0).2.2.2 ≠ 0 then .error (psA b 0).2.2.2 else if (psA b 0).2.2.1 ≠ b.size then .error 37 else if (psA b 0).1 ≠ 3 then .error 35 else unP ⟨(psA b 0).2.1.toArray⟩
def mz : Mf := ⟨0, 0, 0, 0, 0, 0, []⟩
def dcM (b : ByteArray) : Except Int Mf := match dcU b with
  | .error e => .error e
  | .ok m => if chE m = 0 then .ok m else .error (chE m)
def dcV : Except Int Mf → Mf
  | .ok m => m
  | .error _ => mz
theorem getD_le {l : List Nat} {B : Nat} (h : ∀ x ∈ l, x ≤ B) (i : Nat) : l.getD i 0 ≤ B := by
  by_cases hi : i < l.length
  · rw [List.getD_eq_getElem?_getD, List.getElem?_eq_getElem hi]; exact h _ (List.getElem_mem hi)
  · rw [List.getD_eq_getElem?_getD, List.getElem?_eq_none (by omega)]; exact Nat.zero_le _
theorem rdRs_ok {p : ByteArray} : ∀ {n a : Nat} {rs : List Ru} {q : Nat}, rdRs p n a = .ok (rs, q) → rs.length = n ∧ ∀ r ∈ rs, I64 r.num ∧ I64 r.lo ∧ I64 r.hi ∧ I64 r.cnt
  | 0, a, rs, q, h => by simp only [rdRs] at h; cases h; exact ⟨rfl, fun r hr => by cases hr⟩
  | n + 1, a, rs, q, h => by
    simp only [rdRs] at h
    cases hr : rd p 1152921504606846976 4 a with
    | error e => rw [hr] at h; cases h
    | ok x =>
      obtain ⟨l, a'⟩ := x
      rw [hr] at h
      simp only at h
      cases hr2 : rdRs p n a' with
      | error e => rw [hr2] at h; cases h
      | ok y =>
        obtain ⟨rs', q'⟩ := y
        rw [hr2] at h
        simp only [Except.map] at h
        cases h
        obtain ⟨h1, h2⟩ := rdRs_ok hr2
        refine ⟨by simp [h1], fun r hr' => ?_⟩
        rcases List.mem_cons.1 hr' with rfl | hr'
        · have hb := (rd_len hr).2
          have a0 := getD_le hb 0
          have a1 := getD_le hb 1
          have a2 := getD_le hb 2
          have a3 := getD_le hb 3
          simp only [ruOf, I64]
          omega
        · exact h2 r hr'
theorem unP_ok {p : ByteArray} {m : Mf} (h : unP p = .ok m) : MfW m ∧ m.rs.length ≤ 24 := by
  unfold unP at h
  cases h1 : rd p 1152921504606846976 6 0 with
  | error e => rw [h1] at h; cases h
  | ok x =>
    obtain ⟨hd, a1⟩ := x
    rw [h1] at h
    simp only at h
    cases h2 : rd p 24 1 a1 with
    | error e => rw [h2] at h; cases h
    | ok y =>
      obtain ⟨c, a2⟩ := y
      rw [h2] at h
      simp only at h
      cases h3 : rdRs p (c.getD 0 0) a2 with
      | error e => rw [h3] at h; cases h
      | ok z =>
        obtain ⟨rs, a3⟩ := z
        rw [h3] at h
        simp only at h
        split at h
        · injection h with h
          subst h
          have hb := (rd_len h1).2
          have a0 := getD_le hb 0
          have a1 := getD_le hb 1
          have a2 := getD_le hb 2
          have a3 := getD_le hb 3
          have a4 := getD_le hb 4
          have a5 := getD_le hb 5
          have hc := getD_le (rd_len h2).2 0
          obtain ⟨g1, g2⟩ := rdRs_ok h3
          refine ⟨⟨?_, ?_, ?_, ?_, ?_, ?_, g2⟩, by simp only [mfOf]; omega⟩ <;> simp only [mfOf, I64] <;> omega
        · cases h
/-- What unframe leaves. -/
def UfR (w : World) (X : Except Int Mf) (e : Ending) (w' : World) : Prop :=
  ∃ (m : Mf) (la : Option Addr) (c : Nat) (er : Int), e = .returned (.tuple #[.agg (mfC m la c).toArray, .int .i64 er]) ∧ er = unE X ∧ Below w.heap.size w w' ∧
    (∀ m', X = .ok m' → m = m' ∧ w'.ownsRow 0 54 4 (.slice la m.rs.length c) m.rs.length (m.rs.flatMap ruC) ∧ ∀ k, (Value.slice la m.rs.length c).ownBlock = some k → w.heap.size ≤ k)
set_option maxHeartbeats 8000000 in
set_option maxRecDepth 100000 in
theorem unframe_any (b : ByteArray) (w : World) (ht : Tab w) (hg : 0 < w.heap.size) (hb : b.size < 4611686018427387904) :
    Calls Tryz.prog 79 #[.string b] w (UfR w (dcU b)) := by
  obtain ⟨wa, hwa⟩ : ∃ wa, wa = w.alloc (.cells #[.int .i64 0, .int .i64 0, .int .i64 0, .int .i64 0, .int .i64 0, .int .i64 0, .slice none 0 0] 26) := ⟨_, rfl⟩
  have ba : Below w.heap.size w wa := by rw [hwa]; exact (Below.refl _ w).alloc (Nat.le_refl _) _
  have sza : wa.heap.size = w.heap.size + 1 := by rw [hwa]; simp
  have ZA : Zr wa w.heap.size := by rw [hwa]; exact heap_alloc_last w _
  have hwa' : w.alloc (.cells #[.int .i64 0, .int .i64 0, .int .i64 0, .int .i64 0, .int .i64 0, .int .i64 0, .slice none 0 0] 26) = wa := hwa.symm
  have c1 := parse_any b 0 wa (ht.below ba hg) (by omega) hb
  rw [prA0] at c1
  have hpl := pay_le b 0
  obtain ⟨U, hU⟩ : ∃ U, U = dcU b := ⟨_, rfl⟩
  rw [← hU]
  unfold dcU at hU
  obtain ⟨K, P, M, E, hS⟩ : ∃ K P M E, psA b 0 = (K, P, M, E) := ⟨_, _, _, _, rfl⟩
  rw [hS] at c1 hpl hU
  simp only at c1 hpl hU
  have HZ := Hid.mk ZA
  have HU := Hid.mk hU
  clear hwa ZA hS hU
  by_cases hE : E ≠ 0
  · have hU := HU.out
    rw [if_pos hE] at hU
    have hE' := ne_b hE
    subst hU
    clear HU
    go_enter Tryz.func79, Tryz.ntmps79
    go_wp2_with (go_at_call 89; refine c1.mono ?_; rintro e w4 ⟨rfl, b1⟩; clear c1; have Z4 : Zr w4 w.heap.size := (b1.block _ (by omega)).trans HZ.out; obtain ⟨c0, c1, c2, c3, c4, c5, c6, cf⟩ := zr_cells Z4; have b4 := chain ba b1 (Nat.le_refl _))
    obtain ⟨W5, hW5, st5, o0, o1, o2, o3, o4, o5, o6⟩ := fin7 Z4 (.int .i64 0) (.int .i64 0) (.int .i64 0) (.int .i64 0) (.int .i64 0) (.int .i64 0) (.slice none 0 0)
    unfold set7 at hW5
    rw [hW5]
    refine bodyPost_ret (v := .tuple #[.agg #[.int .i64 0, .int .i64 0, .int .i64 0, .int .i64 0, .int .i64 0, .int .i64 0, .slice none 0 0], .int .i64 E]) (by simp [results, Tryz.results79, go_sem, o0, o1, o2, o3, o4, o5, o6]; try rfl) rfl ?_
    exact ⟨mz, none, 0, E, rfl, rfl, b4.trans (st5.toBelow (B := w.heap.size) (fun k hk h => by (have h' : k = w.heap.size := h; omega)) b4.size), fun m' h => by cases h⟩
  · have hE0 : E = 0 := Classical.byContradiction hE
    subst hE0
    by_cases hM : M ≠ b.size
    · have hU := HU.out
      rw [if_neg hE, if_pos hM] at hU
      have hM' : ((M : Int) != (b.size : Int)) = true := by (have : (M : Int) ≠ (b.size : Int) := by omega); simpa [bne_iff_ne] using this
      subst hU
      clear HU hE
      go_enter Tryz.func79, Tryz.ntmps79
      go_wp2_with (go_at_call 89; refine c1.mono ?_; rintro e w4 ⟨rfl, b1⟩; clear c1; have Z4 : Zr w4 w.heap.size := (b1.block _ (by omega)).trans HZ.out; obtain ⟨c0, c1, c2, c3, c4, c5, c6, cf⟩ := zr_cells Z4; have b4 := chain ba b1 (Nat.le_refl _))
      obtain ⟨W5, hW5, st5, o0, o1, o2, o3, o4, o5, o6⟩ := fin7 Z4 (.int .i64 0) (.int .i64 0) (.int .i64 0) (.int .i64 0) (.int .i64 0) (.int .i64 0) (.slice none 0 0)
      unfold set7 at hW5
      rw [hW5]
      refine bodyPost_ret (v := .tuple #[.agg #[.int .i64 0, .int .i64 0, .int .i64 0, .int .i64 0, .int .i64 0, .int .i64 0, .slice none 0 0], .int .i64 37]) (by simp [results, Tryz.results79, go_sem, o0, o1, o2, o3, o4, o5, o6]; try rfl) rfl ?_
      exact ⟨mz, none, 0, 37, rfl, rfl, b4.trans (st5.toBelow (B := w.heap.size) (fun k hk h => by (have h' : k = w.heap.size := h; omega)) b4.size), fun m' h => by cases h⟩
    · have hMs : M = b.size := Classical.byContradiction hM
      subst hMs
      by_cases hK : K ≠ 3
      · have hU := HU.out
        rw [if_neg hE, if_neg hM, if_pos hK] at hU
        have hK' : ((K : Int) != 3) = true := by (have : (K : Int) ≠ 3 := by omega); simpa [bne_iff_ne] using this
        subst hU
        clear HU hE hM
        go_enter Tryz.func79, Tryz.ntmps79
        go_wp2_with (go_at_call 89; refine c1.mono ?_; rintro e w4 ⟨rfl, b1⟩; clear c1; have Z4 : Zr w4 w.heap.size := (b1.block _ (by omega)).trans HZ.out; obtain ⟨c0, c1, c2, c3, c4, c5, c6, cf⟩ := zr_cells Z4; have b4 := chain ba b1 (Nat.le_refl _))
        obtain ⟨W5, hW5, st5, o0, o1, o2, o3, o4, o5, o6⟩ := fin7 Z4 (.int .i64 0) (.int .i64 0) (.int .i64 0) (.int .i64 0) (.int .i64 0) (.int .i64 0) (.slice none 0 0)
        unfold set7 at hW5
        rw [hW5]
        refine bodyPost_ret (v := .tuple #[.agg #[.int .i64 0, .int .i64 0, .int .i64 0, .int .i64 0, .int .i64 0, .int .i64 0, .slice none 0 0], .int .i64 35]) (by simp [results, Tryz.results79, go_sem, o0, o1, o2, o3, o4, o5, o6]; try rfl) rfl ?_
        exact ⟨mz, none, 0, 35, rfl, rfl, b4.trans (st5.toBelow (B := w.heap.size) (fun k hk h => by (have h' : k = w.heap.size := h; omega)) b4.size), fun m' h => by cases h⟩
      · have hK3 : K = 3 := Classical.byContradiction hK
        subst hK3
        have hU := HU.out
        rw [if_neg hE, if_neg hM, if_neg hK] at hU
        have HU2 := Hid.mk hU
        have cu := fun W => unpack_any ⟨P.toArray⟩ W (by omega)
        clear HU hE hM hK hU
        go_enter Tryz.func79, Tryz.ntmps79
        go_wp2_with first
          | (go_at_call 89; refine c1.mono ?_; rintro e w3 ⟨rfl, b1⟩; clear c1; have Z3 : Zr w3 w.heap.size := (b1.block _ (by omega)).trans HZ.out; have b3 := chain ba b1 (Nat.le_refl _))
          | (go_at_call 90; refine (cu w3).mono ?_; rintro e w4 ⟨m, la, c, er, rfl, her, b4', hok⟩; have HEr := Hid.mk her; clear cu her; have Z4 : Zr w4 w.heap.size := (b4'.block _ (Array.getElem?_eq_some_iff.1 Z3).1).trans Z3; obtain ⟨c0, c1, c2, c3, c4, c5, c6, cf⟩ := zr_cells Z4; have b4 := chain b3 b4' (Nat.le_refl _); simp only [mfC])
        obtain ⟨W5, hW5, st5, o0, o1, o2, o3, o4, o5, o6⟩ := fin7 Z4 (.int .i64 m.w) (.int .i64 m.ch) (.int .i64 m.md) (.int .i64 m.seq) (.int .i64 m.nx) (.int .i64 m.jn) (.slice la m.rs.length c)
        unfold set7 at hW5
        rw [hW5]
        refine bodyPost_ret (v := .tuple #[.agg #[.int .i64 m.w, .int .i64 m.ch, .int .i64 m.md, .int .i64 m.seq, .int .i64 m.nx, .int .i64 m.jn, .slice la m.rs.length c], .int .i64 er]) (by simp [results, Tryz.results79, go_sem, o0, o1, o2, o3, o4, o5, o6]; try rfl) rfl ?_
        refine ⟨m, la, c, er, rfl, by rw [HEr.out, HU2.out], b4.trans (st5.toBelow (B := w.heap.size) (fun k hk h => by (have h' : k = w.heap.size := h; omega)) b4.size), fun m' h => ?_⟩
        rw [HU2.out] at h
        obtain ⟨h1, h2, h3⟩ := hok m' h
        have s3 := b3.size
        have s1 := b1.size
        refine ⟨h1, row_kept h2 st5 (fun k hk h => by (have h' : k = w.heap.size := h; have := h3 k hk; omega)), fun k hk => by have := h3 k hk; omega⟩
/-- What Decode leaves. -/
def DeR (w : World) (X : Except Int Mf) (e : Ending) (w' : World) : Prop :=
  ∃ (la : Option Addr) (c : Nat), e = .returned (.tuple #[.agg (mfC (dcV X) la c).toArray, .int .i64 (unE X)]) ∧ w'.ownsRow 0 54 4 (.slice la (dcV X).rs.length c) (dcV X).rs.length ((dcV X).rs.flatMap ruC) ∧ (∀ k, (Value.slice la (dcV X).rs.length c).ownBlock = some k → w.heap.size ≤ k) ∧ Below w.heap.size w w'
theorem own_lat {w : World} {la : Option Addr} {c : Nat} {l : List Ru} (h : w.ownsRow 0 54 4 (.slice la l.length c) l.length (l.flatMap ruC)) : LAt w la l ∧ l.length ≤ c := by
  rcases h.2 with ⟨h0, hz⟩ | ⟨g, cap, cur, hv, hbg, hg, hnc, hcm, hcs, htake⟩
  · have e : l = [] := List.eq_nil_of_length_eq_zero hz
    subst e
    exact ⟨⟨fun h => absurd rfl h⟩, Nat.zero_le _⟩
  · cases hv
    have hR : Rw w g c l := h
    exact ⟨⟨fun _ => ⟨g, 0, rfl, hR.row⟩⟩, hnc⟩
theorem dcU_err {b : ByteArray} {e : Int} (h : dcU b = .error e) : e ≠ 0 := by
  unfold dcU at h
  split at h
  · next he => cases h; exact he
  · split at h
    · cases h; decide
    · split at h
      · cases h; decide
      · unfold unP at h
        cases h1 : rd (⟨(psA b 0).2.1.toArray⟩ : ByteArray) 1152921504606846976 6 0 with
        | error e => rw [h1] at h; cases h; exact rd_err h1
        | ok x =>
          obtain ⟨hd, a1⟩ := x
          rw [h1] at h
          simp only at h
          cases h2 : rd (⟨(psA b 0).2.1.toArray⟩ : ByteArray) 24 1 a1 with
          | error e => rw [h2] at h; cases h; exact rd_err h2
          | ok y =>
            obtain ⟨c, a2⟩ := y
            rw [h2] at h
            simp only at h
            cases h3 : rdRs (⟨(psA b 0).2.1.toArray⟩ : ByteArray) (c.getD 0 0) a2 with
            | error e => rw [h3] at h; cases h; exact rdRs_err h3
            | ok z =>
              obtain ⟨rs, a3⟩ := z
              rw [h3] at h
              simp only at h
              split at h
              · cases h
              · cases h; decide
theorem dcU_ok {b : ByteArray} {m : Mf} (h : dcU b = .ok m) : MfW m ∧ m.rs.length ≤ 24 := by
  unfold dcU at h
  split at h
  · cases h
  · split at h
    · cases h
    · split at h
      · cases h
      · exact unP_ok h
set_option maxHeartbeats 8000000 in
set_option maxRecDepth 100000 in
theorem decode_any (b : ByteArray) (w : World) (ht : Tab w) (hg : 0 < w.heap.size) (hb : b.size < 4611686018427387904) :
    Calls Tryz.prog 45 #[.string b] w (DeR w (dcM b)) := by
  obtain ⟨wa, hwa⟩ : ∃ wa, wa = w.alloc (.cells #[.int .i64 0, .int .i64 0, .int .i64 0, .int .i64 0, .int .i64 0, .int .i64 0, .slice none 0 0] 26) := ⟨_, rfl⟩
  have ba : Below w.heap.size w wa := by rw [hwa]; exact (Below.refl _ w).alloc (Nat.le_refl _) _
  have sza : wa.heap.size = w.heap.size + 1 := by rw [hwa]; simp
  have ZA : Zr wa w.heap.size := by rw [hwa]; exact heap_alloc_last w _
  have hwa' : w.alloc (.cells #[.int .i64 0, .int .i64 0, .int .i64 0, .int .i64 0, .int .i64 0, .int .i64 0, .slice none 0 0] 26) = wa := hwa.symm
  have c1 := unframe_any b wa (ht.below ba hg) (by omega) hb
  have HZ := Hid.mk ZA
  obtain ⟨X, hX⟩ : ∃ X, X = dcM b := ⟨_, rfl⟩
  rw [← hX]
  unfold dcM at hX
  clear hwa ZA
  cases hU : dcU b with
  | error eu =>
    rw [hU] at c1 hX
    simp only at hX
    have he := dcU_err hU
    have heb := ne_b he
    have hez : (eu == 0) = false := by simpa using he
    subst hX
    clear hU he
    go_enter Tryz.func45, Tryz.ntmps45
    go_wp2_with (go_at_call 79; refine c1.mono ?_; rintro e w3 ⟨m, la, c, er, rfl, her, b3, -⟩; clear c1; have her' : er = eu := her; subst her'; clear her; obtain ⟨w4, hw4⟩ : ∃ w4, w4 = w3.alloc (.cells (mfC m la c).toArray 26) := ⟨_, rfl⟩; have hw4' : w3.alloc (.cells (mfC m la c).toArray 26) = w4 := hw4.symm; have b4' : Below w3.heap.size w3 w4 := (by rw [hw4]; exact (Below.refl _ w3).alloc (Nat.le_refl _) _); have b34 := chain b3 b4' (Nat.le_refl _); have Z4 : Zr w4 w.heap.size := (b34.block _ (by omega)).trans HZ.out; obtain ⟨c0, c1, c2, c3, c4, c5, c6, cf⟩ := zr_cells Z4; have b4 := chain ba b34 (Nat.le_refl _); clear hw4; simp only [mfC] at hw4' ⊢)
    obtain ⟨W5, hW5, st5, o0, o1, o2, o3, o4, o5, o6⟩ := fin7 Z4 (.int .i64 0) (.int .i64 0) (.int .i64 0) (.int .i64 0) (.int .i64 0) (.int .i64 0) (.slice none 0 0)
    unfold set7 at hW5
    rw [hW5]
    refine bodyPost_ret (v := .tuple #[.agg #[.int .i64 0, .int .i64 0, .int .i64 0, .int .i64 0, .int .i64 0, .int .i64 0, .slice none 0 0], .int .i64 er]) (by simp [results, Tryz.results45, go_sem, o0, o1, o2, o3, o4, o5, o6]; try rfl) rfl ?_
    exact ⟨none, 0, rfl, World.ownsRow_nil _ _ _ _, (fun k hk => by cases hk), b4.trans (st5.toBelow (B := w.heap.size) (fun k hk h => by (have h' : k = w.heap.size := h; omega)) b4.size)⟩
  | ok mu =>
    rw [hU] at c1 hX
    simp only at hX
    obtain ⟨hmw, hml⟩ := dcU_ok hU
    obtain ⟨E, hch⟩ : ∃ E, chE mu = E := ⟨_, rfl⟩
    rw [hch] at hX
    by_cases hE : E = 0
    · rw [if_pos hE] at hX
      subst hE hX
      clear hU
      go_enter Tryz.func45, Tryz.ntmps45
      go_wp2_with first
        | (go_at_call 79; refine c1.mono ?_; rintro e w3 ⟨m, la, c, er, rfl, her, b3, hok⟩; clear c1; have her' : er = 0 := her; subst her'; clear her; obtain ⟨hm1, ow3, own3⟩ := hok _ rfl; subst hm1; obtain ⟨w4, hw4⟩ : ∃ w4, w4 = w3.alloc (.cells (mfC m la c).toArray 26) := ⟨_, rfl⟩; have hw4' : w3.alloc (.cells (mfC m la c).toArray 26) = w4 := hw4.symm; have b4' : Below w3.heap.size w3 w4 := (by rw [hw4]; exact (Below.refl _ w3).alloc (Nat.le_refl _) _); have S4 : SAt w4 w3.heap.size (mfC m la c) := (by rw [hw4]; exact SAt.new w3 _ _); have b34 := chain b3 b4' (Nat.le_refl _); have Z4 : Zr w4 w.heap.size := (b34.block _ (by omega)).trans HZ.out; have b4 := chain ba b34 (Nat.le_refl _); have ow4 := row_kept (F := fun _ => False) ow3 (.below b4') (fun _ _ h => h); have k0 := S4 0 _ rfl; have k1 := S4 1 _ rfl; have k2 := S4 2 _ rfl; have k3 := S4 3 _ rfl; have k4 := S4 4 _ rfl; have k5 := S4 5 _ rfl; have k6 := S4 6 _ rfl; have cc := ccheck_any m la c w4 (own_lat ow4).1 hmw (by omega); rw [hch] at cc; clear hw4 hok; simp only [mfC] at hw4' cc ⊢)
        | (go_at_call 18; refine cc.mono ?_; rintro e w5 ⟨rfl, b5'⟩; clear cc; have S5 := S4.lat b5'; have j0 := S5 0 _ rfl; have j1 := S5 1 _ rfl; have j2 := S5 2 _ rfl; have j3 := S5 3 _ rfl; have j4 := S5 4 _ rfl; have j5 := S5 5 _ rfl; have j6 := S5 6 _ rfl; have Z5 : Zr w5 w.heap.size := (b5'.block _ (Array.getElem?_eq_some_iff.1 Z4).1).trans Z4; obtain ⟨c0, c1, c2, c3, c4, c5, c6, cf⟩ := zr_cells Z5; have b5 := chain b4 b5' (Nat.le_refl _); have ow5 := row_kept (F := fun _ => False) ow4 (.below b5') (fun _ _ h => h))
      obtain ⟨W6, hW6, st6, o0, o1, o2, o3, o4, o5, o6⟩ := fin7 Z5 (.int .i64 m.w) (.int .i64 m.ch) (.int .i64 m.md) (.int .i64 m.seq) (.int .i64 m.nx) (.int .i64 m.jn) (.slice la m.rs.length c)
      unfold set7 at hW6
      rw [hW6]
      refine bodyPost_ret (v := .tuple #[.agg #[.int .i64 m.w, .int .i64 m.ch, .int .i64 m.md, .int .i64 m.seq, .int .i64 m.nx, .int .i64 m.jn, .slice la m.rs.length c], .int .i64 0]) (by simp [results, Tryz.results45, go_sem, o0, o1, o2, o3, o4, o5, o6]; try rfl) rfl ?_
      refine ⟨la, c, rfl, row_kept ow5 st6 (fun k hk h => by (have h' : k = w.heap.size := h; have := own3 k hk; omega)), fun k hk => by (have := own3 k hk; omega), b5.trans (st6.toBelow (B := w.heap.size) (fun k hk h => by (have h' : k = w.heap.size := h; omega)) b5.size)⟩
    · rw [if_neg hE] at hX
      have hEb := ne_b hE
      subst hX
      clear hU
      go_enter Tryz.func45, Tryz.ntmps45
      go_wp2_with first
        | (go_at_call 79; refine c1.mono ?_; rintro e w3 ⟨m, la, c, er, rfl, her, b3, hok⟩; clear c1; have her' : er = 0 := her; subst her'; clear her; obtain ⟨hm1, ow3, own3⟩ := hok _ rfl; subst hm1; obtain ⟨w4, hw4⟩ : ∃ w4, w4 = w3.alloc (.cells (mfC m la c).toArray 26) := ⟨_, rfl⟩; have hw4' : w3.alloc (.cells (mfC m la c).toArray 26) = w4 := hw4.symm; have b4' : Below w3.heap.size w3 w4 := (by rw [hw4]; exact (Below.refl _ w3).alloc (Nat.le_refl _) _); have S4 : SAt w4 w3.heap.size (mfC m la c) := (by rw [hw4]; exact SAt.new w3 _ _); have b34 := chain b3 b4' (Nat.le_refl _); have Z4 : Zr w4 w.heap.size := (b34.block _ (by omega)).trans HZ.out; have b4 := chain ba b34 (Nat.le_refl _); have ow4 := row_kept (F := fun _ => False) ow3 (.below b4') (fun _ _ h => h); have k0 := S4 0 _ rfl; have k1 := S4 1 _ rfl; have k2 := S4 2 _ rfl; have k3 := S4 3 _ rfl; have k4 := S4 4 _ rfl; have k5 := S4 5 _ rfl; have k6 := S4 6 _ rfl; have cc := ccheck_any m la c w4 (own_lat ow4).1 hmw (by omega); rw [hch] at cc; clear hw4 hok; simp only [mfC] at hw4' cc ⊢)
        | (go_at_call 18; refine cc.mono ?_; rintro e w5 ⟨rfl, b5'⟩; clear cc; have S5 := S4.lat b5'; have j0 := S5 0 _ rfl; have j1 := S5 1 _ rfl; have j2 := S5 2 _ rfl; have j3 := S5 3 _ rfl; have j4 := S5 4 _ rfl; have j5 := S5 5 _ rfl; have j6 := S5 6 _ rfl; have Z5 : Zr w5 w.heap.size := (b5'.block _ (Array.getElem?_eq_some_iff.1 Z4).1).trans Z4; obtain ⟨c0, c1, c2, c3, c4, c5, c6, cf⟩ := zr_cells Z5; have b5 := chain b4 b5' (Nat.le_refl _); have ow5 := row_kept (F := fun _ => False) ow4 (.below b5') (fun _ _ h => h))
      obtain ⟨W6, hW6, st6, o0, o1, o2, o3, o4, o5, o6⟩ := fin7 Z5 (.int .i64 0) (.int .i64 0) (.int .i64 0) (.int .i64 0) (.int .i64 0) (.int .i64 0) (.slice none 0 0)
      unfold set7 at hW6
      rw [hW6]
      refine bodyPost_ret (v := .tuple #[.agg #[.int .i64 0, .int .i64 0, .int .i64 0, .int .i64 0, .int .i64 0, .int .i64 0, .slice none 0 0], .int .i64 E]) (by simp [results, Tryz.results45, go_sem, o0, o1, o2, o3, o4, o5, o6]; try rfl) rfl ?_
      exact ⟨none, 0, rfl, World.ownsRow_nil _ _ _ _, (fun k hk => by cases hk), b5.trans (st6.toBelow (B := w.heap.size) (fun k hk h => by (have h' : k = w.heap.size := h; omega)) b5.size)⟩
end Go.Proofs.YtkoannkecojhmaaGreatDoor
set_option linter.unusedVariables false
set_option linter.unusedSimpArgs false
namespace Go.Proofs.YtkoannkecojhmaaGreatDoor
open Go.RowKit Go.Shelf Go.Maps Go.Proofs.DiskMath
attribute [local go_sem] Oper.semAt_some
def nMan : List UInt8 := [109, 97, 110, 105, 102, 101, 115, 116]
def nNew : List UInt8 := [109, 97, 110, 105, 102, 101, 115, 116, 46, 110, 101, 119]
abbrev tMan : ByteArray := ⟨#[109, 97, 110, 105, 102, 101, 115, 116]⟩
abbrev tNew : ByteArray := ⟨#[109, 97, 110, 105, 102, 101, 115, 116, 46, 110, 101, 119]⟩
theorem tMan_l : tMan.data.toList = nMan := rfl
theorem tNew_l : tNew.data.toList = nNew := rfl
def clrF (fs : List Fl) (c : Ctl) : Res := if fdF fs c nNew = 42 then (0, fs, c) else deleteF fs c nNew
def fillF (b : List UInt8) (fs : List Fl) (c : Ctl) : Res :=
  if (appendF fs c nNew b).1 ≠ 0 ∧ (appendF fs c nNew b).1 ≠ 45 then ((appendF fs c nNew b).1, (deleteF (appendF fs c nNew b).2.1 (appendF fs c nNew b).2.2 nNew).2) else appendF fs c nNew b
def opsF (b : List UInt8) : List (List Fl → Ctl → Res) := [clrF, fun fs c => createF fs c nNew, fillF b, fun fs c => syncF fs c nNew, fun fs c => renameF fs c nNew nMan]
/-- One call behind the other, up to the first refusal. -/
def seqF : List (List Fl → Ctl → Res) → List Fl → Ctl → Res
  | [], fs, c => (0, fs, c)
  | f :: r, fs, c => if (f fs c).1 = 0 then seqF r (f fs c).2.1 (f fs c).2.2 else f fs c
def stR (fs : List Fl) (c : Ctl) (m : Mf) : Res := if c.off = true then (45, fs, c) else if chE m = 0 then seqF (opsF (enT m).data.toList) fs c else (chE m, fs, c)
theorem Came.ret {w w' : World} {p mb : Nat} {es : List Ent} {r : Res} {e : Ending} (h : Came w p mb es r e w') : e = .returned (.int .i64 r.1) := by
  obtain ⟨es', h1, -⟩ := h; exact h1
set_option maxHeartbeats 1000000 in
set_option maxRecDepth 100000 in
theorem clear_f {p mb : Nat} {es : List Ent} {c : Ctl} (w : World) (h : DK w p mb es c) : Calls Tryz.prog 28 #[Pt p] w (Came w p mb es (clrF (es.map fl) c)) := by
  obtain ⟨E, hE⟩ : ∃ E, E = fdE es c nNew := ⟨_, rfl⟩
  by_cases h42 : E = 42
  · have hR : Came w p mb es (clrF (es.map fl) c) (.returned (.int .i64 0)) w := came (.refl h) (by unfold clrF; rw [fl_fd, ← hE, if_pos h42])
    have HR := Hid.mk hR
    clear hR
    go_enter Tryz.func28, Tryz.ntmps28
    go_wp2_with fail
    refine size_any tNew w h _ (fun hk => ?_) (fun e hf hk => ?_)
    · rw [tNew_l, ← hE, h42]
      clear hk hE h42 h
      go_wp2
      go_ret
      exact HR.out
    · rw [tNew_l, ← hE, h42] at hk
      exact absurd hk (by decide)
  · have hd := delete_f tNew w h
    rw [tNew_l] at hd
    have e1 : clrF (es.map fl) c = deleteF (es.map fl) c nNew := by unfold clrF; rw [fl_fd, ← hE, if_neg h42]
    rw [← e1] at hd
    obtain ⟨r, hr⟩ : ∃ r, r = clrF (es.map fl) c := ⟨_, rfl⟩
    rw [← hr] at hd ⊢
    have hE0 : (E == 42) = false := beq_false_of_ne h42
    clear e1 hr h42
    go_enter Tryz.func28, Tryz.ntmps28
    go_wp2_with fail
    refine size_any tNew w h _ (fun hk => ?_) (fun e hf hk => ?_)
    · rw [tNew_l, ← hE]
      clear hk hE h
      go_wp2_with (go_at_call 68; refine hd.mono ?_; clear hd; rintro e w1 hC; obtain rfl := hC.ret)
      go_ret
      exact hC
    · clear hk hf hE h hE0
      go_wp2_with (go_at_call 68; refine hd.mono ?_; clear hd; rintro e1 w1 hC; obtain rfl := hC.ret)
      go_ret
      exact hC
theorem Came.trans {w w1 w2 : World} {p mb : Nat} {es : List Ent} {r1 r2 : Res} {e1 e2 : Ending} {r : Res} (h1 : Came w p mb es r1 e1 w1) (h2 : ∀ es1, DK w1 p mb es1 r1.2.2 → es1.map fl = r1.2.1 → Came w1 p mb es1 r2 e2 w2) (hr : r.2 = r2.2) (E : Ending) (hE : E = .returned (.int .i64 r.1)) : Came w p mb es r E w2 := by
  obtain ⟨es1, -, s1, f1⟩ := h1
  obtain ⟨es2, -, s2, f2⟩ := h2 es1 s1.dk f1
  exact ⟨es2, hE, by rw [hr]; exact s1.trans s2, by rw [hr]; exact f2⟩
set_option maxHeartbeats 1000000 in
set_option maxRecDepth 100000 in
theorem fill_f {p mb : Nat} {es : List Ent} {c : Ctl} (t : ByteArray) (w : World) (h : DK w p mb es c) (ht : t.size ≤ maxLen) : Calls Tryz.prog 32 #[Pt p, .string t] w (Came w p mb es (fillF t.data.toList (es.map fl) c)) := by
  have ha := append_f tNew t w h ht
  rw [tNew_l] at ha
  obtain ⟨r, hr⟩ : ∃ r, r = appendF (es.map fl) c nNew t.data.toList := ⟨_, rfl⟩
  have hF : fillF t.data.toList (es.map fl) c = if r.1 ≠ 0 ∧ r.1 ≠ 45 then (r.1, (deleteF r.2.1 r.2.2 nNew).2) else r := by rw [hr]; rfl
  rw [← hr] at ha
  rw [hF]
  clear hr hF
  obtain ⟨E, F, C⟩ := r
  dsimp only at *
  by_cases h0 : E ≠ 0 ∧ E ≠ 45
  · rw [if_pos h0]
    have d0 : (E != 0) = true := by simpa using h0.1
    have d1 : (E != 45) = true := by simpa using h0.2
    clear h0
    go_enter Tryz.func32, Tryz.ntmps32
    go_wp2_with fail
    refine ha.mono ?_
    clear ha
    rintro e w1 hC
    obtain rfl := hC.ret
    dsimp only
    have HC := Hid.mk hC
    obtain ⟨es1, -, s1, f1⟩ := hC
    have hd := delete_f tNew w1 s1.dk
    rw [tNew_l, f1] at hd
    dsimp only at hd f1 s1
    have HX := Hid.mk (And.intro s1 f1)
    clear s1 f1 h
    go_wp2_with (go_at_call 68; refine hd.mono ?_; clear hd; rintro e1 w2 hC2; obtain rfl := hC2.ret)
    go_ret
    obtain ⟨es2, -, s2, f2⟩ := hC2
    exact ⟨es2, rfl, HX.out.1.trans s2, f2⟩
  · rw [if_neg h0]
    have hc : E = 0 ∨ E = 45 := by omega
    clear h0
    go_enter Tryz.func32, Tryz.ntmps32
    go_wp2_with fail
    refine ha.mono ?_
    clear ha
    rintro e w1 hC
    obtain rfl := hC.ret
    dsimp only
    have HC := Hid.mk hC
    clear hC h
    rcases hc with rfl | rfl
    · go_wp2
      go_ret
      exact HC.out
    · go_wp2
      go_ret
      exact HC.out
def FsI (n : Nat) (J : Nat → World → Prop) (u : Value) (wr : World) : Prop := ∃ i : Nat, u = .int .i64 i ∧ i ≤ n ∧ Hid (J i wr)
set_option maxHeartbeats 2000000 in
set_option maxRecDepth 100000 in
/-- first: over calls that write. -/
theorem first_st (ids : List (Nat × Array Value)) (q cp : Nat) (w : World) (J : Nat → World → Prop) (R : Int → World → Prop) (hsmall : ids.length ≤ 1000)
    (hrow : ∀ i W, J i W → RowAt W q 0 (ids.map fun x => .func (.func x.1) #[] x.2))
    (hent : ∀ i (hi : i < ids.length) W, (callFunc ids[i].1 ids[i].2).run Tryz.prog W = .ok (.enter ids[i].1 ids[i].2) W)
    (hstep : ∀ i (hi : i < ids.length) W, J i W → Calls Tryz.prog ids[i].1 ids[i].2 W fun e w' => ∃ E : Int, e = .returned (.int .i64 E) ∧ ((E ≠ 0 ∧ R E w') ∨ (E = 0 ∧ J (i + 1) w')))
    (h0 : J 0 w) (hend : ∀ W, J ids.length W → R 0 W) :
    Calls Tryz.prog 26 #[.slice (some ⟨q, 0, none⟩) ids.length cp] w fun e w' => ∃ E : Int, e = .returned (.int .i64 E) ∧ R E w' := by
  have HR := Hid.mk hrow
  have HC := Hid.mk hstep
  have HE := Hid.mk hent
  have HZ := Hid.mk hend
  have H0 := Hid.mk h0
  clear hrow hstep hent hend h0
  go_enter Tryz.func26, Tryz.ntmps26
  go_wp2
  go_loopw [8] (fun u wr => FsI ids.length J u wr) (fun u _ => ids.length - (intOf u).toNat)
  case atStart => exact ⟨0, rfl, Nat.zero_le _, H0⟩
  case round =>
    obtain ⟨i, rfl, hi, HJ⟩ := hrel
    by_cases hlt : i < ids.length
    · obtain ⟨f, a, hfa⟩ : ∃ f a, ids[i] = (f, a) := ⟨_, _, rfl⟩
      have cell : wr.cell? ⟨q, i, none⟩ = some (.func (.func f) #[] a) := by
        have := HR.out i wr HJ.out i (.func (.func f) #[] a) (by simp [hlt, hfa])
        simpa using this
      have ent := HE.out i hlt
      have cc := HC.out i hlt wr HJ.out
      rw [hfa] at ent cc
      dsimp only at ent cc
      clear hfa HR HC HE H0 HJ
      go_wp2_with (go_at_fn f; refine cc.mono ?_; rintro e w1 ⟨E, rfl, hE⟩; clear cc)
      · rename_i hz
        have hne : E ≠ 0 := by simpa using hz
        have hR : R E w1 := by
          rcases hE with h | h
          · exact h.2
          · exact absurd h.1 hne
        go_ret
        exact ⟨E, rfl, hR⟩
      · rename_i hz
        have hz0 : E = 0 := by simpa using hz
        have hJ : J (i + 1) w1 := by
          rcases hE with h | h
          · exact absurd hz0 h.1
          · exact h.2
        exact ⟨⟨i + 1, rfl, hlt, hJ⟩, by simp only [intOf]; omega⟩
    · have he : i = ids.length := by omega
      subst he
      have HX := Hid.mk (HZ.out wr HJ.out)
      clear HZ HJ HR HC HE H0 hi
      go_wp2
      go_ret
      exact ⟨0, rfl, HX.out⟩
/-- The literals that Store hands to first. -/
theorem lit1 {p mb : Nat} {es : List Ent} {c : Ctl} (bd : Nat) (w : World) (h : DK w p mb es c) (hb : w.cell? ⟨bd, 0, none⟩ = some (Pt p)) : Calls Tryz.prog 27 #[.pointer (some ⟨bd, 0, none⟩)] w (Came w p mb es (clrF (es.map fl) c)) := by
  have hc := clear_f w h
  obtain ⟨r, hr⟩ : ∃ r, r = clrF (es.map fl) c := ⟨_, rfl⟩
  rw [← hr] at hc ⊢
  clear hr h
  go_enter Tryz.func27, Tryz.ntmps27
  go_wp2_with (go_at_call 28; refine hc.mono ?_; clear hc; rintro e w1 hC; obtain rfl := hC.ret)
  go_ret
  exact hC
theorem lit2 {p mb : Nat} {es : List Ent} {c : Ctl} (bd : Nat) (w : World) (h : DK w p mb es c) (hb : w.cell? ⟨bd, 0, none⟩ = some (Pt p)) : Calls Tryz.prog 29 #[.pointer (some ⟨bd, 0, none⟩)] w (Came w p mb es (createF (es.map fl) c nNew)) := by
  have hc := create_f tNew w h
  rw [tNew_l] at hc
  obtain ⟨r, hr⟩ : ∃ r, r = createF (es.map fl) c nNew := ⟨_, rfl⟩
  rw [← hr] at hc ⊢
  clear hr h
  go_enter Tryz.func29, Tryz.ntmps29
  go_wp2_with (go_at_call 30; refine hc.mono ?_; clear hc; rintro e w1 hC; obtain rfl := hC.ret)
  go_ret
  exact hC
theorem lit3 {p mb : Nat} {es : List Ent} {c : Ctl} (bd bb : Nat) (t : ByteArray) (w : World) (h : DK w p mb es c) (hb : w.cell? ⟨bd, 0, none⟩ = some (Pt p)) (hb2 : w.cell? ⟨bb, 0, none⟩ = some (.string t)) (ht : t.size ≤ maxLen) : Calls Tryz.prog 31 #[.pointer (some ⟨bd, 0, none⟩), .pointer (some ⟨bb, 0, none⟩)] w (Came w p mb es (fillF t.data.toList (es.map fl) c)) := by
  have hc := fill_f t w h ht
  obtain ⟨r, hr⟩ : ∃ r, r = fillF t.data.toList (es.map fl) c := ⟨_, rfl⟩
  rw [← hr] at hc ⊢
  clear hr h ht
  go_enter Tryz.func31, Tryz.ntmps31
  go_wp2_with (go_at_call 32; refine hc.mono ?_; clear hc; rintro e w1 hC; obtain rfl := hC.ret)
  go_ret
  exact hC
theorem lit4 {p mb : Nat} {es : List Ent} {c : Ctl} (bd : Nat) (w : World) (h : DK w p mb es c) (hb : w.cell? ⟨bd, 0, none⟩ = some (Pt p)) : Calls Tryz.prog 33 #[.pointer (some ⟨bd, 0, none⟩)] w (Came w p mb es (syncF (es.map fl) c nNew)) := by
  have hc := sync_f tNew w h
  rw [tNew_l] at hc
  obtain ⟨r, hr⟩ : ∃ r, r = syncF (es.map fl) c nNew := ⟨_, rfl⟩
  rw [← hr] at hc ⊢
  clear hr h
  go_enter Tryz.func33, Tryz.ntmps33
  go_wp2_with (go_at_call 34; refine hc.mono ?_; clear hc; rintro e w1 hC; obtain rfl := hC.ret)
  go_ret
  exact hC
theorem lit5 {p mb : Nat} {es : List Ent} {c : Ctl} (bd : Nat) (w : World) (h : DK w p mb es c) (hb : w.cell? ⟨bd, 0, none⟩ = some (Pt p)) : Calls Tryz.prog 35 #[.pointer (some ⟨bd, 0, none⟩)] w (Came w p mb es (renameF (es.map fl) c nNew nMan)) := by
  have hc := rename_f tNew tMan w h
  rw [tNew_l, tMan_l] at hc
  obtain ⟨r, hr⟩ : ∃ r, r = renameF (es.map fl) c nNew nMan := ⟨_, rfl⟩
  rw [← hr] at hc ⊢
  clear hr h
  go_enter Tryz.func35, Tryz.ntmps35
  go_wp2_with (go_at_call 36; refine hc.mono ?_; clear hc; rintro e w1 hC; obtain rfl := hC.ret)
  go_ret
  exact hC
/-- What stands behind the first i calls. -/
def seqS (ops : List (List Fl → Ctl → Res)) (fs : List Fl) (c : Ctl) : Nat → List Fl × Ctl
  | 0 => (fs, c)
  | i + 1 => match ops[i]? with
    | some f => (f (seqS ops fs c i).1 (seqS ops fs c i).2).2
    | none => seqS ops fs c i
theorem seqS_cons (f : List Fl → Ctl → Res) (r : List (List Fl → Ctl → Res)) (fs : List Fl) (c : Ctl) : ∀ i, seqS (f :: r) fs c (i + 1) = seqS r (f fs c).2.1 (f fs c).2.2 i
  | 0 => by simp [seqS]
  | i + 1 => by
    have ih := seqS_cons f r fs c i
    rw [seqS]
    rw [ih]
    simp only [List.getElem?_cons_succ]
    rw [seqS]
/-- What seqF answers, call by call. -/
theorem seqF_no : ∀ (ops : List (List Fl → Ctl → Res)) (fs : List Fl) (c : Ctl) (i : Nat) (f : List Fl → Ctl → Res), ops[i]? = some f → (∀ (j : Nat), j < i → ∀ (g : List Fl → Ctl → Res), ops[j]? = some g → (g (seqS ops fs c j).1 (seqS ops fs c j).2).1 = 0) → (f (seqS ops fs c i).1 (seqS ops fs c i).2).1 ≠ 0 → seqF ops fs c = f (seqS ops fs c i).1 (seqS ops fs c i).2
  | [], fs, c, i, f, h, _, _ => by simp at h
  | g :: r, fs, c, 0, f, h, _, hn => by
    simp at h
    subst h
    simp only [seqS] at hn ⊢
    rw [seqF, if_neg hn]
  | g :: r, fs, c, i + 1, f, h, hz, hn => by
    have h0 := hz 0 (by omega) g rfl
    simp only [seqS] at h0
    rw [seqF, if_pos h0]
    rw [seqS_cons] at hn ⊢
    refine seqF_no r _ _ i f (by simpa using h) (fun j hj g' hg => ?_) hn
    have := hz (j + 1) (by omega) g' (by simpa using hg)
    rwa [seqS_cons] at this
theorem seqF_all : ∀ (ops : List (List Fl → Ctl → Res)) (fs : List Fl) (c : Ctl), (∀ (j : Nat) (g : List Fl → Ctl → Res), ops[j]? = some g → (g (seqS ops fs c j).1 (seqS ops fs c j).2).1 = 0) → seqF ops fs c = (0, seqS ops fs c ops.length)
  | [], fs, c, _ => rfl
  | g :: r, fs, c, hz => by
    have h0 := hz 0 g rfl
    simp only [seqS] at h0
    rw [seqF, if_pos h0, List.length_cons, seqS_cons]
    refine seqF_all r _ _ (fun j g' hg => ?_)
    have := hz (j + 1) g' (by simpa using hg)
    rwa [seqS_cons] at this
end Go.Proofs.YtkoannkecojhmaaGreatDoor
set_option linter.unusedVariables false
set_option linter.unusedSimpArgs false
namespace Go.Proofs.YtkoannkecojhmaaGreatDoor
open Go.RowKit Go.Shelf Go.Maps Go.Proofs.DiskMath
/-- What stands behind the first i calls, in memory. -/
def SqJ (W4 : World) (p mb : Nat) (es : List Ent) (c : Ctl) (b : List UInt8) (i : Nat) (W : World) : Prop :=
  ∃ es', Step W4 W p mb es es' (seqS (opsF b) (es.map fl) c i).2 ∧ es'.map fl = (seqS (opsF b) (es.map fl) c i).1 ∧ ∀ (j : Nat), j < i → ∀ (g : List Fl → Ctl → Res), (opsF b)[j]? = some g → (g (seqS (opsF b) (es.map fl) c j).1 (seqS (opsF b) (es.map fl) c j).2).1 = 0
def SqR (W4 : World) (p mb : Nat) (es : List Ent) (c : Ctl) (b : List UInt8) (E : Int) (W : World) : Prop :=
  ∃ es', Step W4 W p mb es es' (seqF (opsF b) (es.map fl) c).2.2 ∧ es'.map fl = (seqF (opsF b) (es.map fl) c).2.1 ∧ E = (seqF (opsF b) (es.map fl) c).1
theorem SqJ.step {W4 : World} {p mb : Nat} {es : List Ent} {c : Ctl} {b : List UInt8} {i : Nat} {W : World} {f : List Fl → Ctl → Res} (hf : (opsF b)[i]? = some f)
    (es' : List Ent) (st : Step W4 W p mb es es' (seqS (opsF b) (es.map fl) c i).2) (hfl : es'.map fl = (seqS (opsF b) (es.map fl) c i).1) (hz : ∀ (j : Nat), j < i → ∀ (g : List Fl → Ctl → Res), (opsF b)[j]? = some g → (g (seqS (opsF b) (es.map fl) c j).1 (seqS (opsF b) (es.map fl) c j).2).1 = 0)
    {e : Ending} {w' : World} (hC : Came W p mb es' (f (seqS (opsF b) (es.map fl) c i).1 (seqS (opsF b) (es.map fl) c i).2) e w') :
    ∃ E : Int, e = .returned (.int .i64 E) ∧ ((E ≠ 0 ∧ SqR W4 p mb es c b E w') ∨ (E = 0 ∧ SqJ W4 p mb es c b (i + 1) w')) := by
  obtain ⟨es2, he, s2, f2⟩ := hC
  refine ⟨_, he, ?_⟩
  by_cases h0 : (f (seqS (opsF b) (es.map fl) c i).1 (seqS (opsF b) (es.map fl) c i).2).1 = 0
  · right
    have e1 : seqS (opsF b) (es.map fl) c (i + 1) = (f (seqS (opsF b) (es.map fl) c i).1 (seqS (opsF b) (es.map fl) c i).2).2 := by
      rw [seqS, hf]
    refine ⟨h0, es2, by rw [e1]; exact st.trans s2, by rw [e1]; exact f2, fun j hj g hg => ?_⟩
    rcases Nat.lt_or_ge j i with h | h
    · exact hz j h g hg
    · have : j = i := by omega
      subst this
      rw [hf] at hg
      cases hg
      exact h0
  · left
    have e1 := seqF_no (opsF b) (es.map fl) c i f hf hz h0
    exact ⟨h0, es2, by rw [e1]; exact st.trans s2, by rw [e1]; exact f2, by rw [e1]⟩
theorem SqJ.done {W4 : World} {p mb : Nat} {es : List Ent} {c : Ctl} {b : List UInt8} {W : World} (h : SqJ W4 p mb es c b 5 W) : SqR W4 p mb es c b 0 W := by
  obtain ⟨es', st, hfl, hz⟩ := h
  have e1 := seqF_all (opsF b) (es.map fl) c (fun j g hg => hz j (by have := (List.getElem?_eq_some_iff.1 hg).1; simpa [opsF] using this) g hg)
  have e2 : (opsF b).length = 5 := rfl
  rw [e2] at e1
  exact ⟨es', by rw [e1]; exact st, by rw [e1]; exact hfl, by rw [e1]⟩
/-- The literals. -/
def litI (bd bb : Nat) : List (Nat × Array Value) := [(27, #[.pointer (some ⟨bd, 0, none⟩)]), (29, #[.pointer (some ⟨bd, 0, none⟩)]), (31, #[.pointer (some ⟨bd, 0, none⟩), .pointer (some ⟨bb, 0, none⟩)]), (33, #[.pointer (some ⟨bd, 0, none⟩)]), (35, #[.pointer (some ⟨bd, 0, none⟩)])]
theorem ent1 (a : Array Value) (W : World) : (callFunc 27 a).run Tryz.prog W = .ok (.enter 27 a) W := by kernel_rfl
theorem ent2 (a : Array Value) (W : World) : (callFunc 29 a).run Tryz.prog W = .ok (.enter 29 a) W := by kernel_rfl
theorem ent3 (a : Array Value) (W : World) : (callFunc 31 a).run Tryz.prog W = .ok (.enter 31 a) W := by kernel_rfl
theorem ent4 (a : Array Value) (W : World) : (callFunc 33 a).run Tryz.prog W = .ok (.enter 33 a) W := by kernel_rfl
theorem ent5 (a : Array Value) (W : World) : (callFunc 35 a).run Tryz.prog W = .ok (.enter 35 a) W := by kernel_rfl
theorem first_store {p mb : Nat} {es : List Ent} {c : Ctl} (bd bb q cp : Nat) (t : ByteArray) (W4 : World) (h : DK W4 p mb es c) (hbd : W4.cell? ⟨bd, 0, none⟩ = some (Pt p)) (hbb : W4.cell? ⟨bb, 0, none⟩ = some (.string t)) (hq : RowAt W4 q 0 ((litI bd bb).map fun x => .func (.func x.1) #[] x.2))
    (nbd : ¬ Foot p mb es bd) (nbb : ¬ Foot p mb es bb) (nq : ¬ Foot p mb es q) (ht : t.size ≤ maxLen) :
    Calls Tryz.prog 26 #[.slice (some ⟨q, 0, none⟩) 5 cp] W4 fun e w' => ∃ E : Int, e = .returned (.int .i64 E) ∧ SqR W4 p mb es c t.data.toList E w' := by
  have keep : ∀ {W : World} {es' : List Ent} {c' : Ctl}, Step W4 W p mb es es' c' → ∀ {k j : Nat} {v : Value}, ¬ Foot p mb es k → W4.cell? ⟨k, j, none⟩ = some v → W.cell? ⟨k, j, none⟩ = some v := fun {W es' c'} st {k j v} hk hv => by
    rw [World.cell?_of_block (st.stay.block k (World.block_lt_of_cell? W4 _ hv) hk)]; exact hv
  refine first_st (litI bd bb) q cp W4 (SqJ W4 p mb es c t.data.toList) (SqR W4 p mb es c t.data.toList) (show 5 ≤ 1000 by decide) ?_ ?_ ?_ ?_ ?_
  · rintro i W ⟨es', st, -, -⟩ j v hv
    exact keep st nq (hq j v hv)
  · intro i hi W
    have hi5 : i < 5 := hi
    match i, hi5 with
    | 0, _ => exact ent1 _ W
    | 1, _ => exact ent2 _ W
    | 2, _ => exact ent3 _ W
    | 3, _ => exact ent4 _ W
    | 4, _ => exact ent5 _ W
  · rintro i hi W ⟨es', st, hfl, hz⟩
    have hi5 : i < 5 := hi
    have b1 := keep st nbd hbd
    have b2 := keep st nbb hbb
    match i, hi5 with
    | 0, _ => exact (by have hc := lit1 bd W st.dk b1; rw [hfl] at hc; exact hc.mono fun e w' hC => SqJ.step (f := clrF) rfl es' st hfl hz hC)
    | 1, _ => exact (by have hc := lit2 bd W st.dk b1; rw [hfl] at hc; exact hc.mono fun e w' hC => SqJ.step (f := fun fs c => createF fs c nNew) rfl es' st hfl hz hC)
    | 2, _ => exact (by have hc := lit3 bd bb t W st.dk b1 b2 ht; rw [hfl] at hc; exact hc.mono fun e w' hC => SqJ.step (f := fillF t.data.toList) rfl es' st hfl hz hC)
    | 3, _ => exact (by have hc := lit4 bd W st.dk b1; rw [hfl] at hc; exact hc.mono fun e w' hC => SqJ.step (f := fun fs c => syncF fs c nNew) rfl es' st hfl hz hC)
    | 4, _ => exact (by have hc := lit5 bd W st.dk b1; rw [hfl] at hc; exact hc.mono fun e w' hC => SqJ.step (f := fun fs c => renameF fs c nNew nMan) rfl es' st hfl hz hC)
  · exact ⟨es, .refl h, rfl, fun j hj => by omega⟩
  · intro W hJ
    exact SqJ.done hJ
theorem mf7 (m : Mf) (la : Option Addr) (cc : Nat) : mfC m la cc = [.int .i64 m.w, .int .i64 m.ch, .int .i64 m.md, .int .i64 m.seq, .int .i64 m.nx, .int .i64 m.jn, .slice la m.rs.length cc] := rfl
set_option maxHeartbeats 4000000 in
set_option maxRecDepth 100000 in
theorem mstore_any (m : Mf) (la : Option Addr) (cc : Nat) {p mb : Nat} {es : List Ent} {c : Ctl} (w : World) (h : DK w p mb es c) (hL : LAt w la m.rs) (hw : MfW m) (hcap : m.rs.length ≤ cc) (hs : m.rs.length < 4611686018427387904) (ht : Tab w) (hg : 0 < w.heap.size) (hT : (enT m).size ≤ 100000) :
    Calls Tryz.prog 10 #[Pt p, .agg (mfC m la cc).toArray] w (Came w p mb es (stR (es.map fl) c m)) := by
  obtain ⟨W1, hW1⟩ : ∃ W1, W1 = (w.alloc (.cells #[Pt p] 33)).alloc (.cells (mfC m la cc).toArray 26) := ⟨_, rfl⟩
  have b1 : Below w.heap.size w W1 := by rw [hW1]; exact ((Below.refl _ w).alloc (Nat.le_refl _) _).alloc (by simp) _
  have hd1 := down_any W1 (h.below b1)
  have hB1 : W1.heap[w.heap.size]? = some (.cells #[Pt p] 33 (0, 0)) := by
    rw [hW1]
    have h1 := heap_alloc_new w (.cells #[Pt p] 33)
    exact (Below.heap_alloc _ _ _ (Array.getElem?_eq_some_iff.1 h1).1).trans h1
  have hB2 : W1.heap[w.heap.size + 1]? = some (.cells (mfC m la cc).toArray 26 (0, 0)) := by
    rw [hW1]
    have h1 := heap_alloc_new (w.alloc (.cells #[Pt p] 33)) (.cells (mfC m la cc).toArray 26)
    simpa using h1
  have y0 : W1.cell? ⟨w.heap.size, 0, none⟩ = some (Pt p) := by simp [World.cell?, hB1]
  have hen := encode_any m la cc W1 (hL.below b1) hw hcap hs (ht.below b1 hg) (Nat.lt_of_lt_of_le hg b1.size)
  rw [mf7] at hen hB2 hW1 ⊢
  have z0 : W1.cell? ⟨w.heap.size + 1, 0, none⟩ = some (.int .i64 m.w) := by simp [World.cell?, hB2]
  have z1 : W1.cell? ⟨w.heap.size + 1, 1, none⟩ = some (.int .i64 m.ch) := by simp [World.cell?, hB2]
  have z2 : W1.cell? ⟨w.heap.size + 1, 2, none⟩ = some (.int .i64 m.md) := by simp [World.cell?, hB2]
  have z3 : W1.cell? ⟨w.heap.size + 1, 3, none⟩ = some (.int .i64 m.seq) := by simp [World.cell?, hB2]
  have z4 : W1.cell? ⟨w.heap.size + 1, 4, none⟩ = some (.int .i64 m.nx) := by simp [World.cell?, hB2]
  have z5 : W1.cell? ⟨w.heap.size + 1, 5, none⟩ = some (.int .i64 m.jn) := by simp [World.cell?, hB2]
  have z6 : W1.cell? ⟨w.heap.size + 1, 6, none⟩ = some (.slice la m.rs.length cc) := by simp [World.cell?, hB2]
  have HX := Hid.mk (And.intro h (And.intro b1 (And.intro hB1 hT)))
  have HW := Hid.mk hW1
  clear h b1 hB1 hB2 hL hw hcap hs ht hg hT hW1
  cases hoff : c.off with
  | true =>
    rw [hoff] at hd1
    have hfin : stR (es.map fl) c m = (45, es.map fl, c) := by unfold stR; rw [if_pos hoff]
    rw [hfin]
    go_enter Tryz.func10, Tryz.ntmps10
    go_wp2_with fail
    rw [← HW.out]
    refine hd1.mono ?_
    clear hd1
    rintro e w2 ⟨rfl, rfl⟩
    go_wp2
    go_ret
    exact came (step_alloc HX.out.1 HX.out.2.1) rfl
  | false =>
    rw [hoff] at hd1
    obtain ⟨T, hTT⟩ : ∃ T, T = enT m := ⟨_, rfl⟩
    obtain ⟨E, hE⟩ : ∃ E, E = chE m := ⟨_, rfl⟩
    rw [← hTT, ← hE] at hen
    have HT := Hid.mk (And.intro hTT (And.intro hE hoff))
    clear hTT hE hoff
    go_enter Tryz.func10, Tryz.ntmps10
    go_wp2_with fail
    rw [← HW.out]
    refine hd1.mono ?_
    clear hd1
    rintro e w1' ⟨rfl, rfl⟩
    go_wp2_with fail
    refine hen.mono ?_
    clear hen
    rintro e w2 ⟨rfl, b2⟩
    obtain ⟨W3, hW3⟩ : ∃ W3, W3 = w2.alloc (.cells #[.string T] 9) := ⟨_, rfl⟩
    have hn0 := heap_alloc_new w2 (.cells #[.string T] 9)
    rw [← hW3] at hn0
    have b23 : Below w2.heap.size w2 W3 := by rw [hW3]; exact (Below.refl _ w2).alloc (Nat.le_refl _) _
    have s3 : W3.heap.size = w2.heap.size + 1 := by rw [hW3]; simp
    have hb03 : Below w.heap.size w W3 := chain (chain HX.out.2.1 b2 (Nat.le_refl _)) b23 (Nat.le_refl _)
    have HW3 := Hid.mk hW3
    have HN0 := Hid.mk (And.intro hn0 (And.intro s3 (And.intro b2 b23)))
    clear hn0 s3 b23 hW3 z0 z1 z2 z3 z4 z5 z6
    by_cases h0 : E = 0
    · subst h0
      have hmk := hmf
      go_wp2_with fail
      rw [← HW3.out]
      obtain ⟨W4, hW4⟩ : ∃ W4, W4 = W3.alloc (.cells #[.func (.func 27) #[] #[.pointer (some ⟨w.heap.size, 0, none⟩)], .func (.func 29) #[] #[.pointer (some ⟨w.heap.size, 0, none⟩)], .func (.func 31) #[] #[.pointer (some ⟨w.heap.size, 0, none⟩), .pointer (some ⟨w2.heap.size, 0, none⟩)], .func (.func 33) #[] #[.pointer (some ⟨w.heap.size, 0, none⟩)], .func (.func 35) #[] #[.pointer (some ⟨w.heap.size, 0, none⟩)]] 78) := ⟨_, rfl⟩
      rw [← hW4]
      have b34 : Below W3.heap.size W3 W4 := by rw [hW4]; exact (Below.refl _ W3).alloc (Nat.le_refl _) _
      have hr4 : W4.heap[w2.heap.size + 1]? = some (.cells #[.func (.func 27) #[] #[.pointer (some ⟨w.heap.size, 0, none⟩)], .func (.func 29) #[] #[.pointer (some ⟨w.heap.size, 0, none⟩)], .func (.func 31) #[] #[.pointer (some ⟨w.heap.size, 0, none⟩), .pointer (some ⟨w2.heap.size, 0, none⟩)], .func (.func 33) #[] #[.pointer (some ⟨w.heap.size, 0, none⟩)], .func (.func 35) #[] #[.pointer (some ⟨w.heap.size, 0, none⟩)]] 78 (0, 0)) := by
        rw [hW4, ← HN0.out.2.1]; exact heap_alloc_new W3 _
      have bw4 : Below w.heap.size w W4 := chain hb03 b34 (Nat.le_refl _)
      have hft : ∀ k, Foot p mb es k → k < w.heap.size := fun k hk => HX.out.1.lt hk
      have h2s : w.heap.size ≤ w2.heap.size := Nat.le_trans HX.out.2.1.size b2.size
      have hbd4 : W4.cell? ⟨w.heap.size, 0, none⟩ = some (Pt p) := cell_lat b34 (cell_lat HN0.out.2.2.2 (cell_lat b2 y0))
      have hbb4 : W4.cell? ⟨w2.heap.size, 0, none⟩ = some (.string T) := cell_lat b34 (by simp [World.cell?, HN0.out.1])
      have hst := first_store (es := es) (c := c) w.heap.size w2.heap.size (w2.heap.size + 1) 5 T W4 (HX.out.1.below bw4) hbd4 hbb4 (fun j v hv => by
        rw [Nat.zero_add, cell_of_row _ _ j _ _ (0, 0) hr4]
        simpa [litI] using hv) (fun hk => by have := hft _ hk; omega) (fun hk => by have := hft _ hk; omega) (fun hk => by have := hft _ hk; omega) (by rw [HT.out.1]; have := HX.out.2.2.2; unfold maxLen; omega)
      have HB4 := Hid.mk bw4
      clear hW4 b34 hr4 bw4 hft h2s hbd4 hbb4 hmk
      refine hst.mono ?_
      clear hst
      rintro e w5 ⟨E5, rfl, hR⟩
      have HR5 := Hid.mk hR
      clear hR
      go_wp2
      go_ret
      obtain ⟨es', st, hfl, hE5⟩ := HR5.out
      have hfin : stR (es.map fl) c m = seqF (opsF T.data.toList) (es.map fl) c := by
        unfold stR
        rw [if_neg (by rw [HT.out.2.2]; decide), if_pos HT.out.2.1.symm, HT.out.1]
      rw [hfin]
      exact ⟨es', by show Ending.returned (.int .i64 E5) = _; rw [hE5], (step_alloc HX.out.1 HB4.out).trans st, hfl⟩
    · have hne : (E != 0) = true := by simpa using h0
      have hfin : stR (es.map fl) c m = (E, es.map fl, c) := by
        unfold stR
        rw [if_neg (by rw [HT.out.2.2]; decide), if_neg (by rw [← HT.out.2.1]; exact h0), ← HT.out.2.1]
      have HFI := Hid.mk hfin
      clear hfin h0
      go_wp2
      go_ret
      rw [← HW3.out]
      exact came (step_alloc HX.out.1 hb03) HFI.out
end Go.Proofs.YtkoannkecojhmaaGreatDoor
