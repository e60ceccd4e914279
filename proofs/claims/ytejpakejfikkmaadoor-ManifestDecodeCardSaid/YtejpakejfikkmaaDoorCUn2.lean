/-
  DERIVED. A payload, unpacked: the walk.
-/
import Derived.Test.YtejpakejfikkmaaDoorCUn
import Derived.Test.YtejpakejfikkmaaDoorCCheck
import Derived.Deep.RegionHeld
set_option linter.unusedVariables false
set_option linter.unusedSimpArgs false
namespace Go.Proofs.YtejpakejfikkmaaDoor
open Go.RowKit Go.Proofs.SealMath
abbrev Zr (w : World) (r : Nat) : Prop := w.heap[r]? = some (.cells #[.int .i64 0, .int .i64 0, .int .i64 0, .int .i64 0, .int .i64 0, .int .i64 0, .slice none 0 0] 26 (0, 0))
theorem zr_cells {w : World} {r : Nat} (h : Zr w r) : w.cell? ⟨r, 0, none⟩ = some (.int .i64 0) ∧ w.cell? ⟨r, 1, none⟩ = some (.int .i64 0) ∧ w.cell? ⟨r, 2, none⟩ = some (.int .i64 0) ∧ w.cell? ⟨r, 3, none⟩ = some (.int .i64 0) ∧ w.cell? ⟨r, 4, none⟩ = some (.int .i64 0) ∧ w.cell? ⟨r, 5, none⟩ = some (.int .i64 0) ∧ w.cell? ⟨r, 6, none⟩ = some (.slice none 0 0) ∧ (∀ j, w.frozen? ⟨r, j, none⟩ = false) := by
  refine ⟨?_, ?_, ?_, ?_, ?_, ?_, ?_, fun j => ?_⟩ <;> simp [World.cell?, World.frozen?, h]
theorem fin7 {W : World} {r : Nat} (h : Zr W r) (y0 y1 y2 y3 y4 y5 y6 : Value) : ∃ W5, set7 W r y0 y1 y2 y3 y4 y5 y6 = W5 ∧ Stay (fun k => k = r) W W5 ∧ W5.cell? ⟨r, 0, none⟩ = some y0 ∧ W5.cell? ⟨r, 1, none⟩ = some y1 ∧ W5.cell? ⟨r, 2, none⟩ = some y2 ∧ W5.cell? ⟨r, 3, none⟩ = some y3 ∧ W5.cell? ⟨r, 4, none⟩ = some y4 ∧ W5.cell? ⟨r, 5, none⟩ = some y5 ∧ W5.cell? ⟨r, 6, none⟩ = some y6 := by
  have H := set7_heap W r _ _ _ _ _ _ _ y0 y1 y2 y3 y4 y5 y6 _ h
  refine ⟨_, rfl, set7_stay W r y0 y1 y2 y3 y4 y5 y6, ?_, ?_, ?_, ?_, ?_, ?_, ?_⟩ <;> simp [World.cell?, H]
theorem mb_cells {w : World} {g : Nat} {z0 z1 z2 z3 z4 z5 : Int} {v : Value} (h : MB w g [z0, z1, z2, z3, z4, z5] v) : w.cell? ⟨g, 0, none⟩ = some (.int .i64 z0) ∧ w.cell? ⟨g, 1, none⟩ = some (.int .i64 z1) ∧ w.cell? ⟨g, 2, none⟩ = some (.int .i64 z2) ∧ w.cell? ⟨g, 3, none⟩ = some (.int .i64 z3) ∧ w.cell? ⟨g, 4, none⟩ = some (.int .i64 z4) ∧ w.cell? ⟨g, 5, none⟩ = some (.int .i64 z5) ∧ w.cell? ⟨g, 6, none⟩ = some v := by
  have h' : w.heap[g]? = some (.cells #[.int .i64 z0, .int .i64 z1, .int .i64 z2, .int .i64 z3, .int .i64 z4, .int .i64 z5, v] 26 (0, 0)) := h
  refine ⟨?_, ?_, ?_, ?_, ?_, ?_, ?_⟩ <;> simp [World.cell?, h']
theorem six (zs : List Int) (h : zs.length = 6) : ∃ z0 z1 z2 z3 z4 z5, zs = [z0, z1, z2, z3, z4, z5] := by
  match zs, h with
  | [z0, z1, z2, z3, z4, z5], _ => exact ⟨_, _, _, _, _, _, rfl⟩
theorem rd_err {b : ByteArray} {most : Nat} : ∀ {n a : Nat} {e : Int}, rd b most n a = .error e → e ≠ 0
  | 0, a, e, h => by simp only [rd] at h; cases h
  | n + 1, a, e, h => by
    simp only [rd] at h
    split at h
    · next he => cases h; exact he
    · split at h
      · cases h; decide
      · cases hr : rd b most n (vA b a).2.1 with
        | error e' => rw [hr] at h; cases h; exact rd_err hr
        | ok q => rw [hr] at h; cases h
theorem ne_b {e : Int} (h : e ≠ 0) : (e != 0) = true := by simpa [bne_iff_ne] using h
/-- What unpack leaves. -/
def UnR (w : World) (p : ByteArray) (e : Ending) (w' : World) : Prop :=
  ∃ (m : Mf) (la : Option Addr) (c : Nat) (er : Int), e = .returned (.tuple #[.agg (mfC m la c).toArray, .int .i64 er]) ∧ er = unE (unP p) ∧ Below w.heap.size w w' ∧
    (∀ m', unP p = .ok m' → m = m' ∧ w'.ownsRow 0 36 4 (.slice la m.rs.length c) m.rs.length (m.rs.flatMap ruC) ∧ ∀ k, (Value.slice la m.rs.length c).ownBlock = some k → w.heap.size ≤ k)
/-- What is kept while the runs are read. -/
def RU (w : World) (p : ByteArray) (n : Nat) (z0 z1 z2 z3 z4 z5 : Int) (R : Except Int (List Ru × Nat)) (av u : Value) (wr : World) : Prop :=
  ∃ (i a : Nat) (pre : List Ru) (la : Option Addr) (c : Nat), av = .int .i64 a ∧ u = .int .i64 i ∧ i ≤ n ∧ a ≤ p.size ∧ pre.length = i ∧ Hid (R = (rdRs p (n - i) a).map fun q => (pre ++ q.1, q.2)) ∧ MB wr (w.heap.size + 1) [z0, z1, z2, z3, z4, z5] (.slice la i c) ∧ wr.ownsRow 0 36 4 (.slice la i c) i (pre.flatMap ruC) ∧ (∀ k, (Value.slice la i c).ownBlock = some k → w.heap.size + 2 ≤ k) ∧ Zr wr w.heap.size ∧ Below w.heap.size w wr
theorem rdRs_err {p : ByteArray} : ∀ {n a : Nat} {e : Int}, rdRs p n a = .error e → e ≠ 0
  | 0, a, e, h => by simp only [rdRs] at h; cases h
  | n + 1, a, e, h => by
    simp only [rdRs] at h
    cases hr : rd p 1152921504606846976 4 a with
    | error e' => rw [hr] at h; cases h; exact rd_err hr
    | ok q =>
      obtain ⟨l, a'⟩ := q
      rw [hr] at h
      simp only at h
      cases hr2 : rdRs p n a' with
      | error e' => rw [hr2] at h; cases h; exact rdRs_err hr2
      | ok q => rw [hr2] at h; cases h
theorem four (zs : List Int) (h : zs.length = 4) : ∃ z0 z1 z2 z3, zs = [z0, z1, z2, z3] := by
  match zs, h with
  | [z0, z1, z2, z3], _ => exact ⟨_, _, _, _, rfl⟩
/-- One run is read into a new box. -/
theorem read_run (p : ByteArray) (a : Nat) (wr w3 : World) (ha : a ≤ p.size) (hb : p.size < 4611686018427387904) (hq : RowAt w3 (wr.heap.size + 1) 0 (ptsV wr.heap.size 4)) (b3 : Below (wr.heap.size + 1) (wr.alloc (.cells #[.int .i64 0, .int .i64 0, .int .i64 0, .int .i64 0] 36)) w3) :
    Calls Tryd.prog 51 #[.string p, .int .i64 a, .int .u64 (1152921504606846976 : Nat), .slice (some ⟨wr.heap.size + 1, 0, none⟩) 4 4] w3 fun e w' => e = .returned (.tuple #[.int .i64 (rdA (rd p 1152921504606846976 4 a)), .int .i64 (rdE (rd p 1152921504606846976 4 a))]) ∧ Below wr.heap.size wr w' ∧ wr.heap.size + 1 ≤ w'.heap.size ∧
      ∃ z0 z1 z2 z3 : Int, SAt w' wr.heap.size (ruC ⟨z0, z1, z2, z3⟩) ∧ ∀ l p', rd p 1152921504606846976 4 a = .ok (l, p') → (⟨z0, z1, z2, z3⟩ : Ru) = ruOf l ∧ p' ≤ p.size := by
  have nb0 : Nb (wr.alloc (.cells #[.int .i64 0, .int .i64 0, .int .i64 0, .int .i64 0] 36)) wr.heap.size 36 [0, 0, 0, 0] [] := heap_alloc_last wr _
  have nb3 : Nb w3 wr.heap.size 36 [0, 0, 0, 0] [] := (b3.block wr.heap.size (by omega)).trans nb0
  have x1 : Below wr.heap.size wr (wr.alloc (.cells #[.int .i64 0, .int .i64 0, .int .i64 0, .int .i64 0] 36)) := (Below.refl _ wr).alloc (Nat.le_refl _) _
  have x3 : Below wr.heap.size wr w3 := x1.trans (b3.mono (by omega))
  have s3 := b3.size
  simp at s3
  have cr := read_any p a 1152921504606846976 wr.heap.size (wr.heap.size + 1) 4 36 [0, 0, 0, 0] [] w3 nb3 hq (by omega) ha hb (Nat.le_refl _) (by decide)
  simp only [List.length_cons, List.length_nil, Nat.zero_add, Nat.reduceAdd] at cr
  refine cr.mono ?_
  rintro e w' ⟨rfl, st, zs, hz, nb, hl⟩
  obtain ⟨z0, z1, z2, z3, rfl⟩ := four zs hz
  refine ⟨rfl, x3.trans (st.toBelow (B := wr.heap.size) (fun k hk h => by (have h' : k = wr.heap.size := h; omega)) x3.size), by have := st.size; omega, z0, z1, z2, z3, ?_, fun l p' h => ?_⟩
  · intro j v hv
    have h' : w'.heap[wr.heap.size]? = some (.cells (ruC ⟨z0, z1, z2, z3⟩).toArray 36 (0, 0)) := by have := nb; simpa [Nb, IV, ruC] using this
    rw [cell_of_row _ _ j _ _ _ h']
    simpa using hv
  · obtain ⟨h1, h2⟩ := hl l p' h
    refine ⟨?_, h2⟩
    have hl4 := (rd_len h).1
    match l, hl4 with
    | [n0, n1, n2, n3], _ =>
      simp only [List.map_cons, List.map_nil, List.cons.injEq, and_true] at h1
      obtain ⟨rfl, rfl, rfl, rfl⟩ := h1
      rfl
/-- One run more in the list. -/
theorem un_step {w w4 : World} {pre : List Ru} {la : Option Addr} {c i : Nat} {z0 z1 z2 z3 z4 z5 : Int} (run : Ru) (hpre : pre.length = i) (hi : i ≤ 24) (mb : MB w4 (w.heap.size + 1) [z0, z1, z2, z3, z4, z5] (.slice la i c)) (ow : w4.ownsRow 0 36 4 (.slice la i c) i (pre.flatMap ruC)) (own : ∀ k, (Value.slice la i c).ownBlock = some k → w.heap.size + 2 ≤ k) (zr : Zr w4 w.heap.size) (bw : Below w.heap.size w w4) (h2 : w.heap.size + 2 ≤ w4.heap.size) :
    ∃ (la' : Option Addr) (c' : Nat) (w6 : World), (Builtin.append_ #[24, 24] 24 #[.slice la i c, .slice (some ⟨w4.heap.size, 0, none⟩) 1 1]).run Tryd.prog (w4.alloc (.cells (ruC run).toArray 36)) = .ok (.slice la' (i + 1) c') w6 ∧ w6.cell? ⟨w.heap.size + 1, 6, none⟩ = some (.slice la i c) ∧ w6.frozen? ⟨w.heap.size + 1, 6, none⟩ = false ∧
      MB (w6.setCell ⟨w.heap.size + 1, 6, none⟩ (.slice la' (i + 1) c')) (w.heap.size + 1) [z0, z1, z2, z3, z4, z5] (.slice la' (i + 1) c') ∧ (w6.setCell ⟨w.heap.size + 1, 6, none⟩ (.slice la' (i + 1) c')).ownsRow 0 36 4 (.slice la' (i + 1) c') (i + 1) ((pre ++ [run]).flatMap ruC) ∧ (∀ k, (Value.slice la' (i + 1) c').ownBlock = some k → w.heap.size + 2 ≤ k) ∧ Zr (w6.setCell ⟨w.heap.size + 1, 6, none⟩ (.slice la' (i + 1) c')) w.heap.size ∧ Below w.heap.size w (w6.setCell ⟨w.heap.size + 1, 6, none⟩ (.slice la' (i + 1) c')) := by
  obtain ⟨w5, hw5⟩ : ∃ w5, w5 = w4.alloc (.cells (ruC run).toArray 36) := ⟨_, rfl⟩
  have b5 : Below w4.heap.size w4 w5 := by rw [hw5]; exact (Below.refl _ w4).alloc (Nat.le_refl _) _
  have RI : RowAt w5 w4.heap.size 0 (([run] : List Ru).flatMap ruC) := fun j x hx => by
    rw [hw5, Nat.zero_add]; exact SAt.new w4 (ruC run) _ j x (by simpa using hx)
  have ow5 := row_kept (F := fun _ => False) ow (.below b5) (fun _ _ h => h)
  rw [← hpre] at ow5
  obtain ⟨v', w6, hr, ow6, st6, loc6⟩ := ru_app w5 pre [run] _ ow5 (some ⟨w4.heap.size, 0, none⟩) 1 (fun _ => ⟨_, _, rfl, RI⟩) (by simp; omega)
  obtain ⟨la', c', rfl, -⟩ := slice_form ow6
  have hl : (pre ++ [run]).length = i + 1 := by rw [List.length_append, hpre]; rfl
  rw [hl] at hr ow6 loc6
  rw [hpre, show ([run] : List Ru).length = 1 from rfl] at hr
  rw [hpre] at st6 loc6
  have s5 := b5.size
  have n1 : ¬ ((Value.slice la i c).ownBlock = some (w.heap.size + 1)) := fun h => by have := own _ h; omega
  have n0 : ¬ ((Value.slice la i c).ownBlock = some w.heap.size) := fun h => by have := own _ h; omega
  have mb6 : MB w6 (w.heap.size + 1) [z0, z1, z2, z3, z4, z5] (.slice la i c) := (mb.kept (F := fun _ => False) (.below b5) (fun h => h)).kept st6 n1
  have zr5 : Zr w5 w.heap.size := (b5.block _ (by omega)).trans zr
  have zr6 : Zr w6 w.heap.size := (st6.block _ (by omega) n0).trans zr5
  have x5 := chain bw b5 (Nat.le_refl _)
  have x6 : Below w.heap.size w w6 := x5.trans (st6.toBelow (B := w.heap.size) (fun k hk h => by have := own _ h; omega) x5.size)
  have own' : ∀ k, (Value.slice la' (i + 1) c').ownBlock = some k → w.heap.size + 2 ≤ k := fun k hk => by
    rcases loc6 k hk with h | h
    · exact own k h
    · omega
  have st7 : Stay (fun k => k = w.heap.size + 1) w6 (w6.setCell ⟨w.heap.size + 1, 6, none⟩ (.slice la' (i + 1) c')) := (Stay.refl (fun k => k = w.heap.size + 1) w6).setCell (fun _ => rfl) _
  rw [← hw5]
  refine ⟨la', c', w6, hr, mb6.cell6 rfl, mb6.free 6, ?_, row_kept ow6 st7 (fun k hk h => by (have h' : k = w.heap.size + 1 := h; have := own' k hk; omega)), own', (st7.block _ (Array.getElem?_eq_some_iff.1 zr6).1 (by (show ¬ (w.heap.size = w.heap.size + 1)); omega)).trans zr6, x6.trans (st7.toBelow (B := w.heap.size) (fun k hk h => by (have h' : k = w.heap.size + 1 := h; omega)) x6.size)⟩
  have h6 : w6.heap[w.heap.size + 1]? = some (.cells #[.int .i64 z0, .int .i64 z1, .int .i64 z2, .int .i64 z3, .int .i64 z4, .int .i64 z5, .slice la i c] 26 (0, 0)) := mb6
  show (w6.setCell _ _).heap[w.heap.size + 1]? = _
  rw [heap_setCell_same w6 (w.heap.size + 1) 6 _ _ _ h6]
  rfl
theorem unless_yes (e : Int) (w : World) : Calls Tryd.prog 22 #[.bool true, .int .i64 e] w fun x w' => x = .returned (.int .i64 0) ∧ w' = w := by
  refine (unless_any true e w).mono ?_
  rintro x w' ⟨rfl, rfl⟩
  exact ⟨by rw [if_pos rfl], rfl⟩
theorem unless_no (e : Int) (w : World) : Calls Tryd.prog 22 #[.bool false, .int .i64 e] w fun x w' => x = .returned (.int .i64 e) ∧ w' = w := by
  refine (unless_any false e w).mono ?_
  rintro x w' ⟨rfl, rfl⟩
  exact ⟨by rw [if_neg (by decide)], rfl⟩
set_option maxHeartbeats 16000000 in
set_option maxRecDepth 100000 in
theorem unpack_any (p : ByteArray) (w : World) (hb : p.size < 4611686018427387904) :
    Calls Tryd.prog 19 #[.string p] w (UnR w p) := by
  obtain ⟨U, hU⟩ : ∃ U, U = unP p := ⟨_, rfl⟩
  have HU := hU
  unfold unP at HU
  obtain ⟨wa, hwa⟩ : ∃ wa, wa = w.alloc (.cells #[.int .i64 0, .int .i64 0, .int .i64 0, .int .i64 0, .int .i64 0, .int .i64 0, .slice none 0 0] 26) := ⟨_, rfl⟩
  have ba : Below w.heap.size w wa := by rw [hwa]; exact (Below.refl _ w).alloc (Nat.le_refl _) _
  have sza : wa.heap.size = w.heap.size + 1 := by rw [hwa]; simp
  have ZA : Zr wa w.heap.size := by rw [hwa]; exact heap_alloc_last w _
  have hwa' : w.alloc (.cells #[.int .i64 0, .int .i64 0, .int .i64 0, .int .i64 0, .int .i64 0, .int .i64 0, .slice none 0 0] 26) = wa := hwa.symm
  obtain ⟨wb, hwb⟩ : ∃ wb, wb = wa.alloc (.cells #[.int .i64 0, .int .i64 0, .int .i64 0, .int .i64 0, .int .i64 0, .int .i64 0, .slice none 0 0] 26) := ⟨_, rfl⟩
  have bb : Below wa.heap.size wa wb := by rw [hwb]; exact (Below.refl _ wa).alloc (Nat.le_refl _) _
  have szb : wb.heap.size = w.heap.size + 2 := by rw [hwb]; simp [sza]
  have NB : MB wb (w.heap.size + 1) [0, 0, 0, 0, 0, 0] (.slice none 0 0) := by rw [← sza, hwb]; exact heap_alloc_last wa _
  have ZB : Zr wb w.heap.size := (bb.block w.heap.size (by omega)).trans ZA
  have hwb' : wa.alloc (.cells #[.int .i64 0, .int .i64 0, .int .i64 0, .int .i64 0, .int .i64 0, .int .i64 0, .slice none 0 0] 26) = wb := hwb.symm
  have b0 := chain ba bb (Nat.le_refl _)
  have cr := fun (W : World) q (h1 : MB W (w.heap.size + 1) [0, 0, 0, 0, 0, 0] (.slice none 0 0)) h2 h3 => read_any p 0 1152921504606846976 (w.heap.size + 1) q 6 26 [0, 0, 0, 0, 0, 0] [.slice none 0 0] W h1 h2 h3 (Nat.zero_le _) hb (Nat.le_refl _) (by decide)
  simp only [List.length_cons, List.length_nil] at cr
  obtain ⟨R1, hR1⟩ : ∃ R1, R1 = rd p 1152921504606846976 6 0 := ⟨_, rfl⟩
  have hR1' : rd p 1152921504606846976 (0 + 1 + 1 + 1 + 1 + 1 + 1) 0 = R1 := hR1.symm
  have HR1 := Hid.mk hR1.symm
  rw [← hR1] at HU
  rw [hR1'] at cr
  have HUh := Hid.mk HU
  have HU0 := Hid.mk hU
  clear hwa hwb ba bb ZA HU hU hR1 hR1'
  have ARM : ∀ (w3 : World), RowAt w3 (w.heap.size + 2) 0 (ptsV (w.heap.size + 1) 6) → Below wb.heap.size wb w3 → Calls Tryd.prog 51 #[.string p, .int .i64 (0 : Nat), .int .u64 (1152921504606846976 : Nat), .slice (some ⟨w.heap.size + 2, 0, none⟩) 6 6] w3 fun e w' => e = .returned (.tuple #[.int .i64 (rdA R1), .int .i64 (rdE R1)]) ∧ Zr w' w.heap.size ∧ Below w.heap.size w w' ∧ w.heap.size + 2 ≤ w'.heap.size ∧ ∃ z0 z1 z2 z3 z4 z5 : Int, MB w' (w.heap.size + 1) [z0, z1, z2, z3, z4, z5] (.slice none 0 0) ∧ ∀ l p', R1 = .ok (l, p') → [z0, z1, z2, z3, z4, z5] = l.map (fun (n : Nat) => (n : Int)) ∧ p' ≤ p.size := fun w3 h1 b => by
    refine (cr w3 (w.heap.size + 2) (NB.kept (F := fun _ => False) (.below b) (fun h => h)) h1 (by omega)).mono ?_
    rintro e w' ⟨rfl, st, zs, hz, nb, hl⟩
    obtain ⟨z0, z1, z2, z3, z4, z5, rfl⟩ := six zs hz
    have b3 := chain b0 b (Nat.le_refl _)
    have z3' : Zr w3 w.heap.size := (b.block w.heap.size (by omega)).trans ZB
    refine ⟨rfl, (st.block w.heap.size (Array.getElem?_eq_some_iff.1 z3').1 (by (show ¬ (w.heap.size = w.heap.size + 1)); omega)).trans z3', b3.trans (st.toBelow (B := w.heap.size) (fun k hk h => by (have h' : k = w.heap.size + 1 := h; omega)) b3.size), ?_, z0, z1, z2, z3, z4, z5, nb, hl⟩
    have := b.size; have := st.size; omega
  clear cr NB ZB
  cases hr1 : R1 with
  | error e1 =>
    rw [hr1] at ARM HUh HR1
    have hr1' := HR1.out
    have hU1 : U = .error e1 := HUh.out
    have e1n : (e1 != 0) = true := ne_b (rd_err hr1')
    simp only [rdA, rdE] at ARM
    rw [hU1] at HU0
    clear hr1 HUh hU1 hr1' HR1
    go_enter Tryd.func19, Tryd.ntmps19
    go_wp2_with first
      | (go_at_call 52; refine (numbers_any (w.heap.size + 1) _).mono ?_; rintro e w3 ⟨rfl, rq, b3⟩; rw [szb] at rq; rw [szb])
      | (go_at_call 51; refine (ARM w3 rq b3).mono ?_; rintro e w4 ⟨rfl, Z4, b4, -, z0, z1, z2, z3, z4, z5, mb, -⟩; obtain ⟨m0, m1, m2, m3, m4, m5, m6⟩ := mb_cells mb; obtain ⟨c0, c1, c2, c3, c4, c5, c6, cf⟩ := zr_cells Z4)
    obtain ⟨W5, hW5, st5, o0, o1, o2, o3, o4, o5, o6⟩ := fin7 Z4 (.int .i64 z0) (.int .i64 z1) (.int .i64 z2) (.int .i64 z3) (.int .i64 z4) (.int .i64 z5) (.slice none 0 0)
    unfold set7 at hW5
    rw [hW5]
    refine bodyPost_ret (v := .tuple #[.agg #[.int .i64 z0, .int .i64 z1, .int .i64 z2, .int .i64 z3, .int .i64 z4, .int .i64 z5, .slice none 0 0], .int .i64 e1]) (by simp [results, Tryd.results19, go_sem, o0, o1, o2, o3, o4, o5, o6]; try rfl) rfl ?_
    refine ⟨⟨z0, z1, z2, z3, z4, z5, []⟩, none, 0, e1, rfl, by rw [← HU0.out]; rfl, b4.trans (st5.toBelow (B := w.heap.size) (fun k hk h => by (have h' : k = w.heap.size := h; omega)) b4.size), fun m' h => ?_⟩
    rw [← HU0.out] at h; cases h
  | ok q1 =>
    obtain ⟨l1, a1⟩ := q1
    rw [hr1] at ARM HUh HR1
    have hU1 : U = _ := HUh.out
    simp only at hU1
    simp only [rdA, rdE] at ARM
    have hl1 := (rd_len HR1.out).1
    have ha1 : a1 ≤ p.size := rd_place (Nat.zero_le _) HR1.out
    obtain ⟨R2, hR2⟩ : ∃ R2, R2 = rd p 24 1 a1 := ⟨_, rfl⟩
    rw [← hR2] at hU1
    have HR2 := Hid.mk hR2.symm
    have HUh2 := Hid.mk hU1
    have ARM2 : ∀ (w4 : World), Zr w4 w.heap.size → Below w.heap.size w w4 → w.heap.size + 2 ≤ w4.heap.size → ∀ z0 z1 z2 z3 z4 z5 : Int, MB w4 (w.heap.size + 1) [z0, z1, z2, z3, z4, z5] (.slice none 0 0) → Calls Tryd.prog 51 #[.string p, .int .i64 a1, .int .u64 (24 : Nat), .slice (some ⟨w4.heap.size + 1, 0, none⟩) 1 1] ((w4.alloc (.cells #[.int .i64 0] 3)).alloc (.cells #[.pointer (some ⟨w4.heap.size, 0, none⟩)] 87)) fun e w' => e = .returned (.tuple #[.int .i64 (rdA R2), .int .i64 (rdE R2)]) ∧ Zr w' w.heap.size ∧ Below w.heap.size w w' ∧ w4.heap.size + 2 ≤ w'.heap.size ∧ MB w' (w.heap.size + 1) [z0, z1, z2, z3, z4, z5] (.slice none 0 0) ∧ ∃ x : Int, w'.cell? ⟨w4.heap.size, 0, none⟩ = some (.int .i64 x) ∧ ∀ l p', R2 = .ok (l, p') → [x] = l.map (fun (n : Nat) => (n : Int)) ∧ p' ≤ p.size := fun w4 Z4 b4 g4 z0 z1 z2 z3 z4 z5 mb => by
      obtain ⟨W1, hW1⟩ : ∃ W1, W1 = w4.alloc (.cells #[.int .i64 0] 3) := ⟨_, rfl⟩
      have sz1 : W1.heap.size = w4.heap.size + 1 := by rw [hW1]; simp
      have x1 : Below w4.heap.size w4 W1 := by rw [hW1]; exact (Below.refl _ w4).alloc (Nat.le_refl _) _
      obtain ⟨W2, hW2⟩ : ∃ W2, W2 = W1.alloc (.cells #[.pointer (some ⟨w4.heap.size, 0, none⟩)] 87) := ⟨_, rfl⟩
      have sz2 : W2.heap.size = w4.heap.size + 2 := by rw [hW2]; simp [sz1]
      have x2 : Below W1.heap.size W1 W2 := by rw [hW2]; exact (Below.refl _ W1).alloc (Nat.le_refl _) _
      have x12 := chain x1 x2 (Nat.le_refl _)
      have nb1 : Nb W1 w4.heap.size 3 [0] [] := by rw [hW1]; exact heap_alloc_last w4 _
      have nb2 : Nb W2 w4.heap.size 3 [0] [] := nb1.kept (F := fun _ => False) (.below x2) (fun h => h)
      have rq2 : RowAt W2 (w4.heap.size + 1) 0 (ptsV w4.heap.size 1) := fun j x hx => by
        rw [Nat.zero_add, ← sz1, hW2]; exact SAt.new W1 _ _ j x hx
      rw [← hW1, ← hW2]
      have cr := read_any p a1 24 w4.heap.size (w4.heap.size + 1) 1 3 [0] [] W2 nb2 rq2 (by omega) ha1 hb (by decide) (by decide)
      simp only [List.length_cons, List.length_nil, Nat.zero_add] at cr
      rw [← hR2] at cr
      refine cr.mono ?_
      rintro e w' ⟨rfl, st, zs, hz, nb, hl⟩
      match zs, hz with
      | [x], _ =>
        have y2 := chain b4 x12 (Nat.le_refl _)
        refine ⟨rfl, ?_, y2.trans (st.toBelow (B := w.heap.size) (fun k hk h => by (have h' : k = w4.heap.size := h; omega)) y2.size), ?_, ?_, x, nb.cell 0 (by simp), hl⟩
        · have zz : Zr W2 w.heap.size := (x12.block w.heap.size (by omega)).trans Z4
          exact (st.block w.heap.size (by omega) (by (show ¬ (w.heap.size = w4.heap.size)); omega)).trans zz
        · have := st.size; omega
        · exact (mb.kept (F := fun _ => False) (.below x12) (fun h => h)).kept st (by (show ¬ (w.heap.size + 1 = w4.heap.size)); omega)
    clear HUh hU1 hR2 hr1
    cases hr2 : R2 with
    | error e2 =>
      rw [hr2] at ARM2 HUh2 HR2
      have hU2 : U = .error e2 := HUh2.out
      have e2n : (e2 != 0) = true := ne_b (rd_err HR2.out)
      simp only [rdA, rdE] at ARM2
      rw [hU2] at HU0
      clear hr2 HUh2 hU2 HR2 HR1
      go_enter Tryd.func19, Tryd.ntmps19
      have t1 : True := trivial
      go_wp2_with first
        | (go_at_call 52; refine (numbers_any (w.heap.size + 1) _).mono ?_; rintro e w3 ⟨rfl, rq, b3⟩; rw [szb] at rq; rw [szb])
        | (go_at_call 51; have _t := t1; refine (ARM w3 rq b3).mono ?_; rintro e w4 ⟨rfl, Z4, b4, g4, z0, z1, z2, z3, z4, z5, mb, hz⟩; clear t1 ARM)
        | (go_at_call 51; refine (ARM2 w4 Z4 b4 g4 z0 z1 z2 z3 z4 z5 mb).mono ?_; rintro e w5 ⟨rfl, Z5, b5, g5, mb5, x, cx, -⟩; obtain ⟨m0, m1, m2, m3, m4, m5, m6⟩ := mb_cells mb5; obtain ⟨c0, c1, c2, c3, c4, c5, c6, cf⟩ := zr_cells Z5)
      obtain ⟨W5, hW5, st5, o0, o1, o2, o3, o4, o5, o6⟩ := fin7 Z5 (.int .i64 z0) (.int .i64 z1) (.int .i64 z2) (.int .i64 z3) (.int .i64 z4) (.int .i64 z5) (.slice none 0 0)
      unfold set7 at hW5
      rw [hW5]
      refine bodyPost_ret (v := .tuple #[.agg #[.int .i64 z0, .int .i64 z1, .int .i64 z2, .int .i64 z3, .int .i64 z4, .int .i64 z5, .slice none 0 0], .int .i64 e2]) (by simp [results, Tryd.results19, go_sem, o0, o1, o2, o3, o4, o5, o6]; try rfl) rfl ?_
      refine ⟨⟨z0, z1, z2, z3, z4, z5, []⟩, none, 0, e2, rfl, by rw [← HU0.out]; rfl, b5.trans (st5.toBelow (B := w.heap.size) (fun k hk h => by (have h' : k = w.heap.size := h; omega)) b5.size), fun m' h => ?_⟩
      rw [← HU0.out] at h; cases h
    | ok q2 =>
      obtain ⟨l2, a2⟩ := q2
      rw [hr2] at ARM2 HUh2 HR2
      have hU2 : U = _ := HUh2.out
      simp only at hU2
      simp only [rdA, rdE] at ARM2
      have hl2 := rd_len HR2.out
      have ha2 : a2 ≤ p.size := rd_place ha1 HR2.out
      match l2, hl2 with
      | [n], hl2 =>
        have hn24 : n ≤ 24 := hl2.2 n (by simp)
        simp only [List.getD_cons_zero] at hU2
        obtain ⟨R3, hR3⟩ : ∃ R3, R3 = rdRs p n a2 := ⟨_, rfl⟩
        rw [← hR3] at hU2
        have HR3 := Hid.mk hR3.symm
        have HUh3 := Hid.mk hU2
        clear hr2 HUh2 hU2 HR2 hR3 hl2
        go_enter Tryd.func19, Tryd.ntmps19
        have t1 : True := trivial
        go_wp2_with first
          | (go_at_call 52; refine (numbers_any (w.heap.size + 1) _).mono ?_; rintro e w3 ⟨rfl, rq, b3⟩; rw [szb] at rq; rw [szb])
          | (go_at_call 51; have _t := t1; refine (ARM w3 rq b3).mono ?_; rintro e w4 ⟨rfl, Z4, b4, g4, z0, z1, z2, z3, z4, z5, mb, hz⟩; clear t1 ARM)
          | (go_at_call 51; refine (ARM2 w4 Z4 b4 g4 z0 z1 z2 z3 z4 z5 mb).mono ?_; rintro e w5 ⟨rfl, Z5, b5, g5, mb5, x, cx, hx⟩; have hxx : x = (n : Int) := (by have := (hx _ _ rfl).1; simpa using this); rw [hxx] at cx)
        have hzz : [z0, z1, z2, z3, z4, z5] = l1.map (fun (n : Nat) => (n : Int)) := (hz _ _ rfl).1
        have HZ := Hid.mk hzz
        have HZ5 := Hid.mk Z5
        have HM5 := Hid.mk mb5
        have HB5 := Hid.mk b5
        have hH5 : w.heap.size + 2 ≤ w5.heap.size := by omega
        clear ARM2 Z4 b4 g4 mb hz Z5 mb5 b5 g5 hx hxx cx hzz rq b3 hwa' hwb'
        go_loopw [5, 31] (fun av u wr => RU w p n z0 z1 z2 z3 z4 z5 R3 av u wr) (fun _ u _ => n - (intOf u).toNat)
        case atStart =>
          refine ⟨0, a2, [], none, 0, rfl, rfl, Nat.zero_le _, ha2, rfl, ?_, HM5.out, World.ownsRow_nil _ _ _ _, (fun k hk => by cases hk), HZ5.out, HB5.out⟩
          show _ = _
          rw [Nat.sub_zero, HR3.out]
          cases R3 <;> rfl
        case round =>
          obtain ⟨i, a, pre, la, c, rfl, rfl, hi, ha, hpre, HR, mbr, ow, own, zr, bw⟩ := hrel
          by_cases hlt : i < n
          · have hr := HR.out
            rw [show n - i = (n - (i + 1)) + 1 by omega, rdRs] at hr
            have cr := fun w3 h1 h2 => read_run p a wr w3 ha hb h1 h2
            obtain ⟨R4, hR4⟩ : ∃ R4, R4 = rd p 1152921504606846976 4 a := ⟨_, rfl⟩
            rw [← hR4] at hr cr
            have mlt := mbr.lt
            have sz1 : (wr.alloc (.cells #[.int .i64 0, .int .i64 0, .int .i64 0, .int .i64 0] 36)).heap.size = wr.heap.size + 1 := by simp
            have HMb := Hid.mk mbr
            have HOw := Hid.mk ow
            have HOn := Hid.mk own
            have HZr := Hid.mk zr
            have HBw := Hid.mk bw
            have HR4 := Hid.mk hR4.symm
            clear HR mbr ow own zr bw hR4
            cases hr4 : R4 with
            | error e4 =>
              rw [hr4] at hr cr HR4
              have h3 : R3 = .error e4 := hr
              have hu3 : U = .error e4 := by have := HUh3.out; rw [h3] at this; exact this
              rw [hu3] at HU0
              have e4n : (e4 != 0) = true := ne_b (rd_err HR4.out)
              simp only [rdA, rdE] at cr
              clear hr h3 hu3 HUh3 HR3 hr4 HR4
              go_wp2_with first
                | (go_at_call 53; refine (runNumbers_any wr.heap.size _).mono ?_; rintro e w3 ⟨rfl, rq, b3⟩; rw [sz1] at rq b3; rw [sz1])
                | (go_at_call 51; refine (cr w3 rq b3).mono ?_; rintro e w4 ⟨rfl, b4, g4, y0, y1, y2, y3, sr, -⟩; obtain ⟨m0, m1, m2, m3, m4, m5, m6⟩ := mb_cells (HMb.out.kept (F := fun _ => False) (.below b4) (fun h => h)); have Z4 : Zr w4 w.heap.size := (b4.block _ (by omega)).trans HZr.out; obtain ⟨c0, c1, c2, c3, c4, c5, c6, cf⟩ := zr_cells Z4; have bw4 := chain HBw.out b4 (Nat.le_refl _))
              obtain ⟨W5, hW5, st5, o0, o1, o2, o3, o4, o5, o6⟩ := fin7 Z4 (.int .i64 z0) (.int .i64 z1) (.int .i64 z2) (.int .i64 z3) (.int .i64 z4) (.int .i64 z5) (.slice la i c)
              unfold set7 at hW5
              rw [hW5]
              refine bodyPost_ret (v := .tuple #[.agg #[.int .i64 z0, .int .i64 z1, .int .i64 z2, .int .i64 z3, .int .i64 z4, .int .i64 z5, .slice la i c], .int .i64 e4]) (by simp [results, Tryd.results19, go_sem, o0, o1, o2, o3, o4, o5, o6]; try rfl) rfl ?_
              refine ⟨⟨z0, z1, z2, z3, z4, z5, pre⟩, la, c, e4, by rw [mfC, hpre], by rw [← HU0.out]; rfl, bw4.trans (st5.toBelow (B := w.heap.size) (fun k hk h => by (have h' : k = w.heap.size := h; omega)) bw4.size), fun m' h => ?_⟩
              rw [← HU0.out] at h; cases h
            | ok q4 =>
              obtain ⟨l4, a4⟩ := q4
              rw [hr4] at hr cr HR4
              simp only at hr
              rw [rdRs_map] at hr
              have HR' := Hid.mk hr
              simp only [rdA, rdE] at cr
              have HP : Hid ((pre ++ [ruOf l4]).length = i + 1) := by show _ = _; rw [List.length_append, hpre]; rfl
              clear hr hr4 HR4 HUh3 HR3
              go_wp2_with (go_at_call 53; refine (runNumbers_any wr.heap.size _).mono ?_; rintro e w3 ⟨rfl, rq, b3⟩; rw [sz1] at rq b3; rw [sz1])
              refine (cr w3 rq b3).mono ?_
              rintro e w4 ⟨rfl, b4, g4, y0, y1, y2, y3, sr, hl4⟩
              obtain ⟨hru, ha4⟩ := hl4 _ _ rfl
              rw [hru] at sr
              have mb4 := HMb.out.kept (F := fun _ => False) (.below b4) (fun h => h)
              have ow4 := row_kept (F := fun _ => False) HOw.out (.below b4) (fun _ _ h => h)
              have zr4 : Zr w4 w.heap.size := (b4.block _ (by omega)).trans HZr.out
              have bw4 := chain HBw.out b4 (Nat.le_refl _)
              obtain ⟨la', c', w6, hap, x6, f6, mb7, ow7, own7, zr7, bw7⟩ := un_step (ruOf l4) hpre (by omega) mb4 ow4 HOn.out zr4 bw4 (by omega)
              have q6 := MB.cell6 mb4 rfl
              have s0 := sr 0 _ rfl
              have s1 := sr 1 _ rfl
              have s2 := sr 2 _ rfl
              have s3 := sr 3 _ rfl
              simp only [ruC] at hap
              have HF := Hid.mk (And.intro mb7 (And.intro ow7 (And.intro own7 (And.intro zr7 bw7))))
              clear mb7 ow7 own7 zr7 bw7 sr hru hl4 mb4 ow4 zr4
              go_wp2_with (at_builtin; refine wpList_append_eq rfl _ _ _ _ rfl _ _ _ _ rfl rfl hap ?_)
              obtain ⟨mb7, ow7, own7, zr7, bw7⟩ := HF.out
              exact ⟨⟨i + 1, a4, pre ++ [ruOf l4], la', c', rfl, rfl, hlt, ha4, HP.out, HR', mb7, ow7, own7, zr7, bw7⟩, by simp only [intOf]; omega⟩
          · have e : i = n := by omega
            subst e
            have h3 : R3 = .ok (pre, a) := by rw [HR.out, Nat.sub_self]; simp [rdRs, Except.map]
            obtain ⟨m0, m1, m2, m3, m4, m5, m6⟩ := mb_cells mbr
            obtain ⟨c0, c1, c2, c3, c4, c5, c6, cf⟩ := zr_cells zr
            have hu3 := HUh3.out
            rw [h3] at hu3
            simp only at hu3
            clear HR HR3 HUh3
            go_wp2
            by_cases hap : a = p.size
            · rw [if_pos hap] at hu3
              rw [hu3] at HU0
              have hE : ((a : Int) == (p.size : Int)) = true := by rw [hap]; simp
              go_region_with (go_at_call 22; refine (unless_yes _ _).mono ?_; rintro e w' ⟨rfl, rfl⟩)
              all_goals
                go_wp2
                obtain ⟨W5, hW5, st5, p0, p1, p2, p3, p4, p5, p6⟩ := fin7 zr (.int .i64 z0) (.int .i64 z1) (.int .i64 z2) (.int .i64 z3) (.int .i64 z4) (.int .i64 z5) (.slice la i c)
                unfold set7 at hW5
                rw [hW5]
                have o0 : W5.drew.cell? _ = _ := p0
                have o1 : W5.drew.cell? _ = _ := p1
                have o2 : W5.drew.cell? _ = _ := p2
                have o3 : W5.drew.cell? _ = _ := p3
                have o4 : W5.drew.cell? _ = _ := p4
                have o5 : W5.drew.cell? _ = _ := p5
                have o6 : W5.drew.cell? _ = _ := p6
                refine bodyPost_ret (v := .tuple #[.agg #[.int .i64 z0, .int .i64 z1, .int .i64 z2, .int .i64 z3, .int .i64 z4, .int .i64 z5, .slice la i c], .int .i64 0]) (by simp [results, Tryd.results19, go_sem, o0, o1, o2, o3, o4, o5, o6]; try rfl) rfl ?_
                have b5' : Below w.heap.size w W5.drew := (bw.trans (st5.toBelow (B := w.heap.size) (fun k hk h => by (have h' : k = w.heap.size := h; omega)) bw.size)).drew
                refine ⟨⟨z0, z1, z2, z3, z4, z5, pre⟩, la, c, 0, by rw [mfC, hpre], by rw [← HU0.out]; rfl, b5', fun m' h => ?_⟩
                rw [← HU0.out] at h
                have h' : mfOf l1 pre = m' := by injection h
                refine ⟨?_, ?_, ?_⟩
                · rw [← h']
                  have hz := HZ.out
                  match l1, hl1 with
                  | [n0, n1, n2, n3, n4, n5], _ =>
                    simp only [List.map_cons, List.map_nil, List.cons.injEq, and_true] at hz
                    obtain ⟨rfl, rfl, rfl, rfl, rfl, rfl⟩ := hz
                    rfl
                · simp only [hpre]
                  exact row_kept (F := fun k => k = w.heap.size) ow st5.drew (fun k hk h => by (have h2 : k = w.heap.size := h; have := own k hk; omega))
                · simp only [hpre]
                  exact fun k hk => by have := own k hk; omega
            · rw [if_neg hap] at hu3
              rw [hu3] at HU0
              have hE' : (a : Int) ≠ (p.size : Int) := by omega
              have hE : ((a : Int) == (p.size : Int)) = false := by simpa using hE'
              clear hE'
              go_region_with (go_at_call 22; refine (unless_no _ _).mono ?_; rintro e w' ⟨rfl, rfl⟩)
              all_goals
                go_wp2
                obtain ⟨W5, hW5, st5, p0, p1, p2, p3, p4, p5, p6⟩ := fin7 zr (.int .i64 z0) (.int .i64 z1) (.int .i64 z2) (.int .i64 z3) (.int .i64 z4) (.int .i64 z5) (.slice la i c)
                unfold set7 at hW5
                rw [hW5]
                have o0 : W5.drew.cell? _ = _ := p0
                have o1 : W5.drew.cell? _ = _ := p1
                have o2 : W5.drew.cell? _ = _ := p2
                have o3 : W5.drew.cell? _ = _ := p3
                have o4 : W5.drew.cell? _ = _ := p4
                have o5 : W5.drew.cell? _ = _ := p5
                have o6 : W5.drew.cell? _ = _ := p6
                refine bodyPost_ret (v := .tuple #[.agg #[.int .i64 z0, .int .i64 z1, .int .i64 z2, .int .i64 z3, .int .i64 z4, .int .i64 z5, .slice la i c], .int .i64 37]) (by simp [results, Tryd.results19, go_sem, o0, o1, o2, o3, o4, o5, o6]; try rfl) rfl ?_
                have b5' : Below w.heap.size w W5.drew := (bw.trans (st5.toBelow (B := w.heap.size) (fun k hk h => by (have h' : k = w.heap.size := h; omega)) bw.size)).drew
                refine ⟨⟨z0, z1, z2, z3, z4, z5, pre⟩, la, c, 37, by rw [mfC, hpre], by rw [← HU0.out]; rfl, b5', fun m' h => ?_⟩
                rw [← HU0.out] at h
                cases h
end Go.Proofs.YtejpakejfikkmaaDoor
