/-
  DERIVED. The laws' goes: the walk.
-/
import Derived.Test.YtibjneoiombbfaaDoorCGoes
set_option linter.unusedVariables false
set_option linter.unusedSimpArgs false
namespace Go.Proofs.YtibjneoiombbfaaDoor
open Go.RowKit Go.Proofs.SealMath
theorem via {T P : Prop} (t : T) (f : PLift T → P) : P := f ⟨t⟩
/-- What is kept while runs are made. -/
def RG (wa : World) (g0 : Nat) (m : Mf) (mla : Option Addr) (mc : Nat) (W C M : Int) (hv u : Value) (wr : World) : Prop :=
  ∃ (i : Nat) (hi : Int) (pre : List Ru) (la : Option Addr) (c : Nat), hv = .int .i64 hi ∧ u = .int .i64 i ∧ i ≤ (m.rs.take 24).length ∧ 0 ≤ hi ∧ hi ≤ i * 1125899906843650 ∧ pre.length = i ∧ Hid (goR (m.rs.take 24) 0 0 = pre ++ goR ((m.rs.take 24).drop i) i hi ∧ goH (m.rs.take 24) 0 = goH ((m.rs.take 24).drop i) hi) ∧
    MB wr (wa.heap.size + 1) [W, C, M, 0, 0, 0] (.slice la i c) ∧ wr.ownsRow 0 43 4 (.slice la i c) i (pre.flatMap ruC) ∧ (∀ k, (Value.slice la i c).ownBlock = some k → wa.heap.size + 2 ≤ k) ∧ Zr wr wa.heap.size ∧ Below wa.heap.size wa wr ∧ SAt wr g0 (mfC m mla mc)
set_option maxHeartbeats 16000000 in
set_option maxRecDepth 100000 in
theorem goes_any (m : Mf) (mla : Option Addr) (mc : Nat) (w : World) (hL : LAt w mla m.rs) (hw : MfW m) (hc : m.rs.length ≤ mc) (hs : m.rs.length < 4611686018427387904) :
    Calls Tryd.prog 9 #[.agg (mfC m mla mc).toArray] w fun e w' => ∃ (la : Option Addr) (c : Nat), e = .returned (.agg (mfC (goM m) la c).toArray) ∧ w'.ownsRow 0 43 4 (.slice la (goM m).rs.length c) (goM m).rs.length ((goM m).rs.flatMap ruC) ∧ (∀ k, (Value.slice la (goM m).rs.length c).ownBlock = some k → w.heap.size ≤ k) ∧ Below w.heap.size w w' := by
  obtain ⟨wa, hwa⟩ : ∃ wa, wa = w.alloc (.cells (mfC m mla mc).toArray 26) := ⟨_, rfl⟩
  have ba : Below w.heap.size w wa := by rw [hwa]; exact (Below.refl _ w).alloc (Nat.le_refl _) _
  have sza : wa.heap.size = w.heap.size + 1 := by rw [hwa]; simp
  have SA : SAt wa w.heap.size (mfC m mla mc) := by rw [hwa]; exact SAt.new w _ _
  have hwa' : w.alloc (.cells (mfC m mla mc).toArray 26) = wa := hwa.symm
  obtain ⟨wb, hwb⟩ : ∃ wb, wb = wa.alloc (.cells #[.int .i64 0, .int .i64 0, .int .i64 0, .int .i64 0, .int .i64 0, .int .i64 0, .slice none 0 0] 26) := ⟨_, rfl⟩
  have bb : Below wa.heap.size wa wb := by rw [hwb]; exact (Below.refl _ wa).alloc (Nat.le_refl _) _
  have szb : wb.heap.size = wa.heap.size + 1 := by rw [hwb]; simp
  have ZB : Zr wb wa.heap.size := by rw [hwb]; exact heap_alloc_last wa _
  have hwb' : wa.alloc (.cells #[.int .i64 0, .int .i64 0, .int .i64 0, .int .i64 0, .int .i64 0, .int .i64 0, .slice none 0 0] 26) = wb := hwb.symm
  have SB := SA.lat bb
  obtain ⟨a0, a1, a2, a3, a4, a5, a6⟩ : wb.cell? ⟨w.heap.size, 0, none⟩ = some (.int .i64 m.w) ∧ wb.cell? ⟨w.heap.size, 1, none⟩ = some (.int .i64 m.ch) ∧ wb.cell? ⟨w.heap.size, 2, none⟩ = some (.int .i64 m.md) ∧ wb.cell? ⟨w.heap.size, 3, none⟩ = some (.int .i64 m.seq) ∧ wb.cell? ⟨w.heap.size, 4, none⟩ = some (.int .i64 m.nx) ∧ wb.cell? ⟨w.heap.size, 5, none⟩ = some (.int .i64 m.jn) ∧ wb.cell? ⟨w.heap.size, 6, none⟩ = some (.slice mla m.rs.length mc) := ⟨SB 0 _ rfl, SB 1 _ rfl, SB 2 _ rfl, SB 3 _ rfl, SB 4 _ rfl, SB 5 _ rfl, SB 6 _ rfl⟩
  have i1 := hw.w
  have i2 := hw.ch
  have i3 := hw.md
  have i4 := hw.seq
  have i5 := hw.nx
  have i6 := hw.jn
  have p1 := fun W => pick_any m.w 16 W (by omega) (by omega) (by omega)
  have p2 := fun W => pick_any m.md 2 W (by omega) (by omega) (by omega)
  obtain ⟨k16, hk16⟩ : ∃ k, k = m.w % 16 := ⟨_, rfl⟩
  obtain ⟨k2, hk2⟩ : ∃ k, k = m.md % 2 := ⟨_, rfl⟩
  rw [show m.w % ((16 : Nat) : Int) = k16 by rw [hk16]; rfl] at p1
  rw [show m.md % ((2 : Nat) : Int) = k2 by rw [hk2]; rfl] at p2
  have r16 : 0 ≤ k16 ∧ k16 < 16 := by omega
  have r2 : 0 ≤ k2 ∧ k2 < 2 := by omega
  have hGW : goW m = 64 * (1 + k16) := by unfold goW; rw [hk16]
  have hGC : goC m = if 1 + k2 = 1 then 64 * (1 + k16) / 32 + m.ch % (64 * (1 + k16) / 8 - 64 * (1 + k16) / 32 + 1) else 0 := by unfold goC; rw [hGW, hk2]
  obtain ⟨D, hD⟩ : ∃ D : Nat, 64 * (1 + k16) / 8 - 64 * (1 + k16) / 32 + 1 = (D : Int) := ⟨(64 * (1 + k16) / 8 - 64 * (1 + k16) / 32 + 1).toNat, by omega⟩
  have p3 := fun W => pick_any m.ch D W (by omega) (by omega) (by omega)
  obtain ⟨kc, hkc⟩ : ∃ k, k = m.ch % (D : Int) := ⟨_, rfl⟩
  rw [hD, ← hkc] at hGC
  rw [← hkc] at p3
  have rc : 0 ≤ kc ∧ kc < D := by rw [hkc]; exact ⟨Int.emod_nonneg _ (by omega), Int.emod_lt_of_pos _ (by omega)⟩
  obtain ⟨wc, hwc⟩ : ∃ wc, wc = wb.alloc (.cells #[.int .i64 (64 * (1 + k16)), .int .i64 0, .int .i64 (1 + k2), .int .i64 0, .int .i64 0, .int .i64 0, .slice none 0 0] 26) := ⟨_, rfl⟩
  have bc : Below wb.heap.size wb wc := by rw [hwc]; exact (Below.refl _ wb).alloc (Nat.le_refl _) _
  have NC : MB wc (wa.heap.size + 1) [64 * (1 + k16), 0, 1 + k2, 0, 0, 0] (.slice none 0 0) := by rw [← szb, hwc]; exact heap_alloc_last wb _
  have ZC : Zr wc wa.heap.size := (bc.block _ (by omega)).trans ZB
  have bac : Below wa.heap.size wa wc := chain bb bc (Nat.le_refl _)
  obtain ⟨wd, hwd⟩ : ∃ wd, wd = wb.alloc (.cells #[.int .i64 (64 * (1 + k16)), .int .i64 (64 * (1 + k16) / 32 + kc), .int .i64 (1 + k2), .int .i64 0, .int .i64 0, .int .i64 0, .slice none 0 0] 26) := ⟨_, rfl⟩
  have bd : Below wb.heap.size wb wd := by rw [hwd]; exact (Below.refl _ wb).alloc (Nat.le_refl _) _
  have ND : MB wd (wa.heap.size + 1) [64 * (1 + k16), 64 * (1 + k16) / 32 + kc, 1 + k2, 0, 0, 0] (.slice none 0 0) := by rw [← szb, hwd]; exact heap_alloc_last wb _
  have ZD : Zr wd wa.heap.size := (bd.block _ (by omega)).trans ZB
  have bad : Below wa.heap.size wa wd := chain bb bd (Nat.le_refl _)
  have S0 : 1 + k2 = 1 → Hid (RG wa w.heap.size m mla mc (64 * (1 + k16)) (goC m) (1 + k2) (.int .i64 0) (.int .i64 0) wd) := fun h => by
    rw [if_pos h] at hGC
    rw [hGC]
    exact ⟨0, 0, [], none, 0, rfl, rfl, Nat.zero_le _, by omega, by omega, rfl, ⟨rfl, rfl⟩, ND, World.ownsRow_nil _ _ _ _, (fun k hk => by cases hk), ZD, bad, SA.lat bad⟩
  have S1 : ¬ 1 + k2 = 1 → Hid (RG wa w.heap.size m mla mc (64 * (1 + k16)) (goC m) (1 + k2) (.int .i64 0) (.int .i64 0) wc) := fun h => by
    rw [if_neg h] at hGC
    rw [hGC]
    exact ⟨0, 0, [], none, 0, rfl, rfl, Nat.zero_le _, by omega, by omega, rfl, ⟨rfl, rfl⟩, NC, World.ownsRow_nil _ _ _ _, (fun k hk => by cases hk), ZC, bac, SA.lat bac⟩
  have HSA := Hid.mk SA
  have HGW := Hid.mk hGW
  have HK2 := Hid.mk hk2
  have HW := Hid.mk hw
  have HL := Hid.mk (hL.below ba)
  have HSZ := Hid.mk sza
  have hga : w.heap.size < wa.heap.size := by omega
  clear hwa hwb SA bb hGW hk16 hk2 hGC hkc ND NC ZC ZD ZB bac bad bd hw hL sza bc
  subst hwd
  subst hwc
  simp only [mfC] at hwa' ⊢
  obtain ⟨CC, hCC⟩ : ∃ C, C = goC m := ⟨_, rfl⟩
  rw [← hCC] at S0 S1
  have HCC := Hid.mk hCC.symm
  clear hCC
  go_enter Tryd.func9, Tryd.ntmps9
  go_wp2_with first
    | (go_at_call 14; refine (p1 _).mono ?_; rintro e w' ⟨rfl, rfl⟩; clear p1)
    | (go_at_call 14; refine (p2 _).mono ?_; rintro e w' ⟨rfl, rfl⟩; clear p2)
    | (go_at_call 14; refine (p3 _).mono ?_; rintro e w' ⟨rfl, rfl⟩; clear p3)
  all_goals
    clear a0 a2
    try simp only [‹(1 + k2 == 1) = false›]
    go_loopw [5, 6] (fun hv u wr => RG wa w.heap.size m mla mc (64 * (1 + k16)) CC (1 + k2) hv u wr) (fun _ u _ => (m.rs.take 24).length - (intOf u).toNat)
    case atStart =>
      first
        | exact (S0 (by simpa using ‹(1 + k2 == 1) = true›)).out
        | exact (S1 (by simpa using ‹(1 + k2 == 1) = false›)).out
    case round =>
      obtain ⟨i, hi, pre, la, c, rfl, rfl, hit, hi0, hi1, hpre, HGO, mb, ow, own, zr, bw, sm⟩ := hrel
      have k6 := sm 6 _ rfl
      have l24 : (m.rs.take 24).length ≤ 24 ∧ (m.rs.take 24).length ≤ m.rs.length := by rw [List.length_take]; omega
      by_cases hlt : i < (m.rs.take 24).length
      · have hlm : i < m.rs.length := by omega
        have hl24 : i < 24 := by omega
        obtain ⟨g, off, hla, hra⟩ := (HL.out.below bw).at' (by intro h; rw [h] at hlm; simp at hlm)
        obtain ⟨x0, x1, x2, x3⟩ := row_ru hra i hlm
        have hwr := HW.out.rs m.rs[i] (List.getElem_mem hlm)
        have hgo := HGO.out
        rw [List.drop_eq_getElem_cons hlt, List.getElem_take] at hgo
        obtain ⟨r, hr⟩ : ∃ r, r = m.rs[i] := ⟨_, rfl⟩
        rw [← hr] at x0 x1 x2 x3 hwr hgo
        obtain ⟨kl, hkl⟩ : ∃ k, k = r.lo % 1000 := ⟨_, rfl⟩
        obtain ⟨kh, hkh⟩ : ∃ k, k = r.hi % 1125899906842624 := ⟨_, rfl⟩
        obtain ⟨kn, hkn⟩ : ∃ k, k = r.cnt % 2097152 := ⟨_, rfl⟩
        simp only [goR, goH] at hgo
        rw [← hkl, ← hkh, ← hkn] at hgo
        have q1 := fun W => pick_any r.lo 1000 W (by omega) (by omega) (by omega)
        have q2 := fun W => pick_any r.hi 1125899906842624 W (by omega) (by omega) (by omega)
        have q3 := fun W => pick_any r.cnt 2097152 W (by omega) (by omega) (by omega)
        rw [show r.lo % ((1000 : Nat) : Int) = kl by rw [hkl]; rfl] at q1
        rw [show r.hi % ((1125899906842624 : Nat) : Int) = kh by rw [hkh]; rfl] at q2
        rw [show r.cnt % ((2097152 : Nat) : Int) = kn by rw [hkn]; rfl] at q3
        have b1 : 0 ≤ kl ∧ kl < 1000 := by omega
        have b2 : 0 ≤ kh ∧ kh < 1125899906842624 := by omega
        have b3 : 0 ≤ kn ∧ kn < 2097152 := by omega
        have wlt : wa.heap.size + 1 < wr.heap.size := Nb.lt mb
        obtain ⟨W1, hW1⟩ : ∃ W1, W1 = wr.alloc (.cells #[.int .i64 (1 + (i : Int)), .int .i64 (hi + kl), .int .i64 0, .int .i64 0] 43) := ⟨_, rfl⟩
        have hW1' : wr.alloc (.cells #[.int .i64 (1 + (i : Int)), .int .i64 (hi + kl), .int .i64 0, .int .i64 0] 43) = W1 := hW1.symm
        have y1 : Below wr.heap.size wr W1 := by rw [hW1]; exact (Below.refl _ wr).alloc (Nat.le_refl _) _
        have H1 : W1.heap[wr.heap.size]? = some (.cells #[.int .i64 (1 + (i : Int)), .int .i64 (hi + kl), .int .i64 0, .int .i64 0] 43 (0, 0)) := by rw [hW1]; exact heap_alloc_last wr _
        obtain ⟨W2, hW2⟩ : ∃ W2, W2 = W1.setCell ⟨wr.heap.size, 2, none⟩ (.int .i64 (hi + kl + 1 + kh)) := ⟨_, rfl⟩
        have hW2' : W1.setCell ⟨wr.heap.size, 2, none⟩ (.int .i64 (hi + kl + 1 + kh)) = W2 := hW2.symm
        have H2 : W2.heap[wr.heap.size]? = some (.cells #[.int .i64 (1 + (i : Int)), .int .i64 (hi + kl), .int .i64 (hi + kl + 1 + kh), .int .i64 0] 43 (0, 0)) := by rw [hW2, heap_setCell_same W1 _ 2 _ _ _ H1]; rfl
        have y2 : Below wr.heap.size wr W2 := by rw [hW2]; exact y1.setCell (p := ⟨wr.heap.size, 2, none⟩) (Nat.le_refl _) _
        obtain ⟨W3, hW3⟩ : ∃ W3, W3 = (W2.setCell ⟨wr.heap.size, 3, none⟩ (.int .i64 (1 + kn))).drew := ⟨_, rfl⟩
        have hW3' : (W2.setCell ⟨wr.heap.size, 3, none⟩ (.int .i64 (1 + kn))).drew = W3 := hW3.symm
        have H3 : W3.heap[wr.heap.size]? = some (.cells #[.int .i64 (1 + (i : Int)), .int .i64 (hi + kl), .int .i64 (hi + kl + 1 + kh), .int .i64 (1 + kn)] 43 (0, 0)) := by rw [hW3]; show (W2.setCell _ _).heap[_]? = _; rw [heap_setCell_same W2 _ 3 _ _ _ H2]; rfl
        have y3 : Below wr.heap.size wr W3 := by rw [hW3]; exact (y2.setCell (p := ⟨wr.heap.size, 3, none⟩) (Nat.le_refl _) _).drew
        obtain ⟨la', c', w6, hap, x6, f6, mb7, ow7, own7, zr7, bw7⟩ := un_step (w := wa) (w4 := W3) ⟨1 + (i : Int), hi + kl, hi + kl + 1 + kh, 1 + kn⟩ hpre (by omega) (mb.kept (F := fun _ => False) (.below y3) (fun h => h)) (row_kept (F := fun _ => False) ow (.below y3) (fun _ _ h => h)) own ((y3.block _ (by omega)).trans zr) (chain bw y3 (Nat.le_refl _)) (by have := y3.size; omega)
        have st6 : SAt (w6.setCell ⟨wa.heap.size + 1, 6, none⟩ (.slice la' (i + 1) c')) w.heap.size (mfC m mla mc) := HSA.out.lat bw7
        have w1c1 : W1.drew.cell? ⟨wr.heap.size, 1, none⟩ = some (.int .i64 (hi + kl)) := by (show W1.cell? _ = _); simp [World.cell?, H1]
        have w1c2 : W1.drew.cell? ⟨wr.heap.size, 2, none⟩ = some (.int .i64 0) := by (show W1.cell? _ = _); simp [World.cell?, H1]
        have w1f : ∀ j, W1.drew.frozen? ⟨wr.heap.size, j, none⟩ = false := fun j => by (show W1.frozen? _ = _); simp [World.frozen?, H1]
        have w1k : W1.drew.cell? ⟨w.heap.size, 6, none⟩ = some (.slice mla m.rs.length mc) := cell_lat y1.drew k6
        have w1x : W1.drew.cell? ⟨g, off + i * 4 + 2, none⟩ = some (.int .i64 r.hi) := cell_lat y1.drew x2
        have w2k : W2.drew.cell? ⟨w.heap.size, 6, none⟩ = some (.slice mla m.rs.length mc) := cell_lat y2.drew k6
        have w2x : W2.drew.cell? ⟨g, off + i * 4 + 3, none⟩ = some (.int .i64 r.cnt) := cell_lat y2.drew x3
        have w2c : W2.drew.cell? ⟨wr.heap.size, 3, none⟩ = some (.int .i64 0) := by (show W2.cell? _ = _); simp [World.cell?, H2]
        have w2f : ∀ j, W2.drew.frozen? ⟨wr.heap.size, j, none⟩ = false := fun j => by (show W2.frozen? _ = _); simp [World.frozen?, H2]
        have w3a : W3.cell? ⟨wr.heap.size, 0, none⟩ = some (.int .i64 (1 + (i : Int))) := by simp [World.cell?, H3]
        have w3b : W3.cell? ⟨wr.heap.size, 1, none⟩ = some (.int .i64 (hi + kl)) := by simp [World.cell?, H3]
        have w3c : W3.cell? ⟨wr.heap.size, 2, none⟩ = some (.int .i64 (hi + kl + 1 + kh)) := by simp [World.cell?, H3]
        have w3d : W3.cell? ⟨wr.heap.size, 3, none⟩ = some (.int .i64 (1 + kn)) := by simp [World.cell?, H3]
        have w3k := MB.cell6 (mb.kept (F := fun _ => False) (.below y3) (fun h => h)) rfl
        simp only [ruC] at hap
        have HW1 := Hid.mk hW1'
        have HF := Hid.mk (And.intro mb7 (And.intro ow7 (And.intro own7 (And.intro zr7 (And.intro bw7 st6)))))
        have HGO2 := Hid.mk hgo
        have HPL : Hid ((pre ++ [(⟨1 + (i : Int), hi + kl, hi + kl + 1 + kh, 1 + kn⟩ : Ru)]).length = i + 1) := by show _ = _; rw [List.length_append, hpre]; rfl
        clear S0 S1 HGO hgo mb ow own zr sm mb7 ow7 own7 zr7 bw7 st6 hW1 hW2 hW3 H1 H2 H3 y1 y2 y3 hr hra hkl hkh hkn hwr HL HW hW1'
        subst hla
        go_wp2_with first
          | (go_at_call 14; refine (q1 _).mono ?_; rintro e w' ⟨rfl, rfl⟩; clear q1)
        have hW1' := HW1.out
        rw [hW1']
        clear hW1'
        have ww1 : IntKind.i64.wrap (hi + kl + 1) = hi + kl + 1 := by rw [IntKind.wrap_i64]; omega
        have ww2 : IntKind.i64.wrap (hi + kl + 1 + kh) = hi + kl + 1 + kh := by rw [IntKind.wrap_i64]; omega
        have ww3 : IntKind.i64.wrap (1 + kn) = 1 + kn := by rw [IntKind.wrap_i64]; omega
        refine' via ?_ ?_
        rotate_left 2
        · intro hvia
          go_region_with (go_at_call 14; refine (q2 _).mono ?_; rintro e w' ⟨rfl, rfl⟩)
          all_goals exact hvia.down
        try simp only [ww1, ww2, hW2']
        clear q2 w1c1 w1c2 w1f w1k w1x
        go_wp2_with first
          | (go_at_call 14; refine (q3 _).mono ?_; rintro e w' ⟨rfl, rfl⟩; clear q3)
          | (at_builtin; refine wpList_append_eq rfl _ _ _ _ rfl _ _ _ _ rfl rfl hap ?_)
        obtain ⟨mb7, ow7, own7, zr7, bw7, st6⟩ := HF.out
        refine ⟨⟨i + 1, hi + kl + 1 + kh, pre ++ [⟨1 + (i : Int), hi + kl, hi + kl + 1 + kh, 1 + kn⟩], la', c', rfl, by push_cast; rfl, hlt, by omega, by push_cast; omega, HPL.out, ⟨by rw [HGO2.out.1, List.append_assoc]; rfl, HGO2.out.2⟩, mb7, ow7, own7, zr7, bw7, st6⟩, by simp only [intOf]; omega⟩
      · have e : i = (m.rs.take 24).length := by omega
        have hend : ¬ i < m.rs.length ∨ (i < m.rs.length ∧ ¬ i < 24) := by rw [List.length_take] at e; omega
        have hgo := HGO.out
        rw [e, List.drop_length] at hgo
        simp only [goR, goH, List.append_nil] at hgo
        obtain ⟨ks, hks⟩ : ∃ k, k = m.seq % 576460752303423488 := ⟨_, rfl⟩
        obtain ⟨kj, hkj⟩ : ∃ k, k = m.jn % 1000 := ⟨_, rfl⟩
        obtain ⟨kx, hkx⟩ : ∃ k, k = m.nx % 549755813888 := ⟨_, rfl⟩
        have hgM : goM m = ⟨64 * (1 + k16), CC, 1 + k2, hi + ks, (i : Int) + 1 + kj + 1 + kx, (i : Int) + 1 + kj, pre⟩ := by
          unfold goM
          rw [HGW.out, HCC.out, ← HK2.out, hgo.1, hgo.2, ← hks, ← hkj, ← hkx, ← e]
        have q1 := fun W => pick_any m.seq 576460752303423488 W (by omega) (by omega) (by omega)
        have q2 := fun W => pick_any m.jn 1000 W (by omega) (by omega) (by omega)
        have q3 := fun W => pick_any m.nx 549755813888 W (by omega) (by omega) (by omega)
        rw [show m.seq % ((576460752303423488 : Nat) : Int) = ks by rw [hks]; rfl] at q1
        rw [show m.jn % ((1000 : Nat) : Int) = kj by rw [hkj]; rfl] at q2
        rw [show m.nx % ((549755813888 : Nat) : Int) = kx by rw [hkx]; rfl] at q3
        have b1 : 0 ≤ ks ∧ ks < 576460752303423488 := by omega
        have b2 : 0 ≤ kj ∧ kj < 1000 := by omega
        have b3 : 0 ≤ kx ∧ kx < 549755813888 := by omega
        have wlt : wa.heap.size + 1 < wr.heap.size := Nb.lt mb
        obtain ⟨V1, hV1⟩ : ∃ V1, V1 = wr.setCell ⟨wa.heap.size + 1, 3, none⟩ (.int .i64 (hi + ks)) := ⟨_, rfl⟩
        have hV1' : wr.setCell ⟨wa.heap.size + 1, 3, none⟩ (.int .i64 (hi + ks)) = V1 := hV1.symm
        obtain ⟨V2, hV2⟩ : ∃ V2, V2 = (V1.setCell ⟨wa.heap.size + 1, 5, none⟩ (.int .i64 ((i : Int) + 1 + kj))).drew := ⟨_, rfl⟩
        have hV2' : (V1.setCell ⟨wa.heap.size + 1, 5, none⟩ (.int .i64 ((i : Int) + 1 + kj))).drew = V2 := hV2.symm
        obtain ⟨V3, hV3⟩ : ∃ V3, V3 = (V2.setCell ⟨wa.heap.size + 1, 4, none⟩ (.int .i64 ((i : Int) + 1 + kj + 1 + kx))).drew := ⟨_, rfl⟩
        have hV3' : (V2.setCell ⟨wa.heap.size + 1, 4, none⟩ (.int .i64 ((i : Int) + 1 + kj + 1 + kx))).drew = V3 := hV3.symm
        have M1 : MB V1 (wa.heap.size + 1) [64 * (1 + k16), CC, 1 + k2, hi + ks, 0, 0] (.slice la i c) := by rw [hV1]; exact Nb.set mb 3 (by simp) _
        have M2 : MB V2 (wa.heap.size + 1) [64 * (1 + k16), CC, 1 + k2, hi + ks, 0, (i : Int) + 1 + kj] (.slice la i c) := by rw [hV2]; exact Nb.set M1 5 (by simp) _
        have M3 : MB V3 (wa.heap.size + 1) [64 * (1 + k16), CC, 1 + k2, hi + ks, (i : Int) + 1 + kj + 1 + kx, (i : Int) + 1 + kj] (.slice la i c) := by rw [hV3]; exact Nb.set M2 4 (by simp) _
        have t1 : Stay (fun k => k = wa.heap.size + 1) wr V1 := by rw [hV1]; exact Stay.setCell (F := fun k => k = wa.heap.size + 1) (p := ⟨wa.heap.size + 1, 3, none⟩) (Stay.refl _ wr) (fun _ => rfl) _
        have t2 : Stay (fun k => k = wa.heap.size + 1) wr V2 := by rw [hV2]; exact (t1.setCell (p := ⟨wa.heap.size + 1, 5, none⟩) (fun _ => rfl) _).drew
        have t3 : Stay (fun k => k = wa.heap.size + 1) wr V3 := by rw [hV3]; exact (t2.setCell (p := ⟨wa.heap.size + 1, 4, none⟩) (fun _ => rfl) _).drew
        have hF : ∀ k, k < wa.heap.size → ¬ k = wa.heap.size + 1 := fun k hk h => by omega
        have d1 := bw.trans (t1.toBelow (B := wa.heap.size) hF bw.size)
        have d2 := bw.trans (t2.toBelow (B := wa.heap.size) hF bw.size)
        have d3 := bw.trans (t3.toBelow (B := wa.heap.size) hF bw.size)
        have Z3 : Zr V3 wa.heap.size := (t3.block _ (by omega) (by omega)).trans zr
        have l3 := sm 3 _ rfl
        have l5 := HSA.out.lat d1 5 _ rfl
        have l4 := HSA.out.lat d2 4 _ rfl
        have e3 := Nb.cell mb 3 (by simp)
        have f3 := Nb.free mb 3
        have e6 := MB.cell6 M1 rfl
        have e5 := Nb.cell M1 5 (by simp)
        have f5 := Nb.free M1 5
        have e45 := Nb.cell M2 5 (by simp)
        have e4 := Nb.cell M2 4 (by simp)
        have f4 := Nb.free M2 4
        obtain ⟨m0, m1, m2, m3, m4, m5, m6⟩ := mb_cells M3
        obtain ⟨c0, c1, c2, c3, c4, c5, c6, cf⟩ := zr_cells Z3
        simp only [List.getElem_cons_succ, List.getElem_cons_zero] at e3 e5 e45 e4
        have ww1 : IntKind.i64.wrap ((i : Int) + 1) = (i : Int) + 1 := by rw [IntKind.wrap_i64]; omega
        have ww2 : IntKind.i64.wrap ((i : Int) + 1 + kj) = (i : Int) + 1 + kj := by rw [IntKind.wrap_i64]; omega
        have ww3 : IntKind.i64.wrap ((i : Int) + 1 + kj + 1) = (i : Int) + 1 + kj + 1 := by rw [IntKind.wrap_i64]; omega
        have ww4 : IntKind.i64.wrap ((i : Int) + 1 + kj + 1 + kx) = (i : Int) + 1 + kj + 1 + kx := by rw [IntKind.wrap_i64]; omega
        have HF := Hid.mk (And.intro ow (And.intro own (And.intro t3 (And.intro d3 (And.intro Z3 (And.intro hgM hpre))))))
        have HBA := Hid.mk ba
        clear S0 S1 HGO hgo mb ow own zr sm M1 M2 M3 t1 t2 t3 hF d1 d2 d3 Z3 hgM hpre e hks hkj hkx hV1 hV2 hV3 ba
        rcases hend with hn | ⟨hlm, hn⟩
        all_goals
          go_wp2_with (go_at_call 14; refine (q1 _).mono ?_; rintro e w' ⟨rfl, rfl⟩; clear q1)
          clear hV1'
          refine' via ?_ ?_
          rotate_left 2
          · intro hvia
            go_region_with (go_at_call 14; refine (q2 _).mono ?_; rintro e w' ⟨rfl, rfl⟩)
            all_goals exact hvia.down
          try simp only [ww1, ww2, hV2']
          clear q2 l5 e6 e5 f5
          go_wp2
          clear hV2'
          refine' via ?_ ?_
          rotate_left 2
          · intro hvia
            go_region_with (go_at_call 14; refine (q3 _).mono ?_; rintro e w' ⟨rfl, rfl⟩)
            all_goals exact hvia.down
          try simp only [ww3, ww4, hV3']
          clear q3 l4 e45 e4 f4
          go_wp2
          obtain ⟨ow, own, t3, d3, Z3, hgM, hpre⟩ := HF.out
          obtain ⟨W5, hW5, st5, p0, p1, p2, p3, p4, p5, p6⟩ := fin7 Z3 (.int .i64 (64 * (1 + k16))) (.int .i64 CC) (.int .i64 (1 + k2)) (.int .i64 (hi + ks)) (.int .i64 ((i : Int) + 1 + kj + 1 + kx)) (.int .i64 ((i : Int) + 1 + kj)) (.slice la i c)
          unfold set7 at hW5
          rw [hW5]
          refine bodyPost_ret (v := .agg #[.int .i64 (64 * (1 + k16)), .int .i64 CC, .int .i64 (1 + k2), .int .i64 (hi + ks), .int .i64 ((i : Int) + 1 + kj + 1 + kx), .int .i64 ((i : Int) + 1 + kj), .slice la i c]) (by simp [results, Tryd.results9, go_sem, p0, p1, p2, p3, p4, p5, p6]; try rfl) rfl ?_
          have d5 : Below wa.heap.size wa W5 := d3.trans (st5.toBelow (B := wa.heap.size) (fun k hk h => by (have h' : k = wa.heap.size := h; omega)) d3.size)
          rw [hgM]
          refine ⟨la, c, by simp only [hpre], ?_, ?_, chain HBA.out d5 (Nat.le_refl _)⟩
          · simp only [hpre]
            exact row_kept (F := fun k => k = wa.heap.size) (row_kept (F := fun k => k = wa.heap.size + 1) ow t3 (fun k hk h => by (have h2 : k = wa.heap.size + 1 := h; have := own k hk; omega))) st5 (fun k hk h => by (have h2 : k = wa.heap.size := h; have := own k hk; omega))
          · simp only [hpre]
            exact fun k hk => by have := own k hk; omega
end Go.Proofs.YtibjneoiombbfaaDoor
