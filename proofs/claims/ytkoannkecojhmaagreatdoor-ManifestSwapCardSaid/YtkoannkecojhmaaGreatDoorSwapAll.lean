/-
  DERIVED. XSw, SwapRow, as one text.
-/
import Derived.Test.YtkoannkecojhmaaGreatDoorXcA
import Derived.Test.YtkoannkecojhmaaGreatDoorSTable
import Derived.ChangeMaps5
set_option linter.unusedVariables false
set_option linter.unusedSimpArgs false
namespace Go.Proofs.YtkoannkecojhmaaGreatDoor
open Go.RowKit Go.Shelf Go.Maps Go.Proofs.DiskMath
theorem cuts_sm {keep : Int} {sp : UInt8} (h : -9223372036854775808 ≤ keep ∧ keep < 9223372036854775808) : ∀ j (hj : j < [(tNew, keep, sp), (tMan, keep, sp)].length), ([(tNew, keep, sp), (tMan, keep, sp)][j]).1.size ≤ maxLen ∧ -9223372036854775808 ≤ ([(tNew, keep, sp), (tMan, keep, sp)][j]).2.1 ∧ ([(tNew, keep, sp), (tMan, keep, sp)][j]).2.1 < 9223372036854775808
  | 0, _ => ⟨(show tNew.size ≤ maxLen by decide), h.1, h.2⟩
  | 1, _ => ⟨(show tMan.size ≤ maxLen by decide), h.1, h.2⟩
theorem SW.lt {w W : World} {p mb g h : Nat} {es : List Ent} {c : Ctl} {M X : Mf} {l6 l8 : Option Addr} {c6 c8 : Nat} (H : SW w W p mb g h es c M X l6 c6 l8 c8) : ∀ k, (k = g ∨ k = h) → k < W.heap.size := fun k hk => by
  rcases hk with rfl | rfl
  · exact (Array.getElem?_eq_some_iff.1 H.b6.at_).1
  · exact (Array.getElem?_eq_some_iff.1 H.b8.at_).1
set_option maxHeartbeats 16000000 in
set_option maxRecDepth 100000 in
theorem law_swap (m1 : Mf) (l1 : Option Addr) (c1 : Nat) (ta : Option Addr) (ts : List Tr) (tc : Nat) (w : World) (h1 : LAt w l1 m1.rs) (w1 : MfW m1) (k1 : m1.rs.length ≤ c1) (s1 : m1.rs.length < 4611686018427387904) (hts : TsAt w ta ts) (htl : ts.length < 9223372036854775808) (ht : Tab w) (hg : 0 < w.heap.size) :
    Calls Tryz.prog 4 #[.agg (mfC m1 l1 c1).toArray, .slice ta ts.length tc] w fun e w' => e = .returned (.bool true) ∧ Below w.heap.size w w' := by
  obtain ⟨W, hW⟩ : ∃ W, W = w.alloc (.cells (mfC m1 l1 c1).toArray 26) := ⟨_, rfl⟩
  have bW : Below w.heap.size w W := by rw [hW]; exact (Below.refl _ w).alloc (Nat.le_refl _) _
  have B1 : BX W w.heap.size m1 l1 c1 := ⟨by rw [hW]; exact heap_alloc_new w _, h1.below bW, k1⟩
  have HT := Hid.mk (And.intro ht hg)
  have HS := Hid.mk (And.intro hts htl)
  have HB := Hid.mk (And.intro bW (And.intro B1 (And.intro w1 s1)))
  have HW := Hid.mk hW
  obtain ⟨n, hn⟩ : ∃ n, n = ts.length := ⟨_, rfl⟩
  rw [← hn]
  have HN := Hid.mk hn
  clear h1 w1 k1 s1 hts htl ht hg bW B1 hW hn
  simp only [mf7] at HW ⊢
  go_enter Tryz.func4, Tryz.ntmps4
  go_wp2_with fail
  rw [← HW.out]
  refine new_any 1048576 W _ (fun h => by omega) (fun _ _ wD hd bD => ?_)
  have hft : ∀ k, Foot (W.heap.size + 1) W.heap.size [] k → W.heap.size ≤ k := fun k hk => by
    rcases hk with rfl | rfl | ⟨e, he, -⟩
    · omega
    · exact Nat.le_refl _
    · exact absurd he (by simp)
  have hft' : ∀ k, Foot (W.heap.size + 1) W.heap.size [] k → k < wD.heap.size := fun k hk => hd.lt hk
  obtain ⟨p, hp⟩ : ∃ p, p = W.heap.size + 1 := ⟨_, rfl⟩
  obtain ⟨mb, hmb⟩ : ∃ mb, mb = W.heap.size := ⟨_, rfl⟩
  rw [← hp, ← hmb] at hd hft hft'
  rw [← hp]
  have B1 := HB.out.2.1.lat bD
  obtain ⟨x0, x1, x2, x3, x4, x5, x6⟩ := mcells B1.box
  have cg1 := goes_any m1 l1 c1 wD B1.row HB.out.2.2.1 B1.cap HB.out.2.2.2
  have HD := Hid.mk (And.intro hd (And.intro hft (And.intro hft' (And.intro bD hmb))))
  clear hd hft hft' bD hp hmb B1
  simp only [mf7] at cg1
  go_wp2_with fail
  refine cg1.mono ?_
  clear cg1 x0 x1 x2 x3 x4 x5 x6
  rintro e v1 ⟨la1, ca1, rfl, r1, f1, b1⟩
  obtain ⟨M1, hM1⟩ : ∃ M1, M1 = goM m1 := ⟨_, rfl⟩
  rw [← hM1] at r1 f1 ⊢
  have o1 : chE M1 = 0 := by rw [hM1]; exact goM_ok m1
  obtain ⟨V1, hV1⟩ : ∃ V1, V1 = v1.alloc (.cells (mfC M1 la1 ca1).toArray 26) := ⟨_, rfl⟩
  have bV1 : Below v1.heap.size v1 V1 := by rw [hV1]; exact (Below.refl _ v1).alloc (Nat.le_refl _) _
  have D1 := HD.out.1.below (chain b1 bV1 (Nat.le_refl _))
  obtain ⟨g, hgg⟩ : ∃ g, g = v1.heap.size := ⟨_, rfl⟩
  have A1 : Held V1 p mb [] (fun _ => False) g (.cells (mfC M1 la1 ca1).toArray 26 (0, 0)) := ⟨by rw [hV1, hgg]; exact heap_alloc_new v1 _, fun hF => by have := HD.out.2.2.1 _ hF; have := b1.size; omega, fun h => h⟩
  have R1 : LR V1 p mb [] (· = g) la1 M1.rs := ((LR.fresh (E := fun _ => False) r1 f1 HD.out.2.2.1 (fun _ h => h.elim)).widen (E' := (· = g)) (fun k h => .inr (by rw [h, hgg]; exact Nat.le_refl _))).more bV1
  have K1 := (own_lat r1).2
  have bw1 : Below w.heap.size w V1 := chain HB.out.1 (chain HD.out.2.2.2.1 (chain b1 bV1 (Nat.le_refl _)) (Nat.le_refl _)) (Nat.le_refl _)
  have gw1 : w.heap.size ≤ g := by have := chain HB.out.1 (chain HD.out.2.2.2.1 b1 (Nat.le_refl _)) (Nat.le_refl _); rw [hgg]; exact this.size
  have e1 := enT_le o1
  obtain ⟨cA, eA, qA, capA⟩ := st_room none M1 (newC 1048576) ⟨rfl, rfl⟩ o1 (by omega) (by show 0 + (enT M1).size ≤ 1048576; omega)
  have hst := mstore_any M1 la1 ca1 V1 D1 R1.row (mfw_of o1) K1 (rs_lt o1) (HT.out.1.below bw1 HT.out.2) (Nat.lt_of_lt_of_le HT.out.2 bw1.size) (by omega)
  have hnt : (1048576 : Int).toNat = 1048576 := by decide
  rw [show ([] : List Ent).map fl = fsO none from rfl, hnt, eA] at hst
  obtain ⟨x0, x1, x2, x3, x4, x5, x6⟩ := mcells A1.at_
  have hgg' := hgg
  have HV1 := Hid.mk hV1
  have HA := Hid.mk (And.intro A1 (And.intro R1 (And.intro K1 (And.intro bw1 (And.intro gw1 (And.intro o1 (And.intro qA capA)))))))
  clear A1 R1 K1 bw1 gw1 o1 e1 eA qA capA D1 bV1 r1 f1 b1 hV1 hM1 hnt hgg'
  simp only [mf7] at hst HV1 ⊢
  go_wp2_with fail
  rw [← HV1.out, ← hgg]
  refine hst.mono ?_
  clear hst x0 x1 x2 x3 x4 x5 x6 hgg
  rintro e v2 ⟨es1, rfl, st1, fl1⟩
  dsimp only at st1 fl1 ⊢
  have A2 := HA.out.1.step st1
  have R2 := HA.out.2.1.step st1
  have hfw : ∀ k, Foot p mb [] k → w.heap.size ≤ k := fun k hF => by have := HD.out.2.1 k hF; have := HD.out.2.2.2.2; have := HB.out.1.size; omega
  have bw2 : Below w.heap.size w v2 := HA.out.2.2.2.1.trans (st1.stay.toBelow (fun k hk hF => by have := hfw k hF; omega) HA.out.2.2.2.1.size)
  have ft2 : ∀ k, Foot p mb es1 k → w.heap.size ≤ k := fun k hF => by
    rcases st1.foot k hF with h1 | h1
    · exact hfw k h1
    · exact Nat.le_trans HA.out.2.2.2.1.size h1
  have hl := mload_any v2 st1.dk (HT.out.1.below bw2 HT.out.2) (Nat.lt_of_lt_of_le HT.out.2 bw2.size)
  rw [fl1, ← fsM_none, ld_on _ none M1 cA HA.out.2.2.2.2.2.2.1.1 HA.out.2.2.2.2.2.1 rfl] at hl
  have H2 := Hid.mk (And.intro A2 (And.intro R2 (And.intro bw2 (And.intro ft2 (And.intro st1.dk fl1)))))
  clear A2 R2 hfw bw2 ft2 st1 fl1
  go_wp2_with fail
  refine hl.mono ?_
  clear hl
  rintro e v3 ⟨la2, ca2, rfl, r2, f2, b2⟩
  rw [show dcV (.ok M1) = M1 from rfl] at r2 f2 ⊢
  rw [show unE (.ok M1) = 0 from rfl]
  obtain ⟨V3, hV3⟩ : ∃ V3, V3 = v3.alloc (.cells (mfC M1 la2 ca2).toArray 26) := ⟨_, rfl⟩
  obtain ⟨h, hh⟩ : ∃ h, h = v3.heap.size := ⟨_, rfl⟩
  have S0 : SW w V3 p mb g h es1 cA M1 M1 la1 ca1 la2 ca2 := by
    rw [hV3, hh]
    exact SW.start (H2.out.2.2.2.2.1.below b2) H2.out.2.2.2.1 (chain H2.out.2.2.1 b2 (Nat.le_refl _)) (H2.out.1.more b2) (H2.out.2.1.more b2) HA.out.2.2.1
      (LR.fresh r2 f2 (fun k hF => H2.out.2.2.2.2.1.lt hF) (fun k hk => by rw [hk]; exact (Array.getElem?_eq_some_iff.1 H2.out.1.at_).1)) (own_lat r2).2 HA.out.2.2.2.2.1
  have hs := same_eq M1 la2 la1 ca2 ca1 V3 S0.r8.row S0.r6.row S0.k8 S0.k6 (rs_lt HA.out.2.2.2.2.2.1)
  have x := mcells S0.b6.at_
  rw [hV3] at x
  simp only [mf7] at x
  obtain ⟨x0, x1, x2, x3, x4, x5, x6⟩ := x
  have HV3 := Hid.mk hV3
  have HS0 := Hid.mk (And.intro S0 (show Rest es1 cA M1 from ⟨HA.out.2.2.2.2.2.2.1, HA.out.2.2.2.2.2.2.2, HA.out.2.2.2.2.2.1, none, trivial, by rw [H2.out.2.2.2.2.2, fsM_none]⟩))
  clear hV3 S0 r2 f2 b2 H2
  simp only [mf7] at hs HV3 ⊢
  go_wp2_with fail
  rw [← HV3.out, ← hh]
  refine hs.mono ?_
  clear hs x0 x1 x2 x3 x4 x5 x6 hh
  rintro e v4 ⟨rfl, b4⟩
  have HS1 := Hid.mk (And.intro (HS0.out.1.more b4) HS0.out.2)
  clear b4 HS0 HV3 HV1 HA HD HB HW
  go_wp2_with (go_at_call 7; refine (num8_any _ _).mono ?_; rintro e w' ⟨rfl, rfl⟩)
  go_loopw [7, 9, 11, 12, 13, 14, 15, 16] (fun _ _ u11 _ _ _ _ _ wr => ∃ i : Nat, u11 = .int .i64 i ∧ i ≤ n ∧ Hid (∃ es c M X l6 c6 l8 c8, SW w wr p mb g h es c M X l6 c6 l8 c8 ∧ Rest es c M)) (fun _ _ u11 _ _ _ _ _ _ => n - (intOf u11).toNat)
  case atStart => exact ⟨0, rfl, Nat.zero_le _, ⟨_, _, _, _, _, _, _, _, HS1.out⟩⟩
  case round =>
    obtain ⟨i, rfl, hi, hI⟩ := hrel
    clear HS1
    by_cases hlt : i < n ∧ i < 30
    · have hin : i < ts.length := by have := HN.out; omega
      obtain ⟨es, c, M, X, l6, c6, l8, c8, S, R⟩ := hI.out
      have hok := (HS.out.1.below S.bl).ok i hin
      obtain ⟨b, o, hta, hcell⟩ := (HS.out.1.below S.bl).at_ i hin
      obtain ⟨t, htt⟩ : ∃ t, t = ts[i] := ⟨_, rfl⟩
      rw [← htt] at hcell hok
      rw [hta]
      have d0 := hcell 0 (by omega)
      have d1 := hcell 1 (by omega)
      have d2 := hcell 2 (by omega)
      have d3 := hcell 3 (by omega)
      have d4 := hcell 4 (by omega)
      have d5 := hcell 5 (by omega)
      have d6 := hcell 6 (by omega)
      have d7 := hcell 7 (by omega)
      have d8 := hcell 8 (by omega)
      have d9 := hcell 9 (by omega)
      have d10 := hcell 10 (by omega)
      simp only [trC, mf7, List.cons_append, List.nil_append, List.getElem?_cons_zero, List.getElem?_cons_succ, Nat.add_zero] at d0 d1 d2 d3 d4 d5 d6 d7 d8 d9 d10
      obtain ⟨VT, hVT⟩ : ∃ VT, VT = wr.alloc (.cells (trC t).toArray 45) := ⟨_, rfl⟩
      have bVT : Below wr.heap.size wr VT := by rw [hVT]; exact (Below.refl _ wr).alloc (Nat.le_refl _) _
      obtain ⟨T, hT⟩ : ∃ T, T = wr.heap.size := ⟨_, rfl⟩
      have AT : Held VT p mb es (fun k => k = g ∨ k = h) T (.cells (trC t).toArray 45 (0, 0)) := ⟨by rw [hVT, hT]; exact heap_alloc_new wr _, fun hF => by have := S.dk.lt hF; omega, fun hE => by have := S.lt _ hE; omega⟩
      have cg := goes_any t.m t.la t.c VT (hok.row.below bVT) hok.mf hok.cap hok.len
      have HVT := Hid.mk hVT
      have HR := Hid.mk (And.intro S (And.intro R (And.intro hok (And.intro bVT AT))))
      have i1 : (i : Int) < (n : Int) := by omega
      have i2 : (i : Int) < 30 := by omega
      have i3 : 0 ≤ (i : Int) := by omega
      have i4 : (n : Int) < 9223372036854775808 := by have := HN.out; have := HS.out.2; omega
      have HL := Hid.mk hlt
      clear hcell hok S R bVT AT hVT htt hta hin hlt hI
      simp only [mf7] at cg
      simp only [trC, mf7, List.cons_append, List.nil_append] at HVT
      go_wp2_with fail
      rw [← HVT.out, ← hT]
      refine cg.mono ?_
      clear cg d0 d1 d2 d3 d4 d5 d6 d7 d8 d9 d10 hT
      rintro e v4 ⟨ln, cn, rfl, r4, f4, b4⟩
      obtain ⟨N, hN⟩ : ∃ N, N = goM t.m := ⟨_, rfl⟩
      rw [← hN] at r4 f4 ⊢
      have oN : chE N = 0 := by rw [hN]; exact goM_ok t.m
      obtain ⟨V4, hV4⟩ : ∃ V4, V4 = v4.alloc (.cells (mfC N ln cn).toArray 26) := ⟨_, rfl⟩
      have bV4 : Below v4.heap.size v4 V4 := by rw [hV4]; exact (Below.refl _ v4).alloc (Nat.le_refl _) _
      obtain ⟨q, hq⟩ : ∃ q, q = v4.heap.size := ⟨_, rfl⟩
      have ST := HR.out.1.more HR.out.2.2.2.1
      have S4 := ST.more (chain b4 bV4 (Nat.le_refl _))
      have AT4 := HR.out.2.2.2.2.more (chain b4 bV4 (Nat.le_refl _))
      have AN4 : Held V4 p mb es (fun k => k = g ∨ k = h) q (.cells (mfC N ln cn).toArray 26 (0, 0)) := ⟨by rw [hV4, hq]; exact heap_alloc_new v4 _, fun hF => by have := ST.dk.lt hF; have := b4.size; omega, fun hE => by have := ST.lt _ hE; have := b4.size; omega⟩
      have RN4 : LR V4 p mb es (fun k => k = g ∨ k = h) ln N.rs := (LR.fresh r4 f4 (fun k hF => ST.dk.lt hF) ST.lt).more bV4
      have KN := (own_lat r4).2
      have tx := tcells AT4.at_
      rw [hV4] at tx
      simp only [mf7] at tx
      obtain ⟨t7, t8, t9, t10⟩ := tx
      have HV4 := Hid.mk hV4
      have H4 := Hid.mk (And.intro S4 (And.intro AT4 (And.intro AN4 (And.intro RN4 (And.intro KN oN)))))
      clear ST S4 AT4 AN4 RN4 KN oN bV4 hV4 r4 f4 b4 hN
      simp only [mf7] at HV4 ⊢
      go_wp2_with fail
      rw [← HV4.out, ← hq]
      refine arm_any t.cut t.dn V4 H4.out.1.dk HR.out.2.2.1.cut.2 HR.out.2.2.1.cut.1 _ (fun v5 st5 => ?_)
      clear t7 t8 t9 t10 hq
      have S5 := H4.out.1.step st5
      have AT5 := H4.out.2.1.step st5
      have AN5 := H4.out.2.2.1.step st5
      have RN5 := H4.out.2.2.2.1.step st5
      have eN := enT_le H4.out.2.2.2.2.2
      have hst := mstore_any N ln cn v5 S5.dk RN5.row (mfw_of H4.out.2.2.2.2.2) H4.out.2.2.2.2.1 (rs_lt H4.out.2.2.2.2.2) (HT.out.1.below S5.bl HT.out.2) (Nat.lt_of_lt_of_le HT.out.2 S5.bl.size) (by omega)
      obtain ⟨x0, x1, x2, x3, x4, x5, x6⟩ := mcells AN5.at_
      have H5 := Hid.mk (And.intro S5 (And.intro AT5 (And.intro AN5 RN5)))
      clear S5 AT5 AN5 RN5 eN st5
      obtain ⟨r, hr⟩ : ∃ r, r = stR (es.map fl) (armC c t.cut t.dn) N := ⟨_, rfl⟩
      rw [← hr] at hst
      have htr := fun (es' : List Ent) (hes : es'.map fl = r.2.1) => HR.out.2.1.tried H4.out.2.2.2.2.2 hr hes
      clear hr
      obtain ⟨E, F6, C⟩ := r
      have HTR := Hid.mk htr
      clear htr
      simp only [mf7] at hst
      go_wp2_with fail
      refine hst.mono ?_
      clear hst x0 x1 x2 x3 x4 x5 x6
      rintro e v6 ⟨es2, rfl, st6, fl6⟩
      have hT6 := HTR.out es2 fl6
      dsimp only at st6 fl6 hT6 ⊢
      have H6 := Hid.mk (And.intro (H5.out.1.step st6) (And.intro (H5.out.2.1.step st6) (And.intro (H5.out.2.2.1.step st6) (H5.out.2.2.2.step st6))))
      clear st6 fl6 HTR
      obtain ⟨hcap, hhow⟩ := hT6
      have HC := Hid.mk hcap
      clear hcap
      rcases hhow with ⟨rfl, hon, lo, hlo, hfs⟩ | ⟨rfl, hoff, lo, hlo, hfs | hfs⟩
      · have hd := down_any v6 H6.out.1.dk
        rw [show C.off = false from hon] at hd
        go_wp2_with fail
        refine hd.mono ?_
        clear hd
        rintro e w' ⟨rfl, hw'⟩
        have hw' := hw'.symm
        subst hw'
        go_wp2_with fail
        refine arm_any 0 false v6 H6.out.1.dk (by decide) (by decide) _ (fun v7 st7 => ?_)
        have H7 := Hid.mk (And.intro (H6.out.1.step st7) (And.intro (H6.out.2.1.step st7) (And.intro (H6.out.2.2.1.step st7) (H6.out.2.2.2.step st7))))
        clear st7
        obtain ⟨t7, t8, t9, t10⟩ := tcells H7.out.2.1.at_
        by_cases hc : (5 : Int) < t.cut
        · go_wp2_with fail
          refine crash_any (some ⟨_, 0, none⟩) [(tNew, t.keep, t.sp), (tMan, t.keep, t.sp)] 2 _ (H7.out.1.dk.below ((Below.refl _ v7).alloc (Nat.le_refl _) _)) (cuts_at H7.out.1.dk t.keep t.sp) (show 2 < 9223372036854775808 by decide) (cuts_sm HR.out.2.2.1.keep) _ (fun v9 es3 st9 fl9 => ?_)
          obtain ⟨lo9, hlo9, hcm⟩ := crash_M (enT N).data.toList lo hlo t.keep t.sp
          rw [hfs] at fl9
          have R9 : Rest es3 (crashC (armC C 0 false)) N := ⟨(crash_calm _).1, (crash_calm _).2.trans ((arm0_calm hon).2.trans HC.out), H4.out.2.2.2.2.2, lo9, hlo9, fl9.trans hcm⟩
          obtain ⟨C3, hC3⟩ : ∃ C3, C3 = crashC (armC C 0 false) := ⟨_, rfl⟩
          rw [← hC3] at st9 R9
          have H9 := Hid.mk (And.intro ((H7.out.1.more ((Below.refl _ v7).alloc (Nat.le_refl _) _)).step st9) (And.intro ((H7.out.2.2.1.more ((Below.refl _ v7).alloc (Nat.le_refl _) _)).step st9) (And.intro ((H7.out.2.2.2.more ((Below.refl _ v7).alloc (Nat.le_refl _) _)).step st9) R9)))
          clear st9 fl9 hcm hlo9 R9 hC3
          have hl := mload_any v9 H9.out.1.dk (HT.out.1.below H9.out.1.bl HT.out.2) (Nat.lt_of_lt_of_le HT.out.2 H9.out.1.bl.size)
          obtain ⟨lo9, hlo9, hf9⟩ := H9.out.2.2.2.fs
          rw [hf9, ld_on _ lo9 N C3 H9.out.2.2.2.calm.1 H9.out.2.2.2.ok rfl] at hl
          clear hf9 hlo9
          go_wp2_with fail
          refine hl.mono ?_
          clear hl t7 t8 t9 t10
          rintro e v10 ⟨la, ca, rfl, r10, f10, b10⟩
          rw [show dcV (.ok N) = N from rfl] at r10 f10 ⊢
          rw [show unE (.ok N) = 0 from rfl]
          have S10 := H9.out.1.more b10
          have R10 : LR v10 p mb es3 (fun k => k = g ∨ k = h) la (N).rs := LR.fresh r10 f10 (fun k hF => H9.out.1.dk.lt hF) H9.out.1.lt
          have K10 := (own_lat r10).2
          have S11 := S10.put8 R10 K10
          have A11 := (H9.out.2.1.more b10).put8 N la ca
          have R11 := (H9.out.2.2.1.more b10).put8 N la ca
          obtain ⟨V11, hV11⟩ : ∃ V11, V11 = put7 v10 h N la ca := ⟨_, rfl⟩
          rw [← hV11] at S11 A11 R11
          have HV11 := Hid.mk hV11
          unfold put7 at HV11
          obtain ⟨y0, y1, y2, y3, y4, y5, y6⟩ := mcells S10.b8.at_
          have z0 := frozen_of_row v10 h 0 _ _ S10.b8.at_
          have z1 := frozen_of_row v10 h 1 _ _ S10.b8.at_
          have z2 := frozen_of_row v10 h 2 _ _ S10.b8.at_
          have z3 := frozen_of_row v10 h 3 _ _ S10.b8.at_
          have z4 := frozen_of_row v10 h 4 _ _ S10.b8.at_
          have z5 := frozen_of_row v10 h 5 _ _ S10.b8.at_
          have z6 := frozen_of_row v10 h 6 _ _ S10.b8.at_
          have hlt7 : h < v10.heap.size := S10.lt h (.inr rfl)
          have hs1 := same_some N M la l6 ca c6 V11 S11.r8.row S11.r6.row S11.k8 S11.k6 (rs_lt H9.out.2.2.2.ok)
          have H11 := Hid.mk (And.intro S11 (And.intro A11 R11))
          clear hV11 S11 A11 R11 S10 R10 K10 r10 f10 b10
          simp only [mf7] at hs1 ⊢
          go_upto_region 22 with fail
          rw [← HV11.out]
          clear HV11 y0 y1 y2 y3 y4 y5 y6 z0 z1 z2 z3 z4 z5 z6 hlt7
          obtain ⟨x0, x1, x2, x3, x4, x5, x6⟩ := mcells H11.out.1.b8.at_
          obtain ⟨y0, y1, y2, y3, y4, y5, y6⟩ := mcells H11.out.1.b6.at_
          go_wp2_with fail
          refine hs1.mono ?_
          clear hs1 x0 x1 x2 x3 x4 x5 x6 y0 y1 y2 y3 y4 y5 y6
          rintro e v12 ⟨B1, rfl, hB1, b12⟩
          have H12 := Hid.mk (And.intro (H11.out.1.more b12) (And.intro (H11.out.2.1.more b12) (H11.out.2.2.more b12)))
          clear b12
          have hs2 := same_some N N la ln ca cn v12 H12.out.1.r8.row H12.out.2.2.row H12.out.1.k8 H4.out.2.2.2.2.1 (rs_lt H9.out.2.2.2.ok)
          obtain ⟨x0, x1, x2, x3, x4, x5, x6⟩ := mcells H12.out.1.b8.at_
          obtain ⟨y0, y1, y2, y3, y4, y5, y6⟩ := mcells H12.out.2.1.at_
          simp only [mf7] at hs2
          go_wp2_with fail
          refine hs2.mono ?_
          clear hs2 x0 x1 x2 x3 x4 x5 x6 y0 y1 y2 y3 y4 y5 y6
          rintro e v13 ⟨B2, rfl, hB2, b13⟩
          have H13 := Hid.mk (H12.out.1.more b13)
          clear b13
          obtain ⟨x0, x1, x2, x3, x4, x5, x6⟩ := mcells H13.out.b6.at_
          obtain ⟨y0, y1, y2, y3, y4, y5, y6⟩ := mcells H13.out.b8.at_
          have z0 := frozen_of_row v13 g 0 _ _ H13.out.b6.at_
          have z1 := frozen_of_row v13 g 1 _ _ H13.out.b6.at_
          have z2 := frozen_of_row v13 g 2 _ _ H13.out.b6.at_
          have z3 := frozen_of_row v13 g 3 _ _ H13.out.b6.at_
          have z4 := frozen_of_row v13 g 4 _ _ H13.out.b6.at_
          have z5 := frozen_of_row v13 g 5 _ _ H13.out.b6.at_
          have z6 := frozen_of_row v13 g 6 _ _ H13.out.b6.at_
          have hlt7 : g < v13.heap.size := H13.out.lt g (.inl rfl)
          have hB := hB2 (by trivial)
          subst hB
          clear hB1 hB2
          cases B1
          · go_wp2_with (go_at_call 7; refine (num8_any _ _).mono ?_; rintro e w' ⟨rfl, hw'⟩; have hw' := hw'.symm; subst hw')
            exact ⟨⟨i + 1, rfl, HL.out.1, ⟨_, _, _, _, _, _, _, _, H13.out.put6, H9.out.2.2.2⟩⟩, by have := HL.out.1; simp only [intOf]; omega⟩
          · go_wp2_with (go_at_call 7; refine (num8_any _ _).mono ?_; rintro e w' ⟨rfl, hw'⟩; have hw' := hw'.symm; subst hw')
            exact ⟨⟨i + 1, rfl, HL.out.1, ⟨_, _, _, _, _, _, _, _, H13.out.put6, H9.out.2.2.2⟩⟩, by have := HL.out.1; simp only [intOf]; omega⟩
        · have R9 : Rest es2 (armC C 0 false) N := ⟨(arm0_calm hon).1, (arm0_calm hon).2.trans HC.out, H4.out.2.2.2.2.2, lo, hlo, hfs⟩
          obtain ⟨C3, hC3⟩ : ∃ C3, C3 = armC C 0 false := ⟨_, rfl⟩
          have H9 := Hid.mk (And.intro H7.out.1 (And.intro H7.out.2.2.1 (And.intro H7.out.2.2.2 R9)))
          rw [← hC3] at H9
          clear R9 hC3 hlo hfs hon
          have hc2 : t.cut ≤ 5 := by omega
          have hcb : decide (t.cut > 5) = false := by simp; omega
          clear hc
          have hl := mload_any v7 H9.out.1.dk (HT.out.1.below H9.out.1.bl HT.out.2) (Nat.lt_of_lt_of_le HT.out.2 H9.out.1.bl.size)
          obtain ⟨lo9, hlo9, hf9⟩ := H9.out.2.2.2.fs
          rw [hf9, ld_on _ lo9 N C3 H9.out.2.2.2.calm.1 H9.out.2.2.2.ok rfl] at hl
          clear hf9 hlo9
          go_wp2_with fail
          refine hl.mono ?_
          clear hl t7 t8 t9 t10
          rintro e v10 ⟨la, ca, rfl, r10, f10, b10⟩
          rw [show dcV (.ok N) = N from rfl] at r10 f10 ⊢
          rw [show unE (.ok N) = 0 from rfl]
          have S10 := H9.out.1.more b10
          have R10 : LR v10 p mb es2 (fun k => k = g ∨ k = h) la (N).rs := LR.fresh r10 f10 (fun k hF => H9.out.1.dk.lt hF) H9.out.1.lt
          have K10 := (own_lat r10).2
          have S11 := S10.put8 R10 K10
          have A11 := (H9.out.2.1.more b10).put8 N la ca
          have R11 := (H9.out.2.2.1.more b10).put8 N la ca
          obtain ⟨V11, hV11⟩ : ∃ V11, V11 = put7 v10 h N la ca := ⟨_, rfl⟩
          rw [← hV11] at S11 A11 R11
          have HV11 := Hid.mk hV11
          unfold put7 at HV11
          obtain ⟨y0, y1, y2, y3, y4, y5, y6⟩ := mcells S10.b8.at_
          have z0 := frozen_of_row v10 h 0 _ _ S10.b8.at_
          have z1 := frozen_of_row v10 h 1 _ _ S10.b8.at_
          have z2 := frozen_of_row v10 h 2 _ _ S10.b8.at_
          have z3 := frozen_of_row v10 h 3 _ _ S10.b8.at_
          have z4 := frozen_of_row v10 h 4 _ _ S10.b8.at_
          have z5 := frozen_of_row v10 h 5 _ _ S10.b8.at_
          have z6 := frozen_of_row v10 h 6 _ _ S10.b8.at_
          have hlt7 : h < v10.heap.size := S10.lt h (.inr rfl)
          have hs1 := same_some N M la l6 ca c6 V11 S11.r8.row S11.r6.row S11.k8 S11.k6 (rs_lt H9.out.2.2.2.ok)
          have H11 := Hid.mk (And.intro S11 (And.intro A11 R11))
          clear hV11 S11 A11 R11 S10 R10 K10 r10 f10 b10
          simp only [mf7] at hs1 ⊢
          go_upto_region 22 with fail
          rw [← HV11.out]
          clear HV11 y0 y1 y2 y3 y4 y5 y6 z0 z1 z2 z3 z4 z5 z6 hlt7
          obtain ⟨x0, x1, x2, x3, x4, x5, x6⟩ := mcells H11.out.1.b8.at_
          obtain ⟨y0, y1, y2, y3, y4, y5, y6⟩ := mcells H11.out.1.b6.at_
          go_wp2_with fail
          refine hs1.mono ?_
          clear hs1 x0 x1 x2 x3 x4 x5 x6 y0 y1 y2 y3 y4 y5 y6
          rintro e v12 ⟨B1, rfl, hB1, b12⟩
          have H12 := Hid.mk (And.intro (H11.out.1.more b12) (And.intro (H11.out.2.1.more b12) (H11.out.2.2.more b12)))
          clear b12
          have hs2 := same_some N N la ln ca cn v12 H12.out.1.r8.row H12.out.2.2.row H12.out.1.k8 H4.out.2.2.2.2.1 (rs_lt H9.out.2.2.2.ok)
          obtain ⟨x0, x1, x2, x3, x4, x5, x6⟩ := mcells H12.out.1.b8.at_
          obtain ⟨y0, y1, y2, y3, y4, y5, y6⟩ := mcells H12.out.2.1.at_
          simp only [mf7] at hs2
          go_wp2_with fail
          refine hs2.mono ?_
          clear hs2 x0 x1 x2 x3 x4 x5 x6 y0 y1 y2 y3 y4 y5 y6
          rintro e v13 ⟨B2, rfl, hB2, b13⟩
          have H13 := Hid.mk (H12.out.1.more b13)
          clear b13
          obtain ⟨x0, x1, x2, x3, x4, x5, x6⟩ := mcells H13.out.b6.at_
          obtain ⟨y0, y1, y2, y3, y4, y5, y6⟩ := mcells H13.out.b8.at_
          have z0 := frozen_of_row v13 g 0 _ _ H13.out.b6.at_
          have z1 := frozen_of_row v13 g 1 _ _ H13.out.b6.at_
          have z2 := frozen_of_row v13 g 2 _ _ H13.out.b6.at_
          have z3 := frozen_of_row v13 g 3 _ _ H13.out.b6.at_
          have z4 := frozen_of_row v13 g 4 _ _ H13.out.b6.at_
          have z5 := frozen_of_row v13 g 5 _ _ H13.out.b6.at_
          have z6 := frozen_of_row v13 g 6 _ _ H13.out.b6.at_
          have hlt7 : g < v13.heap.size := H13.out.lt g (.inl rfl)
          have hB := hB2 (by trivial)
          subst hB
          clear hB1 hB2
          cases B1
          · go_wp2_with (go_at_call 7; refine (num8_any _ _).mono ?_; rintro e w' ⟨rfl, hw'⟩; have hw' := hw'.symm; subst hw')
            exact ⟨⟨i + 1, rfl, HL.out.1, ⟨_, _, _, _, _, _, _, _, H13.out.put6, H9.out.2.2.2⟩⟩, by have := HL.out.1; simp only [intOf]; omega⟩
          · go_wp2_with (go_at_call 7; refine (num8_any _ _).mono ?_; rintro e w' ⟨rfl, hw'⟩; have hw' := hw'.symm; subst hw')
            exact ⟨⟨i + 1, rfl, HL.out.1, ⟨_, _, _, _, _, _, _, _, H13.out.put6, H9.out.2.2.2⟩⟩, by have := HL.out.1; simp only [intOf]; omega⟩
      · have hd := down_any v6 H6.out.1.dk
        rw [hoff] at hd
        go_wp2_with fail
        refine hd.mono ?_
        clear hd
        rintro e w' ⟨rfl, hw'⟩
        have hw' := hw'.symm
        subst hw'
        go_wp2_with fail
        refine arm_any 0 false v6 H6.out.1.dk (by decide) (by decide) _ (fun v7 st7 => ?_)
        have H7 := Hid.mk (And.intro (H6.out.1.step st7) (And.intro (H6.out.2.1.step st7) (And.intro (H6.out.2.2.1.step st7) (H6.out.2.2.2.step st7))))
        clear st7
        obtain ⟨t7, t8, t9, t10⟩ := tcells H7.out.2.1.at_
        go_wp2_with fail
        refine crash_any (some ⟨_, 0, none⟩) [(tNew, t.keep, t.sp), (tMan, t.keep, t.sp)] 2 _ (H7.out.1.dk.below ((Below.refl _ v7).alloc (Nat.le_refl _) _)) (cuts_at H7.out.1.dk t.keep t.sp) (show 2 < 9223372036854775808 by decide) (cuts_sm HR.out.2.2.1.keep) _ (fun v9 es3 st9 fl9 => ?_)
        obtain ⟨lo9, hlo9, hcm⟩ := crash_M (enT M).data.toList lo hlo t.keep t.sp
        rw [hfs] at fl9
        have R9 : Rest es3 (crashC (armC C 0 false)) M := ⟨(crash_calm _).1, (crash_calm _).2.trans (by rw [arm0_off hoff]; exact HC.out), HR.out.2.1.ok, lo9, hlo9, fl9.trans hcm⟩
        obtain ⟨C3, hC3⟩ : ∃ C3, C3 = crashC (armC C 0 false) := ⟨_, rfl⟩
        rw [← hC3] at st9 R9
        have H9 := Hid.mk (And.intro ((H7.out.1.more ((Below.refl _ v7).alloc (Nat.le_refl _) _)).step st9) (And.intro ((H7.out.2.2.1.more ((Below.refl _ v7).alloc (Nat.le_refl _) _)).step st9) (And.intro ((H7.out.2.2.2.more ((Below.refl _ v7).alloc (Nat.le_refl _) _)).step st9) R9)))
        clear st9 fl9 hcm hlo9 R9 hC3
        have hl := mload_any v9 H9.out.1.dk (HT.out.1.below H9.out.1.bl HT.out.2) (Nat.lt_of_lt_of_le HT.out.2 H9.out.1.bl.size)
        obtain ⟨lo9, hlo9, hf9⟩ := H9.out.2.2.2.fs
        rw [hf9, ld_on _ lo9 M C3 H9.out.2.2.2.calm.1 H9.out.2.2.2.ok rfl] at hl
        clear hf9 hlo9
        go_wp2_with fail
        refine hl.mono ?_
        clear hl t7 t8 t9 t10
        rintro e v10 ⟨la, ca, rfl, r10, f10, b10⟩
        rw [show dcV (.ok M) = M from rfl] at r10 f10 ⊢
        rw [show unE (.ok M) = 0 from rfl]
        have S10 := H9.out.1.more b10
        have R10 : LR v10 p mb es3 (fun k => k = g ∨ k = h) la (M).rs := LR.fresh r10 f10 (fun k hF => H9.out.1.dk.lt hF) H9.out.1.lt
        have K10 := (own_lat r10).2
        have S11 := S10.put8 R10 K10
        have A11 := (H9.out.2.1.more b10).put8 M la ca
        have R11 := (H9.out.2.2.1.more b10).put8 M la ca
        obtain ⟨V11, hV11⟩ : ∃ V11, V11 = put7 v10 h M la ca := ⟨_, rfl⟩
        rw [← hV11] at S11 A11 R11
        have HV11 := Hid.mk hV11
        unfold put7 at HV11
        obtain ⟨y0, y1, y2, y3, y4, y5, y6⟩ := mcells S10.b8.at_
        have z0 := frozen_of_row v10 h 0 _ _ S10.b8.at_
        have z1 := frozen_of_row v10 h 1 _ _ S10.b8.at_
        have z2 := frozen_of_row v10 h 2 _ _ S10.b8.at_
        have z3 := frozen_of_row v10 h 3 _ _ S10.b8.at_
        have z4 := frozen_of_row v10 h 4 _ _ S10.b8.at_
        have z5 := frozen_of_row v10 h 5 _ _ S10.b8.at_
        have z6 := frozen_of_row v10 h 6 _ _ S10.b8.at_
        have hlt7 : h < v10.heap.size := S10.lt h (.inr rfl)
        have hs1 := same_some M M la l6 ca c6 V11 S11.r8.row S11.r6.row S11.k8 S11.k6 (rs_lt H9.out.2.2.2.ok)
        have H11 := Hid.mk (And.intro S11 (And.intro A11 R11))
        clear hV11 S11 A11 R11 S10 R10 K10 r10 f10 b10
        simp only [mf7] at hs1 ⊢
        go_upto_region 22 with fail
        rw [← HV11.out]
        clear HV11 y0 y1 y2 y3 y4 y5 y6 z0 z1 z2 z3 z4 z5 z6 hlt7
        obtain ⟨x0, x1, x2, x3, x4, x5, x6⟩ := mcells H11.out.1.b8.at_
        obtain ⟨y0, y1, y2, y3, y4, y5, y6⟩ := mcells H11.out.1.b6.at_
        go_wp2_with fail
        refine hs1.mono ?_
        clear hs1 x0 x1 x2 x3 x4 x5 x6 y0 y1 y2 y3 y4 y5 y6
        rintro e v12 ⟨B1, rfl, hB1, b12⟩
        have H12 := Hid.mk (And.intro (H11.out.1.more b12) (And.intro (H11.out.2.1.more b12) (H11.out.2.2.more b12)))
        clear b12
        have hs2 := same_some M N la ln ca cn v12 H12.out.1.r8.row H12.out.2.2.row H12.out.1.k8 H4.out.2.2.2.2.1 (rs_lt H9.out.2.2.2.ok)
        obtain ⟨x0, x1, x2, x3, x4, x5, x6⟩ := mcells H12.out.1.b8.at_
        obtain ⟨y0, y1, y2, y3, y4, y5, y6⟩ := mcells H12.out.2.1.at_
        simp only [mf7] at hs2
        go_wp2_with fail
        refine hs2.mono ?_
        clear hs2 x0 x1 x2 x3 x4 x5 x6 y0 y1 y2 y3 y4 y5 y6
        rintro e v13 ⟨B2, rfl, hB2, b13⟩
        have H13 := Hid.mk (H12.out.1.more b13)
        clear b13
        obtain ⟨x0, x1, x2, x3, x4, x5, x6⟩ := mcells H13.out.b6.at_
        obtain ⟨y0, y1, y2, y3, y4, y5, y6⟩ := mcells H13.out.b8.at_
        have z0 := frozen_of_row v13 g 0 _ _ H13.out.b6.at_
        have z1 := frozen_of_row v13 g 1 _ _ H13.out.b6.at_
        have z2 := frozen_of_row v13 g 2 _ _ H13.out.b6.at_
        have z3 := frozen_of_row v13 g 3 _ _ H13.out.b6.at_
        have z4 := frozen_of_row v13 g 4 _ _ H13.out.b6.at_
        have z5 := frozen_of_row v13 g 5 _ _ H13.out.b6.at_
        have z6 := frozen_of_row v13 g 6 _ _ H13.out.b6.at_
        have hlt7 : g < v13.heap.size := H13.out.lt g (.inl rfl)
        have hB := hB1 (by trivial)
        subst hB
        clear hB1 hB2
        cases B2
        · go_wp2_with (go_at_call 7; refine (num8_any _ _).mono ?_; rintro e w' ⟨rfl, hw'⟩; have hw' := hw'.symm; subst hw')
          exact ⟨⟨i + 1, rfl, HL.out.1, ⟨_, _, _, _, _, _, _, _, H13.out.put6, H9.out.2.2.2⟩⟩, by have := HL.out.1; simp only [intOf]; omega⟩
        · go_wp2_with (go_at_call 7; refine (num8_any _ _).mono ?_; rintro e w' ⟨rfl, hw'⟩; have hw' := hw'.symm; subst hw')
          exact ⟨⟨i + 1, rfl, HL.out.1, ⟨_, _, _, _, _, _, _, _, H13.out.put6, H9.out.2.2.2⟩⟩, by have := HL.out.1; simp only [intOf]; omega⟩
      · have hd := down_any v6 H6.out.1.dk
        rw [hoff] at hd
        go_wp2_with fail
        refine hd.mono ?_
        clear hd
        rintro e w' ⟨rfl, hw'⟩
        have hw' := hw'.symm
        subst hw'
        go_wp2_with fail
        refine arm_any 0 false v6 H6.out.1.dk (by decide) (by decide) _ (fun v7 st7 => ?_)
        have H7 := Hid.mk (And.intro (H6.out.1.step st7) (And.intro (H6.out.2.1.step st7) (And.intro (H6.out.2.2.1.step st7) (H6.out.2.2.2.step st7))))
        clear st7
        obtain ⟨t7, t8, t9, t10⟩ := tcells H7.out.2.1.at_
        go_wp2_with fail
        refine crash_any (some ⟨_, 0, none⟩) [(tNew, t.keep, t.sp), (tMan, t.keep, t.sp)] 2 _ (H7.out.1.dk.below ((Below.refl _ v7).alloc (Nat.le_refl _) _)) (cuts_at H7.out.1.dk t.keep t.sp) (show 2 < 9223372036854775808 by decide) (cuts_sm HR.out.2.2.1.keep) _ (fun v9 es3 st9 fl9 => ?_)
        obtain ⟨lo9, hlo9, hcm⟩ := crash_M (enT N).data.toList lo hlo t.keep t.sp
        rw [hfs] at fl9
        have R9 : Rest es3 (crashC (armC C 0 false)) N := ⟨(crash_calm _).1, (crash_calm _).2.trans (by rw [arm0_off hoff]; exact HC.out), H4.out.2.2.2.2.2, lo9, hlo9, fl9.trans hcm⟩
        obtain ⟨C3, hC3⟩ : ∃ C3, C3 = crashC (armC C 0 false) := ⟨_, rfl⟩
        rw [← hC3] at st9 R9
        have H9 := Hid.mk (And.intro ((H7.out.1.more ((Below.refl _ v7).alloc (Nat.le_refl _) _)).step st9) (And.intro ((H7.out.2.2.1.more ((Below.refl _ v7).alloc (Nat.le_refl _) _)).step st9) (And.intro ((H7.out.2.2.2.more ((Below.refl _ v7).alloc (Nat.le_refl _) _)).step st9) R9)))
        clear st9 fl9 hcm hlo9 R9 hC3
        have hl := mload_any v9 H9.out.1.dk (HT.out.1.below H9.out.1.bl HT.out.2) (Nat.lt_of_lt_of_le HT.out.2 H9.out.1.bl.size)
        obtain ⟨lo9, hlo9, hf9⟩ := H9.out.2.2.2.fs
        rw [hf9, ld_on _ lo9 N C3 H9.out.2.2.2.calm.1 H9.out.2.2.2.ok rfl] at hl
        clear hf9 hlo9
        go_wp2_with fail
        refine hl.mono ?_
        clear hl t7 t8 t9 t10
        rintro e v10 ⟨la, ca, rfl, r10, f10, b10⟩
        rw [show dcV (.ok N) = N from rfl] at r10 f10 ⊢
        rw [show unE (.ok N) = 0 from rfl]
        have S10 := H9.out.1.more b10
        have R10 : LR v10 p mb es3 (fun k => k = g ∨ k = h) la (N).rs := LR.fresh r10 f10 (fun k hF => H9.out.1.dk.lt hF) H9.out.1.lt
        have K10 := (own_lat r10).2
        have S11 := S10.put8 R10 K10
        have A11 := (H9.out.2.1.more b10).put8 N la ca
        have R11 := (H9.out.2.2.1.more b10).put8 N la ca
        obtain ⟨V11, hV11⟩ : ∃ V11, V11 = put7 v10 h N la ca := ⟨_, rfl⟩
        rw [← hV11] at S11 A11 R11
        have HV11 := Hid.mk hV11
        unfold put7 at HV11
        obtain ⟨y0, y1, y2, y3, y4, y5, y6⟩ := mcells S10.b8.at_
        have z0 := frozen_of_row v10 h 0 _ _ S10.b8.at_
        have z1 := frozen_of_row v10 h 1 _ _ S10.b8.at_
        have z2 := frozen_of_row v10 h 2 _ _ S10.b8.at_
        have z3 := frozen_of_row v10 h 3 _ _ S10.b8.at_
        have z4 := frozen_of_row v10 h 4 _ _ S10.b8.at_
        have z5 := frozen_of_row v10 h 5 _ _ S10.b8.at_
        have z6 := frozen_of_row v10 h 6 _ _ S10.b8.at_
        have hlt7 : h < v10.heap.size := S10.lt h (.inr rfl)
        have hs1 := same_some N M la l6 ca c6 V11 S11.r8.row S11.r6.row S11.k8 S11.k6 (rs_lt H9.out.2.2.2.ok)
        have H11 := Hid.mk (And.intro S11 (And.intro A11 R11))
        clear hV11 S11 A11 R11 S10 R10 K10 r10 f10 b10
        simp only [mf7] at hs1 ⊢
        go_upto_region 22 with fail
        rw [← HV11.out]
        clear HV11 y0 y1 y2 y3 y4 y5 y6 z0 z1 z2 z3 z4 z5 z6 hlt7
        obtain ⟨x0, x1, x2, x3, x4, x5, x6⟩ := mcells H11.out.1.b8.at_
        obtain ⟨y0, y1, y2, y3, y4, y5, y6⟩ := mcells H11.out.1.b6.at_
        go_wp2_with fail
        refine hs1.mono ?_
        clear hs1 x0 x1 x2 x3 x4 x5 x6 y0 y1 y2 y3 y4 y5 y6
        rintro e v12 ⟨B1, rfl, hB1, b12⟩
        have H12 := Hid.mk (And.intro (H11.out.1.more b12) (And.intro (H11.out.2.1.more b12) (H11.out.2.2.more b12)))
        clear b12
        have hs2 := same_some N N la ln ca cn v12 H12.out.1.r8.row H12.out.2.2.row H12.out.1.k8 H4.out.2.2.2.2.1 (rs_lt H9.out.2.2.2.ok)
        obtain ⟨x0, x1, x2, x3, x4, x5, x6⟩ := mcells H12.out.1.b8.at_
        obtain ⟨y0, y1, y2, y3, y4, y5, y6⟩ := mcells H12.out.2.1.at_
        simp only [mf7] at hs2
        go_wp2_with fail
        refine hs2.mono ?_
        clear hs2 x0 x1 x2 x3 x4 x5 x6 y0 y1 y2 y3 y4 y5 y6
        rintro e v13 ⟨B2, rfl, hB2, b13⟩
        have H13 := Hid.mk (H12.out.1.more b13)
        clear b13
        obtain ⟨x0, x1, x2, x3, x4, x5, x6⟩ := mcells H13.out.b6.at_
        obtain ⟨y0, y1, y2, y3, y4, y5, y6⟩ := mcells H13.out.b8.at_
        have z0 := frozen_of_row v13 g 0 _ _ H13.out.b6.at_
        have z1 := frozen_of_row v13 g 1 _ _ H13.out.b6.at_
        have z2 := frozen_of_row v13 g 2 _ _ H13.out.b6.at_
        have z3 := frozen_of_row v13 g 3 _ _ H13.out.b6.at_
        have z4 := frozen_of_row v13 g 4 _ _ H13.out.b6.at_
        have z5 := frozen_of_row v13 g 5 _ _ H13.out.b6.at_
        have z6 := frozen_of_row v13 g 6 _ _ H13.out.b6.at_
        have hlt7 : g < v13.heap.size := H13.out.lt g (.inl rfl)
        have hB := hB2 (by trivial)
        subst hB
        clear hB1 hB2
        cases B1
        · go_wp2_with (go_at_call 7; refine (num8_any _ _).mono ?_; rintro e w' ⟨rfl, hw'⟩; have hw' := hw'.symm; subst hw')
          exact ⟨⟨i + 1, rfl, HL.out.1, ⟨_, _, _, _, _, _, _, _, H13.out.put6, H9.out.2.2.2⟩⟩, by have := HL.out.1; simp only [intOf]; omega⟩
        · go_wp2_with (go_at_call 7; refine (num8_any _ _).mono ?_; rintro e w' ⟨rfl, hw'⟩; have hw' := hw'.symm; subst hw')
          exact ⟨⟨i + 1, rfl, HL.out.1, ⟨_, _, _, _, _, _, _, _, H13.out.put6, H9.out.2.2.2⟩⟩, by have := HL.out.1; simp only [intOf]; omega⟩
    · have q0 : ¬ ((i : Int) < (n : Int) ∧ (i : Int) < 30) := by omega
      clear hlt
      obtain ⟨es, c, M, X, l6, c6, l8, c8, S, R⟩ := hI.out
      have HSW := Hid.mk (And.intro S R)
      have cg := goes_any zM none 0 wr ⟨fun h => absurd rfl h⟩ zM_w (Nat.le_refl _) (by decide)
      rw [show mfC zM none 0 = [.int .i64 0, .int .i64 0, .int .i64 0, .int .i64 3, .int .i64 77, .int .i64 0, .slice none 0 0] from rfl] at cg
      clear S R
      by_cases q1 : (i : Int) < (n : Int)
      · have q2 : ¬ (i : Int) < 30 := by omega
        go_wp2_with fail
        refine cg.mono ?_
        clear cg
        rintro e v5 ⟨la5, ca5, rfl, r5, f5, b5⟩
        obtain ⟨M5, hM5⟩ : ∃ M5, M5 = goM zM := ⟨_, rfl⟩
        rw [← hM5] at r5 f5 ⊢
        have o5 : chE M5 = 0 := by rw [hM5]; exact goM_ok zM
        obtain ⟨V5, hV5⟩ : ∃ V5, V5 = v5.alloc (.cells (mfC M5 la5 ca5).toArray 26) := ⟨_, rfl⟩
        have bV5 : Below v5.heap.size v5 V5 := by rw [hV5]; exact (Below.refl _ v5).alloc (Nat.le_refl _) _
        obtain ⟨q, hq⟩ : ∃ q, q = v5.heap.size := ⟨_, rfl⟩
        have S5 := HSW.out.1.more (chain b5 bV5 (Nat.le_refl _))
        have A5 : Held V5 p mb es (fun k => k = g ∨ k = h) q (.cells (mfC M5 la5 ca5).toArray 26 (0, 0)) := ⟨by rw [hV5, hq]; exact heap_alloc_new v5 _, fun hF => by have := HSW.out.1.dk.lt hF; have := b5.size; omega, fun hE => by have := HSW.out.1.lt _ hE; have := b5.size; omega⟩
        have R5 : LR V5 p mb es (fun k => k = g ∨ k = h) la5 M5.rs := (LR.fresh r5 f5 (fun k hF => HSW.out.1.dk.lt hF) HSW.out.1.lt).more bV5
        have K5 := (own_lat r5).2
        obtain ⟨lo, hlo, hfs⟩ := HSW.out.2.fs
        have e5 := enT_le o5
        have e6 := enT_le HSW.out.2.ok
        obtain ⟨cB, eB, qB⟩ := st_last (enT M).data.toList lo M5 c HSW.out.2.calm o5 (by omega) (by rw [nm_size, HSW.out.2.cap]; omega)
        have hst := mstore_any M5 la5 ca5 V5 S5.dk R5.row (mfw_of o5) K5 (rs_lt o5) (HT.out.1.below S5.bl HT.out.2) (Nat.lt_of_lt_of_le HT.out.2 S5.bl.size) (by omega)
        rw [hfs, eB] at hst
        have HV5 := Hid.mk hV5
        have H5 := Hid.mk (And.intro S5 (And.intro A5 (And.intro R5 (And.intro K5 (And.intro o5 qB)))))
        clear S5 A5 R5 K5 o5 qB eB e5 e6 hlo hfs bV5 hV5 r5 f5 b5 hM5
        simp only [mf7] at hst HV5 ⊢
        go_wp2_with fail
        rw [← HV5.out, ← hq]
        refine hst.mono ?_
        clear hst hq
        rintro e v6 ⟨es6, rfl, st6, fl6⟩
        dsimp only at st6 fl6 ⊢
        have S6 := H5.out.1.step st6
        have A6 := H5.out.2.1.step st6
        have R6 := H5.out.2.2.1.step st6
        have hl := mload_any v6 S6.dk (HT.out.1.below S6.bl HT.out.2) (Nat.lt_of_lt_of_le HT.out.2 S6.bl.size)
        rw [fl6, ld_on _ none M5 cB H5.out.2.2.2.2.2.1 H5.out.2.2.2.2.1 rfl] at hl
        have H6 := Hid.mk (And.intro S6 (And.intro A6 (And.intro R6 fl6)))
        clear S6 A6 R6 st6 fl6
        go_wp2_with fail
        refine hl.mono ?_
        clear hl
        rintro e v7 ⟨la7, ca7, rfl, r7, f7, b7⟩
        rw [show dcV (.ok M5) = M5 from rfl] at r7 f7 ⊢
        rw [show unE (.ok M5) = 0 from rfl]
        have S7 := H6.out.1.more b7
        have R7 : LR v7 p mb es6 (fun k => k = g ∨ k = h) la7 M5.rs := LR.fresh r7 f7 (fun k hF => H6.out.1.dk.lt hF) H6.out.1.lt
        have K7 := (own_lat r7).2
        have S8 := S7.put8 R7 K7
        have A8 := (H6.out.2.1.more b7).put8 M5 la7 ca7
        have R8 := (H6.out.2.2.1.more b7).put8 M5 la7 ca7
        obtain ⟨V8, hV8⟩ : ∃ V8, V8 = put7 v7 h M5 la7 ca7 := ⟨_, rfl⟩
        rw [← hV8] at S8 A8 R8
        have HV8 := Hid.mk hV8
        unfold put7 at HV8
        have hs := same_eq M5 la7 la5 ca7 ca5 V8 S8.r8.row R8.row S8.k8 H5.out.2.2.2.1 (rs_lt H5.out.2.2.2.2.1)
        obtain ⟨y0, y1, y2, y3, y4, y5, y6⟩ := mcells S7.b8.at_
        have z0 := frozen_of_row v7 h 0 _ _ S7.b8.at_
        have z1 := frozen_of_row v7 h 1 _ _ S7.b8.at_
        have z2 := frozen_of_row v7 h 2 _ _ S7.b8.at_
        have z3 := frozen_of_row v7 h 3 _ _ S7.b8.at_
        have z4 := frozen_of_row v7 h 4 _ _ S7.b8.at_
        have z5 := frozen_of_row v7 h 5 _ _ S7.b8.at_
        have z6 := frozen_of_row v7 h 6 _ _ S7.b8.at_
        have hlt7 : h < v7.heap.size := S7.lt h (.inr rfl)
        have H8 := Hid.mk (And.intro S8 A8)
        clear hV8 S8 A8 R8 S7 R7 K7 r7 f7 b7
        simp only [mf7] at hs ⊢
        go_upto_region 30 with fail
        rw [← HV8.out]
        clear HV8 y0 y1 y2 y3 y4 y5 y6 z0 z1 z2 z3 z4 z5 z6 hlt7
        obtain ⟨x0, x1, x2, x3, x4, x5, x6⟩ := mcells H8.out.1.b8.at_
        obtain ⟨y0, y1, y2, y3, y4, y5, y6⟩ := mcells H8.out.2.at_
        go_wp2_with fail
        refine hs.mono ?_
        clear hs x0 x1 x2 x3 x4 x5 x6 y0 y1 y2 y3 y4 y5 y6
        rintro e v9 ⟨rfl, b9⟩
        have H9 := Hid.mk (H8.out.1.more b9)
        clear b9
        go_wp2_with fail
        refine names_any v9 H9.out.dk _ (fun ho => absurd ho (by rw [H5.out.2.2.2.2.2.1]; decide)) (fun _ g9 cp9 v11 ow b11 => ?_)
        obtain ⟨hl1, hl2⟩ := es_one H6.out.2.2.2
        rw [hl1] at ow ⊢
        rw [hl2] at ow
        have nm0 : v11.cell? ⟨g9, 0, none⟩ = some (.string tMan) := by
          have h0 := ow.cells (g := g9) rfl 0 (.string tMan) rfl
          rwa [show (⟨g9, 0, none⟩ : Addr).add 0 = ⟨g9, 0, none⟩ from by unfold Addr.add; split <;> simp_all] at h0
        have hself : (tMan.toList == tMan.toList) = true := by simp
        have bf : Below w.heap.size w v11 := chain H9.out.bl b11 (Nat.le_refl _)
        clear ow b11 hl1 hl2
        go_wp2_with (go_at_call 7; refine (num8_any _ _).mono ?_; rintro e w' ⟨rfl, rfl⟩)
        go_ret
        exact ⟨rfl, bf⟩
      · go_wp2_with fail
        refine cg.mono ?_
        clear cg
        rintro e v5 ⟨la5, ca5, rfl, r5, f5, b5⟩
        obtain ⟨M5, hM5⟩ : ∃ M5, M5 = goM zM := ⟨_, rfl⟩
        rw [← hM5] at r5 f5 ⊢
        have o5 : chE M5 = 0 := by rw [hM5]; exact goM_ok zM
        obtain ⟨V5, hV5⟩ : ∃ V5, V5 = v5.alloc (.cells (mfC M5 la5 ca5).toArray 26) := ⟨_, rfl⟩
        have bV5 : Below v5.heap.size v5 V5 := by rw [hV5]; exact (Below.refl _ v5).alloc (Nat.le_refl _) _
        obtain ⟨q, hq⟩ : ∃ q, q = v5.heap.size := ⟨_, rfl⟩
        have S5 := HSW.out.1.more (chain b5 bV5 (Nat.le_refl _))
        have A5 : Held V5 p mb es (fun k => k = g ∨ k = h) q (.cells (mfC M5 la5 ca5).toArray 26 (0, 0)) := ⟨by rw [hV5, hq]; exact heap_alloc_new v5 _, fun hF => by have := HSW.out.1.dk.lt hF; have := b5.size; omega, fun hE => by have := HSW.out.1.lt _ hE; have := b5.size; omega⟩
        have R5 : LR V5 p mb es (fun k => k = g ∨ k = h) la5 M5.rs := (LR.fresh r5 f5 (fun k hF => HSW.out.1.dk.lt hF) HSW.out.1.lt).more bV5
        have K5 := (own_lat r5).2
        obtain ⟨lo, hlo, hfs⟩ := HSW.out.2.fs
        have e5 := enT_le o5
        have e6 := enT_le HSW.out.2.ok
        obtain ⟨cB, eB, qB⟩ := st_last (enT M).data.toList lo M5 c HSW.out.2.calm o5 (by omega) (by rw [nm_size, HSW.out.2.cap]; omega)
        have hst := mstore_any M5 la5 ca5 V5 S5.dk R5.row (mfw_of o5) K5 (rs_lt o5) (HT.out.1.below S5.bl HT.out.2) (Nat.lt_of_lt_of_le HT.out.2 S5.bl.size) (by omega)
        rw [hfs, eB] at hst
        have HV5 := Hid.mk hV5
        have H5 := Hid.mk (And.intro S5 (And.intro A5 (And.intro R5 (And.intro K5 (And.intro o5 qB)))))
        clear S5 A5 R5 K5 o5 qB eB e5 e6 hlo hfs bV5 hV5 r5 f5 b5 hM5
        simp only [mf7] at hst HV5 ⊢
        go_wp2_with fail
        rw [← HV5.out, ← hq]
        refine hst.mono ?_
        clear hst hq
        rintro e v6 ⟨es6, rfl, st6, fl6⟩
        dsimp only at st6 fl6 ⊢
        have S6 := H5.out.1.step st6
        have A6 := H5.out.2.1.step st6
        have R6 := H5.out.2.2.1.step st6
        have hl := mload_any v6 S6.dk (HT.out.1.below S6.bl HT.out.2) (Nat.lt_of_lt_of_le HT.out.2 S6.bl.size)
        rw [fl6, ld_on _ none M5 cB H5.out.2.2.2.2.2.1 H5.out.2.2.2.2.1 rfl] at hl
        have H6 := Hid.mk (And.intro S6 (And.intro A6 (And.intro R6 fl6)))
        clear S6 A6 R6 st6 fl6
        go_wp2_with fail
        refine hl.mono ?_
        clear hl
        rintro e v7 ⟨la7, ca7, rfl, r7, f7, b7⟩
        rw [show dcV (.ok M5) = M5 from rfl] at r7 f7 ⊢
        rw [show unE (.ok M5) = 0 from rfl]
        have S7 := H6.out.1.more b7
        have R7 : LR v7 p mb es6 (fun k => k = g ∨ k = h) la7 M5.rs := LR.fresh r7 f7 (fun k hF => H6.out.1.dk.lt hF) H6.out.1.lt
        have K7 := (own_lat r7).2
        have S8 := S7.put8 R7 K7
        have A8 := (H6.out.2.1.more b7).put8 M5 la7 ca7
        have R8 := (H6.out.2.2.1.more b7).put8 M5 la7 ca7
        obtain ⟨V8, hV8⟩ : ∃ V8, V8 = put7 v7 h M5 la7 ca7 := ⟨_, rfl⟩
        rw [← hV8] at S8 A8 R8
        have HV8 := Hid.mk hV8
        unfold put7 at HV8
        have hs := same_eq M5 la7 la5 ca7 ca5 V8 S8.r8.row R8.row S8.k8 H5.out.2.2.2.1 (rs_lt H5.out.2.2.2.2.1)
        obtain ⟨y0, y1, y2, y3, y4, y5, y6⟩ := mcells S7.b8.at_
        have z0 := frozen_of_row v7 h 0 _ _ S7.b8.at_
        have z1 := frozen_of_row v7 h 1 _ _ S7.b8.at_
        have z2 := frozen_of_row v7 h 2 _ _ S7.b8.at_
        have z3 := frozen_of_row v7 h 3 _ _ S7.b8.at_
        have z4 := frozen_of_row v7 h 4 _ _ S7.b8.at_
        have z5 := frozen_of_row v7 h 5 _ _ S7.b8.at_
        have z6 := frozen_of_row v7 h 6 _ _ S7.b8.at_
        have hlt7 : h < v7.heap.size := S7.lt h (.inr rfl)
        have H8 := Hid.mk (And.intro S8 A8)
        clear hV8 S8 A8 R8 S7 R7 K7 r7 f7 b7
        simp only [mf7] at hs ⊢
        go_upto_region 30 with fail
        rw [← HV8.out]
        clear HV8 y0 y1 y2 y3 y4 y5 y6 z0 z1 z2 z3 z4 z5 z6 hlt7
        obtain ⟨x0, x1, x2, x3, x4, x5, x6⟩ := mcells H8.out.1.b8.at_
        obtain ⟨y0, y1, y2, y3, y4, y5, y6⟩ := mcells H8.out.2.at_
        go_wp2_with fail
        refine hs.mono ?_
        clear hs x0 x1 x2 x3 x4 x5 x6 y0 y1 y2 y3 y4 y5 y6
        rintro e v9 ⟨rfl, b9⟩
        have H9 := Hid.mk (H8.out.1.more b9)
        clear b9
        go_wp2_with fail
        refine names_any v9 H9.out.dk _ (fun ho => absurd ho (by rw [H5.out.2.2.2.2.2.1]; decide)) (fun _ g9 cp9 v11 ow b11 => ?_)
        obtain ⟨hl1, hl2⟩ := es_one H6.out.2.2.2
        rw [hl1] at ow ⊢
        rw [hl2] at ow
        have nm0 : v11.cell? ⟨g9, 0, none⟩ = some (.string tMan) := by
          have h0 := ow.cells (g := g9) rfl 0 (.string tMan) rfl
          rwa [show (⟨g9, 0, none⟩ : Addr).add 0 = ⟨g9, 0, none⟩ from by unfold Addr.add; split <;> simp_all] at h0
        have hself : (tMan.toList == tMan.toList) = true := by simp
        have bf : Below w.heap.size w v11 := chain H9.out.bl b11 (Nat.le_refl _)
        clear ow b11 hl1 hl2
        go_wp2_with (go_at_call 7; refine (num8_any _ _).mono ?_; rintro e w' ⟨rfl, rfl⟩)
        go_ret
        exact ⟨rfl, bf⟩
end Go.Proofs.YtkoannkecojhmaaGreatDoor
set_option linter.unusedSimpArgs false
set_option linter.unusedVariables false
namespace Go.Proofs.YtkoannkecojhmaaGreatDoor
open Go.ChangeMaps (open_string shut_string)
open Go.ChangeShapes Go.WideShapes Go.ChangeAt Go.WideMaps Go.WideElems Go.RowKit Go.Proofs.SealMath
set_option maxRecDepth 100000 in
theorem swap_lifted (os : Os) (started : os.Started) (H : Type) (enc : TypeId × Value → H) :
    ReturnsInHanded {} Tryz.checked os 4 .any (fun w args => (Rows.manifestSwapSpec.pre enc Tryz.prog Tryz.f4 [] false w args ∧ laidMetH Tryz.prog lst w) ∧ sizedMet enc Tryz.prog Tryz.f4 (OpenSpec.ofChange Rows.manifestSwapSpec) false w args)
      (Rows.manifestSwapSpec.post enc Tryz.prog Tryz.f4 false true false false) := by
  refine returnsInHanded_of_change_and (C := Tryz.checked) (X := fun w _ => laidMetH Tryz.prog lst w) (fun _ _ _ hh h => h.of_heap hh) own started (by kernel_rfl) Tryz.func4
    (ChangeSpec.witness_shaped (enc := enc) (C := Tryz.checked) (os := os) (X := fun w _ => laidMetH Tryz.prog lst w) false (World.doorLaid Tryz.prog 4000 os) #[.agg #[.int .i64 0, .int .i64 0, .int .i64 0, .int .i64 0, .int .i64 0, .int .i64 0, .slice none 0 0], .slice none 0 0] 8 rfl (World.shaped_of_RefB (by kernel_rfl) (by kernel_rfl)) (by kernel_rfl) (by kernel_rfl) (by kernel_rfl) (door_met os _)) ?_
  intro W base args ds gs before hval0 hW _ hsz0 hL _
  have hsz : (DataW.weightsEach Tryz.prog (Tryz.f4.params.toList ++ Rows.manifestSwapSpec.plain.varTypes Tryz.prog) (ds ++ gs)).all (· ≤ reachBytes) = true := hsz0
  clear hsz0
  have hval : ∀ (j : Nat) t v, Tryz.f4.params[j]? = some t → args[j]? = some v → Value.okWide Tryz.prog W .any base t v := hval0
  have hW' := hW
  obtain ⟨p, q, hA0, hV, rfl, hfz, hnd⟩ := hW
  have hA : DataW.TrodAll enc Tryz.prog W 0 (fun _ => true) true Tryz.f4.params.toList args.toList ds p := hA0
  rw [Tryz.params4] at hA hval hsz
  obtain ⟨v0, v1, d0, d1, p0, p1, rfl, rfl, rfl, h0, h1⟩ := trodAll_two hA
  obtain ⟨rfl, rfl⟩ := trodVars_none hV
  have h0k := h0
  obtain ⟨m, mla, mc, rfl, mL, mW, mC, mD⟩ := open_mf (hval 0 26 v0 rfl rfl) h0
  have sm : (m.rs.length + 1) * 32 ≤ 140737488355328 := by
    rcases mD with h | ⟨x0, x1, x2, x3, elems, sp, hd, hl⟩
    · rw [h]; decide
    · have := List.all_eq_true.1 hsz ((elems.length + sp.length) * Tryz.prog.bytesOf 54) (DataW.weights_mem_each (j := 0) (t := 26) rfl (by rw [hd]; rfl) _ (by simp [DataW.weights, DataW.weightsEach, Tryz.underlying26, Tryz.underlying24]))
      have h2 : (elems.length + sp.length) * Tryz.prog.bytesOf 54 ≤ reachBytes := by simpa using this
      rw [bytesRn] at h2
      have h3 : reachBytes = 140737488351232 := by decide
      omega
  obtain ⟨a1, len1, cap1, rfl⟩ := okWide_slice Tryz.underlying43 (hval 1 43 v1 rfl rfl)
  have h1k := h1
  obtain ⟨fuel1, hf1⟩ := h1
  have hs1 : ∀ n ∈ d1.weights Tryz.prog 43, n ≤ reachBytes := fun n hn => by simpa using List.all_eq_true.1 hsz n (DataW.weights_mem_each (j := 1) (t := 43) rfl rfl n hn)
  obtain ⟨ts, hl1, hL1, hB1⟩ := open_trs (by simpa [Value.cells] using hf1) hs1
  subst hl1
  clear hA0 hval0
  simp only [List.append_nil, List.nil_append] at hW'
  have hlt0 : ∀ x ∈ p0, x.block < W.heap.size := fun x hx => hW'.lt x (by simp [hx])
  have hlt1 : ∀ x ∈ p1, x.block < W.heap.size := fun x hx => hW'.lt x (by simp [hx])
  have ht := tab_of hL
  have hg0 := tab_pos ht
  have e1 : Rows.manifestSwapSpec.fn H ([d0, d1] ++ []) = { results := [.lit (.bool true)], args := [d0, d1] } := by simp [Rows.manifestSwapSpec]
  have fin : ∀ (e : Ending) (W' : World), (e = .returned (.bool true) ∧ Below W.heap.size W W') → ∃ v, e = .returned v ∧ Rows.manifestSwapSpec.post enc Tryz.prog Tryz.f4 false true false false W #[.agg (mfC m mla mc).toArray, .slice a1 ts.length cap1] v W' := by
    rintro e W' ⟨rfl, hbl⟩
    refine ⟨_, rfl, _, _, _, [], p0 ++ p1, [], hW', ?_, ?_, ?_, hbl.frame _, fun h => by cases h⟩
    · rw [e1]; exact trodAll_mk1 (shut_bool Tryz.underlying4 true)
    · rw [e1]; have h5 := trodAll_mk2 (Below.trod laidOut (by kernel_rfl) (of_decide_eq_true (by kernel_rfl)) h0k hbl hlt0) (Below.trod laidOut (by kernel_rfl) (of_decide_eq_true (by kernel_rfl)) h1k hbl hlt1); (try simp only [List.append_nil, List.nil_append] at h5); exact h5
    · rw [e1]; rfl
  exact (law_swap m mla mc a1 ts cap1 W mL mW mC (by omega) hL1 hB1 ht hg0).mono fin

theorem swap_row : Rows.ManifestSwapSaid :=
  OpenClaim.holds_of_wide 4 Tryz.f4 rfl rfl rfl rfl rfl rfl rfl ⟨rfl, rfl, rfl, rfl, rfl⟩ rfl rfl rfl rfl rfl (by kernel_rfl) Tryz.func4 (by kernel_rfl)
    (of_decide_eq_true (by kernel_rfl)) (by unfold Func.isWrapper; rw [if_neg (of_decide_eq_false (by kernel_rfl))]; exact ⟨rfl, rfl⟩)
    (fun os started H enc _ => swap_lifted os started H enc)
theorem swap_holds : Rows.ManifestSwapCardSaid :=
  Claim7.holds_tied_plain_at .later [] [.called] true (true, "f784b6f1a4b6be4f9a996bd7f2968b880c8206ba76b552f798515a55c3165cfa") false
    swap_row (fun _ h => by cases h) (by kernel_rfl) (fun _ h => by cases h) manifestSwap_row_tie rfl ⟨rfl, rfl⟩ (by kernel_rfl) rfl
    (fun f fn hf hfn => by
      obtain rfl : f = 4 := Option.some.inj ((show Tryz.prog.funcNamed "kindred/kindredlaw8.ManifestSwap" = some 4 by kernel_rfl).symm.trans hf) |>.symm
      obtain rfl : fn = Tryz.f4 := (Option.some.inj (Tryz.func4.symm.trans hfn)).symm
      exact ⟨by kernel_rfl, fun j t ht => by
        rw [Tryz.params4] at ht
        have hm : t ∈ [26, 43] := by simpa using Array.mem_of_getElem? ht
        have hall : ([26, 43].all fun u => !Tryz.prog.wantsStandIn u) = true := by kernel_rfl
        exact (show Tryz.prog.wantsStandIn t = false by simpa using List.all_eq_true.1 hall t hm)⟩)
    (by kernel_rfl)
#print axioms swap_holds
end Go.Proofs.YtkoannkecojhmaaGreatDoor
