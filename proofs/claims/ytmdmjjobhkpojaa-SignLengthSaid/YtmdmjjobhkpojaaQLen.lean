/-
  DERIVED. SignLength: its walk.
-/
import Derived.Test.YtmdmjjobhkpojaaQLen0
set_option linter.unusedVariables false
set_option linter.unusedSimpArgs false
namespace Go.Proofs.Ytmdmjjobhkpojaa
open Go.RowKit Go.Shelf Go.Proofs.BitMath Go.Proofs.FloatMath
set_option maxRecDepth 100000 in
set_option maxHeartbeats 8000000 in
theorem law_length (x sd c : Int) (la : Option Addr) (cap : Nat) (v0 : List Zp) (w : World) (hv : zE.At w la v0) (hl : v0.length < 4611686018427387904) :
    Calls Try.prog 5 #[.int .i64 x, .int .u64 sd, .slice la v0.length cap, .int .i64 c] w fun e w' => e = .returned (.bool true) ∧ Below w.heap.size w w' := by
  obtain ⟨wd, ew, h64, h1024, hm⟩ := wdI_ok x
  have kW := width_any x
  rw [ew] at kW
  have kB := fun W => begun_any wd sd W h64 h1024 hm
  have kZ := fun W => size_any la v0.length cap W hl
  have hz := szN_bd v0.length
  obtain ⟨n, en⟩ : ∃ n, szN v0.length = n := ⟨_, rfl⟩
  rw [en] at kZ hz
  have kV := fun W (b : Below w.heap.size w W) => vector_any la cap v0 n 1000 W (hv.below b) hl (by omega) (by omega) (by omega)
  have kF := fun W => fit_any c 1000 W (by omega) (by omega)
  have hVb := vecL_bd v0 n 1000 (by omega)
  have hVl := vecL_len v0 n 1000
  obtain ⟨V, eV⟩ : ∃ V, vecL v0 n 1000 = V := ⟨_, rfl⟩
  rw [eV] at kV hVb hVl
  have hcb := fitI_bd c 1000 (by omega)
  obtain ⟨C, eC⟩ : ∃ C, fitI c 1000 = C := ⟨_, rfl⟩
  rw [eC] at kF hcb
  obtain ⟨K, eK⟩ : ∃ K : Int, (if C < 0 then -C else C) = K := ⟨_, rfl⟩
  have hK : 0 ≤ K ∧ K ≤ 1000 := by
    rw [← eK]
    have : (1000 : Int).natAbs = 1000 := rfl
    split <;> omega
  have hVb : ∀ p ∈ V, p.1.natAbs ≤ 1000 ∧ p.2.natAbs ≤ 1000 := hVb
  have bK : ∀ p ∈ V, ((K + 1) * p.1).natAbs ≤ 4611686018427387904 ∧ ((K + 1) * p.2).natAbs ≤ 4611686018427387904 := fun p hp => ⟨Nat.le_trans (mul_abs _ _ 1001 1000 (by omega) (hVb p hp).1) (by omega), Nat.le_trans (mul_abs _ _ 1001 1000 (by omega) (hVb p hp).2) (by omega)⟩
  have bM : ∀ p ∈ V, ((-1) * p.1).natAbs ≤ 4611686018427387904 ∧ ((-1) * p.2).natAbs ≤ 4611686018427387904 := fun p hp => ⟨Nat.le_trans (mul_abs _ _ 1 1000 (by decide) (hVb p hp).1) (by omega), Nat.le_trans (mul_abs _ _ 1 1000 (by decide) (hVb p hp).2) (by omega)⟩
  have bT : ∀ p ∈ V, p.1.natAbs ≤ 4611686018427387904 ∧ p.2.natAbs ≤ 4611686018427387904 := fun p hp => ⟨Nat.le_trans (hVb p hp).1 (by omega), Nat.le_trans (hVb p hp).2 (by omega)⟩
  have okV : V.all okP = true := all_okP fun p hp => ⟨Nat.le_trans (hVb p hp).1 (by omega), Nat.le_trans (hVb p hp).2 (by omega)⟩
  have okK : (V.map (mulZ (K + 1))).all okP = true := all_okP fun p hp => by
    obtain ⟨q, hq, rfl⟩ := List.mem_map.1 hp
    exact ⟨Nat.le_trans (mul_abs _ _ 1001 1000 (by omega) (hVb q hq).1) (by omega), Nat.le_trans (mul_abs _ _ 1001 1000 (by omega) (hVb q hq).2) (by omega)⟩
  have okM : (V.map (mulZ (-1))).all okP = true := all_okP fun p hp => by
    obtain ⟨q, hq, rfl⟩ := List.mem_map.1 hp
    exact ⟨Nat.le_trans (mul_abs _ _ 1 1000 (by decide) (hVb q hq).1) (by omega), Nat.le_trans (mul_abs _ _ 1 1000 (by decide) (hVb q hq).2) (by omega)⟩
  have okT : (V.map trnZ).all okP = true := all_okP fun p hp => by
    obtain ⟨q, hq, rfl⟩ := List.mem_map.1 hp
    exact ⟨by simp only [trnZ, Int.natAbs_neg]; exact Nat.le_trans (hVb q hq).2 (by omega), Nat.le_trans (hVb q hq).1 (by omega)⟩
  have hV1 : 1 ≤ V.length := by omega
  have kG1 := fun W la2 c2 (hA : zE.At W la2 V) => signed_any wd sd la2 c2 V W h64 h1024 hm hA hV1 (by omega) okV
  have kT2 := fun W la2 c2 (hA : zE.At W la2 V) => scaled_any la2 c2 V (K + 1) W hA (by omega) bK
  have kT3 := fun W la2 c2 (hA : zE.At W la2 V) => scaled_any la2 c2 V (-1) W hA (by omega) bM
  have kT4 := fun W la2 c2 (hA : zE.At W la2 V) => turned_any la2 c2 V W hA (by omega) bT
  have kG2 := fun W la2 c2 (hA : zE.At W la2 (V.map (mulZ (K + 1)))) => signed_any wd sd la2 c2 (V.map (mulZ (K + 1))) W h64 h1024 hm hA (by rw [List.length_map]; omega) (by rw [List.length_map]; omega) okK
  have kG3 := fun W la2 c2 (hA : zE.At W la2 (V.map (mulZ (-1)))) => signed_any wd sd la2 c2 (V.map (mulZ (-1))) W h64 h1024 hm hA (by rw [List.length_map]; omega) (by rw [List.length_map]; omega) okM
  have kG4 := fun W la2 c2 (hA : zE.At W la2 (V.map trnZ)) => signed_any wd sd la2 c2 (V.map trnZ) W h64 h1024 hm hA (by rw [List.length_map]; omega) (by rw [List.length_map]; omega) okT
  simp only [List.length_map] at kG2 kG3 kG4
  have hpos := cdS_pos wd sd V (K + 1) (by omega)
  obtain ⟨m, em⟩ : ∃ m, wd / 2 = m := ⟨_, rfl⟩
  obtain ⟨q, eq⟩ : ∃ q, wd / 8 = q := ⟨_, rfl⟩
  obtain ⟨C1, e1⟩ : ∃ C1, cdS wd sd V = C1 := ⟨_, rfl⟩
  obtain ⟨C3, e3⟩ : ∃ C3, cdS wd sd (V.map (mulZ (-1))) = C3 := ⟨_, rfl⟩
  obtain ⟨C4, e4⟩ : ∃ C4, cdS wd sd (V.map trnZ) = C4 := ⟨_, rfl⟩
  obtain ⟨S, eS⟩ : ∃ S, sumsL wd sd V = S := ⟨_, rfl⟩
  rw [e1] at hpos
  have z1 := cdS_size wd sd V
  have z3 := cdS_size wd sd (V.map (mulZ (-1)))
  have z4 := cdS_size wd sd (V.map trnZ)
  rw [e1, eq] at z1
  rw [e3, eq] at z3
  rw [e4, eq] at z4
  have kG1 := fun W la2 c2 hA => sgdq em e1 eS (kG1 W la2 c2 hA)
  have kG2 := fun W la2 c2 hA => sgdq em hpos rfl (kG2 W la2 c2 hA)
  have kG3 := fun W la2 c2 hA => sgdq em e3 rfl (kG3 W la2 c2 hA)
  have kG4 := fun W la2 c2 hA => sgdq em e4 rfl (kG4 W la2 c2 hA)
  rw [hVl] at kG1 kG2 kG3 kG4 kT2 kT3 kT4
  have h3 : ∀ j, j < m → ∀ P : Zp, S[j]? = some P → P.1 ≠ 0 → P.2 ≠ 0 → ∃ A B : Nat, A ≤ 1 ∧ B ≤ 1 ∧ bitL C1.data.toList (2 * j) = A ∧ bitL C1.data.toList (2 * j + 1) = B ∧ bitL C3.data.toList (2 * j) = 1 - A ∧ bitL C3.data.toList (2 * j + 1) = 1 - B ∧ bitL C4.data.toList (2 * j) = 1 - B ∧ bitL C4.data.toList (2 * j + 1) = A := by
    intro j hj P hP h1 h2
    have hj2 : j < wd / 2 := by omega
    have hp : sumZ sd j V V.length = P := by
      rw [← eS, List.getElem?_eq_getElem (by rw [sumsL_len]; exact hj2), sumsL_at] at hP
      simpa using hP
    have := three_bits wd sd V (by omega) j hj2 P hp h1 h2
    rw [e1, e3, e4] at this
    exact this
  have hSl : S.length = m := by rw [← eS, sumsL_len, em]
  have hmq : m = 4 * q := by omega
  have hq : q ≤ 128 := by omega
  have a1 : IntKind.i64.wrap (K + 1) = K + 1 := i64_sg _ (by omega) (by omega)
  have a2 : IntKind.i64.wrap (-C) = -C := i64_sg _ (by omega) (by omega)
  obtain ⟨N, eN⟩ : ∃ N, v0.length = N := ⟨_, rfl⟩
  rw [eN] at kZ kV ⊢
  have hT2 := fun W la2 c2 hA => (kT2 W la2 c2 hA)
  have HVl := Hid.mk hVl
  have H3 := Hid.mk h3
  have HSl := Hid.mk hSl
  have HQ := Hid.mk (And.intro hmq (And.intro z1 (And.intro z3 z4)))
  have HK1 := Hid.mk eK
  have kG1 := Hid.mk kG1
  have kG2 := Hid.mk kG2
  have kG3 := Hid.mk kG3
  have kG4 := Hid.mk kG4
  have kT2 := Hid.mk kT2
  have kT3 := Hid.mk kT3
  have kT4 := Hid.mk kT4
  have kV := Hid.mk kV
  clear hv hl hVb hcb bK bM bT okV okK okM okT h64 h1024 hm eN hVl hV1 eV eC en ew h3 hSl hmq z1 z3 z4 e1 e3 e4 eS em eq hpos hK hT2 eK hz
  by_cases hneg : C < 0
  · obtain rfl : K = -C := by rw [← HK1.out, if_pos hneg]
    have hdec : decide (C < 0) = true := by simp [hneg]
    clear hneg
    go_enter Try.func5, Try.ntmps5
    go_wp2_with fail
    refine (kW _).mono ?_
    rintro e w1 ⟨rfl, rfl⟩
    go_wp2_with fail
    refine (kB _).mono ?_
    rintro e w1 ⟨rfl, b1⟩
    go_wp2_with fail
    refine (kZ _).mono ?_
    rintro e w2 ⟨rfl, rfl⟩
    go_wp2_with fail
    refine (kV.out _ b1).mono ?_
    intro e w3 hN
    obtain ⟨a3, c3, rfl, hA, b3⟩ := newz_open hN
    rw [HVl.out]
    have B3 := b1.trans (b3.mono b1.size)
    clear hN b3 b1
    go_wp2_with fail
    refine (kF _).mono ?_
    rintro e w4 ⟨rfl, rfl⟩
    go_wp2_with fail
    refine (kG1.out _ _ _ hA).mono ?_
    rintro e w5 ⟨s1, g1, cp1, rfl, hr1, b5⟩
    have hA5 := hA.below b5
    have B5 := B3.trans (b5.mono B3.size)
    clear hA B3 b5
    go_wp2_with fail
    refine (kT2.out _ _ _ hA5).mono ?_
    intro e w6 hN
    obtain ⟨a6, c6, rfl, hA6, b6⟩ := newz_open hN
    rw [List.length_map, HVl.out]
    have hr6 := hr1.below b6
    have hV6 := hA5.below b6
    have B6 := B5.trans (b6.mono B5.size)
    clear hN b6 hr1 hA5 B5
    go_wp2_with fail
    refine (kG2.out _ _ _ hA6).mono ?_
    rintro e w7 ⟨s2, g2, cp2, rfl, -, b7⟩
    have hr7 := hr6.below b7
    have hV7 := hV6.below b7
    have B7 := B6.trans (b7.mono B6.size)
    clear hA6 hr6 hV6 B6 b7
    go_wp2_with fail
    refine (kT3.out _ _ _ hV7).mono ?_
    intro e w8 hN
    obtain ⟨a8, c8, rfl, hA8, b8⟩ := newz_open hN
    rw [List.length_map, HVl.out]
    have hr8 := hr7.below b8
    have hV8 := hV7.below b8
    have B8 := B7.trans (b8.mono B7.size)
    clear hN b8 hr7 hV7 B7
    go_wp2_with fail
    refine (kG3.out _ _ _ hA8).mono ?_
    rintro e w9 ⟨s3, g3, cp3, rfl, -, b9⟩
    have hr9 := hr8.below b9
    have hV9 := hV8.below b9
    have B9 := B8.trans (b9.mono B8.size)
    clear hA8 hr8 hV8 B8 b9
    go_wp2_with fail
    refine (kT4.out _ _ _ hV9).mono ?_
    intro e u1 hN
    obtain ⟨a1', c1', rfl, hU1, d1⟩ := newz_open hN
    rw [List.length_map, HVl.out]
    have hs1 := hr9.below d1
    have D1 := B9.trans (d1.mono B9.size)
    clear hN d1 hr9 hV9 B9
    go_wp2_with fail
    refine (kG4.out _ _ _ hU1).mono ?_
    rintro e u2 ⟨s4, g4, cp4, rfl, -, d2⟩
    have hs2 := hs1.below d2
    have D2 := D1.trans (d2.mono D1.size)
    clear hU1 hs1 D1 d2 kW kB kZ kV kF kG1 kG2 kG3 kG4 kT2 kT3 kT4 a1 a2 hdec
    have HR := Hid.mk hs2
    have HD := Hid.mk D2
    clear hs2 D2
    go_wp2
    go_loopw [26, 27, 28, 29, 30, 31, 32, 33, 34, 35, 36, 37, 38] (fun f _ _ _ _ _ _ _ _ _ _ _ _ wr => ∃ (j : Nat), j ≤ m ∧ f = .int .i64 j ∧ Below u2.heap.size u2 wr) (fun f _ _ _ _ _ _ _ _ _ _ _ _ _ => m - (intOf f).toNat)
    case atStart => exact ⟨0, Nat.zero_le _, rfl, Below.refl _ _⟩
    case round =>
      obtain ⟨j, hj, rfl, hB⟩ := hrel
      have HW := Hid.mk hB
      by_cases hlt : j < m
      · have hlt' : (j : Int) < (m : Int) := by omega
        obtain ⟨c0, c1, -⟩ := z_row (HR.out.below hB) j (by rw [HSl.out]; exact hlt)
        have h3 := H3.out j hlt _ (List.getElem?_eq_getElem (by rw [HSl.out]; exact hlt))
        generalize S[j]'(by rw [HSl.out]; exact hlt) = P at *
        obtain ⟨hmq, z1, z3, z4⟩ := HQ.out
        have hj2 : j < 512 := by omega
        have v1 : IntKind.i64.wrap (2 * (j : Int)) = 2 * (j : Int) := i64_sg _ (by omega) (by omega)
        have v2 : IntKind.i64.wrap (2 * (j : Int) + 1) = 2 * (j : Int) + 1 := i64_sg _ (by omega) (by omega)
        by_cases p1 : P.1 = 0
        · have p1' : (P.1 == 0) = true := by simp [p1]
          clear h3 hB hmq z1 z3 z4 p1
          go_wp2
          go_roundw
          case rel => exact ⟨j + 1, hlt, by go_num, HW.out⟩
          case measure => simp [intOf]; omega
        · have p1' : (P.1 == 0) = false := by simp [p1]
          by_cases p2 : P.2 = 0
          · have p2' : (P.2 == 0) = true := by simp [p2]
            clear h3 hB hmq z1 z3 z4 p1 p2
            go_wp2
            go_roundw
            case rel => exact ⟨j + 1, hlt, by go_num, HW.out⟩
            case measure => simp [intOf]; omega
          · have p2' : (P.2 == 0) = false := by simp [p2]
            obtain ⟨A, B, hA, hB', f1, f2, f3, f4, f5, f6⟩ := h3 p1 p2
            obtain ⟨A2, eA2⟩ : ∃ A2 : Nat, 1 - A = A2 := ⟨_, rfl⟩
            obtain ⟨B2, eB2⟩ : ∃ B2 : Nat, 1 - B = B2 := ⟨_, rfl⟩
            rw [eA2] at f3
            rw [eB2] at f4 f5
            have k1 := bit_at C1 (2 * j) (2 * (j : Int)) (by omega) A (by omega) (by omega) f1
            have k2 := bit_at C1 (2 * j + 1) (2 * (j : Int) + 1) (by omega) B (by omega) (by omega) f2
            have k3 := bit_at C3 (2 * j) (2 * (j : Int)) (by omega) A2 (by omega) (by omega) f3
            have k4 := bit_at C3 (2 * j + 1) (2 * (j : Int) + 1) (by omega) B2 (by omega) (by omega) f4
            have k5 := bit_at C4 (2 * j) (2 * (j : Int)) (by omega) B2 (by omega) (by omega) f5
            have k6 := bit_at C4 (2 * j + 1) (2 * (j : Int) + 1) (by omega) A (by omega) (by omega) f6
            have r1 : (1 : Int) - (A : Int) = (A2 : Int) := by omega
            have r2 : (1 : Int) - (B : Int) = (B2 : Int) := by omega
            have r3 : IntKind.i64.wrap (A2 : Int) = (A2 : Int) := i64_sg _ (by omega) (by omega)
            have r4 : IntKind.i64.wrap (B2 : Int) = (B2 : Int) := i64_sg _ (by omega) (by omega)
            have r5 : wrap64 (A2 : Int) = (A2 : Int) := by unfold wrap64; omega
            have r6 : wrap64 (B2 : Int) = (B2 : Int) := by unfold wrap64; omega
            clear hB hmq z1 z3 z4 p1 p2 f1 f2 f3 f4 f5 f6 hA hB' h3 eA2 eB2
            go_wp2_with fail
            refine (k1 _).mono ?_
            rintro e x1 ⟨rfl, y1⟩
            clear k1
            go_wp2_with fail
            refine (k2 _).mono ?_
            rintro e x2 ⟨rfl, y2⟩
            clear k2
            go_wp2_with fail
            refine (k3 _).mono ?_
            rintro e x3 ⟨rfl, y3⟩
            clear k3
            go_wp2_with fail
            refine (k4 _).mono ?_
            rintro e x4 ⟨rfl, y4⟩
            clear k4
            go_wp2_with fail
            refine (k5 _).mono ?_
            rintro e x5 ⟨rfl, y5⟩
            clear k5
            go_wp2_with fail
            refine (k6 _).mono ?_
            rintro e x6 ⟨rfl, y6⟩
            clear k6
            have Y2 := HW.out.trans (y1.mono HW.out.size)
            have Y3 := Y2.trans (y2.mono Y2.size)
            have Y4 := Y3.trans (y3.mono Y3.size)
            have Y5 := Y4.trans (y4.mono Y4.size)
            have Y6 := Y5.trans (y5.mono Y5.size)
            have Y7 := Y6.trans (y6.mono Y6.size)
            have HY := Hid.mk Y7
            clear y1 y2 y3 y4 y5 y6 Y2 Y3 Y4 Y5 Y6 Y7
            go_wp2
            go_roundw
            case rel => exact ⟨j + 1, hlt, by go_num, HY.out⟩
            case measure => simp [intOf]; omega
      · clear hB
        have hlt' : ¬ (j : Int) < (m : Int) := by omega
        go_wp2
        go_ret
        exact ⟨rfl, HD.out.trans (HW.out.mono HD.out.size)⟩
  · obtain rfl : K = C := by rw [← HK1.out, if_neg hneg]
    have hdec : decide (K < 0) = false := by simp; omega
    clear hneg
    go_enter Try.func5, Try.ntmps5
    go_wp2_with fail
    refine (kW _).mono ?_
    rintro e w1 ⟨rfl, rfl⟩
    go_wp2_with fail
    refine (kB _).mono ?_
    rintro e w1 ⟨rfl, b1⟩
    go_wp2_with fail
    refine (kZ _).mono ?_
    rintro e w2 ⟨rfl, rfl⟩
    go_wp2_with fail
    refine (kV.out _ b1).mono ?_
    intro e w3 hN
    obtain ⟨a3, c3, rfl, hA, b3⟩ := newz_open hN
    rw [HVl.out]
    have B3 := b1.trans (b3.mono b1.size)
    clear hN b3 b1
    go_wp2_with fail
    refine (kF _).mono ?_
    rintro e w4 ⟨rfl, rfl⟩
    go_wp2_with fail
    refine (kG1.out _ _ _ hA).mono ?_
    rintro e w5 ⟨s1, g1, cp1, rfl, hr1, b5⟩
    have hA5 := hA.below b5
    have B5 := B3.trans (b5.mono B3.size)
    clear hA B3 b5
    go_wp2_with fail
    refine (kT2.out _ _ _ hA5).mono ?_
    intro e w6 hN
    obtain ⟨a6, c6, rfl, hA6, b6⟩ := newz_open hN
    rw [List.length_map, HVl.out]
    have hr6 := hr1.below b6
    have hV6 := hA5.below b6
    have B6 := B5.trans (b6.mono B5.size)
    clear hN b6 hr1 hA5 B5
    go_wp2_with fail
    refine (kG2.out _ _ _ hA6).mono ?_
    rintro e w7 ⟨s2, g2, cp2, rfl, -, b7⟩
    have hr7 := hr6.below b7
    have hV7 := hV6.below b7
    have B7 := B6.trans (b7.mono B6.size)
    clear hA6 hr6 hV6 B6 b7
    go_wp2_with fail
    refine (kT3.out _ _ _ hV7).mono ?_
    intro e w8 hN
    obtain ⟨a8, c8, rfl, hA8, b8⟩ := newz_open hN
    rw [List.length_map, HVl.out]
    have hr8 := hr7.below b8
    have hV8 := hV7.below b8
    have B8 := B7.trans (b8.mono B7.size)
    clear hN b8 hr7 hV7 B7
    go_wp2_with fail
    refine (kG3.out _ _ _ hA8).mono ?_
    rintro e w9 ⟨s3, g3, cp3, rfl, -, b9⟩
    have hr9 := hr8.below b9
    have hV9 := hV8.below b9
    have B9 := B8.trans (b9.mono B8.size)
    clear hA8 hr8 hV8 B8 b9
    go_wp2_with fail
    refine (kT4.out _ _ _ hV9).mono ?_
    intro e u1 hN
    obtain ⟨a1', c1', rfl, hU1, d1⟩ := newz_open hN
    rw [List.length_map, HVl.out]
    have hs1 := hr9.below d1
    have D1 := B9.trans (d1.mono B9.size)
    clear hN d1 hr9 hV9 B9
    go_wp2_with fail
    refine (kG4.out _ _ _ hU1).mono ?_
    rintro e u2 ⟨s4, g4, cp4, rfl, -, d2⟩
    have hs2 := hs1.below d2
    have D2 := D1.trans (d2.mono D1.size)
    clear hU1 hs1 D1 d2 kW kB kZ kV kF kG1 kG2 kG3 kG4 kT2 kT3 kT4 a1 a2 hdec
    have HR := Hid.mk hs2
    have HD := Hid.mk D2
    clear hs2 D2
    go_wp2
    go_loopw [26, 27, 28, 29, 30, 31, 32, 33, 34, 35, 36, 37, 38] (fun f _ _ _ _ _ _ _ _ _ _ _ _ wr => ∃ (j : Nat), j ≤ m ∧ f = .int .i64 j ∧ Below u2.heap.size u2 wr) (fun f _ _ _ _ _ _ _ _ _ _ _ _ _ => m - (intOf f).toNat)
    case atStart => exact ⟨0, Nat.zero_le _, rfl, Below.refl _ _⟩
    case round =>
      obtain ⟨j, hj, rfl, hB⟩ := hrel
      have HW := Hid.mk hB
      by_cases hlt : j < m
      · have hlt' : (j : Int) < (m : Int) := by omega
        obtain ⟨c0, c1, -⟩ := z_row (HR.out.below hB) j (by rw [HSl.out]; exact hlt)
        have h3 := H3.out j hlt _ (List.getElem?_eq_getElem (by rw [HSl.out]; exact hlt))
        generalize S[j]'(by rw [HSl.out]; exact hlt) = P at *
        obtain ⟨hmq, z1, z3, z4⟩ := HQ.out
        have hj2 : j < 512 := by omega
        have v1 : IntKind.i64.wrap (2 * (j : Int)) = 2 * (j : Int) := i64_sg _ (by omega) (by omega)
        have v2 : IntKind.i64.wrap (2 * (j : Int) + 1) = 2 * (j : Int) + 1 := i64_sg _ (by omega) (by omega)
        by_cases p1 : P.1 = 0
        · have p1' : (P.1 == 0) = true := by simp [p1]
          clear h3 hB hmq z1 z3 z4 p1
          go_wp2
          go_roundw
          case rel => exact ⟨j + 1, hlt, by go_num, HW.out⟩
          case measure => simp [intOf]; omega
        · have p1' : (P.1 == 0) = false := by simp [p1]
          by_cases p2 : P.2 = 0
          · have p2' : (P.2 == 0) = true := by simp [p2]
            clear h3 hB hmq z1 z3 z4 p1 p2
            go_wp2
            go_roundw
            case rel => exact ⟨j + 1, hlt, by go_num, HW.out⟩
            case measure => simp [intOf]; omega
          · have p2' : (P.2 == 0) = false := by simp [p2]
            obtain ⟨A, B, hA, hB', f1, f2, f3, f4, f5, f6⟩ := h3 p1 p2
            obtain ⟨A2, eA2⟩ : ∃ A2 : Nat, 1 - A = A2 := ⟨_, rfl⟩
            obtain ⟨B2, eB2⟩ : ∃ B2 : Nat, 1 - B = B2 := ⟨_, rfl⟩
            rw [eA2] at f3
            rw [eB2] at f4 f5
            have k1 := bit_at C1 (2 * j) (2 * (j : Int)) (by omega) A (by omega) (by omega) f1
            have k2 := bit_at C1 (2 * j + 1) (2 * (j : Int) + 1) (by omega) B (by omega) (by omega) f2
            have k3 := bit_at C3 (2 * j) (2 * (j : Int)) (by omega) A2 (by omega) (by omega) f3
            have k4 := bit_at C3 (2 * j + 1) (2 * (j : Int) + 1) (by omega) B2 (by omega) (by omega) f4
            have k5 := bit_at C4 (2 * j) (2 * (j : Int)) (by omega) B2 (by omega) (by omega) f5
            have k6 := bit_at C4 (2 * j + 1) (2 * (j : Int) + 1) (by omega) A (by omega) (by omega) f6
            have r1 : (1 : Int) - (A : Int) = (A2 : Int) := by omega
            have r2 : (1 : Int) - (B : Int) = (B2 : Int) := by omega
            have r3 : IntKind.i64.wrap (A2 : Int) = (A2 : Int) := i64_sg _ (by omega) (by omega)
            have r4 : IntKind.i64.wrap (B2 : Int) = (B2 : Int) := i64_sg _ (by omega) (by omega)
            have r5 : wrap64 (A2 : Int) = (A2 : Int) := by unfold wrap64; omega
            have r6 : wrap64 (B2 : Int) = (B2 : Int) := by unfold wrap64; omega
            clear hB hmq z1 z3 z4 p1 p2 f1 f2 f3 f4 f5 f6 hA hB' h3 eA2 eB2
            go_wp2_with fail
            refine (k1 _).mono ?_
            rintro e x1 ⟨rfl, y1⟩
            clear k1
            go_wp2_with fail
            refine (k2 _).mono ?_
            rintro e x2 ⟨rfl, y2⟩
            clear k2
            go_wp2_with fail
            refine (k3 _).mono ?_
            rintro e x3 ⟨rfl, y3⟩
            clear k3
            go_wp2_with fail
            refine (k4 _).mono ?_
            rintro e x4 ⟨rfl, y4⟩
            clear k4
            go_wp2_with fail
            refine (k5 _).mono ?_
            rintro e x5 ⟨rfl, y5⟩
            clear k5
            go_wp2_with fail
            refine (k6 _).mono ?_
            rintro e x6 ⟨rfl, y6⟩
            clear k6
            have Y2 := HW.out.trans (y1.mono HW.out.size)
            have Y3 := Y2.trans (y2.mono Y2.size)
            have Y4 := Y3.trans (y3.mono Y3.size)
            have Y5 := Y4.trans (y4.mono Y4.size)
            have Y6 := Y5.trans (y5.mono Y5.size)
            have Y7 := Y6.trans (y6.mono Y6.size)
            have HY := Hid.mk Y7
            clear y1 y2 y3 y4 y5 y6 Y2 Y3 Y4 Y5 Y6 Y7
            go_wp2
            go_roundw
            case rel => exact ⟨j + 1, hlt, by go_num, HY.out⟩
            case measure => simp [intOf]; omega
      · clear hB
        have hlt' : ¬ (j : Int) < (m : Int) := by omega
        go_wp2
        go_ret
        exact ⟨rfl, HD.out.trans (HW.out.mono HD.out.size)⟩
end Go.Proofs.Ytmdmjjobhkpojaa
