/-
  DERIVED. SignFar: its walk.
-/
import Derived.Test.YtmdmjjobhkpojaaDoorQLen0
import Derived.Test.YtmdmjjobhkpojaaDoorQWt
set_option linter.unusedVariables false
set_option linter.unusedSimpArgs false
namespace Go.Proofs.YtmdmjjobhkpojaaDoor
open Go.RowKit Go.Shelf Go.Proofs.BitMath Go.Proofs.FloatMath
theorem b01_xor (x y : Bool) : (b01 x + b01 y) % 2 = b01 (x != y) := by cases x <;> cases y <;> decide
/-- In how many of the first bits two codes are unlike. -/
def farB (A B : ByteArray) (k : Nat) : Nat := sumTo (bitL (xorL A.data.toList B.data.toList)) k
theorem far_step (wd : Nat) (sd : Int) (u v : List Zp) (hw : wd % 8 = 0) (j : Nat) (hj : j < wd / 2) :
    farB (cdS wd sd u) (cdS wd sd v) (2 * j + 1) = farB (cdS wd sd u) (cdS wd sd v) (2 * j) + b01 (decide (0 < (sumZ sd j u u.length).1) != decide (0 < (sumZ sd j v v.length).1)) ∧
    farB (cdS wd sd u) (cdS wd sd v) (2 * (j + 1)) = farB (cdS wd sd u) (cdS wd sd v) (2 * j + 1) + b01 (decide (0 < (sumZ sd j u u.length).2) != decide (0 < (sumZ sd j v v.length).2)) := by
  have e1 := cd_bit wd sd u hw j hj
  have e2 := cd_bit wd sd v hw j hj
  have l1 : (cdS wd sd u).data.toList.length = wd / 8 := cdS_size wd sd u
  have l2 : (cdS wd sd v).data.toList.length = wd / 8 := cdS_size wd sd v
  have x1 := bitL_xor (cdS wd sd u).data.toList (cdS wd sd v).data.toList (by rw [l1, l2]) (2 * j) (by rw [l1]; omega)
  have x2 := bitL_xor (cdS wd sd u).data.toList (cdS wd sd v).data.toList (by rw [l1, l2]) (2 * j + 1) (by rw [l1]; omega)
  rw [e1.1, e2.1, b01_xor] at x1
  rw [e1.2, e2.2, b01_xor] at x2
  constructor
  · show sumTo _ (2 * j) + _ = _
    rw [x1]; rfl
  · show sumTo _ (2 * j + 1) + bitL (xorL (cdS wd sd u).data.toList (cdS wd sd v).data.toList) (2 * j + 1) = _
    rw [x2]; rfl
theorem far_end (wd : Nat) (sd : Int) (u v : List Zp) (hw : wd % 8 = 0) : farB (cdS wd sd u) (cdS wd sd v) (2 * (wd / 2)) = wt (xorL (cdS wd sd u).data.toList (cdS wd sd v).data.toList) := by
  have l1 : (cdS wd sd u).data.toList.length = wd / 8 := cdS_size wd sd u
  have l2 : (cdS wd sd v).data.toList.length = wd / 8 := cdS_size wd sd v
  have hl := xorL_length (cdS wd sd u).data.toList (cdS wd sd v).data.toList (by rw [l1, l2])
  have h := sumTo_bits (xorL (cdS wd sd u).data.toList (cdS wd sd v).data.toList) (wd / 8) (by rw [hl, l1]; exact Nat.le_refl _)
  rw [List.take_of_length_le (by rw [hl, l1]; exact Nat.le_refl _)] at h
  rw [← h]
  unfold farB
  rw [show 2 * (wd / 2) = 8 * (wd / 8) by omega]
theorem vec_zero (n : Nat) : vecL [] n 1 = List.replicate n (0, 0) := by
  apply List.ext_getElem
  · simp [vecL]
  · intro i h1 h2
    simp [vecL, zfit, fitI]
theorem cm_zero (u : Int) : cm (0, 0) u = (0, 0) := by
  unfold cm
  cases (u == 0) <;> cases (u == 1) <;> cases (u == 2) <;> simp
theorem sumZ_zero (sd : Int) (j n : Nat) : ∀ k, sumZ sd j (List.replicate n (0, 0)) k = (0, 0)
  | 0 => rfl
  | k + 1 => by
    have e : (List.replicate n ((0, 0) : Zp)).getD k (0, 0) = (0, 0) := by
      rw [List.getD_eq_getElem?_getD]
      rcases Nat.lt_or_ge k n with h | h
      · rw [List.getElem?_eq_getElem (by simpa using h)]; simp
      · rw [List.getElem?_eq_none (by simpa using h)]; rfl
    simp only [sumZ, e, cm_zero, sumZ_zero sd j n k, addZ]; simp
theorem pbN_zero (S : List Zp) (hS : ∀ p ∈ S, p = (0, 0)) (i : Nat) : ∀ t, pbN S i t = 0
  | 0 => rfl
  | t + 1 => by
    have e : S.getD (4 * i + t) (0, 0) = (0, 0) := by
      rw [List.getD_eq_getElem?_getD]
      cases h : S[4 * i + t]? with
      | none => rfl
      | some p => simp only [Option.getD_some]; exact hS p (List.mem_of_getElem? h)
    simp only [pbN, pbN_zero S hS i t, e]; decide
theorem wt_rep0 : ∀ n, wt (List.replicate n 0) = 0
  | 0 => rfl
  | n + 1 => by rw [List.replicate_succ]; show popB (0 : UInt8).toNat + wt _ = 0; rw [wt_rep0 n]; decide
theorem cd_zero (wd : Nat) (sd : Int) (n : Nat) : wt (cdS wd sd (List.replicate n (0, 0))).data.toList = 0 := by
  have hS : ∀ p ∈ sumsL wd sd (List.replicate n (0, 0)), p = (0, 0) := by
    intro p hp
    obtain ⟨j, -, rfl⟩ := List.mem_map.1 hp
    exact sumZ_zero sd j n _
  have e : (cdS wd sd (List.replicate n (0, 0))).data.toList = List.replicate (wd / 8) 0 := by
    show codeL _ _ = _
    apply List.ext_getElem
    · simp [codeL, byT_len]
    · intro i h1 h2
      simp only [codeL, byT, byN, List.getElem_map, List.getElem_range, List.getElem_replicate, pbN_zero _ hS]; rfl
  rw [e, wt_rep0]
set_option maxRecDepth 100000 in
set_option maxHeartbeats 8000000 in
theorem law_far (x sd : Int) (la : Option Addr) (cap : Nat) (u0 : List Zp) (la' : Option Addr) (cap' : Nat) (v0 : List Zp) (w : World) (ht : Tab w) (hg0 : 0 < w.heap.size) (hu : zE.At w la u0) (hv : zE.At w la' v0) (hlu : u0.length < 4611686018427387904) (hlv : v0.length < 4611686018427387904) :
    Calls Tryd.prog 3 #[.int .i64 x, .int .u64 sd, .slice la u0.length cap, .slice la' v0.length cap'] w fun e w' => e = .returned (.bool true) ∧ Below w.heap.size w w' := by
  obtain ⟨wd, ew, h64, h1024, hm⟩ := wdI_ok x
  have kW := width_any x
  rw [ew] at kW
  have kB := fun W => begun_any wd sd W h64 h1024 hm
  have kZ := fun W => size_any la u0.length cap W hlu
  have hz := szN_bd u0.length
  obtain ⟨n, en⟩ : ∃ n, szN u0.length = n := ⟨_, rfl⟩
  rw [en] at kZ hz
  have kU := fun W (b : Below w.heap.size w W) => vector_any la cap u0 n 1048576 W (hu.below b) hlu (by omega) (by omega) (by omega)
  have kV := fun W (b : Below w.heap.size w W) => vector_any la' cap' v0 n 1048576 W (hv.below b) hlv (by omega) (by omega) (by omega)
  have kO := fun W => vector_any none 0 [] n 1 W ⟨fun h => absurd rfl h⟩ (by simp) (by omega) (by omega) (by omega)
  rw [vec_zero] at kO
  simp only [List.length_nil] at kO
  have hUb : ∀ p ∈ vecL u0 n 1048576, p.1.natAbs ≤ 1048576 ∧ p.2.natAbs ≤ 1048576 := vecL_bd u0 n 1048576 (by omega)
  have hUl := vecL_len u0 n 1048576
  obtain ⟨U, eU⟩ : ∃ U, vecL u0 n 1048576 = U := ⟨_, rfl⟩
  rw [eU] at kU hUb hUl
  have hVb : ∀ p ∈ vecL v0 n 1048576, p.1.natAbs ≤ 1048576 ∧ p.2.natAbs ≤ 1048576 := vecL_bd v0 n 1048576 (by omega)
  have hVl := vecL_len v0 n 1048576
  obtain ⟨V, eV⟩ : ∃ V, vecL v0 n 1048576 = V := ⟨_, rfl⟩
  rw [eV] at kV hVb hVl
  have okU : U.all okP = true := all_okP hUb
  have okV : V.all okP = true := all_okP hVb
  have okO : (List.replicate n ((0, 0) : Zp)).all okP = true := all_okP fun p hp => by
    rw [List.eq_of_mem_replicate hp]; simp
  have hOl : (List.replicate n ((0, 0) : Zp)).length = n := by simp
  obtain ⟨m, em⟩ : ∃ m, wd / 2 = m := ⟨_, rfl⟩
  obtain ⟨q, eq⟩ : ∃ q, wd / 8 = q := ⟨_, rfl⟩
  obtain ⟨Sa, eSa⟩ : ∃ S, sumsL wd sd U = S := ⟨_, rfl⟩
  obtain ⟨Sb, eSb⟩ : ∃ S, sumsL wd sd V = S := ⟨_, rfl⟩
  obtain ⟨C1, e1⟩ : ∃ C, cdS wd sd U = C := ⟨_, rfl⟩
  obtain ⟨C2, e2⟩ : ∃ C, cdS wd sd V = C := ⟨_, rfl⟩
  obtain ⟨C3, e3⟩ : ∃ C, cdS wd sd (List.replicate n (0, 0)) = C := ⟨_, rfl⟩
  have z1 := cdS_size wd sd U
  have z2 := cdS_size wd sd V
  have z3 := cdS_size wd sd (List.replicate n (0, 0))
  have hst := far_step wd sd U V (by omega)
  have hen := far_end wd sd U V (by omega)
  have h0 := cd_zero wd sd n
  rw [e1] at z1
  rw [e2] at z2
  rw [e3] at z3 h0
  rw [eq] at z1 z2 z3
  simp only [e1, e2, em] at hst hen
  have kG1 := fun W l2 c2 (hA : zE.At W l2 U) => sgdq em e1 eSa (signed_any wd sd l2 c2 U W h64 h1024 hm hA (by omega) (by omega) okU)
  have kG2 := fun W l2 c2 (hA : zE.At W l2 V) => sgdq em e2 eSb (signed_any wd sd l2 c2 V W h64 h1024 hm hA (by omega) (by omega) okV)
  have kG3 := fun W l2 c2 (hA : zE.At W l2 (List.replicate n (0, 0))) => sgdq em e3 rfl (signed_any wd sd l2 c2 (List.replicate n (0, 0)) W h64 h1024 hm hA (by rw [hOl]; omega) (by rw [hOl]; omega) okO)
  have hla : Sa.length = m := by rw [← eSa, sumsL_len, em]
  have hlb : Sb.length = m := by rw [← eSb, sumsL_len, em]
  rw [hUl] at kG1
  rw [hVl] at kG2
  rw [hOl] at kG3
  have kD := fun W (t : Tab W) => distance_yes C1 C2 W (by omega) (by omega) t
  have kH := fun W (t : Tab W) => weight_any C3 W (by omega) t
  rw [h0] at kH
  have hsa : ∀ j (hj : j < Sa.length), Sa[j] = sumZ sd j U U.length := fun j hj => by subst eSa; exact sumsL_at hj
  have hsb : ∀ j (hj : j < Sb.length), Sb[j] = sumZ sd j V V.length := fun j hj => by subst eSb; exact sumsL_at hj
  have hF : ∀ j, j < m → ∀ P Q : Zp, Sa[j]? = some P → Sb[j]? = some Q → farB C1 C2 (2 * j + 1) = farB C1 C2 (2 * j) + b01 (decide (0 < P.1) != decide (0 < Q.1)) ∧ farB C1 C2 (2 * (j + 1)) = farB C1 C2 (2 * j + 1) + b01 (decide (0 < P.2) != decide (0 < Q.2)) := by
    intro j hj P Q hP hQ
    have h := hst j hj
    rw [List.getElem?_eq_getElem (by omega), hsa] at hP
    rw [List.getElem?_eq_getElem (by omega), hsb] at hQ
    simp only [Option.some.injEq] at hP hQ
    rw [hP, hQ] at h
    exact h
  have hle : ∀ k, farB C1 C2 k ≤ k := fun k => sumTo_le _ (fun i => bitL_le _ i) k
  have hm5 : m ≤ 512 := by omega
  obtain ⟨N, eN⟩ : ∃ N, u0.length = N := ⟨_, rfl⟩
  obtain ⟨N', eN'⟩ : ∃ N, v0.length = N := ⟨_, rfl⟩
  rw [eN] at kZ kU ⊢
  rw [eN'] at kV ⊢
  have HT : Hid (∀ W, Below w.heap.size w W → Tab W) := fun W b => ht.below b hg0
  have HU := Hid.mk (And.intro hUl (And.intro hVl (And.intro hOl (And.intro hla hlb))))
  have HF := Hid.mk (And.intro hF (And.intro hen hle))
  have kG1 := Hid.mk kG1
  have kG2 := Hid.mk kG2
  have kG3 := Hid.mk kG3
  have kU := Hid.mk kU
  have kV := Hid.mk kV
  have kO := Hid.mk kO
  have kD := Hid.mk kD
  have kH := Hid.mk kH
  clear ht hg0 hu hv hlu hlv hz hUb hVb hUl hVl hOl okU okV okO h64 h1024 hm eN eN' eU eV en ew eSa eSb e1 e2 e3 z1 z2 z3 hst hen h0 em eq hla hlb hsa hsb hF hle
  go_enter Tryd.func3, Tryd.ntmps3
  go_wp2_with fail
  refine (kW _).mono ?_
  rintro e w1 ⟨rfl, rfl⟩
  go_wp2_with fail
  refine (kB _).mono ?_
  rintro e w1 ⟨rfl, b1⟩
  go_wp2_with fail
  refine (kZ _).mono ?_
  rintro e w2 ⟨rfl, rfl⟩
  go_wp2_with fail
  refine (kU.out _ b1).mono ?_
  intro e w3 hN
  obtain ⟨au, cu, rfl, hA3, b3⟩ := newz_open hN
  rw [HU.out.1]
  have B3 := b1.trans (b3.mono b1.size)
  clear hN b3 b1
  go_wp2_with fail
  refine (kV.out _ B3).mono ?_
  intro e w4 hN
  obtain ⟨av, cv, rfl, hV4, b4⟩ := newz_open hN
  rw [HU.out.2.1]
  have B4 := B3.trans (b4.mono B3.size)
  have hU4 := hA3.below b4
  clear hN b4 B3 hA3 kW kB kZ kU kV
  go_wp2_with fail
  refine (kG1.out _ _ _ hU4).mono ?_
  rintro e w5 ⟨s1, ga, cp1, rfl, r1, b5⟩
  have hV5 := hV4.below b5
  have B5 := B4.trans (b5.mono B4.size)
  clear hU4 hV4 b5 B4 kG1
  go_wp2_with fail
  refine (kG2.out _ _ _ hV5).mono ?_
  rintro e w6 ⟨s2, gb, cp2, rfl, t2, b6⟩
  have r2 := r1.below b6
  have B6 := B5.trans (b6.mono B5.size)
  clear hV5 b6 B5 kG2 r1
  go_wp2_with fail
  refine (kO.out _).mono ?_
  intro e w7 hN
  obtain ⟨ao, co, rfl, hO7, b7⟩ := newz_open hN
  rw [HU.out.2.2.1]
  have r3 := r2.below b7
  have t3 := t2.below b7
  have B7 := B6.trans (b7.mono B6.size)
  clear hN b7 B6 kO r2 t2
  go_wp2_with fail
  refine (kG3.out _ _ _ hO7).mono ?_
  rintro e w8 ⟨s3, gz, cp3, rfl, -, b8⟩
  have r4 := r3.below b8
  have t4 := t3.below b8
  have B8 := B7.trans (b8.mono B7.size)
  clear hO7 b8 B7 kG3 r3 t3
  go_wp2_with fail
  refine (kD.out _ (HT.out _ B8)).mono ?_
  rintro e w9 ⟨rfl, d9⟩
  have r5 := r4.below (d9.below _)
  have t5 := t4.below (d9.below _)
  have B9 := B8.trans ((d9.below _).mono B8.size)
  clear d9 B8 r4 t4 kD
  obtain ⟨DD, eDD⟩ : ∃ D, wt (xorL C1.data.toList C2.data.toList) = D := ⟨_, rfl⟩
  rw [eDD]
  have HDD := Hid.mk eDD
  clear eDD
  go_wp2_with fail
  refine (kH.out _ (HT.out _ B9)).mono ?_
  rintro e u1 ⟨rfl, d1⟩
  have H9 := Hid.mk (And.intro (r5.below (d1.below _)) (And.intro (t5.below (d1.below _)) (B9.trans ((d1.below _).mono B9.size))))
  clear d1 B9 r5 t5 kH
  go_wp2
  go_loopw [25, 26] (fun c f wr => ∃ (j : Nat), j ≤ m ∧ f = .int .i64 j ∧ c = .int .i64 (farB C1 C2 (2 * j) : Nat) ∧ Drew u1 wr) (fun _ f _ => m - (intOf f).toNat)
  case atStart => exact ⟨0, Nat.zero_le _, rfl, rfl, Drew.refl _⟩
  case round =>
    obtain ⟨j, hj, rfl, rfl, hB⟩ := hrel
    have HW := Hid.mk hB
    by_cases hjt : j < m
    · have hj' : (j : Int) < (m : Int) := by omega
      obtain ⟨l1, l2, l3, l4, l5⟩ := HU.out
      obtain ⟨c0, c1, -⟩ := z_row (H9.out.1.below (hB.below _)) j (by omega)
      obtain ⟨c2, c3, -⟩ := z_row (H9.out.2.1.below (hB.below _)) j (by omega)
      have hs := HF.out.1 j hjt _ _ (List.getElem?_eq_getElem (by omega)) (List.getElem?_eq_getElem (by omega))
      have hfl := HF.out.2.2 (2 * j)
      obtain ⟨P, eP⟩ : ∃ P, Sa[j]'(by omega) = P := ⟨_, rfl⟩
      obtain ⟨Q, eQ⟩ : ∃ Q, Sb[j]'(by omega) = Q := ⟨_, rfl⟩
      rw [eP] at c0 c1 hs
      rw [eQ] at c2 c3 hs
      obtain ⟨Fj, eF⟩ : ∃ F, farB C1 C2 (2 * j) = F := ⟨_, rfl⟩
      rw [eF] at hs hfl ⊢
      clear l1 l2 l3 l4 l5 hB eP eQ
      have HSS := Hid.mk hs
      clear hs eF
      obtain ⟨B1, eB1⟩ : ∃ B, decide (0 < P.1) = B := ⟨_, rfl⟩
      obtain ⟨B2, eB2⟩ : ∃ B, decide (0 < Q.1) = B := ⟨_, rfl⟩
      obtain ⟨B3, eB3⟩ : ∃ B, decide (0 < P.2) = B := ⟨_, rfl⟩
      obtain ⟨B4, eB4⟩ : ∃ B, decide (0 < Q.2) = B := ⟨_, rfl⟩
      cases hd1 : (B1 != B2)
      · have hx1 : (B1 == B2) = true := by cases B1 <;> cases B2 <;> first | rfl | cases hd1
        cases hd2 : (B3 != B4)
        · have hx2 : (B3 == B4) = true := by cases B3 <;> cases B4 <;> first | rfl | cases hd2
          have HX : Hid (farB C1 C2 (2 * (j + 1)) = Fj + 0) := by show _ = _; rw [HSS.out.2, HSS.out.1, eB1, eB2, eB3, eB4, hd1, hd2]; simp [b01]
          clear HSS
          go_wp2_with fail
          refine wp_region_held_drew (S := fun w' => w'.cell? ⟨ga, j * 2, none⟩ = some (.int .i64 P.1) ∧ w'.cell? ⟨gb, j * 2, none⟩ = some (.int .i64 Q.1)) (by kernel_rfl) ?_ (fun hHeld => ?_)
          · exact ⟨c0, c2⟩
          refine wpAnyH_take (i := 0) (oi := { dst := some 103, op := Op.move (Operand.tmp 12), type := 23, pos := "plain.go:169", after := #[], guard := none }) (v := ?vp000) rfl (by kernel_rfl) (by kernel_rfl) (by kernel_rfl) (fun _ _ _ h => h) (Or.inl ⟨by rfl, ?hp000⟩) (by assumption) ?rp000
          case hp000 => (intro w0 hSw; (try dsimp only at hSw); go_simp; try (with_reducible rfl))
          simp only [Act.put, List.setIfInBounds_toArray, List.set_cons_zero, List.set_cons_succ]
          refine wpAnyH_take (i := 1) (oi := { dst := some 104, op := Op.move (Operand.tmp 26), type := 3, pos := "plain.go:169", after := #[], guard := none }) (v := ?vp001) rfl (by kernel_rfl) (by kernel_rfl) (by kernel_rfl) (fun _ _ _ h => h) (Or.inl ⟨by rfl, ?hp001⟩) (by assumption) ?rp001
          case hp001 => (intro w0 hSw; (try dsimp only at hSw); go_simp; try (with_reducible rfl))
          simp only [Act.put, List.setIfInBounds_toArray, List.set_cons_zero, List.set_cons_succ]
          refine wpAnyH_take (i := 2) (oi := { dst := some 105, op := Op.indexAddr 23 (Operand.tmp 103) (Operand.tmp 104), type := 0, pos := "plain.go:169", after := #[{ on := 0, ground := Ground.data }, { on := 1, ground := Ground.data }], guard := none }) (v := ?vp002) rfl (by kernel_rfl) (by kernel_rfl) (by kernel_rfl) (fun _ _ _ h => h) (Or.inl ⟨by rfl, ?hp002⟩) (by assumption) ?rp002
          case hp002 => (intro w0 hSw; (try dsimp only at hSw); go_simp; try (with_reducible rfl))
          simp only [Act.put, List.setIfInBounds_toArray, List.set_cons_zero, List.set_cons_succ]
          refine wpAnyH_take (i := 3) (oi := { dst := some 106, op := Op.fieldAddr 36 (Operand.tmp 105) 0, type := 0, pos := "plain.go:169", after := #[{ on := 2, ground := Ground.data }], guard := none }) (v := ?vp003) rfl (by kernel_rfl) (by kernel_rfl) (by kernel_rfl) (fun _ _ _ h => h) (Or.inl ⟨by rfl, ?hp003⟩) (by assumption) ?rp003
          case hp003 => (intro w0 hSw; (try dsimp only at hSw); go_simp; try (with_reducible rfl))
          simp only [Act.put, List.setIfInBounds_toArray, List.set_cons_zero, List.set_cons_succ]
          refine wpAnyH_take (i := 4) (oi := { dst := some 107, op := Op.load 3 (Operand.tmp 106), type := 3, pos := "plain.go:169", after := #[{ on := 3, ground := Ground.data }], guard := none }) (v := ?vp004) rfl (by kernel_rfl) (by kernel_rfl) (by kernel_rfl) (fun _ _ _ h => h) (Or.inl ⟨by rfl, ?hp004⟩) (by assumption) ?rp004
          case hp004 => (intro w0 hSw; (try dsimp only at hSw); go_simp; try (with_reducible rfl))
          simp only [Act.put, List.setIfInBounds_toArray, List.set_cons_zero, List.set_cons_succ]
          refine wpAnyH_take (i := 5) (oi := { dst := some 108, op := Op.binOp BinOp.gtr 3 (Operand.tmp 107) (Operand.const (Value.int IntKind.i64 0)) 3, type := 4, pos := "plain.go:169", after := #[{ on := 4, ground := Ground.data }], guard := none }) (v := ?vp005) rfl (by kernel_rfl) (by kernel_rfl) (by kernel_rfl) (fun _ _ _ h => h) (Or.inl ⟨by rfl, ?hp005⟩) (by assumption) ?rp005
          case hp005 => (intro w0 hSw; (try dsimp only at hSw); go_simp; try (with_reducible rfl))
          simp only [Act.put, List.setIfInBounds_toArray, List.set_cons_zero, List.set_cons_succ]
          refine wpAnyH_take (i := 6) (oi := { dst := some 109, op := Op.move (Operand.tmp 16), type := 23, pos := "plain.go:169", after := #[], guard := none }) (v := ?vp006) rfl (by kernel_rfl) (by kernel_rfl) (by kernel_rfl) (fun _ _ _ h => h) (Or.inl ⟨by rfl, ?hp006⟩) (by assumption) ?rp006
          case hp006 => (intro w0 hSw; (try dsimp only at hSw); go_simp; try (with_reducible rfl))
          simp only [Act.put, List.setIfInBounds_toArray, List.set_cons_zero, List.set_cons_succ]
          refine wpAnyH_take (i := 7) (oi := { dst := some 110, op := Op.move (Operand.tmp 26), type := 3, pos := "plain.go:169", after := #[], guard := none }) (v := ?vp007) rfl (by kernel_rfl) (by kernel_rfl) (by kernel_rfl) (fun _ _ _ h => h) (Or.inl ⟨by rfl, ?hp007⟩) (by assumption) ?rp007
          case hp007 => (intro w0 hSw; (try dsimp only at hSw); go_simp; try (with_reducible rfl))
          simp only [Act.put, List.setIfInBounds_toArray, List.set_cons_zero, List.set_cons_succ]
          refine wpAnyH_take (i := 8) (oi := { dst := some 111, op := Op.indexAddr 23 (Operand.tmp 109) (Operand.tmp 110), type := 0, pos := "plain.go:169", after := #[{ on := 6, ground := Ground.data }, { on := 7, ground := Ground.data }], guard := none }) (v := ?vp008) rfl (by kernel_rfl) (by kernel_rfl) (by kernel_rfl) (fun _ _ _ h => h) (Or.inl ⟨by rfl, ?hp008⟩) (by assumption) ?rp008
          case hp008 => (intro w0 hSw; (try dsimp only at hSw); go_simp; try (with_reducible rfl))
          simp only [Act.put, List.setIfInBounds_toArray, List.set_cons_zero, List.set_cons_succ]
          refine wpAnyH_take (i := 9) (oi := { dst := some 112, op := Op.fieldAddr 36 (Operand.tmp 111) 0, type := 0, pos := "plain.go:169", after := #[{ on := 8, ground := Ground.data }], guard := none }) (v := ?vp009) rfl (by kernel_rfl) (by kernel_rfl) (by kernel_rfl) (fun _ _ _ h => h) (Or.inl ⟨by rfl, ?hp009⟩) (by assumption) ?rp009
          case hp009 => (intro w0 hSw; (try dsimp only at hSw); go_simp; try (with_reducible rfl))
          simp only [Act.put, List.setIfInBounds_toArray, List.set_cons_zero, List.set_cons_succ]
          refine wpAnyH_take (i := 10) (oi := { dst := some 113, op := Op.load 3 (Operand.tmp 112), type := 3, pos := "plain.go:169", after := #[{ on := 9, ground := Ground.data }], guard := none }) (v := ?vp0010) rfl (by kernel_rfl) (by kernel_rfl) (by kernel_rfl) (fun _ _ _ h => h) (Or.inl ⟨by rfl, ?hp0010⟩) (by assumption) ?rp0010
          case hp0010 => (intro w0 hSw; (try dsimp only at hSw); go_simp; try (with_reducible rfl))
          simp only [Act.put, List.setIfInBounds_toArray, List.set_cons_zero, List.set_cons_succ]
          refine wpAnyH_take (i := 11) (oi := { dst := some 114, op := Op.binOp BinOp.gtr 3 (Operand.tmp 113) (Operand.const (Value.int IntKind.i64 0)) 3, type := 4, pos := "plain.go:169", after := #[{ on := 10, ground := Ground.data }], guard := none }) (v := ?vp0011) rfl (by kernel_rfl) (by kernel_rfl) (by kernel_rfl) (fun _ _ _ h => h) (Or.inl ⟨by rfl, ?hp0011⟩) (by assumption) ?rp0011
          case hp0011 => (intro w0 hSw; (try dsimp only at hSw); go_simp; try (with_reducible rfl))
          simp only [Act.put, List.setIfInBounds_toArray, List.set_cons_zero, List.set_cons_succ]
          refine wpAnyH_take (i := 12) (oi := { dst := some 115, op := Op.binOp BinOp.neq 4 (Operand.tmp 108) (Operand.tmp 114) 4, type := 4, pos := "plain.go:169", after := #[{ on := 5, ground := Ground.data }, { on := 11, ground := Ground.data }], guard := none }) (v := ?vp0012) rfl (by kernel_rfl) (by kernel_rfl) (by kernel_rfl) (fun _ _ _ h => h) (Or.inl ⟨by rfl, ?hp0012⟩) (by assumption) ?rp0012
          case hp0012 => (intro w0 hSw; (try dsimp only at hSw); go_simp; try (with_reducible rfl))
          simp only [Act.put, List.setIfInBounds_toArray, List.set_cons_zero, List.set_cons_succ]
          refine wpAnyH_done (by kernel_rfl) ?_ _
          go_wp2_with fail
          refine wp_region_held_drew (S := fun w' => w'.cell? ⟨ga, j * 2 + 1, none⟩ = some (.int .i64 P.2) ∧ w'.cell? ⟨gb, j * 2 + 1, none⟩ = some (.int .i64 Q.2)) (by kernel_rfl) ?_ (fun hHeld => ?_)
          · exact ⟨c1, c3⟩
          refine wpAnyH_take (i := 0) (oi := { dst := some 118, op := Op.move (Operand.tmp 12), type := 23, pos := "plain.go:172", after := #[], guard := none }) (v := ?vq000) rfl (by kernel_rfl) (by kernel_rfl) (by kernel_rfl) (fun _ _ _ h => h) (Or.inl ⟨by rfl, ?hq000⟩) (by assumption) ?rq000
          case hq000 => (intro w0 hSw; (try dsimp only at hSw); go_simp; try (with_reducible rfl))
          simp only [Act.put, List.setIfInBounds_toArray, List.set_cons_zero, List.set_cons_succ]
          refine wpAnyH_take (i := 1) (oi := { dst := some 119, op := Op.move (Operand.tmp 26), type := 3, pos := "plain.go:172", after := #[], guard := none }) (v := ?vq001) rfl (by kernel_rfl) (by kernel_rfl) (by kernel_rfl) (fun _ _ _ h => h) (Or.inl ⟨by rfl, ?hq001⟩) (by assumption) ?rq001
          case hq001 => (intro w0 hSw; (try dsimp only at hSw); go_simp; try (with_reducible rfl))
          simp only [Act.put, List.setIfInBounds_toArray, List.set_cons_zero, List.set_cons_succ]
          refine wpAnyH_take (i := 2) (oi := { dst := some 120, op := Op.indexAddr 23 (Operand.tmp 118) (Operand.tmp 119), type := 0, pos := "plain.go:172", after := #[{ on := 0, ground := Ground.data }, { on := 1, ground := Ground.data }], guard := none }) (v := ?vq002) rfl (by kernel_rfl) (by kernel_rfl) (by kernel_rfl) (fun _ _ _ h => h) (Or.inl ⟨by rfl, ?hq002⟩) (by assumption) ?rq002
          case hq002 => (intro w0 hSw; (try dsimp only at hSw); go_simp; try (with_reducible rfl))
          simp only [Act.put, List.setIfInBounds_toArray, List.set_cons_zero, List.set_cons_succ]
          refine wpAnyH_take (i := 3) (oi := { dst := some 121, op := Op.fieldAddr 36 (Operand.tmp 120) 1, type := 0, pos := "plain.go:172", after := #[{ on := 2, ground := Ground.data }], guard := none }) (v := ?vq003) rfl (by kernel_rfl) (by kernel_rfl) (by kernel_rfl) (fun _ _ _ h => h) (Or.inl ⟨by rfl, ?hq003⟩) (by assumption) ?rq003
          case hq003 => (intro w0 hSw; (try dsimp only at hSw); go_simp; try (with_reducible rfl))
          simp only [Act.put, List.setIfInBounds_toArray, List.set_cons_zero, List.set_cons_succ]
          refine wpAnyH_take (i := 4) (oi := { dst := some 122, op := Op.load 3 (Operand.tmp 121), type := 3, pos := "plain.go:172", after := #[{ on := 3, ground := Ground.data }], guard := none }) (v := ?vq004) rfl (by kernel_rfl) (by kernel_rfl) (by kernel_rfl) (fun _ _ _ h => h) (Or.inl ⟨by rfl, ?hq004⟩) (by assumption) ?rq004
          case hq004 => (intro w0 hSw; (try dsimp only at hSw); go_simp; try (with_reducible rfl))
          simp only [Act.put, List.setIfInBounds_toArray, List.set_cons_zero, List.set_cons_succ]
          refine wpAnyH_take (i := 5) (oi := { dst := some 123, op := Op.binOp BinOp.gtr 3 (Operand.tmp 122) (Operand.const (Value.int IntKind.i64 0)) 3, type := 4, pos := "plain.go:172", after := #[{ on := 4, ground := Ground.data }], guard := none }) (v := ?vq005) rfl (by kernel_rfl) (by kernel_rfl) (by kernel_rfl) (fun _ _ _ h => h) (Or.inl ⟨by rfl, ?hq005⟩) (by assumption) ?rq005
          case hq005 => (intro w0 hSw; (try dsimp only at hSw); go_simp; try (with_reducible rfl))
          simp only [Act.put, List.setIfInBounds_toArray, List.set_cons_zero, List.set_cons_succ]
          refine wpAnyH_take (i := 6) (oi := { dst := some 124, op := Op.move (Operand.tmp 16), type := 23, pos := "plain.go:172", after := #[], guard := none }) (v := ?vq006) rfl (by kernel_rfl) (by kernel_rfl) (by kernel_rfl) (fun _ _ _ h => h) (Or.inl ⟨by rfl, ?hq006⟩) (by assumption) ?rq006
          case hq006 => (intro w0 hSw; (try dsimp only at hSw); go_simp; try (with_reducible rfl))
          simp only [Act.put, List.setIfInBounds_toArray, List.set_cons_zero, List.set_cons_succ]
          refine wpAnyH_take (i := 7) (oi := { dst := some 125, op := Op.move (Operand.tmp 26), type := 3, pos := "plain.go:172", after := #[], guard := none }) (v := ?vq007) rfl (by kernel_rfl) (by kernel_rfl) (by kernel_rfl) (fun _ _ _ h => h) (Or.inl ⟨by rfl, ?hq007⟩) (by assumption) ?rq007
          case hq007 => (intro w0 hSw; (try dsimp only at hSw); go_simp; try (with_reducible rfl))
          simp only [Act.put, List.setIfInBounds_toArray, List.set_cons_zero, List.set_cons_succ]
          refine wpAnyH_take (i := 8) (oi := { dst := some 126, op := Op.indexAddr 23 (Operand.tmp 124) (Operand.tmp 125), type := 0, pos := "plain.go:172", after := #[{ on := 6, ground := Ground.data }, { on := 7, ground := Ground.data }], guard := none }) (v := ?vq008) rfl (by kernel_rfl) (by kernel_rfl) (by kernel_rfl) (fun _ _ _ h => h) (Or.inl ⟨by rfl, ?hq008⟩) (by assumption) ?rq008
          case hq008 => (intro w0 hSw; (try dsimp only at hSw); go_simp; try (with_reducible rfl))
          simp only [Act.put, List.setIfInBounds_toArray, List.set_cons_zero, List.set_cons_succ]
          refine wpAnyH_take (i := 9) (oi := { dst := some 127, op := Op.fieldAddr 36 (Operand.tmp 126) 1, type := 0, pos := "plain.go:172", after := #[{ on := 8, ground := Ground.data }], guard := none }) (v := ?vq009) rfl (by kernel_rfl) (by kernel_rfl) (by kernel_rfl) (fun _ _ _ h => h) (Or.inl ⟨by rfl, ?hq009⟩) (by assumption) ?rq009
          case hq009 => (intro w0 hSw; (try dsimp only at hSw); go_simp; try (with_reducible rfl))
          simp only [Act.put, List.setIfInBounds_toArray, List.set_cons_zero, List.set_cons_succ]
          refine wpAnyH_take (i := 10) (oi := { dst := some 128, op := Op.load 3 (Operand.tmp 127), type := 3, pos := "plain.go:172", after := #[{ on := 9, ground := Ground.data }], guard := none }) (v := ?vq0010) rfl (by kernel_rfl) (by kernel_rfl) (by kernel_rfl) (fun _ _ _ h => h) (Or.inl ⟨by rfl, ?hq0010⟩) (by assumption) ?rq0010
          case hq0010 => (intro w0 hSw; (try dsimp only at hSw); go_simp; try (with_reducible rfl))
          simp only [Act.put, List.setIfInBounds_toArray, List.set_cons_zero, List.set_cons_succ]
          refine wpAnyH_take (i := 11) (oi := { dst := some 129, op := Op.binOp BinOp.gtr 3 (Operand.tmp 128) (Operand.const (Value.int IntKind.i64 0)) 3, type := 4, pos := "plain.go:172", after := #[{ on := 10, ground := Ground.data }], guard := none }) (v := ?vq0011) rfl (by kernel_rfl) (by kernel_rfl) (by kernel_rfl) (fun _ _ _ h => h) (Or.inl ⟨by rfl, ?hq0011⟩) (by assumption) ?rq0011
          case hq0011 => (intro w0 hSw; (try dsimp only at hSw); go_simp; try (with_reducible rfl))
          simp only [Act.put, List.setIfInBounds_toArray, List.set_cons_zero, List.set_cons_succ]
          refine wpAnyH_take (i := 12) (oi := { dst := some 130, op := Op.binOp BinOp.neq 4 (Operand.tmp 123) (Operand.tmp 129) 4, type := 4, pos := "plain.go:172", after := #[{ on := 5, ground := Ground.data }, { on := 11, ground := Ground.data }], guard := none }) (v := ?vq0012) rfl (by kernel_rfl) (by kernel_rfl) (by kernel_rfl) (fun _ _ _ h => h) (Or.inl ⟨by rfl, ?hq0012⟩) (by assumption) ?rq0012
          case hq0012 => (intro w0 hSw; (try dsimp only at hSw); go_simp; try (with_reducible rfl))
          simp only [Act.put, List.setIfInBounds_toArray, List.set_cons_zero, List.set_cons_succ]
          refine wpAnyH_done (by kernel_rfl) ?_ _
          go_wp2
          go_roundw
          case rel => exact ⟨j + 1, hjt, by go_num, by rw [HX.out]; go_num, HW.out.drew.drew⟩
          case measure => simp [intOf]; omega
        · have hx2 : (B3 == B4) = false := by cases B3 <;> cases B4 <;> first | rfl | cases hd2
          have HX : Hid (farB C1 C2 (2 * (j + 1)) = Fj + 1) := by show _ = _; rw [HSS.out.2, HSS.out.1, eB1, eB2, eB3, eB4, hd1, hd2]; simp [b01]
          clear HSS
          go_wp2_with fail
          refine wp_region_held_drew (S := fun w' => w'.cell? ⟨ga, j * 2, none⟩ = some (.int .i64 P.1) ∧ w'.cell? ⟨gb, j * 2, none⟩ = some (.int .i64 Q.1)) (by kernel_rfl) ?_ (fun hHeld => ?_)
          · exact ⟨c0, c2⟩
          refine wpAnyH_take (i := 0) (oi := { dst := some 103, op := Op.move (Operand.tmp 12), type := 23, pos := "plain.go:169", after := #[], guard := none }) (v := ?vp010) rfl (by kernel_rfl) (by kernel_rfl) (by kernel_rfl) (fun _ _ _ h => h) (Or.inl ⟨by rfl, ?hp010⟩) (by assumption) ?rp010
          case hp010 => (intro w0 hSw; (try dsimp only at hSw); go_simp; try (with_reducible rfl))
          simp only [Act.put, List.setIfInBounds_toArray, List.set_cons_zero, List.set_cons_succ]
          refine wpAnyH_take (i := 1) (oi := { dst := some 104, op := Op.move (Operand.tmp 26), type := 3, pos := "plain.go:169", after := #[], guard := none }) (v := ?vp011) rfl (by kernel_rfl) (by kernel_rfl) (by kernel_rfl) (fun _ _ _ h => h) (Or.inl ⟨by rfl, ?hp011⟩) (by assumption) ?rp011
          case hp011 => (intro w0 hSw; (try dsimp only at hSw); go_simp; try (with_reducible rfl))
          simp only [Act.put, List.setIfInBounds_toArray, List.set_cons_zero, List.set_cons_succ]
          refine wpAnyH_take (i := 2) (oi := { dst := some 105, op := Op.indexAddr 23 (Operand.tmp 103) (Operand.tmp 104), type := 0, pos := "plain.go:169", after := #[{ on := 0, ground := Ground.data }, { on := 1, ground := Ground.data }], guard := none }) (v := ?vp012) rfl (by kernel_rfl) (by kernel_rfl) (by kernel_rfl) (fun _ _ _ h => h) (Or.inl ⟨by rfl, ?hp012⟩) (by assumption) ?rp012
          case hp012 => (intro w0 hSw; (try dsimp only at hSw); go_simp; try (with_reducible rfl))
          simp only [Act.put, List.setIfInBounds_toArray, List.set_cons_zero, List.set_cons_succ]
          refine wpAnyH_take (i := 3) (oi := { dst := some 106, op := Op.fieldAddr 36 (Operand.tmp 105) 0, type := 0, pos := "plain.go:169", after := #[{ on := 2, ground := Ground.data }], guard := none }) (v := ?vp013) rfl (by kernel_rfl) (by kernel_rfl) (by kernel_rfl) (fun _ _ _ h => h) (Or.inl ⟨by rfl, ?hp013⟩) (by assumption) ?rp013
          case hp013 => (intro w0 hSw; (try dsimp only at hSw); go_simp; try (with_reducible rfl))
          simp only [Act.put, List.setIfInBounds_toArray, List.set_cons_zero, List.set_cons_succ]
          refine wpAnyH_take (i := 4) (oi := { dst := some 107, op := Op.load 3 (Operand.tmp 106), type := 3, pos := "plain.go:169", after := #[{ on := 3, ground := Ground.data }], guard := none }) (v := ?vp014) rfl (by kernel_rfl) (by kernel_rfl) (by kernel_rfl) (fun _ _ _ h => h) (Or.inl ⟨by rfl, ?hp014⟩) (by assumption) ?rp014
          case hp014 => (intro w0 hSw; (try dsimp only at hSw); go_simp; try (with_reducible rfl))
          simp only [Act.put, List.setIfInBounds_toArray, List.set_cons_zero, List.set_cons_succ]
          refine wpAnyH_take (i := 5) (oi := { dst := some 108, op := Op.binOp BinOp.gtr 3 (Operand.tmp 107) (Operand.const (Value.int IntKind.i64 0)) 3, type := 4, pos := "plain.go:169", after := #[{ on := 4, ground := Ground.data }], guard := none }) (v := ?vp015) rfl (by kernel_rfl) (by kernel_rfl) (by kernel_rfl) (fun _ _ _ h => h) (Or.inl ⟨by rfl, ?hp015⟩) (by assumption) ?rp015
          case hp015 => (intro w0 hSw; (try dsimp only at hSw); go_simp; try (with_reducible rfl))
          simp only [Act.put, List.setIfInBounds_toArray, List.set_cons_zero, List.set_cons_succ]
          refine wpAnyH_take (i := 6) (oi := { dst := some 109, op := Op.move (Operand.tmp 16), type := 23, pos := "plain.go:169", after := #[], guard := none }) (v := ?vp016) rfl (by kernel_rfl) (by kernel_rfl) (by kernel_rfl) (fun _ _ _ h => h) (Or.inl ⟨by rfl, ?hp016⟩) (by assumption) ?rp016
          case hp016 => (intro w0 hSw; (try dsimp only at hSw); go_simp; try (with_reducible rfl))
          simp only [Act.put, List.setIfInBounds_toArray, List.set_cons_zero, List.set_cons_succ]
          refine wpAnyH_take (i := 7) (oi := { dst := some 110, op := Op.move (Operand.tmp 26), type := 3, pos := "plain.go:169", after := #[], guard := none }) (v := ?vp017) rfl (by kernel_rfl) (by kernel_rfl) (by kernel_rfl) (fun _ _ _ h => h) (Or.inl ⟨by rfl, ?hp017⟩) (by assumption) ?rp017
          case hp017 => (intro w0 hSw; (try dsimp only at hSw); go_simp; try (with_reducible rfl))
          simp only [Act.put, List.setIfInBounds_toArray, List.set_cons_zero, List.set_cons_succ]
          refine wpAnyH_take (i := 8) (oi := { dst := some 111, op := Op.indexAddr 23 (Operand.tmp 109) (Operand.tmp 110), type := 0, pos := "plain.go:169", after := #[{ on := 6, ground := Ground.data }, { on := 7, ground := Ground.data }], guard := none }) (v := ?vp018) rfl (by kernel_rfl) (by kernel_rfl) (by kernel_rfl) (fun _ _ _ h => h) (Or.inl ⟨by rfl, ?hp018⟩) (by assumption) ?rp018
          case hp018 => (intro w0 hSw; (try dsimp only at hSw); go_simp; try (with_reducible rfl))
          simp only [Act.put, List.setIfInBounds_toArray, List.set_cons_zero, List.set_cons_succ]
          refine wpAnyH_take (i := 9) (oi := { dst := some 112, op := Op.fieldAddr 36 (Operand.tmp 111) 0, type := 0, pos := "plain.go:169", after := #[{ on := 8, ground := Ground.data }], guard := none }) (v := ?vp019) rfl (by kernel_rfl) (by kernel_rfl) (by kernel_rfl) (fun _ _ _ h => h) (Or.inl ⟨by rfl, ?hp019⟩) (by assumption) ?rp019
          case hp019 => (intro w0 hSw; (try dsimp only at hSw); go_simp; try (with_reducible rfl))
          simp only [Act.put, List.setIfInBounds_toArray, List.set_cons_zero, List.set_cons_succ]
          refine wpAnyH_take (i := 10) (oi := { dst := some 113, op := Op.load 3 (Operand.tmp 112), type := 3, pos := "plain.go:169", after := #[{ on := 9, ground := Ground.data }], guard := none }) (v := ?vp0110) rfl (by kernel_rfl) (by kernel_rfl) (by kernel_rfl) (fun _ _ _ h => h) (Or.inl ⟨by rfl, ?hp0110⟩) (by assumption) ?rp0110
          case hp0110 => (intro w0 hSw; (try dsimp only at hSw); go_simp; try (with_reducible rfl))
          simp only [Act.put, List.setIfInBounds_toArray, List.set_cons_zero, List.set_cons_succ]
          refine wpAnyH_take (i := 11) (oi := { dst := some 114, op := Op.binOp BinOp.gtr 3 (Operand.tmp 113) (Operand.const (Value.int IntKind.i64 0)) 3, type := 4, pos := "plain.go:169", after := #[{ on := 10, ground := Ground.data }], guard := none }) (v := ?vp0111) rfl (by kernel_rfl) (by kernel_rfl) (by kernel_rfl) (fun _ _ _ h => h) (Or.inl ⟨by rfl, ?hp0111⟩) (by assumption) ?rp0111
          case hp0111 => (intro w0 hSw; (try dsimp only at hSw); go_simp; try (with_reducible rfl))
          simp only [Act.put, List.setIfInBounds_toArray, List.set_cons_zero, List.set_cons_succ]
          refine wpAnyH_take (i := 12) (oi := { dst := some 115, op := Op.binOp BinOp.neq 4 (Operand.tmp 108) (Operand.tmp 114) 4, type := 4, pos := "plain.go:169", after := #[{ on := 5, ground := Ground.data }, { on := 11, ground := Ground.data }], guard := none }) (v := ?vp0112) rfl (by kernel_rfl) (by kernel_rfl) (by kernel_rfl) (fun _ _ _ h => h) (Or.inl ⟨by rfl, ?hp0112⟩) (by assumption) ?rp0112
          case hp0112 => (intro w0 hSw; (try dsimp only at hSw); go_simp; try (with_reducible rfl))
          simp only [Act.put, List.setIfInBounds_toArray, List.set_cons_zero, List.set_cons_succ]
          refine wpAnyH_done (by kernel_rfl) ?_ _
          go_wp2_with fail
          refine wp_region_held_drew (S := fun w' => w'.cell? ⟨ga, j * 2 + 1, none⟩ = some (.int .i64 P.2) ∧ w'.cell? ⟨gb, j * 2 + 1, none⟩ = some (.int .i64 Q.2)) (by kernel_rfl) ?_ (fun hHeld => ?_)
          · exact ⟨c1, c3⟩
          refine wpAnyH_take (i := 0) (oi := { dst := some 118, op := Op.move (Operand.tmp 12), type := 23, pos := "plain.go:172", after := #[], guard := none }) (v := ?vq010) rfl (by kernel_rfl) (by kernel_rfl) (by kernel_rfl) (fun _ _ _ h => h) (Or.inl ⟨by rfl, ?hq010⟩) (by assumption) ?rq010
          case hq010 => (intro w0 hSw; (try dsimp only at hSw); go_simp; try (with_reducible rfl))
          simp only [Act.put, List.setIfInBounds_toArray, List.set_cons_zero, List.set_cons_succ]
          refine wpAnyH_take (i := 1) (oi := { dst := some 119, op := Op.move (Operand.tmp 26), type := 3, pos := "plain.go:172", after := #[], guard := none }) (v := ?vq011) rfl (by kernel_rfl) (by kernel_rfl) (by kernel_rfl) (fun _ _ _ h => h) (Or.inl ⟨by rfl, ?hq011⟩) (by assumption) ?rq011
          case hq011 => (intro w0 hSw; (try dsimp only at hSw); go_simp; try (with_reducible rfl))
          simp only [Act.put, List.setIfInBounds_toArray, List.set_cons_zero, List.set_cons_succ]
          refine wpAnyH_take (i := 2) (oi := { dst := some 120, op := Op.indexAddr 23 (Operand.tmp 118) (Operand.tmp 119), type := 0, pos := "plain.go:172", after := #[{ on := 0, ground := Ground.data }, { on := 1, ground := Ground.data }], guard := none }) (v := ?vq012) rfl (by kernel_rfl) (by kernel_rfl) (by kernel_rfl) (fun _ _ _ h => h) (Or.inl ⟨by rfl, ?hq012⟩) (by assumption) ?rq012
          case hq012 => (intro w0 hSw; (try dsimp only at hSw); go_simp; try (with_reducible rfl))
          simp only [Act.put, List.setIfInBounds_toArray, List.set_cons_zero, List.set_cons_succ]
          refine wpAnyH_take (i := 3) (oi := { dst := some 121, op := Op.fieldAddr 36 (Operand.tmp 120) 1, type := 0, pos := "plain.go:172", after := #[{ on := 2, ground := Ground.data }], guard := none }) (v := ?vq013) rfl (by kernel_rfl) (by kernel_rfl) (by kernel_rfl) (fun _ _ _ h => h) (Or.inl ⟨by rfl, ?hq013⟩) (by assumption) ?rq013
          case hq013 => (intro w0 hSw; (try dsimp only at hSw); go_simp; try (with_reducible rfl))
          simp only [Act.put, List.setIfInBounds_toArray, List.set_cons_zero, List.set_cons_succ]
          refine wpAnyH_take (i := 4) (oi := { dst := some 122, op := Op.load 3 (Operand.tmp 121), type := 3, pos := "plain.go:172", after := #[{ on := 3, ground := Ground.data }], guard := none }) (v := ?vq014) rfl (by kernel_rfl) (by kernel_rfl) (by kernel_rfl) (fun _ _ _ h => h) (Or.inl ⟨by rfl, ?hq014⟩) (by assumption) ?rq014
          case hq014 => (intro w0 hSw; (try dsimp only at hSw); go_simp; try (with_reducible rfl))
          simp only [Act.put, List.setIfInBounds_toArray, List.set_cons_zero, List.set_cons_succ]
          refine wpAnyH_take (i := 5) (oi := { dst := some 123, op := Op.binOp BinOp.gtr 3 (Operand.tmp 122) (Operand.const (Value.int IntKind.i64 0)) 3, type := 4, pos := "plain.go:172", after := #[{ on := 4, ground := Ground.data }], guard := none }) (v := ?vq015) rfl (by kernel_rfl) (by kernel_rfl) (by kernel_rfl) (fun _ _ _ h => h) (Or.inl ⟨by rfl, ?hq015⟩) (by assumption) ?rq015
          case hq015 => (intro w0 hSw; (try dsimp only at hSw); go_simp; try (with_reducible rfl))
          simp only [Act.put, List.setIfInBounds_toArray, List.set_cons_zero, List.set_cons_succ]
          refine wpAnyH_take (i := 6) (oi := { dst := some 124, op := Op.move (Operand.tmp 16), type := 23, pos := "plain.go:172", after := #[], guard := none }) (v := ?vq016) rfl (by kernel_rfl) (by kernel_rfl) (by kernel_rfl) (fun _ _ _ h => h) (Or.inl ⟨by rfl, ?hq016⟩) (by assumption) ?rq016
          case hq016 => (intro w0 hSw; (try dsimp only at hSw); go_simp; try (with_reducible rfl))
          simp only [Act.put, List.setIfInBounds_toArray, List.set_cons_zero, List.set_cons_succ]
          refine wpAnyH_take (i := 7) (oi := { dst := some 125, op := Op.move (Operand.tmp 26), type := 3, pos := "plain.go:172", after := #[], guard := none }) (v := ?vq017) rfl (by kernel_rfl) (by kernel_rfl) (by kernel_rfl) (fun _ _ _ h => h) (Or.inl ⟨by rfl, ?hq017⟩) (by assumption) ?rq017
          case hq017 => (intro w0 hSw; (try dsimp only at hSw); go_simp; try (with_reducible rfl))
          simp only [Act.put, List.setIfInBounds_toArray, List.set_cons_zero, List.set_cons_succ]
          refine wpAnyH_take (i := 8) (oi := { dst := some 126, op := Op.indexAddr 23 (Operand.tmp 124) (Operand.tmp 125), type := 0, pos := "plain.go:172", after := #[{ on := 6, ground := Ground.data }, { on := 7, ground := Ground.data }], guard := none }) (v := ?vq018) rfl (by kernel_rfl) (by kernel_rfl) (by kernel_rfl) (fun _ _ _ h => h) (Or.inl ⟨by rfl, ?hq018⟩) (by assumption) ?rq018
          case hq018 => (intro w0 hSw; (try dsimp only at hSw); go_simp; try (with_reducible rfl))
          simp only [Act.put, List.setIfInBounds_toArray, List.set_cons_zero, List.set_cons_succ]
          refine wpAnyH_take (i := 9) (oi := { dst := some 127, op := Op.fieldAddr 36 (Operand.tmp 126) 1, type := 0, pos := "plain.go:172", after := #[{ on := 8, ground := Ground.data }], guard := none }) (v := ?vq019) rfl (by kernel_rfl) (by kernel_rfl) (by kernel_rfl) (fun _ _ _ h => h) (Or.inl ⟨by rfl, ?hq019⟩) (by assumption) ?rq019
          case hq019 => (intro w0 hSw; (try dsimp only at hSw); go_simp; try (with_reducible rfl))
          simp only [Act.put, List.setIfInBounds_toArray, List.set_cons_zero, List.set_cons_succ]
          refine wpAnyH_take (i := 10) (oi := { dst := some 128, op := Op.load 3 (Operand.tmp 127), type := 3, pos := "plain.go:172", after := #[{ on := 9, ground := Ground.data }], guard := none }) (v := ?vq0110) rfl (by kernel_rfl) (by kernel_rfl) (by kernel_rfl) (fun _ _ _ h => h) (Or.inl ⟨by rfl, ?hq0110⟩) (by assumption) ?rq0110
          case hq0110 => (intro w0 hSw; (try dsimp only at hSw); go_simp; try (with_reducible rfl))
          simp only [Act.put, List.setIfInBounds_toArray, List.set_cons_zero, List.set_cons_succ]
          refine wpAnyH_take (i := 11) (oi := { dst := some 129, op := Op.binOp BinOp.gtr 3 (Operand.tmp 128) (Operand.const (Value.int IntKind.i64 0)) 3, type := 4, pos := "plain.go:172", after := #[{ on := 10, ground := Ground.data }], guard := none }) (v := ?vq0111) rfl (by kernel_rfl) (by kernel_rfl) (by kernel_rfl) (fun _ _ _ h => h) (Or.inl ⟨by rfl, ?hq0111⟩) (by assumption) ?rq0111
          case hq0111 => (intro w0 hSw; (try dsimp only at hSw); go_simp; try (with_reducible rfl))
          simp only [Act.put, List.setIfInBounds_toArray, List.set_cons_zero, List.set_cons_succ]
          refine wpAnyH_take (i := 12) (oi := { dst := some 130, op := Op.binOp BinOp.neq 4 (Operand.tmp 123) (Operand.tmp 129) 4, type := 4, pos := "plain.go:172", after := #[{ on := 5, ground := Ground.data }, { on := 11, ground := Ground.data }], guard := none }) (v := ?vq0112) rfl (by kernel_rfl) (by kernel_rfl) (by kernel_rfl) (fun _ _ _ h => h) (Or.inl ⟨by rfl, ?hq0112⟩) (by assumption) ?rq0112
          case hq0112 => (intro w0 hSw; (try dsimp only at hSw); go_simp; try (with_reducible rfl))
          simp only [Act.put, List.setIfInBounds_toArray, List.set_cons_zero, List.set_cons_succ]
          refine wpAnyH_done (by kernel_rfl) ?_ _
          go_wp2
          go_roundw
          case rel => exact ⟨j + 1, hjt, by go_num, by rw [HX.out]; go_num, HW.out.drew.drew⟩
          case measure => simp [intOf]; omega
      · have hx1 : (B1 == B2) = false := by cases B1 <;> cases B2 <;> first | rfl | cases hd1
        cases hd2 : (B3 != B4)
        · have hx2 : (B3 == B4) = true := by cases B3 <;> cases B4 <;> first | rfl | cases hd2
          have HX : Hid (farB C1 C2 (2 * (j + 1)) = Fj + 1) := by show _ = _; rw [HSS.out.2, HSS.out.1, eB1, eB2, eB3, eB4, hd1, hd2]; simp [b01]
          clear HSS
          go_wp2_with fail
          refine wp_region_held_drew (S := fun w' => w'.cell? ⟨ga, j * 2, none⟩ = some (.int .i64 P.1) ∧ w'.cell? ⟨gb, j * 2, none⟩ = some (.int .i64 Q.1)) (by kernel_rfl) ?_ (fun hHeld => ?_)
          · exact ⟨c0, c2⟩
          refine wpAnyH_take (i := 0) (oi := { dst := some 103, op := Op.move (Operand.tmp 12), type := 23, pos := "plain.go:169", after := #[], guard := none }) (v := ?vp100) rfl (by kernel_rfl) (by kernel_rfl) (by kernel_rfl) (fun _ _ _ h => h) (Or.inl ⟨by rfl, ?hp100⟩) (by assumption) ?rp100
          case hp100 => (intro w0 hSw; (try dsimp only at hSw); go_simp; try (with_reducible rfl))
          simp only [Act.put, List.setIfInBounds_toArray, List.set_cons_zero, List.set_cons_succ]
          refine wpAnyH_take (i := 1) (oi := { dst := some 104, op := Op.move (Operand.tmp 26), type := 3, pos := "plain.go:169", after := #[], guard := none }) (v := ?vp101) rfl (by kernel_rfl) (by kernel_rfl) (by kernel_rfl) (fun _ _ _ h => h) (Or.inl ⟨by rfl, ?hp101⟩) (by assumption) ?rp101
          case hp101 => (intro w0 hSw; (try dsimp only at hSw); go_simp; try (with_reducible rfl))
          simp only [Act.put, List.setIfInBounds_toArray, List.set_cons_zero, List.set_cons_succ]
          refine wpAnyH_take (i := 2) (oi := { dst := some 105, op := Op.indexAddr 23 (Operand.tmp 103) (Operand.tmp 104), type := 0, pos := "plain.go:169", after := #[{ on := 0, ground := Ground.data }, { on := 1, ground := Ground.data }], guard := none }) (v := ?vp102) rfl (by kernel_rfl) (by kernel_rfl) (by kernel_rfl) (fun _ _ _ h => h) (Or.inl ⟨by rfl, ?hp102⟩) (by assumption) ?rp102
          case hp102 => (intro w0 hSw; (try dsimp only at hSw); go_simp; try (with_reducible rfl))
          simp only [Act.put, List.setIfInBounds_toArray, List.set_cons_zero, List.set_cons_succ]
          refine wpAnyH_take (i := 3) (oi := { dst := some 106, op := Op.fieldAddr 36 (Operand.tmp 105) 0, type := 0, pos := "plain.go:169", after := #[{ on := 2, ground := Ground.data }], guard := none }) (v := ?vp103) rfl (by kernel_rfl) (by kernel_rfl) (by kernel_rfl) (fun _ _ _ h => h) (Or.inl ⟨by rfl, ?hp103⟩) (by assumption) ?rp103
          case hp103 => (intro w0 hSw; (try dsimp only at hSw); go_simp; try (with_reducible rfl))
          simp only [Act.put, List.setIfInBounds_toArray, List.set_cons_zero, List.set_cons_succ]
          refine wpAnyH_take (i := 4) (oi := { dst := some 107, op := Op.load 3 (Operand.tmp 106), type := 3, pos := "plain.go:169", after := #[{ on := 3, ground := Ground.data }], guard := none }) (v := ?vp104) rfl (by kernel_rfl) (by kernel_rfl) (by kernel_rfl) (fun _ _ _ h => h) (Or.inl ⟨by rfl, ?hp104⟩) (by assumption) ?rp104
          case hp104 => (intro w0 hSw; (try dsimp only at hSw); go_simp; try (with_reducible rfl))
          simp only [Act.put, List.setIfInBounds_toArray, List.set_cons_zero, List.set_cons_succ]
          refine wpAnyH_take (i := 5) (oi := { dst := some 108, op := Op.binOp BinOp.gtr 3 (Operand.tmp 107) (Operand.const (Value.int IntKind.i64 0)) 3, type := 4, pos := "plain.go:169", after := #[{ on := 4, ground := Ground.data }], guard := none }) (v := ?vp105) rfl (by kernel_rfl) (by kernel_rfl) (by kernel_rfl) (fun _ _ _ h => h) (Or.inl ⟨by rfl, ?hp105⟩) (by assumption) ?rp105
          case hp105 => (intro w0 hSw; (try dsimp only at hSw); go_simp; try (with_reducible rfl))
          simp only [Act.put, List.setIfInBounds_toArray, List.set_cons_zero, List.set_cons_succ]
          refine wpAnyH_take (i := 6) (oi := { dst := some 109, op := Op.move (Operand.tmp 16), type := 23, pos := "plain.go:169", after := #[], guard := none }) (v := ?vp106) rfl (by kernel_rfl) (by kernel_rfl) (by kernel_rfl) (fun _ _ _ h => h) (Or.inl ⟨by rfl, ?hp106⟩) (by assumption) ?rp106
          case hp106 => (intro w0 hSw; (try dsimp only at hSw); go_simp; try (with_reducible rfl))
          simp only [Act.put, List.setIfInBounds_toArray, List.set_cons_zero, List.set_cons_succ]
          refine wpAnyH_take (i := 7) (oi := { dst := some 110, op := Op.move (Operand.tmp 26), type := 3, pos := "plain.go:169", after := #[], guard := none }) (v := ?vp107) rfl (by kernel_rfl) (by kernel_rfl) (by kernel_rfl) (fun _ _ _ h => h) (Or.inl ⟨by rfl, ?hp107⟩) (by assumption) ?rp107
          case hp107 => (intro w0 hSw; (try dsimp only at hSw); go_simp; try (with_reducible rfl))
          simp only [Act.put, List.setIfInBounds_toArray, List.set_cons_zero, List.set_cons_succ]
          refine wpAnyH_take (i := 8) (oi := { dst := some 111, op := Op.indexAddr 23 (Operand.tmp 109) (Operand.tmp 110), type := 0, pos := "plain.go:169", after := #[{ on := 6, ground := Ground.data }, { on := 7, ground := Ground.data }], guard := none }) (v := ?vp108) rfl (by kernel_rfl) (by kernel_rfl) (by kernel_rfl) (fun _ _ _ h => h) (Or.inl ⟨by rfl, ?hp108⟩) (by assumption) ?rp108
          case hp108 => (intro w0 hSw; (try dsimp only at hSw); go_simp; try (with_reducible rfl))
          simp only [Act.put, List.setIfInBounds_toArray, List.set_cons_zero, List.set_cons_succ]
          refine wpAnyH_take (i := 9) (oi := { dst := some 112, op := Op.fieldAddr 36 (Operand.tmp 111) 0, type := 0, pos := "plain.go:169", after := #[{ on := 8, ground := Ground.data }], guard := none }) (v := ?vp109) rfl (by kernel_rfl) (by kernel_rfl) (by kernel_rfl) (fun _ _ _ h => h) (Or.inl ⟨by rfl, ?hp109⟩) (by assumption) ?rp109
          case hp109 => (intro w0 hSw; (try dsimp only at hSw); go_simp; try (with_reducible rfl))
          simp only [Act.put, List.setIfInBounds_toArray, List.set_cons_zero, List.set_cons_succ]
          refine wpAnyH_take (i := 10) (oi := { dst := some 113, op := Op.load 3 (Operand.tmp 112), type := 3, pos := "plain.go:169", after := #[{ on := 9, ground := Ground.data }], guard := none }) (v := ?vp1010) rfl (by kernel_rfl) (by kernel_rfl) (by kernel_rfl) (fun _ _ _ h => h) (Or.inl ⟨by rfl, ?hp1010⟩) (by assumption) ?rp1010
          case hp1010 => (intro w0 hSw; (try dsimp only at hSw); go_simp; try (with_reducible rfl))
          simp only [Act.put, List.setIfInBounds_toArray, List.set_cons_zero, List.set_cons_succ]
          refine wpAnyH_take (i := 11) (oi := { dst := some 114, op := Op.binOp BinOp.gtr 3 (Operand.tmp 113) (Operand.const (Value.int IntKind.i64 0)) 3, type := 4, pos := "plain.go:169", after := #[{ on := 10, ground := Ground.data }], guard := none }) (v := ?vp1011) rfl (by kernel_rfl) (by kernel_rfl) (by kernel_rfl) (fun _ _ _ h => h) (Or.inl ⟨by rfl, ?hp1011⟩) (by assumption) ?rp1011
          case hp1011 => (intro w0 hSw; (try dsimp only at hSw); go_simp; try (with_reducible rfl))
          simp only [Act.put, List.setIfInBounds_toArray, List.set_cons_zero, List.set_cons_succ]
          refine wpAnyH_take (i := 12) (oi := { dst := some 115, op := Op.binOp BinOp.neq 4 (Operand.tmp 108) (Operand.tmp 114) 4, type := 4, pos := "plain.go:169", after := #[{ on := 5, ground := Ground.data }, { on := 11, ground := Ground.data }], guard := none }) (v := ?vp1012) rfl (by kernel_rfl) (by kernel_rfl) (by kernel_rfl) (fun _ _ _ h => h) (Or.inl ⟨by rfl, ?hp1012⟩) (by assumption) ?rp1012
          case hp1012 => (intro w0 hSw; (try dsimp only at hSw); go_simp; try (with_reducible rfl))
          simp only [Act.put, List.setIfInBounds_toArray, List.set_cons_zero, List.set_cons_succ]
          refine wpAnyH_done (by kernel_rfl) ?_ _
          go_wp2_with fail
          refine wp_region_held_drew (S := fun w' => w'.cell? ⟨ga, j * 2 + 1, none⟩ = some (.int .i64 P.2) ∧ w'.cell? ⟨gb, j * 2 + 1, none⟩ = some (.int .i64 Q.2)) (by kernel_rfl) ?_ (fun hHeld => ?_)
          · exact ⟨c1, c3⟩
          refine wpAnyH_take (i := 0) (oi := { dst := some 118, op := Op.move (Operand.tmp 12), type := 23, pos := "plain.go:172", after := #[], guard := none }) (v := ?vq100) rfl (by kernel_rfl) (by kernel_rfl) (by kernel_rfl) (fun _ _ _ h => h) (Or.inl ⟨by rfl, ?hq100⟩) (by assumption) ?rq100
          case hq100 => (intro w0 hSw; (try dsimp only at hSw); go_simp; try (with_reducible rfl))
          simp only [Act.put, List.setIfInBounds_toArray, List.set_cons_zero, List.set_cons_succ]
          refine wpAnyH_take (i := 1) (oi := { dst := some 119, op := Op.move (Operand.tmp 26), type := 3, pos := "plain.go:172", after := #[], guard := none }) (v := ?vq101) rfl (by kernel_rfl) (by kernel_rfl) (by kernel_rfl) (fun _ _ _ h => h) (Or.inl ⟨by rfl, ?hq101⟩) (by assumption) ?rq101
          case hq101 => (intro w0 hSw; (try dsimp only at hSw); go_simp; try (with_reducible rfl))
          simp only [Act.put, List.setIfInBounds_toArray, List.set_cons_zero, List.set_cons_succ]
          refine wpAnyH_take (i := 2) (oi := { dst := some 120, op := Op.indexAddr 23 (Operand.tmp 118) (Operand.tmp 119), type := 0, pos := "plain.go:172", after := #[{ on := 0, ground := Ground.data }, { on := 1, ground := Ground.data }], guard := none }) (v := ?vq102) rfl (by kernel_rfl) (by kernel_rfl) (by kernel_rfl) (fun _ _ _ h => h) (Or.inl ⟨by rfl, ?hq102⟩) (by assumption) ?rq102
          case hq102 => (intro w0 hSw; (try dsimp only at hSw); go_simp; try (with_reducible rfl))
          simp only [Act.put, List.setIfInBounds_toArray, List.set_cons_zero, List.set_cons_succ]
          refine wpAnyH_take (i := 3) (oi := { dst := some 121, op := Op.fieldAddr 36 (Operand.tmp 120) 1, type := 0, pos := "plain.go:172", after := #[{ on := 2, ground := Ground.data }], guard := none }) (v := ?vq103) rfl (by kernel_rfl) (by kernel_rfl) (by kernel_rfl) (fun _ _ _ h => h) (Or.inl ⟨by rfl, ?hq103⟩) (by assumption) ?rq103
          case hq103 => (intro w0 hSw; (try dsimp only at hSw); go_simp; try (with_reducible rfl))
          simp only [Act.put, List.setIfInBounds_toArray, List.set_cons_zero, List.set_cons_succ]
          refine wpAnyH_take (i := 4) (oi := { dst := some 122, op := Op.load 3 (Operand.tmp 121), type := 3, pos := "plain.go:172", after := #[{ on := 3, ground := Ground.data }], guard := none }) (v := ?vq104) rfl (by kernel_rfl) (by kernel_rfl) (by kernel_rfl) (fun _ _ _ h => h) (Or.inl ⟨by rfl, ?hq104⟩) (by assumption) ?rq104
          case hq104 => (intro w0 hSw; (try dsimp only at hSw); go_simp; try (with_reducible rfl))
          simp only [Act.put, List.setIfInBounds_toArray, List.set_cons_zero, List.set_cons_succ]
          refine wpAnyH_take (i := 5) (oi := { dst := some 123, op := Op.binOp BinOp.gtr 3 (Operand.tmp 122) (Operand.const (Value.int IntKind.i64 0)) 3, type := 4, pos := "plain.go:172", after := #[{ on := 4, ground := Ground.data }], guard := none }) (v := ?vq105) rfl (by kernel_rfl) (by kernel_rfl) (by kernel_rfl) (fun _ _ _ h => h) (Or.inl ⟨by rfl, ?hq105⟩) (by assumption) ?rq105
          case hq105 => (intro w0 hSw; (try dsimp only at hSw); go_simp; try (with_reducible rfl))
          simp only [Act.put, List.setIfInBounds_toArray, List.set_cons_zero, List.set_cons_succ]
          refine wpAnyH_take (i := 6) (oi := { dst := some 124, op := Op.move (Operand.tmp 16), type := 23, pos := "plain.go:172", after := #[], guard := none }) (v := ?vq106) rfl (by kernel_rfl) (by kernel_rfl) (by kernel_rfl) (fun _ _ _ h => h) (Or.inl ⟨by rfl, ?hq106⟩) (by assumption) ?rq106
          case hq106 => (intro w0 hSw; (try dsimp only at hSw); go_simp; try (with_reducible rfl))
          simp only [Act.put, List.setIfInBounds_toArray, List.set_cons_zero, List.set_cons_succ]
          refine wpAnyH_take (i := 7) (oi := { dst := some 125, op := Op.move (Operand.tmp 26), type := 3, pos := "plain.go:172", after := #[], guard := none }) (v := ?vq107) rfl (by kernel_rfl) (by kernel_rfl) (by kernel_rfl) (fun _ _ _ h => h) (Or.inl ⟨by rfl, ?hq107⟩) (by assumption) ?rq107
          case hq107 => (intro w0 hSw; (try dsimp only at hSw); go_simp; try (with_reducible rfl))
          simp only [Act.put, List.setIfInBounds_toArray, List.set_cons_zero, List.set_cons_succ]
          refine wpAnyH_take (i := 8) (oi := { dst := some 126, op := Op.indexAddr 23 (Operand.tmp 124) (Operand.tmp 125), type := 0, pos := "plain.go:172", after := #[{ on := 6, ground := Ground.data }, { on := 7, ground := Ground.data }], guard := none }) (v := ?vq108) rfl (by kernel_rfl) (by kernel_rfl) (by kernel_rfl) (fun _ _ _ h => h) (Or.inl ⟨by rfl, ?hq108⟩) (by assumption) ?rq108
          case hq108 => (intro w0 hSw; (try dsimp only at hSw); go_simp; try (with_reducible rfl))
          simp only [Act.put, List.setIfInBounds_toArray, List.set_cons_zero, List.set_cons_succ]
          refine wpAnyH_take (i := 9) (oi := { dst := some 127, op := Op.fieldAddr 36 (Operand.tmp 126) 1, type := 0, pos := "plain.go:172", after := #[{ on := 8, ground := Ground.data }], guard := none }) (v := ?vq109) rfl (by kernel_rfl) (by kernel_rfl) (by kernel_rfl) (fun _ _ _ h => h) (Or.inl ⟨by rfl, ?hq109⟩) (by assumption) ?rq109
          case hq109 => (intro w0 hSw; (try dsimp only at hSw); go_simp; try (with_reducible rfl))
          simp only [Act.put, List.setIfInBounds_toArray, List.set_cons_zero, List.set_cons_succ]
          refine wpAnyH_take (i := 10) (oi := { dst := some 128, op := Op.load 3 (Operand.tmp 127), type := 3, pos := "plain.go:172", after := #[{ on := 9, ground := Ground.data }], guard := none }) (v := ?vq1010) rfl (by kernel_rfl) (by kernel_rfl) (by kernel_rfl) (fun _ _ _ h => h) (Or.inl ⟨by rfl, ?hq1010⟩) (by assumption) ?rq1010
          case hq1010 => (intro w0 hSw; (try dsimp only at hSw); go_simp; try (with_reducible rfl))
          simp only [Act.put, List.setIfInBounds_toArray, List.set_cons_zero, List.set_cons_succ]
          refine wpAnyH_take (i := 11) (oi := { dst := some 129, op := Op.binOp BinOp.gtr 3 (Operand.tmp 128) (Operand.const (Value.int IntKind.i64 0)) 3, type := 4, pos := "plain.go:172", after := #[{ on := 10, ground := Ground.data }], guard := none }) (v := ?vq1011) rfl (by kernel_rfl) (by kernel_rfl) (by kernel_rfl) (fun _ _ _ h => h) (Or.inl ⟨by rfl, ?hq1011⟩) (by assumption) ?rq1011
          case hq1011 => (intro w0 hSw; (try dsimp only at hSw); go_simp; try (with_reducible rfl))
          simp only [Act.put, List.setIfInBounds_toArray, List.set_cons_zero, List.set_cons_succ]
          refine wpAnyH_take (i := 12) (oi := { dst := some 130, op := Op.binOp BinOp.neq 4 (Operand.tmp 123) (Operand.tmp 129) 4, type := 4, pos := "plain.go:172", after := #[{ on := 5, ground := Ground.data }, { on := 11, ground := Ground.data }], guard := none }) (v := ?vq1012) rfl (by kernel_rfl) (by kernel_rfl) (by kernel_rfl) (fun _ _ _ h => h) (Or.inl ⟨by rfl, ?hq1012⟩) (by assumption) ?rq1012
          case hq1012 => (intro w0 hSw; (try dsimp only at hSw); go_simp; try (with_reducible rfl))
          simp only [Act.put, List.setIfInBounds_toArray, List.set_cons_zero, List.set_cons_succ]
          refine wpAnyH_done (by kernel_rfl) ?_ _
          go_wp2
          go_roundw
          case rel => exact ⟨j + 1, hjt, by go_num, by rw [HX.out]; go_num, HW.out.drew.drew⟩
          case measure => simp [intOf]; omega
        · have hx2 : (B3 == B4) = false := by cases B3 <;> cases B4 <;> first | rfl | cases hd2
          have HX : Hid (farB C1 C2 (2 * (j + 1)) = Fj + 2) := by show _ = _; rw [HSS.out.2, HSS.out.1, eB1, eB2, eB3, eB4, hd1, hd2]; simp [b01]
          clear HSS
          go_wp2_with fail
          refine wp_region_held_drew (S := fun w' => w'.cell? ⟨ga, j * 2, none⟩ = some (.int .i64 P.1) ∧ w'.cell? ⟨gb, j * 2, none⟩ = some (.int .i64 Q.1)) (by kernel_rfl) ?_ (fun hHeld => ?_)
          · exact ⟨c0, c2⟩
          refine wpAnyH_take (i := 0) (oi := { dst := some 103, op := Op.move (Operand.tmp 12), type := 23, pos := "plain.go:169", after := #[], guard := none }) (v := ?vp110) rfl (by kernel_rfl) (by kernel_rfl) (by kernel_rfl) (fun _ _ _ h => h) (Or.inl ⟨by rfl, ?hp110⟩) (by assumption) ?rp110
          case hp110 => (intro w0 hSw; (try dsimp only at hSw); go_simp; try (with_reducible rfl))
          simp only [Act.put, List.setIfInBounds_toArray, List.set_cons_zero, List.set_cons_succ]
          refine wpAnyH_take (i := 1) (oi := { dst := some 104, op := Op.move (Operand.tmp 26), type := 3, pos := "plain.go:169", after := #[], guard := none }) (v := ?vp111) rfl (by kernel_rfl) (by kernel_rfl) (by kernel_rfl) (fun _ _ _ h => h) (Or.inl ⟨by rfl, ?hp111⟩) (by assumption) ?rp111
          case hp111 => (intro w0 hSw; (try dsimp only at hSw); go_simp; try (with_reducible rfl))
          simp only [Act.put, List.setIfInBounds_toArray, List.set_cons_zero, List.set_cons_succ]
          refine wpAnyH_take (i := 2) (oi := { dst := some 105, op := Op.indexAddr 23 (Operand.tmp 103) (Operand.tmp 104), type := 0, pos := "plain.go:169", after := #[{ on := 0, ground := Ground.data }, { on := 1, ground := Ground.data }], guard := none }) (v := ?vp112) rfl (by kernel_rfl) (by kernel_rfl) (by kernel_rfl) (fun _ _ _ h => h) (Or.inl ⟨by rfl, ?hp112⟩) (by assumption) ?rp112
          case hp112 => (intro w0 hSw; (try dsimp only at hSw); go_simp; try (with_reducible rfl))
          simp only [Act.put, List.setIfInBounds_toArray, List.set_cons_zero, List.set_cons_succ]
          refine wpAnyH_take (i := 3) (oi := { dst := some 106, op := Op.fieldAddr 36 (Operand.tmp 105) 0, type := 0, pos := "plain.go:169", after := #[{ on := 2, ground := Ground.data }], guard := none }) (v := ?vp113) rfl (by kernel_rfl) (by kernel_rfl) (by kernel_rfl) (fun _ _ _ h => h) (Or.inl ⟨by rfl, ?hp113⟩) (by assumption) ?rp113
          case hp113 => (intro w0 hSw; (try dsimp only at hSw); go_simp; try (with_reducible rfl))
          simp only [Act.put, List.setIfInBounds_toArray, List.set_cons_zero, List.set_cons_succ]
          refine wpAnyH_take (i := 4) (oi := { dst := some 107, op := Op.load 3 (Operand.tmp 106), type := 3, pos := "plain.go:169", after := #[{ on := 3, ground := Ground.data }], guard := none }) (v := ?vp114) rfl (by kernel_rfl) (by kernel_rfl) (by kernel_rfl) (fun _ _ _ h => h) (Or.inl ⟨by rfl, ?hp114⟩) (by assumption) ?rp114
          case hp114 => (intro w0 hSw; (try dsimp only at hSw); go_simp; try (with_reducible rfl))
          simp only [Act.put, List.setIfInBounds_toArray, List.set_cons_zero, List.set_cons_succ]
          refine wpAnyH_take (i := 5) (oi := { dst := some 108, op := Op.binOp BinOp.gtr 3 (Operand.tmp 107) (Operand.const (Value.int IntKind.i64 0)) 3, type := 4, pos := "plain.go:169", after := #[{ on := 4, ground := Ground.data }], guard := none }) (v := ?vp115) rfl (by kernel_rfl) (by kernel_rfl) (by kernel_rfl) (fun _ _ _ h => h) (Or.inl ⟨by rfl, ?hp115⟩) (by assumption) ?rp115
          case hp115 => (intro w0 hSw; (try dsimp only at hSw); go_simp; try (with_reducible rfl))
          simp only [Act.put, List.setIfInBounds_toArray, List.set_cons_zero, List.set_cons_succ]
          refine wpAnyH_take (i := 6) (oi := { dst := some 109, op := Op.move (Operand.tmp 16), type := 23, pos := "plain.go:169", after := #[], guard := none }) (v := ?vp116) rfl (by kernel_rfl) (by kernel_rfl) (by kernel_rfl) (fun _ _ _ h => h) (Or.inl ⟨by rfl, ?hp116⟩) (by assumption) ?rp116
          case hp116 => (intro w0 hSw; (try dsimp only at hSw); go_simp; try (with_reducible rfl))
          simp only [Act.put, List.setIfInBounds_toArray, List.set_cons_zero, List.set_cons_succ]
          refine wpAnyH_take (i := 7) (oi := { dst := some 110, op := Op.move (Operand.tmp 26), type := 3, pos := "plain.go:169", after := #[], guard := none }) (v := ?vp117) rfl (by kernel_rfl) (by kernel_rfl) (by kernel_rfl) (fun _ _ _ h => h) (Or.inl ⟨by rfl, ?hp117⟩) (by assumption) ?rp117
          case hp117 => (intro w0 hSw; (try dsimp only at hSw); go_simp; try (with_reducible rfl))
          simp only [Act.put, List.setIfInBounds_toArray, List.set_cons_zero, List.set_cons_succ]
          refine wpAnyH_take (i := 8) (oi := { dst := some 111, op := Op.indexAddr 23 (Operand.tmp 109) (Operand.tmp 110), type := 0, pos := "plain.go:169", after := #[{ on := 6, ground := Ground.data }, { on := 7, ground := Ground.data }], guard := none }) (v := ?vp118) rfl (by kernel_rfl) (by kernel_rfl) (by kernel_rfl) (fun _ _ _ h => h) (Or.inl ⟨by rfl, ?hp118⟩) (by assumption) ?rp118
          case hp118 => (intro w0 hSw; (try dsimp only at hSw); go_simp; try (with_reducible rfl))
          simp only [Act.put, List.setIfInBounds_toArray, List.set_cons_zero, List.set_cons_succ]
          refine wpAnyH_take (i := 9) (oi := { dst := some 112, op := Op.fieldAddr 36 (Operand.tmp 111) 0, type := 0, pos := "plain.go:169", after := #[{ on := 8, ground := Ground.data }], guard := none }) (v := ?vp119) rfl (by kernel_rfl) (by kernel_rfl) (by kernel_rfl) (fun _ _ _ h => h) (Or.inl ⟨by rfl, ?hp119⟩) (by assumption) ?rp119
          case hp119 => (intro w0 hSw; (try dsimp only at hSw); go_simp; try (with_reducible rfl))
          simp only [Act.put, List.setIfInBounds_toArray, List.set_cons_zero, List.set_cons_succ]
          refine wpAnyH_take (i := 10) (oi := { dst := some 113, op := Op.load 3 (Operand.tmp 112), type := 3, pos := "plain.go:169", after := #[{ on := 9, ground := Ground.data }], guard := none }) (v := ?vp1110) rfl (by kernel_rfl) (by kernel_rfl) (by kernel_rfl) (fun _ _ _ h => h) (Or.inl ⟨by rfl, ?hp1110⟩) (by assumption) ?rp1110
          case hp1110 => (intro w0 hSw; (try dsimp only at hSw); go_simp; try (with_reducible rfl))
          simp only [Act.put, List.setIfInBounds_toArray, List.set_cons_zero, List.set_cons_succ]
          refine wpAnyH_take (i := 11) (oi := { dst := some 114, op := Op.binOp BinOp.gtr 3 (Operand.tmp 113) (Operand.const (Value.int IntKind.i64 0)) 3, type := 4, pos := "plain.go:169", after := #[{ on := 10, ground := Ground.data }], guard := none }) (v := ?vp1111) rfl (by kernel_rfl) (by kernel_rfl) (by kernel_rfl) (fun _ _ _ h => h) (Or.inl ⟨by rfl, ?hp1111⟩) (by assumption) ?rp1111
          case hp1111 => (intro w0 hSw; (try dsimp only at hSw); go_simp; try (with_reducible rfl))
          simp only [Act.put, List.setIfInBounds_toArray, List.set_cons_zero, List.set_cons_succ]
          refine wpAnyH_take (i := 12) (oi := { dst := some 115, op := Op.binOp BinOp.neq 4 (Operand.tmp 108) (Operand.tmp 114) 4, type := 4, pos := "plain.go:169", after := #[{ on := 5, ground := Ground.data }, { on := 11, ground := Ground.data }], guard := none }) (v := ?vp1112) rfl (by kernel_rfl) (by kernel_rfl) (by kernel_rfl) (fun _ _ _ h => h) (Or.inl ⟨by rfl, ?hp1112⟩) (by assumption) ?rp1112
          case hp1112 => (intro w0 hSw; (try dsimp only at hSw); go_simp; try (with_reducible rfl))
          simp only [Act.put, List.setIfInBounds_toArray, List.set_cons_zero, List.set_cons_succ]
          refine wpAnyH_done (by kernel_rfl) ?_ _
          go_wp2_with fail
          refine wp_region_held_drew (S := fun w' => w'.cell? ⟨ga, j * 2 + 1, none⟩ = some (.int .i64 P.2) ∧ w'.cell? ⟨gb, j * 2 + 1, none⟩ = some (.int .i64 Q.2)) (by kernel_rfl) ?_ (fun hHeld => ?_)
          · exact ⟨c1, c3⟩
          refine wpAnyH_take (i := 0) (oi := { dst := some 118, op := Op.move (Operand.tmp 12), type := 23, pos := "plain.go:172", after := #[], guard := none }) (v := ?vq110) rfl (by kernel_rfl) (by kernel_rfl) (by kernel_rfl) (fun _ _ _ h => h) (Or.inl ⟨by rfl, ?hq110⟩) (by assumption) ?rq110
          case hq110 => (intro w0 hSw; (try dsimp only at hSw); go_simp; try (with_reducible rfl))
          simp only [Act.put, List.setIfInBounds_toArray, List.set_cons_zero, List.set_cons_succ]
          refine wpAnyH_take (i := 1) (oi := { dst := some 119, op := Op.move (Operand.tmp 26), type := 3, pos := "plain.go:172", after := #[], guard := none }) (v := ?vq111) rfl (by kernel_rfl) (by kernel_rfl) (by kernel_rfl) (fun _ _ _ h => h) (Or.inl ⟨by rfl, ?hq111⟩) (by assumption) ?rq111
          case hq111 => (intro w0 hSw; (try dsimp only at hSw); go_simp; try (with_reducible rfl))
          simp only [Act.put, List.setIfInBounds_toArray, List.set_cons_zero, List.set_cons_succ]
          refine wpAnyH_take (i := 2) (oi := { dst := some 120, op := Op.indexAddr 23 (Operand.tmp 118) (Operand.tmp 119), type := 0, pos := "plain.go:172", after := #[{ on := 0, ground := Ground.data }, { on := 1, ground := Ground.data }], guard := none }) (v := ?vq112) rfl (by kernel_rfl) (by kernel_rfl) (by kernel_rfl) (fun _ _ _ h => h) (Or.inl ⟨by rfl, ?hq112⟩) (by assumption) ?rq112
          case hq112 => (intro w0 hSw; (try dsimp only at hSw); go_simp; try (with_reducible rfl))
          simp only [Act.put, List.setIfInBounds_toArray, List.set_cons_zero, List.set_cons_succ]
          refine wpAnyH_take (i := 3) (oi := { dst := some 121, op := Op.fieldAddr 36 (Operand.tmp 120) 1, type := 0, pos := "plain.go:172", after := #[{ on := 2, ground := Ground.data }], guard := none }) (v := ?vq113) rfl (by kernel_rfl) (by kernel_rfl) (by kernel_rfl) (fun _ _ _ h => h) (Or.inl ⟨by rfl, ?hq113⟩) (by assumption) ?rq113
          case hq113 => (intro w0 hSw; (try dsimp only at hSw); go_simp; try (with_reducible rfl))
          simp only [Act.put, List.setIfInBounds_toArray, List.set_cons_zero, List.set_cons_succ]
          refine wpAnyH_take (i := 4) (oi := { dst := some 122, op := Op.load 3 (Operand.tmp 121), type := 3, pos := "plain.go:172", after := #[{ on := 3, ground := Ground.data }], guard := none }) (v := ?vq114) rfl (by kernel_rfl) (by kernel_rfl) (by kernel_rfl) (fun _ _ _ h => h) (Or.inl ⟨by rfl, ?hq114⟩) (by assumption) ?rq114
          case hq114 => (intro w0 hSw; (try dsimp only at hSw); go_simp; try (with_reducible rfl))
          simp only [Act.put, List.setIfInBounds_toArray, List.set_cons_zero, List.set_cons_succ]
          refine wpAnyH_take (i := 5) (oi := { dst := some 123, op := Op.binOp BinOp.gtr 3 (Operand.tmp 122) (Operand.const (Value.int IntKind.i64 0)) 3, type := 4, pos := "plain.go:172", after := #[{ on := 4, ground := Ground.data }], guard := none }) (v := ?vq115) rfl (by kernel_rfl) (by kernel_rfl) (by kernel_rfl) (fun _ _ _ h => h) (Or.inl ⟨by rfl, ?hq115⟩) (by assumption) ?rq115
          case hq115 => (intro w0 hSw; (try dsimp only at hSw); go_simp; try (with_reducible rfl))
          simp only [Act.put, List.setIfInBounds_toArray, List.set_cons_zero, List.set_cons_succ]
          refine wpAnyH_take (i := 6) (oi := { dst := some 124, op := Op.move (Operand.tmp 16), type := 23, pos := "plain.go:172", after := #[], guard := none }) (v := ?vq116) rfl (by kernel_rfl) (by kernel_rfl) (by kernel_rfl) (fun _ _ _ h => h) (Or.inl ⟨by rfl, ?hq116⟩) (by assumption) ?rq116
          case hq116 => (intro w0 hSw; (try dsimp only at hSw); go_simp; try (with_reducible rfl))
          simp only [Act.put, List.setIfInBounds_toArray, List.set_cons_zero, List.set_cons_succ]
          refine wpAnyH_take (i := 7) (oi := { dst := some 125, op := Op.move (Operand.tmp 26), type := 3, pos := "plain.go:172", after := #[], guard := none }) (v := ?vq117) rfl (by kernel_rfl) (by kernel_rfl) (by kernel_rfl) (fun _ _ _ h => h) (Or.inl ⟨by rfl, ?hq117⟩) (by assumption) ?rq117
          case hq117 => (intro w0 hSw; (try dsimp only at hSw); go_simp; try (with_reducible rfl))
          simp only [Act.put, List.setIfInBounds_toArray, List.set_cons_zero, List.set_cons_succ]
          refine wpAnyH_take (i := 8) (oi := { dst := some 126, op := Op.indexAddr 23 (Operand.tmp 124) (Operand.tmp 125), type := 0, pos := "plain.go:172", after := #[{ on := 6, ground := Ground.data }, { on := 7, ground := Ground.data }], guard := none }) (v := ?vq118) rfl (by kernel_rfl) (by kernel_rfl) (by kernel_rfl) (fun _ _ _ h => h) (Or.inl ⟨by rfl, ?hq118⟩) (by assumption) ?rq118
          case hq118 => (intro w0 hSw; (try dsimp only at hSw); go_simp; try (with_reducible rfl))
          simp only [Act.put, List.setIfInBounds_toArray, List.set_cons_zero, List.set_cons_succ]
          refine wpAnyH_take (i := 9) (oi := { dst := some 127, op := Op.fieldAddr 36 (Operand.tmp 126) 1, type := 0, pos := "plain.go:172", after := #[{ on := 8, ground := Ground.data }], guard := none }) (v := ?vq119) rfl (by kernel_rfl) (by kernel_rfl) (by kernel_rfl) (fun _ _ _ h => h) (Or.inl ⟨by rfl, ?hq119⟩) (by assumption) ?rq119
          case hq119 => (intro w0 hSw; (try dsimp only at hSw); go_simp; try (with_reducible rfl))
          simp only [Act.put, List.setIfInBounds_toArray, List.set_cons_zero, List.set_cons_succ]
          refine wpAnyH_take (i := 10) (oi := { dst := some 128, op := Op.load 3 (Operand.tmp 127), type := 3, pos := "plain.go:172", after := #[{ on := 9, ground := Ground.data }], guard := none }) (v := ?vq1110) rfl (by kernel_rfl) (by kernel_rfl) (by kernel_rfl) (fun _ _ _ h => h) (Or.inl ⟨by rfl, ?hq1110⟩) (by assumption) ?rq1110
          case hq1110 => (intro w0 hSw; (try dsimp only at hSw); go_simp; try (with_reducible rfl))
          simp only [Act.put, List.setIfInBounds_toArray, List.set_cons_zero, List.set_cons_succ]
          refine wpAnyH_take (i := 11) (oi := { dst := some 129, op := Op.binOp BinOp.gtr 3 (Operand.tmp 128) (Operand.const (Value.int IntKind.i64 0)) 3, type := 4, pos := "plain.go:172", after := #[{ on := 10, ground := Ground.data }], guard := none }) (v := ?vq1111) rfl (by kernel_rfl) (by kernel_rfl) (by kernel_rfl) (fun _ _ _ h => h) (Or.inl ⟨by rfl, ?hq1111⟩) (by assumption) ?rq1111
          case hq1111 => (intro w0 hSw; (try dsimp only at hSw); go_simp; try (with_reducible rfl))
          simp only [Act.put, List.setIfInBounds_toArray, List.set_cons_zero, List.set_cons_succ]
          refine wpAnyH_take (i := 12) (oi := { dst := some 130, op := Op.binOp BinOp.neq 4 (Operand.tmp 123) (Operand.tmp 129) 4, type := 4, pos := "plain.go:172", after := #[{ on := 5, ground := Ground.data }, { on := 11, ground := Ground.data }], guard := none }) (v := ?vq1112) rfl (by kernel_rfl) (by kernel_rfl) (by kernel_rfl) (fun _ _ _ h => h) (Or.inl ⟨by rfl, ?hq1112⟩) (by assumption) ?rq1112
          case hq1112 => (intro w0 hSw; (try dsimp only at hSw); go_simp; try (with_reducible rfl))
          simp only [Act.put, List.setIfInBounds_toArray, List.set_cons_zero, List.set_cons_succ]
          refine wpAnyH_done (by kernel_rfl) ?_ _
          go_wp2
          go_roundw
          case rel => exact ⟨j + 1, hjt, by go_num, by rw [HX.out]; go_num, HW.out.drew.drew⟩
          case measure => simp [intOf]; omega
    · have e : j = m := by omega
      have HE : Hid (farB C1 C2 (2 * j) = DD) := by rw [e, HF.out.2.1]; exact HDD.out
      have hj' : ¬ (j : Int) < (m : Int) := by omega
      obtain ⟨Fj, eF⟩ : ∃ F, farB C1 C2 (2 * j) = F := ⟨_, rfl⟩
      have HE2 : Hid (Fj = DD) := by rw [← eF]; exact HE.out
      rw [eF]
      clear e HE eF hB
      obtain rfl : Fj = DD := HE2.out
      go_wp2
      go_ret
      have B := H9.out.2.2
      exact ⟨rfl, B.trans ((HW.out.below _).mono B.size)⟩
end Go.Proofs.YtmdmjjobhkpojaaDoor
