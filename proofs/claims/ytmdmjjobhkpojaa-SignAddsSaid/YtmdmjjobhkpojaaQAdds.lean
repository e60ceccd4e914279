/-
  DERIVED. SignAdds: its walk.
-/
import Derived.Test.YtmdmjjobhkpojaaQLen0
set_option linter.unusedVariables false
set_option linter.unusedSimpArgs false
namespace Go.Proofs.Ytmdmjjobhkpojaa
open Go.RowKit Go.Shelf Go.Proofs.BitMath Go.Proofs.FloatMath
theorem bothL_take (U V : List Zp) (i : Nat) : ∀ p ∈ bothL U V i, ∃ k, p = addZ (U.getD k (0, 0)) (V.getD k (0, 0)) := by
  intro p hp
  obtain ⟨k, -, rfl⟩ := List.mem_map.1 hp
  exact ⟨k, rfl⟩
theorem getD_bd2 {V : List Zp} {B : Nat} (h : ∀ p ∈ V, p.1.natAbs ≤ B ∧ p.2.natAbs ≤ B) (k : Nat) : (V.getD k (0, 0)).1.natAbs ≤ B ∧ (V.getD k (0, 0)).2.natAbs ≤ B := by
  rcases Nat.lt_or_ge k V.length with hk | hk
  · rw [getD_at hk]; exact h _ (List.getElem_mem hk)
  · rw [List.getD_eq_getElem?_getD, List.getElem?_eq_none hk]; simp
theorem row_at {W : World} {g m cap : Nat} {X : List Zp} (h : zE.Row W (.slice (some ⟨g, 0, none⟩) m cap) X) : zE.At W (some ⟨g, 0, none⟩) X := by
  obtain ⟨a, c, e, hA⟩ := h.lat
  simp only [Value.slice.injEq] at e
  rw [e.1]; exact hA
/-- An element of elements that lie somewhere. -/
theorem at_z {W : World} {a : Option Addr} {X : List Zp} (h : zE.At W a X) (i : Nat) (hi : i < X.length) : ∃ g off, a = some ⟨g, off, none⟩ ∧ W.cell? ⟨g, off + i * 2, none⟩ = some (.int .i64 X[i].1) ∧ W.cell? ⟨g, off + i * 2 + 1, none⟩ = some (.int .i64 X[i].2) := by
  obtain ⟨g, off, e, hr⟩ := h.at' (fun e => by rw [e] at hi; simp at hi)
  exact ⟨g, off, e, z_cells hr i hi⟩
set_option maxHeartbeats 1000000 in
theorem z_neq (a b c d : Int) (W : World) : (binOp .neq 30 (.agg #[.int .i64 a, .int .i64 b]) (.agg #[.int .i64 c, .int .i64 d])).run Try.prog W = .ok (.bool (!((a == c) && (b == d)))) W := by
  by_cases h1 : a = c
  · by_cases h2 : b = d
    · simp [go_sem, Try.underlying30, Try.underlying3, h1, h2]
    · simp [go_sem, Try.underlying30, Try.underlying3, h1, h2]
  · simp [go_sem, Try.underlying30, Try.underlying3, h1]
set_option maxRecDepth 100000 in
set_option maxHeartbeats 8000000 in
theorem law_adds (x sd c : Int) (la : Option Addr) (cap : Nat) (u0 : List Zp) (la' : Option Addr) (cap' : Nat) (v0 : List Zp) (w : World) (hu : zE.At w la u0) (hv : zE.At w la' v0) (hlu : u0.length < 4611686018427387904) (hlv : v0.length < 4611686018427387904) :
    Calls Try.prog 3 #[.int .i64 x, .int .u64 sd, .slice la u0.length cap, .slice la' v0.length cap', .int .i64 c] w fun e w' => e = .returned (.bool true) ∧ Below w.heap.size w w' := by
  obtain ⟨wd, ew, h64, h1024, hm⟩ := wdI_ok x
  have kW := width_any x
  rw [ew] at kW
  have kB := fun W => begun_any wd sd W h64 h1024 hm
  have kZ := fun W => size_any la u0.length cap W hlu
  have hz := szN_bd u0.length
  obtain ⟨n, en⟩ : ∃ n, szN u0.length = n := ⟨_, rfl⟩
  rw [en] at kZ hz
  have kU := fun W (b : Below w.heap.size w W) => vector_any la cap u0 n 1000 W (hu.below b) hlu (by omega) (by omega) (by omega)
  have kV := fun W (b : Below w.heap.size w W) => vector_any la' cap' v0 n 1000 W (hv.below b) hlv (by omega) (by omega) (by omega)
  have kF := fun W => fit_any c 1000 W (by omega) (by omega)
  have hUb : ∀ p ∈ vecL u0 n 1000, p.1.natAbs ≤ 1000 ∧ p.2.natAbs ≤ 1000 := vecL_bd u0 n 1000 (by omega)
  have hUl := vecL_len u0 n 1000
  obtain ⟨U, eU⟩ : ∃ U, vecL u0 n 1000 = U := ⟨_, rfl⟩
  rw [eU] at kU hUb hUl
  have hVb : ∀ p ∈ vecL v0 n 1000, p.1.natAbs ≤ 1000 ∧ p.2.natAbs ≤ 1000 := vecL_bd v0 n 1000 (by omega)
  have hVl := vecL_len v0 n 1000
  obtain ⟨V, eV⟩ : ∃ V, vecL v0 n 1000 = V := ⟨_, rfl⟩
  rw [eV] at kV hVb hVl
  have hcb : (fitI c 1000).natAbs ≤ 1000 := fitI_bd c 1000 (by omega)
  obtain ⟨C, eC⟩ : ∃ C, fitI c 1000 = C := ⟨_, rfl⟩
  rw [eC] at kF hcb
  have hBb : ∀ p ∈ bothL U V n, p.1.natAbs ≤ 2000 ∧ p.2.natAbs ≤ 2000 := fun p hp => by
    obtain ⟨k, rfl⟩ := bothL_take U V n p hp
    have h1 := getD_bd2 hUb k
    have h2 := getD_bd2 hVb k
    simp only [addZ]; omega
  have okU : U.all okP = true := all_okP fun p hp => ⟨Nat.le_trans (hUb p hp).1 (by omega), Nat.le_trans (hUb p hp).2 (by omega)⟩
  have okV : V.all okP = true := all_okP fun p hp => ⟨Nat.le_trans (hVb p hp).1 (by omega), Nat.le_trans (hVb p hp).2 (by omega)⟩
  have okB : (bothL U V n).all okP = true := all_okP fun p hp => ⟨Nat.le_trans (hBb p hp).1 (by omega), Nat.le_trans (hBb p hp).2 (by omega)⟩
  have okC : (U.map (mulZ C)).all okP = true := all_okP fun p hp => by
    obtain ⟨q, hq, rfl⟩ := List.mem_map.1 hp
    exact ⟨Nat.le_trans (mul_abs _ _ 1000 1000 hcb (hUb q hq).1) (by omega), Nat.le_trans (mul_abs _ _ 1000 1000 hcb (hUb q hq).2) (by omega)⟩
  have okT : (U.map trnZ).all okP = true := all_okP fun p hp => by
    obtain ⟨q, hq, rfl⟩ := List.mem_map.1 hp
    exact ⟨by simp only [trnZ, Int.natAbs_neg]; exact Nat.le_trans (hUb q hq).2 (by omega), Nat.le_trans (hUb q hq).1 (by omega)⟩
  have bC : ∀ p ∈ U, (C * p.1).natAbs ≤ 4611686018427387904 ∧ (C * p.2).natAbs ≤ 4611686018427387904 := fun p hp => ⟨Nat.le_trans (mul_abs _ _ 1000 1000 hcb (hUb p hp).1) (by omega), Nat.le_trans (mul_abs _ _ 1000 1000 hcb (hUb p hp).2) (by omega)⟩
  have bT : ∀ p ∈ U, p.1.natAbs ≤ 4611686018427387904 ∧ p.2.natAbs ≤ 4611686018427387904 := fun p hp => ⟨Nat.le_trans (hUb p hp).1 (by omega), Nat.le_trans (hUb p hp).2 (by omega)⟩
  have hBl := bothL_len U V n
  obtain ⟨m, em⟩ : ∃ m, wd / 2 = m := ⟨_, rfl⟩
  obtain ⟨Sa, eSa⟩ : ∃ S, sumsL wd sd U = S := ⟨_, rfl⟩
  obtain ⟨Sb, eSb⟩ : ∃ S, sumsL wd sd V = S := ⟨_, rfl⟩
  obtain ⟨Sd, eSd⟩ : ∃ S, sumsL wd sd (bothL U V n) = S := ⟨_, rfl⟩
  have eSe := sums_mul wd sd U C
  have eSf := sums_trn wd sd U
  rw [eSa] at eSe eSf
  have kG1 := fun W l2 c2 (hA : zE.At W l2 U) => sgdq em rfl eSa (signed_any wd sd l2 c2 U W h64 h1024 hm hA (by omega) (by omega) okU)
  have kG2 := fun W l2 c2 (hA : zE.At W l2 V) => sgdq em rfl eSb (signed_any wd sd l2 c2 V W h64 h1024 hm hA (by omega) (by omega) okV)
  have kG3 := fun W l2 c2 (hA : zE.At W l2 (bothL U V n)) => sgdq em rfl eSd (signed_any wd sd l2 c2 (bothL U V n) W h64 h1024 hm hA (by omega) (by omega) okB)
  have kG4 := fun W l2 c2 (hA : zE.At W l2 (U.map (mulZ C))) => sgdq em rfl eSe (signed_any wd sd l2 c2 (U.map (mulZ C)) W h64 h1024 hm hA (by rw [List.length_map]; omega) (by rw [List.length_map]; omega) okC)
  have kG5 := fun W l2 c2 (hA : zE.At W l2 (U.map trnZ)) => sgdq em rfl eSf (signed_any wd sd l2 c2 (U.map trnZ) W h64 h1024 hm hA (by rw [List.length_map]; omega) (by rw [List.length_map]; omega) okT)
  have kT4 := fun W l2 c2 (hA : zE.At W l2 U) => scaled_any l2 c2 U C W hA (by omega) bC
  have kT5 := fun W l2 c2 (hA : zE.At W l2 U) => turned_any l2 c2 U W hA (by omega) bT
  have hSb : ∀ p ∈ Sa, p.1.natAbs ≤ 1073741824 ∧ p.2.natAbs ≤ 1073741824 := fun p hp => by
    rw [← eSa] at hp
    obtain ⟨j, -, rfl⟩ := List.mem_map.1 hp
    have := sumZ_bd (sd := sd) (jj := j) okU U.length
    have h2 : U.length * 1048576 ≤ 1024 * 1048576 := Nat.mul_le_mul_right _ (by omega)
    exact ⟨by have := this.1; omega, by have := this.2; omega⟩
  have hSb2 : ∀ p ∈ Sb, p.1.natAbs ≤ 1073741824 ∧ p.2.natAbs ≤ 1073741824 := fun p hp => by
    rw [← eSb] at hp
    obtain ⟨j, -, rfl⟩ := List.mem_map.1 hp
    have := sumZ_bd (sd := sd) (jj := j) okV V.length
    have h2 : V.length * 1048576 ≤ 1024 * 1048576 := Nat.mul_le_mul_right _ (by omega)
    exact ⟨by have := this.1; omega, by have := this.2; omega⟩
  have hla : Sa.length = m := by rw [← eSa, sumsL_len, em]
  have hlb : Sb.length = m := by rw [← eSb, sumsL_len, em]
  have hld : Sd.length = m := by rw [← eSd, sumsL_len, em]
  have kT6 := fun W l2 c2 (hA : zE.At W l2 Sa) => turned_any l2 c2 Sa W hA (by omega) (fun p hp => ⟨Nat.le_trans (hSb p hp).1 (by omega), Nat.le_trans (hSb p hp).2 (by omega)⟩)
  have kT7 := fun W l2 c2 (hA : zE.At W l2 Sa) => scaled_any l2 c2 Sa C W hA (by omega) (fun p hp => ⟨Nat.le_trans (mul_abs _ _ 1000 1073741824 hcb (hSb p hp).1) (by omega), Nat.le_trans (mul_abs _ _ 1000 1073741824 hcb (hSb p hp).2) (by omega)⟩)
  rw [hUl] at kG1 kT4 kT5
  rw [hVl] at kG2
  rw [hBl] at kG3
  simp only [List.length_map, hUl] at kG4 kG5
  rw [hla] at kT6 kT7
  have hsum : ∀ j, j < m → Sd.getD j (0, 0) = addZ (Sa.getD j (0, 0)) (Sb.getD j (0, 0)) := by
    intro j hj
    rw [getD_at (by omega), getD_at (by omega), getD_at (by omega)]
    subst eSa eSb eSd
    rw [sumsL_at, sumsL_at, sumsL_at, hBl, hUl, hVl]
    exact sumZ_both sd j U V n n (Nat.le_refl _)
  have hm5 : m ≤ 512 := by omega
  have hn40 : n ≤ 40 := by omega
  obtain ⟨N, eN⟩ : ∃ N, u0.length = N := ⟨_, rfl⟩
  obtain ⟨N', eN'⟩ : ∃ N, v0.length = N := ⟨_, rfl⟩
  rw [eN] at kZ kU ⊢
  rw [eN'] at kV ⊢
  have HU := Hid.mk (And.intro hUl (And.intro hVl (And.intro hBl (And.intro hla (And.intro hlb hld)))))
  have HUb := Hid.mk (And.intro hUb (And.intro hVb (And.intro hSb hSb2)))
  have HS := Hid.mk hsum
  have kG1 := Hid.mk kG1
  have kG2 := Hid.mk kG2
  have kG3 := Hid.mk kG3
  have kG4 := Hid.mk kG4
  have kG5 := Hid.mk kG5
  have kT4 := Hid.mk kT4
  have kT5 := Hid.mk kT5
  have kT6 := Hid.mk kT6
  have kT7 := Hid.mk kT7
  have kU := Hid.mk kU
  have kV := Hid.mk kV
  clear hu hv hlu hlv hz hUb hVb hUl hVl hBl hBb okU okV okB okC okT bC bT hcb h64 h1024 hm eN eN' eU eV eC en ew eSa eSb eSd eSe eSf em hSb hSb2 hla hlb hld hsum
  go_enter Try.func3, Try.ntmps3
  go_wp2_with fail
  refine (kW _).mono ?_
  rintro e w1 ⟨rfl, rfl⟩
  go_wp2_with fail
  refine (kB _).mono ?_
  rintro e w1 ⟨rfl, b1⟩
  go_wp2_with fail
  refine (kZ _).mono ?_
  rintro e w2 ⟨rfl, rfl⟩
  go_wp2_with fail
  refine (kU.out _ b1).mono ?_
  intro e w3 hN
  obtain ⟨au, cu, rfl, hA3, b3⟩ := newz_open hN
  rw [HU.out.1]
  have B3 := b1.trans (b3.mono b1.size)
  clear hN b3 b1
  go_wp2_with fail
  refine (kV.out _ B3).mono ?_
  intro e w4 hN
  obtain ⟨av, cv, rfl, hV4, b4⟩ := newz_open hN
  rw [HU.out.2.1]
  have B4 := B3.trans (b4.mono B3.size)
  have hU4 := hA3.below b4
  clear hN b4 B3 hA3
  go_wp2_with fail
  refine (kF _).mono ?_
  rintro e w5 ⟨rfl, rfl⟩
  clear kW kB kZ kF kU kV
  have H4 := Hid.mk (And.intro hU4 (And.intro hV4 B4))
  clear hU4 hV4 B4
  go_wp2
  go_loopw [13, 14] (fun o f wr => ∃ (i : Nat), i ≤ n ∧ f = .int .i64 i ∧ GroZ w5 (bothL U V i) o wr) (fun _ f _ => n - (intOf f).toNat)
  case atStart => exact ⟨0, Nat.zero_le _, rfl, GroZ.start w5⟩
  case round =>
    obtain ⟨i, hi, rfl, hG⟩ := hrel
    by_cases hlt : i < n
    · clear kG1 kG2 kG3 kG4 kG5 kT4 kT5 kT6 kT7
      have hlt' : (i : Int) < (n : Int) := by omega
      have hiU : i < U.length := by rw [HU.out.1]; exact hlt
      have hiV : i < V.length := by rw [HU.out.2.1]; exact hlt
      obtain ⟨gu, ou, rfl, hru⟩ := H4.out.1.at' (fun e => by rw [e] at hiU; simp at hiU)
      obtain ⟨gv, ov, rfl, hrv⟩ := H4.out.2.1.at' (fun e => by rw [e] at hiV; simp at hiV)
      obtain ⟨q0, q1⟩ := z_cells hru i hiU
      obtain ⟨q2, q3⟩ := z_cells hrv i hiV
      have hgu : gu < w5.heap.size := World.block_lt_of_cell? w5 _ q0
      have hgv : gv < w5.heap.size := World.block_lt_of_cell? w5 _ q2
      have hbs := bothL_succ U V i
      rw [getD_at hiU, getD_at hiV] at hbs
      have hpb := HUb.out.1 _ (List.getElem_mem hiU)
      have hrb := HUb.out.2.1 _ (List.getElem_mem hiV)
      obtain ⟨p, ep⟩ : ∃ p, U[i] = p := ⟨_, rfl⟩
      obtain ⟨r, er⟩ : ∃ r, V[i] = r := ⟨_, rfl⟩
      rw [ep] at q0 q1 hbs hpb
      rw [er] at q2 q3 hbs hrb
      have y0 := (hG.bel.cell (p := ⟨gu, ou + i * 2, none⟩) hgu).trans q0
      have y1 := (hG.bel.cell (p := ⟨gu, ou + i * 2 + 1, none⟩) hgu).trans q1
      have y2 := (hG.bel.cell (p := ⟨gv, ov + i * 2, none⟩) hgv).trans q2
      have y3 := (hG.bel.cell (p := ⟨gv, ov + i * 2 + 1, none⟩) hgv).trans q3
      have hG1 := hG.later (b_drew wr)
      obtain ⟨o', W', hap, hG2⟩ := hG1.push (by rw [bothL_len]; omega) (addZ p r)
      rw [← hbs] at hG2
      have z0 := (hG2.bel.cell (p := ⟨gu, ou + i * 2, none⟩) hgu).trans q0
      have z1 := (hG2.bel.cell (p := ⟨gu, ou + i * 2 + 1, none⟩) hgu).trans q1
      have z2 := (hG2.bel.cell (p := ⟨gv, ov + i * 2, none⟩) hgv).trans q2
      have z3 := (hG2.bel.cell (p := ⟨gv, ov + i * 2 + 1, none⟩) hgv).trans q3
      have bQ := (Below.refl _ wr).alloc (Nat.le_refl _) (.cells #[.int .i64 (p.1 + r.1), .int .i64 (p.2 + r.2)] 30)
      have yq0 := cell_lat bQ y0
      have yq1 := cell_lat bQ y1
      have yq2 := cell_lat bQ y2
      have yq3 := cell_lat bQ y3
      clear bQ
      have a1 : IntKind.i64.wrap (p.1 + r.1) = p.1 + r.1 := i64_sg _ (by omega) (by omega)
      have a2 : IntKind.i64.wrap (p.2 + r.2) = p.2 + r.2 := i64_sg _ (by omega) (by omega)
      have HG2 := Hid.mk hG2
      have EPR := Hid.mk (And.intro ep er)
      clear hG hG1 hG2 hbs q0 q1 q2 q3 ep er hru hrv hpb hrb
      go_wp2_with fail
      refine wp_region_held_drew (S := fun w' => w'.cell? ⟨gu, ou + i * 2, none⟩ = some (.int .i64 p.1) ∧ w'.cell? ⟨gu, ou + i * 2 + 1, none⟩ = some (.int .i64 p.2) ∧ w'.cell? ⟨gv, ov + i * 2, none⟩ = some (.int .i64 r.1) ∧ w'.cell? ⟨gv, ov + i * 2 + 1, none⟩ = some (.int .i64 r.2)) (by kernel_rfl) ?_ (fun hHeld => ?_)
      · exact ⟨y0, y1, y2, y3⟩
      refine wpAnyH_take (i := 0) (oi := { dst := some 58, op := Op.move (Operand.tmp 13), type := 23, pos := "plain.go:100", after := #[], guard := none }) (v := ?va0) rfl (by kernel_rfl) (by kernel_rfl) (by kernel_rfl) (fun _ _ _ h => h) (Or.inl ⟨by rfl, ?ha0⟩) (by assumption) ?ra0
      case ha0 => (intro w0 hSw; (try dsimp only at hSw); go_simp; try (with_reducible rfl))
      simp only [Act.put, List.setIfInBounds_toArray, List.set_cons_zero, List.set_cons_succ]
      refine wpAnyH_take (i := 1) (oi := { dst := some 59, op := Op.move (Operand.tmp 2), type := 23, pos := "plain.go:100", after := #[], guard := none }) (v := ?va1) rfl (by kernel_rfl) (by kernel_rfl) (by kernel_rfl) (fun _ _ _ h => h) (Or.inl ⟨by rfl, ?ha1⟩) (by assumption) ?ra1
      case ha1 => (intro w0 hSw; (try dsimp only at hSw); go_simp; try (with_reducible rfl))
      simp only [Act.put, List.setIfInBounds_toArray, List.set_cons_zero, List.set_cons_succ]
      refine wpAnyH_take (i := 2) (oi := { dst := some 60, op := Op.move (Operand.tmp 14), type := 3, pos := "plain.go:100", after := #[], guard := none }) (v := ?va2) rfl (by kernel_rfl) (by kernel_rfl) (by kernel_rfl) (fun _ _ _ h => h) (Or.inl ⟨by rfl, ?ha2⟩) (by assumption) ?ra2
      case ha2 => (intro w0 hSw; (try dsimp only at hSw); go_simp; try (with_reducible rfl))
      simp only [Act.put, List.setIfInBounds_toArray, List.set_cons_zero, List.set_cons_succ]
      refine wpAnyH_take (i := 3) (oi := { dst := some 61, op := Op.indexAddr 23 (Operand.tmp 59) (Operand.tmp 60), type := 0, pos := "plain.go:100", after := #[{ on := 1, ground := Ground.data }, { on := 2, ground := Ground.data }], guard := none }) (v := ?va3) rfl (by kernel_rfl) (by kernel_rfl) (by kernel_rfl) (fun _ _ _ h => h) (Or.inl ⟨by rfl, ?ha3⟩) (by assumption) ?ra3
      case ha3 => (intro w0 hSw; (try dsimp only at hSw); go_simp; try (with_reducible rfl))
      simp only [Act.put, List.setIfInBounds_toArray, List.set_cons_zero, List.set_cons_succ]
      refine wpAnyH_take (i := 4) (oi := { dst := some 62, op := Op.fieldAddr 30 (Operand.tmp 61) 0, type := 0, pos := "plain.go:100", after := #[{ on := 3, ground := Ground.data }], guard := none }) (v := ?va4) rfl (by kernel_rfl) (by kernel_rfl) (by kernel_rfl) (fun _ _ _ h => h) (Or.inl ⟨by rfl, ?ha4⟩) (by assumption) ?ra4
      case ha4 => (intro w0 hSw; (try dsimp only at hSw); go_simp; try (with_reducible rfl))
      simp only [Act.put, List.setIfInBounds_toArray, List.set_cons_zero, List.set_cons_succ]
      refine wpAnyH_take (i := 5) (oi := { dst := some 63, op := Op.load 3 (Operand.tmp 62), type := 3, pos := "plain.go:100", after := #[{ on := 4, ground := Ground.data }], guard := none }) (v := ?va5) rfl (by kernel_rfl) (by kernel_rfl) (by kernel_rfl) (fun _ _ _ h => h) (Or.inl ⟨by rfl, ?ha5⟩) (by assumption) ?ra5
      case ha5 => (intro w0 hSw; (try dsimp only at hSw); go_simp; try (with_reducible rfl))
      simp only [Act.put, List.setIfInBounds_toArray, List.set_cons_zero, List.set_cons_succ]
      refine wpAnyH_take (i := 6) (oi := { dst := some 64, op := Op.move (Operand.tmp 3), type := 23, pos := "plain.go:100", after := #[], guard := none }) (v := ?va6) rfl (by kernel_rfl) (by kernel_rfl) (by kernel_rfl) (fun _ _ _ h => h) (Or.inl ⟨by rfl, ?ha6⟩) (by assumption) ?ra6
      case ha6 => (intro w0 hSw; (try dsimp only at hSw); go_simp; try (with_reducible rfl))
      simp only [Act.put, List.setIfInBounds_toArray, List.set_cons_zero, List.set_cons_succ]
      refine wpAnyH_take (i := 7) (oi := { dst := some 65, op := Op.move (Operand.tmp 14), type := 3, pos := "plain.go:100", after := #[], guard := none }) (v := ?va7) rfl (by kernel_rfl) (by kernel_rfl) (by kernel_rfl) (fun _ _ _ h => h) (Or.inl ⟨by rfl, ?ha7⟩) (by assumption) ?ra7
      case ha7 => (intro w0 hSw; (try dsimp only at hSw); go_simp; try (with_reducible rfl))
      simp only [Act.put, List.setIfInBounds_toArray, List.set_cons_zero, List.set_cons_succ]
      refine wpAnyH_take (i := 8) (oi := { dst := some 66, op := Op.indexAddr 23 (Operand.tmp 64) (Operand.tmp 65), type := 0, pos := "plain.go:100", after := #[{ on := 6, ground := Ground.data }, { on := 7, ground := Ground.data }], guard := none }) (v := ?va8) rfl (by kernel_rfl) (by kernel_rfl) (by kernel_rfl) (fun _ _ _ h => h) (Or.inl ⟨by rfl, ?ha8⟩) (by assumption) ?ra8
      case ha8 => (intro w0 hSw; (try dsimp only at hSw); go_simp; try (with_reducible rfl))
      simp only [Act.put, List.setIfInBounds_toArray, List.set_cons_zero, List.set_cons_succ]
      refine wpAnyH_take (i := 9) (oi := { dst := some 67, op := Op.fieldAddr 30 (Operand.tmp 66) 0, type := 0, pos := "plain.go:100", after := #[{ on := 8, ground := Ground.data }], guard := none }) (v := ?va9) rfl (by kernel_rfl) (by kernel_rfl) (by kernel_rfl) (fun _ _ _ h => h) (Or.inl ⟨by rfl, ?ha9⟩) (by assumption) ?ra9
      case ha9 => (intro w0 hSw; (try dsimp only at hSw); go_simp; try (with_reducible rfl))
      simp only [Act.put, List.setIfInBounds_toArray, List.set_cons_zero, List.set_cons_succ]
      refine wpAnyH_take (i := 10) (oi := { dst := some 68, op := Op.load 3 (Operand.tmp 67), type := 3, pos := "plain.go:100", after := #[{ on := 9, ground := Ground.data }], guard := none }) (v := ?va10) rfl (by kernel_rfl) (by kernel_rfl) (by kernel_rfl) (fun _ _ _ h => h) (Or.inl ⟨by rfl, ?ha10⟩) (by assumption) ?ra10
      case ha10 => (intro w0 hSw; (try dsimp only at hSw); go_simp; try (with_reducible rfl))
      simp only [Act.put, List.setIfInBounds_toArray, List.set_cons_zero, List.set_cons_succ]
      refine wpAnyH_take (i := 11) (oi := { dst := some 69, op := Op.binOp BinOp.add 3 (Operand.tmp 63) (Operand.tmp 68) 3, type := 3, pos := "plain.go:100", after := #[{ on := 5, ground := Ground.data }, { on := 10, ground := Ground.data }], guard := none }) (v := ?va11) rfl (by kernel_rfl) (by kernel_rfl) (by kernel_rfl) (fun _ _ _ h => h) (Or.inl ⟨by rfl, ?ha11⟩) (by assumption) ?ra11
      case ha11 => (intro w0 hSw; (try dsimp only at hSw); go_simp; try (with_reducible rfl))
      simp only [Act.put, List.setIfInBounds_toArray, List.set_cons_zero, List.set_cons_succ]
      refine wpAnyH_take (i := 12) (oi := { dst := some 70, op := Op.move (Operand.tmp 2), type := 23, pos := "plain.go:100", after := #[], guard := none }) (v := ?va12) rfl (by kernel_rfl) (by kernel_rfl) (by kernel_rfl) (fun _ _ _ h => h) (Or.inl ⟨by rfl, ?ha12⟩) (by assumption) ?ra12
      case ha12 => (intro w0 hSw; (try dsimp only at hSw); go_simp; try (with_reducible rfl))
      simp only [Act.put, List.setIfInBounds_toArray, List.set_cons_zero, List.set_cons_succ]
      refine wpAnyH_take (i := 13) (oi := { dst := some 71, op := Op.move (Operand.tmp 14), type := 3, pos := "plain.go:100", after := #[], guard := none }) (v := ?va13) rfl (by kernel_rfl) (by kernel_rfl) (by kernel_rfl) (fun _ _ _ h => h) (Or.inl ⟨by rfl, ?ha13⟩) (by assumption) ?ra13
      case ha13 => (intro w0 hSw; (try dsimp only at hSw); go_simp; try (with_reducible rfl))
      simp only [Act.put, List.setIfInBounds_toArray, List.set_cons_zero, List.set_cons_succ]
      refine wpAnyH_take (i := 14) (oi := { dst := some 72, op := Op.indexAddr 23 (Operand.tmp 70) (Operand.tmp 71), type := 0, pos := "plain.go:100", after := #[{ on := 12, ground := Ground.data }, { on := 13, ground := Ground.data }], guard := none }) (v := ?va14) rfl (by kernel_rfl) (by kernel_rfl) (by kernel_rfl) (fun _ _ _ h => h) (Or.inl ⟨by rfl, ?ha14⟩) (by assumption) ?ra14
      case ha14 => (intro w0 hSw; (try dsimp only at hSw); go_simp; try (with_reducible rfl))
      simp only [Act.put, List.setIfInBounds_toArray, List.set_cons_zero, List.set_cons_succ]
      refine wpAnyH_take (i := 15) (oi := { dst := some 73, op := Op.fieldAddr 30 (Operand.tmp 72) 1, type := 0, pos := "plain.go:100", after := #[{ on := 14, ground := Ground.data }], guard := none }) (v := ?va15) rfl (by kernel_rfl) (by kernel_rfl) (by kernel_rfl) (fun _ _ _ h => h) (Or.inl ⟨by rfl, ?ha15⟩) (by assumption) ?ra15
      case ha15 => (intro w0 hSw; (try dsimp only at hSw); go_simp; try (with_reducible rfl))
      simp only [Act.put, List.setIfInBounds_toArray, List.set_cons_zero, List.set_cons_succ]
      refine wpAnyH_take (i := 16) (oi := { dst := some 74, op := Op.load 3 (Operand.tmp 73), type := 3, pos := "plain.go:100", after := #[{ on := 15, ground := Ground.data }], guard := none }) (v := ?va16) rfl (by kernel_rfl) (by kernel_rfl) (by kernel_rfl) (fun _ _ _ h => h) (Or.inl ⟨by rfl, ?ha16⟩) (by assumption) ?ra16
      case ha16 => (intro w0 hSw; (try dsimp only at hSw); go_simp; try (with_reducible rfl))
      simp only [Act.put, List.setIfInBounds_toArray, List.set_cons_zero, List.set_cons_succ]
      refine wpAnyH_take (i := 17) (oi := { dst := some 75, op := Op.move (Operand.tmp 3), type := 23, pos := "plain.go:100", after := #[], guard := none }) (v := ?va17) rfl (by kernel_rfl) (by kernel_rfl) (by kernel_rfl) (fun _ _ _ h => h) (Or.inl ⟨by rfl, ?ha17⟩) (by assumption) ?ra17
      case ha17 => (intro w0 hSw; (try dsimp only at hSw); go_simp; try (with_reducible rfl))
      simp only [Act.put, List.setIfInBounds_toArray, List.set_cons_zero, List.set_cons_succ]
      refine wpAnyH_take (i := 18) (oi := { dst := some 76, op := Op.move (Operand.tmp 14), type := 3, pos := "plain.go:100", after := #[], guard := none }) (v := ?va18) rfl (by kernel_rfl) (by kernel_rfl) (by kernel_rfl) (fun _ _ _ h => h) (Or.inl ⟨by rfl, ?ha18⟩) (by assumption) ?ra18
      case ha18 => (intro w0 hSw; (try dsimp only at hSw); go_simp; try (with_reducible rfl))
      simp only [Act.put, List.setIfInBounds_toArray, List.set_cons_zero, List.set_cons_succ]
      refine wpAnyH_take (i := 19) (oi := { dst := some 77, op := Op.indexAddr 23 (Operand.tmp 75) (Operand.tmp 76), type := 0, pos := "plain.go:100", after := #[{ on := 17, ground := Ground.data }, { on := 18, ground := Ground.data }], guard := none }) (v := ?va19) rfl (by kernel_rfl) (by kernel_rfl) (by kernel_rfl) (fun _ _ _ h => h) (Or.inl ⟨by rfl, ?ha19⟩) (by assumption) ?ra19
      case ha19 => (intro w0 hSw; (try dsimp only at hSw); go_simp; try (with_reducible rfl))
      simp only [Act.put, List.setIfInBounds_toArray, List.set_cons_zero, List.set_cons_succ]
      refine wpAnyH_take (i := 20) (oi := { dst := some 78, op := Op.fieldAddr 30 (Operand.tmp 77) 1, type := 0, pos := "plain.go:100", after := #[{ on := 19, ground := Ground.data }], guard := none }) (v := ?va20) rfl (by kernel_rfl) (by kernel_rfl) (by kernel_rfl) (fun _ _ _ h => h) (Or.inl ⟨by rfl, ?ha20⟩) (by assumption) ?ra20
      case ha20 => (intro w0 hSw; (try dsimp only at hSw); go_simp; try (with_reducible rfl))
      simp only [Act.put, List.setIfInBounds_toArray, List.set_cons_zero, List.set_cons_succ]
      refine wpAnyH_take (i := 21) (oi := { dst := some 79, op := Op.load 3 (Operand.tmp 78), type := 3, pos := "plain.go:100", after := #[{ on := 20, ground := Ground.data }], guard := none }) (v := ?va21) rfl (by kernel_rfl) (by kernel_rfl) (by kernel_rfl) (fun _ _ _ h => h) (Or.inl ⟨by rfl, ?ha21⟩) (by assumption) ?ra21
      case ha21 => (intro w0 hSw; (try dsimp only at hSw); go_simp; try (with_reducible rfl))
      simp only [Act.put, List.setIfInBounds_toArray, List.set_cons_zero, List.set_cons_succ]
      refine wpAnyH_take (i := 22) (oi := { dst := some 80, op := Op.binOp BinOp.add 3 (Operand.tmp 74) (Operand.tmp 79) 3, type := 3, pos := "plain.go:100", after := #[{ on := 16, ground := Ground.data }, { on := 21, ground := Ground.data }], guard := none }) (v := ?va22) rfl (by kernel_rfl) (by kernel_rfl) (by kernel_rfl) (fun _ _ _ h => h) (Or.inl ⟨by rfl, ?ha22⟩) (by assumption) ?ra22
      case ha22 => (intro w0 hSw; (try dsimp only at hSw); go_simp; try (with_reducible rfl))
      simp only [Act.put, List.setIfInBounds_toArray, List.set_cons_zero, List.set_cons_succ]
      refine wpAnyH_take (i := 23) (oi := { dst := some 81, op := Op.build 30 #[(0, Operand.tmp 69), (1, Operand.tmp 80)], type := 30, pos := "plain.go:100", after := #[{ on := 11, ground := Ground.data }, { on := 22, ground := Ground.data }], guard := none }) (v := ?va23) rfl (by kernel_rfl) (by kernel_rfl) (by kernel_rfl) (fun _ _ _ h => h) (Or.inl ⟨by rfl, ?ha23⟩) (by assumption) ?ra23
      case ha23 => (intro w0 hSw; (try dsimp only at hSw); go_simp; try (with_reducible rfl))
      simp only [Act.put, List.setIfInBounds_toArray, List.set_cons_zero, List.set_cons_succ]
      refine wpAnyH_ready (rs := [24]) (by kernel_rfl) (by simp) ?_
      refine AllReadyH.cons rfl (fun K0 hK0 => ?_) AllReadyH.nil
      go_simp
      refine hK0.out _ _ ?_ (fun hHeld => ?_)
      · exact ⟨yq0, yq1, yq2, yq3⟩
      clear hK0 K0
      refine wpAnyH_ready (rs := [25]) (by kernel_rfl) (by simp) ?_
      refine AllReadyH.cons rfl (fun K0 hK0 => ?_) AllReadyH.nil
      rw [if_pos (by rfl)]
      refine oper_append_eq _ _ _ _ rfl _ _ _ _ rfl rfl hap ?_
      go_simp
      refine hK0.out _ _ ?_ (fun hHeld => ?_)
      · exact ⟨z0, z1, z2, z3⟩
      clear hK0 K0
      refine wpAnyH_take (i := 26) (oi := { dst := some 13, op := Op.assign (Operand.tmp 83), type := 23, pos := "plain.go:100", after := #[{ on := 25, ground := Ground.data }, { on := 25, ground := Ground.chain }, { on := 0, ground := Ground.phase }, { on := 1, ground := Ground.phase }, { on := 2, ground := Ground.phase }, { on := 3, ground := Ground.phase }, { on := 4, ground := Ground.phase }, { on := 5, ground := Ground.phase }, { on := 6, ground := Ground.phase }, { on := 7, ground := Ground.phase }, { on := 8, ground := Ground.phase }, { on := 9, ground := Ground.phase }, { on := 10, ground := Ground.phase }, { on := 11, ground := Ground.phase }, { on := 12, ground := Ground.phase }, { on := 13, ground := Ground.phase }, { on := 14, ground := Ground.phase }, { on := 15, ground := Ground.phase }, { on := 16, ground := Ground.phase }, { on := 17, ground := Ground.phase }, { on := 18, ground := Ground.phase }, { on := 19, ground := Ground.phase }, { on := 20, ground := Ground.phase }, { on := 21, ground := Ground.phase }, { on := 22, ground := Ground.phase }, { on := 23, ground := Ground.phase }, { on := 24, ground := Ground.phase }, { on := 25, ground := Ground.phase }], guard := none }) (v := ?va26) rfl (by kernel_rfl) (by kernel_rfl) (by kernel_rfl) (fun _ _ _ h => h) (Or.inl ⟨by rfl, ?ha26⟩) (by assumption) ?ra26
      case ha26 => (intro w0 hSw; (try dsimp only at hSw); go_simp; try (with_reducible rfl))
      simp only [Act.put, List.setIfInBounds_toArray, List.set_cons_zero, List.set_cons_succ]
      refine wpAnyH_done (by kernel_rfl) ?_ _
      clear hHeld
      go_wp2
      go_roundw
      case rel => exact ⟨i + 1, hlt, by go_num, HG2.out⟩
      case measure => simp [intOf]; omega
    · have e : i = n := by omega
      rw [e] at hG
      obtain ⟨ab, cb, hob, hB5⟩ := hG.row.lat
      have B5 := hG.bel
      have hU5 := H4.out.1.below B5
      have hV5 := H4.out.2.1.below B5
      have D5 := H4.out.2.2.trans (B5.mono H4.out.2.2.size)
      rw [HU.out.2.2.1] at hob
      rw [hob]
      have hlt' : ¬ (i : Int) < (n : Int) := by omega
      clear e hG B5 H4 hob
      go_wp2_with fail
      refine (kG1.out _ _ _ hU5).mono ?_
      rintro e x1 ⟨s1, g1, cp1, rfl, r1, b1⟩
      have U1 := hU5.below b1
      have V1 := hV5.below b1
      have Q1 := hB5.below b1
      have D1 := D5.trans (b1.mono D5.size)
      clear hU5 hV5 hB5 D5 b1 kG1
      go_wp2_with fail
      refine (kG2.out _ _ _ V1).mono ?_
      rintro e x2 ⟨s2, g2, cp2, rfl, t2, b2⟩
      have r2 := r1.below b2
      have U2 := U1.below b2
      have Q2 := Q1.below b2
      have D2 := D1.trans (b2.mono D1.size)
      clear r1 U1 Q1 V1 D1 b2 kG2
      go_wp2_with fail
      refine (kG3.out _ _ _ Q2).mono ?_
      rintro e x3 ⟨s3, g3, cp3, rfl, q3, b3⟩
      have r3 := r2.below b3
      have t3 := t2.below b3
      have U3 := U2.below b3
      have D3 := D2.trans (b3.mono D2.size)
      clear r2 t2 U2 Q2 D2 b3 kG3
      go_wp2_with fail
      refine (kT4.out _ _ _ U3).mono ?_
      intro e x4 hN
      obtain ⟨a4, c4, rfl, hA4, b4⟩ := newz_open hN
      rw [List.length_map, HU.out.1]
      have r4 := r3.below b4
      have t4 := t3.below b4
      have q4 := q3.below b4
      have U4 := U3.below b4
      have D4 := D3.trans (b4.mono D3.size)
      clear r3 t3 q3 U3 D3 b4 hN kT4
      go_wp2_with fail
      refine (kG4.out _ _ _ hA4).mono ?_
      rintro e x5 ⟨s5, g5, cp5, rfl, e5, b5⟩
      have r5 := r4.below b5
      have t5 := t4.below b5
      have q5 := q4.below b5
      have U5 := U4.below b5
      have D5 := D4.trans (b5.mono D4.size)
      clear r4 t4 q4 U4 D4 b5 hA4 kG4
      go_wp2_with fail
      refine (kT5.out _ _ _ U5).mono ?_
      intro e x6 hN
      obtain ⟨a6, c6, rfl, hA6, b6⟩ := newz_open hN
      rw [List.length_map, HU.out.1]
      have r6 := r5.below b6
      have t6 := t5.below b6
      have q6 := q5.below b6
      have e6 := e5.below b6
      have D6 := D5.trans (b6.mono D5.size)
      clear r5 t5 q5 e5 U5 D5 b6 hN kT5
      go_wp2_with fail
      refine (kG5.out _ _ _ hA6).mono ?_
      rintro e x7 ⟨s7, g7, cp7, rfl, f7, b7⟩
      have r7 := r6.below b7
      have t7 := t6.below b7
      have q7 := q6.below b7
      have e7 := e6.below b7
      have D7 := D6.trans (b7.mono D6.size)
      have hR7 := row_at r7
      clear r6 t6 q6 e6 D6 b7 hA6 kG5
      go_wp2_with fail
      refine (kT6.out _ _ _ hR7).mono ?_
      intro e x8 hN
      obtain ⟨a8, c8, rfl, hA8, b8⟩ := newz_open hN
      rw [List.length_map, HU.out.2.2.2.1]
      have r8 := r7.below b8
      have t8 := t7.below b8
      have q8 := q7.below b8
      have e8 := e7.below b8
      have f8 := f7.below b8
      have R8 := row_at r8
      have D8 := D7.trans (b8.mono D7.size)
      clear r7 t7 q7 e7 f7 D7 b8 hN kT6 hR7
      go_wp2_with fail
      refine (kT7.out _ _ _ R8).mono ?_
      intro e x9 hN
      obtain ⟨a9, c9, rfl, hA9, b9⟩ := newz_open hN
      rw [List.length_map, HU.out.2.2.2.1]
      have H9 := Hid.mk (And.intro (r8.below b9) (And.intro (t8.below b9) (And.intro (q8.below b9) (And.intro (e8.below b9) (And.intro (f8.below b9) (And.intro (hA8.below b9) (And.intro hA9 (D8.trans (b9.mono D8.size)))))))))
      clear r8 t8 q8 e8 f8 hA8 hA9 D8 b9 hN kT7 R8
      go_wp2
      go_loopw [37] (fun f wz => ∃ (j : Nat), j ≤ m ∧ f = .int .i64 j ∧ Below x9.heap.size x9 wz) (fun f _ => m - (intOf f).toNat)
      case atStart => exact ⟨0, Nat.zero_le _, rfl, Below.refl _ _⟩
      case round =>
        obtain ⟨j, hj, rfl, hB⟩ := hrel
        obtain ⟨wz, ez⟩ : ∃ wz, wz = wr := ⟨_, rfl⟩
        have HW := Hid.mk hB
        by_cases hjt : j < m
        · have hj' : (j : Int) < (m : Int) := by omega
          obtain ⟨h1, h2, h3, h4, h5, h6, h7, -⟩ := H9.out
          obtain ⟨l1, l2, l3, l4, l5, l6⟩ := HU.out
          obtain ⟨c0, c1, -⟩ := z_row (h1.below hB) j (by omega)
          obtain ⟨c2, c3, -⟩ := z_row (h2.below hB) j (by omega)
          obtain ⟨c4, c5, -⟩ := z_row (h3.below hB) j (by omega)
          obtain ⟨c6, c7, -⟩ := z_row (h4.below hB) j (by rw [List.length_map]; omega)
          obtain ⟨k0, k1, -⟩ := z_row (h5.below hB) j (by rw [List.length_map]; omega)
          obtain ⟨ga, oa, rfl, k2, k3⟩ := at_z (h6.below hB) j (by rw [List.length_map]; omega)
          obtain ⟨gb, ob, rfl, k4, k5⟩ := at_z (h7.below hB) j (by rw [List.length_map]; omega)
          have hs := HS.out j hjt
          rw [getD_at (by omega), getD_at (by omega), getD_at (by omega)] at hs
          have hp := HUb.out.2.2.1 _ (List.getElem_mem (show j < Sa.length by omega))
          have hq := HUb.out.2.2.2 _ (List.getElem_mem (show j < Sb.length by omega))
          simp only [List.getElem_map] at c6 c7 k0 k1 k2 k3 k4 k5
          rw [hs] at c4 c5
          obtain ⟨P, eP⟩ : ∃ P, Sa[j]'(by omega) = P := ⟨_, rfl⟩
          obtain ⟨Q, eQ⟩ : ∃ Q, Sb[j]'(by omega) = Q := ⟨_, rfl⟩
          simp only [eP, eQ, addZ, mulZ, trnZ] at c0 c1 c2 c3 c4 c5 c6 c7 k0 k1 k2 k3 k4 k5 hp hq
          have a1 : IntKind.i64.wrap (P.1 + Q.1) = P.1 + Q.1 := i64_sg _ (by omega) (by omega)
          have a2 : IntKind.i64.wrap (P.2 + Q.2) = P.2 + Q.2 := i64_sg _ (by omega) (by omega)
          have n1 : ∀ a : Int, (a != a) = false := fun a => by simp
          have g1' : wrap64 (P.1 + Q.1) = P.1 + Q.1 := by unfold wrap64; omega
          have g2' : wrap64 (P.2 + Q.2) = P.2 + Q.2 := by unfold wrap64; omega
          have hzn := z_neq
          clear h1 h2 h3 h4 h5 h6 h7 l1 l2 l3 l4 l5 l6 hs hp hq eP eQ hB ez
          go_wp2
          refine wp_region_held_drew (S := fun w' => w'.cell? ⟨g1, j * 2, none⟩ = some (.int .i64 P.1) ∧ w'.cell? ⟨g1, j * 2 + 1, none⟩ = some (.int .i64 P.2) ∧ w'.cell? ⟨g2, j * 2, none⟩ = some (.int .i64 Q.1) ∧ w'.cell? ⟨g2, j * 2 + 1, none⟩ = some (.int .i64 Q.2) ∧ w'.cell? ⟨g3, j * 2, none⟩ = some (.int .i64 (P.1 + Q.1)) ∧ w'.cell? ⟨g3, j * 2 + 1, none⟩ = some (.int .i64 (P.2 + Q.2)) ∧ w'.cell? ⟨g5, j * 2, none⟩ = some (.int .i64 (C * P.1)) ∧ w'.cell? ⟨g5, j * 2 + 1, none⟩ = some (.int .i64 (C * P.2)) ∧ w'.cell? ⟨g7, j * 2, none⟩ = some (.int .i64 (-P.2)) ∧ w'.cell? ⟨g7, j * 2 + 1, none⟩ = some (.int .i64 P.1) ∧ w'.cell? ⟨ga, oa + j * 2, none⟩ = some (.int .i64 (-P.2)) ∧ w'.cell? ⟨ga, oa + j * 2 + 1, none⟩ = some (.int .i64 P.1) ∧ w'.cell? ⟨gb, ob + j * 2, none⟩ = some (.int .i64 (C * P.1)) ∧ w'.cell? ⟨gb, ob + j * 2 + 1, none⟩ = some (.int .i64 (C * P.2))) (by kernel_rfl) ?_ (fun hHeld => ?_)
          · exact ⟨c0, c1, c2, c3, c4, c5, c6, c7, k0, k1, k2, k3, k4, k5⟩
          refine wpAnyH_take (i := 0) (oi := { dst := some 165, op := Op.move (Operand.tmp 24), type := 23, pos := "plain.go:113", after := #[], guard := none }) (v := ?vz0) rfl (by kernel_rfl) (by kernel_rfl) (by kernel_rfl) (fun _ _ _ h => h) (Or.inl ⟨by rfl, ?hz0⟩) (by assumption) ?rz0
          case hz0 => (intro w0 hSw; (try dsimp only at hSw); go_simp; try (with_reducible rfl))
          simp only [Act.put, List.setIfInBounds_toArray, List.set_cons_zero, List.set_cons_succ]
          refine wpAnyH_take (i := 1) (oi := { dst := some 166, op := Op.move (Operand.tmp 37), type := 3, pos := "plain.go:113", after := #[], guard := none }) (v := ?vz1) rfl (by kernel_rfl) (by kernel_rfl) (by kernel_rfl) (fun _ _ _ h => h) (Or.inl ⟨by rfl, ?hz1⟩) (by assumption) ?rz1
          case hz1 => (intro w0 hSw; (try dsimp only at hSw); go_simp; try (with_reducible rfl))
          simp only [Act.put, List.setIfInBounds_toArray, List.set_cons_zero, List.set_cons_succ]
          refine wpAnyH_take (i := 2) (oi := { dst := some 167, op := Op.indexAddr 23 (Operand.tmp 165) (Operand.tmp 166), type := 0, pos := "plain.go:113", after := #[{ on := 0, ground := Ground.data }, { on := 1, ground := Ground.data }], guard := none }) (v := ?vz2) rfl (by kernel_rfl) (by kernel_rfl) (by kernel_rfl) (fun _ _ _ h => h) (Or.inl ⟨by rfl, ?hz2⟩) (by assumption) ?rz2
          case hz2 => (intro w0 hSw; (try dsimp only at hSw); go_simp; try (with_reducible rfl))
          simp only [Act.put, List.setIfInBounds_toArray, List.set_cons_zero, List.set_cons_succ]
          refine wpAnyH_take (i := 3) (oi := { dst := some 168, op := Op.fieldAddr 30 (Operand.tmp 167) 0, type := 0, pos := "plain.go:113", after := #[{ on := 2, ground := Ground.data }], guard := none }) (v := ?vz3) rfl (by kernel_rfl) (by kernel_rfl) (by kernel_rfl) (fun _ _ _ h => h) (Or.inl ⟨by rfl, ?hz3⟩) (by assumption) ?rz3
          case hz3 => (intro w0 hSw; (try dsimp only at hSw); go_simp; try (with_reducible rfl))
          simp only [Act.put, List.setIfInBounds_toArray, List.set_cons_zero, List.set_cons_succ]
          refine wpAnyH_take (i := 4) (oi := { dst := some 169, op := Op.load 3 (Operand.tmp 168), type := 3, pos := "plain.go:113", after := #[{ on := 3, ground := Ground.data }], guard := none }) (v := ?vz4) rfl (by kernel_rfl) (by kernel_rfl) (by kernel_rfl) (fun _ _ _ h => h) (Or.inl ⟨by rfl, ?hz4⟩) (by assumption) ?rz4
          case hz4 => (intro w0 hSw; (try dsimp only at hSw); go_simp; try (with_reducible rfl))
          simp only [Act.put, List.setIfInBounds_toArray, List.set_cons_zero, List.set_cons_succ]
          refine wpAnyH_take (i := 5) (oi := { dst := some 170, op := Op.move (Operand.tmp 16), type := 23, pos := "plain.go:113", after := #[], guard := none }) (v := ?vz5) rfl (by kernel_rfl) (by kernel_rfl) (by kernel_rfl) (fun _ _ _ h => h) (Or.inl ⟨by rfl, ?hz5⟩) (by assumption) ?rz5
          case hz5 => (intro w0 hSw; (try dsimp only at hSw); go_simp; try (with_reducible rfl))
          simp only [Act.put, List.setIfInBounds_toArray, List.set_cons_zero, List.set_cons_succ]
          refine wpAnyH_take (i := 6) (oi := { dst := some 171, op := Op.move (Operand.tmp 37), type := 3, pos := "plain.go:113", after := #[], guard := none }) (v := ?vz6) rfl (by kernel_rfl) (by kernel_rfl) (by kernel_rfl) (fun _ _ _ h => h) (Or.inl ⟨by rfl, ?hz6⟩) (by assumption) ?rz6
          case hz6 => (intro w0 hSw; (try dsimp only at hSw); go_simp; try (with_reducible rfl))
          simp only [Act.put, List.setIfInBounds_toArray, List.set_cons_zero, List.set_cons_succ]
          refine wpAnyH_take (i := 7) (oi := { dst := some 172, op := Op.indexAddr 23 (Operand.tmp 170) (Operand.tmp 171), type := 0, pos := "plain.go:113", after := #[{ on := 5, ground := Ground.data }, { on := 6, ground := Ground.data }], guard := none }) (v := ?vz7) rfl (by kernel_rfl) (by kernel_rfl) (by kernel_rfl) (fun _ _ _ h => h) (Or.inl ⟨by rfl, ?hz7⟩) (by assumption) ?rz7
          case hz7 => (intro w0 hSw; (try dsimp only at hSw); go_simp; try (with_reducible rfl))
          simp only [Act.put, List.setIfInBounds_toArray, List.set_cons_zero, List.set_cons_succ]
          refine wpAnyH_take (i := 8) (oi := { dst := some 173, op := Op.fieldAddr 30 (Operand.tmp 172) 0, type := 0, pos := "plain.go:113", after := #[{ on := 7, ground := Ground.data }], guard := none }) (v := ?vz8) rfl (by kernel_rfl) (by kernel_rfl) (by kernel_rfl) (fun _ _ _ h => h) (Or.inl ⟨by rfl, ?hz8⟩) (by assumption) ?rz8
          case hz8 => (intro w0 hSw; (try dsimp only at hSw); go_simp; try (with_reducible rfl))
          simp only [Act.put, List.setIfInBounds_toArray, List.set_cons_zero, List.set_cons_succ]
          refine wpAnyH_take (i := 9) (oi := { dst := some 174, op := Op.load 3 (Operand.tmp 173), type := 3, pos := "plain.go:113", after := #[{ on := 8, ground := Ground.data }], guard := none }) (v := ?vz9) rfl (by kernel_rfl) (by kernel_rfl) (by kernel_rfl) (fun _ _ _ h => h) (Or.inl ⟨by rfl, ?hz9⟩) (by assumption) ?rz9
          case hz9 => (intro w0 hSw; (try dsimp only at hSw); go_simp; try (with_reducible rfl))
          simp only [Act.put, List.setIfInBounds_toArray, List.set_cons_zero, List.set_cons_succ]
          refine wpAnyH_take (i := 10) (oi := { dst := some 175, op := Op.move (Operand.tmp 20), type := 23, pos := "plain.go:113", after := #[], guard := none }) (v := ?vz10) rfl (by kernel_rfl) (by kernel_rfl) (by kernel_rfl) (fun _ _ _ h => h) (Or.inl ⟨by rfl, ?hz10⟩) (by assumption) ?rz10
          case hz10 => (intro w0 hSw; (try dsimp only at hSw); go_simp; try (with_reducible rfl))
          simp only [Act.put, List.setIfInBounds_toArray, List.set_cons_zero, List.set_cons_succ]
          refine wpAnyH_take (i := 11) (oi := { dst := some 176, op := Op.move (Operand.tmp 37), type := 3, pos := "plain.go:113", after := #[], guard := none }) (v := ?vz11) rfl (by kernel_rfl) (by kernel_rfl) (by kernel_rfl) (fun _ _ _ h => h) (Or.inl ⟨by rfl, ?hz11⟩) (by assumption) ?rz11
          case hz11 => (intro w0 hSw; (try dsimp only at hSw); go_simp; try (with_reducible rfl))
          simp only [Act.put, List.setIfInBounds_toArray, List.set_cons_zero, List.set_cons_succ]
          refine wpAnyH_take (i := 12) (oi := { dst := some 177, op := Op.indexAddr 23 (Operand.tmp 175) (Operand.tmp 176), type := 0, pos := "plain.go:113", after := #[{ on := 10, ground := Ground.data }, { on := 11, ground := Ground.data }], guard := none }) (v := ?vz12) rfl (by kernel_rfl) (by kernel_rfl) (by kernel_rfl) (fun _ _ _ h => h) (Or.inl ⟨by rfl, ?hz12⟩) (by assumption) ?rz12
          case hz12 => (intro w0 hSw; (try dsimp only at hSw); go_simp; try (with_reducible rfl))
          simp only [Act.put, List.setIfInBounds_toArray, List.set_cons_zero, List.set_cons_succ]
          refine wpAnyH_take (i := 13) (oi := { dst := some 178, op := Op.fieldAddr 30 (Operand.tmp 177) 0, type := 0, pos := "plain.go:113", after := #[{ on := 12, ground := Ground.data }], guard := none }) (v := ?vz13) rfl (by kernel_rfl) (by kernel_rfl) (by kernel_rfl) (fun _ _ _ h => h) (Or.inl ⟨by rfl, ?hz13⟩) (by assumption) ?rz13
          case hz13 => (intro w0 hSw; (try dsimp only at hSw); go_simp; try (with_reducible rfl))
          simp only [Act.put, List.setIfInBounds_toArray, List.set_cons_zero, List.set_cons_succ]
          refine wpAnyH_take (i := 14) (oi := { dst := some 179, op := Op.load 3 (Operand.tmp 178), type := 3, pos := "plain.go:113", after := #[{ on := 13, ground := Ground.data }], guard := none }) (v := ?vz14) rfl (by kernel_rfl) (by kernel_rfl) (by kernel_rfl) (fun _ _ _ h => h) (Or.inl ⟨by rfl, ?hz14⟩) (by assumption) ?rz14
          case hz14 => (intro w0 hSw; (try dsimp only at hSw); go_simp; try (with_reducible rfl))
          simp only [Act.put, List.setIfInBounds_toArray, List.set_cons_zero, List.set_cons_succ]
          refine wpAnyH_take (i := 15) (oi := { dst := some 180, op := Op.binOp BinOp.add 3 (Operand.tmp 174) (Operand.tmp 179) 3, type := 3, pos := "plain.go:113", after := #[{ on := 9, ground := Ground.data }, { on := 14, ground := Ground.data }], guard := none }) (v := ?vz15) rfl (by kernel_rfl) (by kernel_rfl) (by kernel_rfl) (fun _ _ _ h => h) (Or.inl ⟨by rfl, ?hz15⟩) (by assumption) ?rz15
          case hz15 => (intro w0 hSw; (try dsimp only at hSw); go_simp; try (with_reducible rfl))
          simp only [Act.put, List.setIfInBounds_toArray, List.set_cons_zero, List.set_cons_succ]
          refine wpAnyH_take (i := 16) (oi := { dst := some 181, op := Op.binOp BinOp.neq 3 (Operand.tmp 169) (Operand.tmp 180) 3, type := 4, pos := "plain.go:113", after := #[{ on := 4, ground := Ground.data }, { on := 15, ground := Ground.data }], guard := none }) (v := ?vz16) rfl (by kernel_rfl) (by kernel_rfl) (by kernel_rfl) (fun _ _ _ h => h) (Or.inl ⟨by rfl, ?hz16⟩) (by assumption) ?rz16
          case hz16 => (intro w0 hSw; (try dsimp only at hSw); go_simp; try (with_reducible rfl))
          simp only [Act.put, List.setIfInBounds_toArray, List.set_cons_zero, List.set_cons_succ]
          refine wpAnyH_take (i := 17) (oi := { dst := some 182, op := Op.move (Operand.tmp 181), type := 4, pos := "plain.go:113", after := #[{ on := 16, ground := Ground.data }], guard := none }) (v := ?vz17) rfl (by kernel_rfl) (by kernel_rfl) (by kernel_rfl) (fun _ _ _ h => h) (Or.inl ⟨by rfl, ?hz17⟩) (by assumption) ?rz17
          case hz17 => (intro w0 hSw; (try dsimp only at hSw); go_simp; try (with_reducible rfl))
          simp only [Act.put, List.setIfInBounds_toArray, List.set_cons_zero, List.set_cons_succ]
          refine wpAnyH_take (i := 18) (oi := { dst := some 183, op := Op.move (Operand.tmp 24), type := 23, pos := "plain.go:113", after := #[{ on := 17, ground := Ground.guard }], guard := some (17, false) }) (v := ?vz18) rfl (by kernel_rfl) (by kernel_rfl) (by kernel_rfl) (fun _ _ _ h => h) (Or.inl ⟨by rfl, ?hz18⟩) (by assumption) ?rz18
          case hz18 => (intro w0 hSw; (try dsimp only at hSw); go_simp; try (with_reducible rfl))
          simp only [Act.put, List.setIfInBounds_toArray, List.set_cons_zero, List.set_cons_succ]
          refine wpAnyH_take (i := 19) (oi := { dst := some 184, op := Op.move (Operand.tmp 37), type := 3, pos := "plain.go:113", after := #[{ on := 17, ground := Ground.guard }], guard := some (17, false) }) (v := ?vz19) rfl (by kernel_rfl) (by kernel_rfl) (by kernel_rfl) (fun _ _ _ h => h) (Or.inl ⟨by rfl, ?hz19⟩) (by assumption) ?rz19
          case hz19 => (intro w0 hSw; (try dsimp only at hSw); go_simp; try (with_reducible rfl))
          simp only [Act.put, List.setIfInBounds_toArray, List.set_cons_zero, List.set_cons_succ]
          refine wpAnyH_take (i := 20) (oi := { dst := some 185, op := Op.indexAddr 23 (Operand.tmp 183) (Operand.tmp 184), type := 0, pos := "plain.go:113", after := #[{ on := 18, ground := Ground.data }, { on := 19, ground := Ground.data }, { on := 17, ground := Ground.guard }], guard := some (17, false) }) (v := ?vz20) rfl (by kernel_rfl) (by kernel_rfl) (by kernel_rfl) (fun _ _ _ h => h) (Or.inl ⟨by rfl, ?hz20⟩) (by assumption) ?rz20
          case hz20 => (intro w0 hSw; (try dsimp only at hSw); go_simp; try (with_reducible rfl))
          simp only [Act.put, List.setIfInBounds_toArray, List.set_cons_zero, List.set_cons_succ]
          refine wpAnyH_take (i := 21) (oi := { dst := some 186, op := Op.fieldAddr 30 (Operand.tmp 185) 1, type := 0, pos := "plain.go:113", after := #[{ on := 20, ground := Ground.data }, { on := 17, ground := Ground.guard }], guard := some (17, false) }) (v := ?vz21) rfl (by kernel_rfl) (by kernel_rfl) (by kernel_rfl) (fun _ _ _ h => h) (Or.inl ⟨by rfl, ?hz21⟩) (by assumption) ?rz21
          case hz21 => (intro w0 hSw; (try dsimp only at hSw); go_simp; try (with_reducible rfl))
          simp only [Act.put, List.setIfInBounds_toArray, List.set_cons_zero, List.set_cons_succ]
          refine wpAnyH_take (i := 22) (oi := { dst := some 187, op := Op.load 3 (Operand.tmp 186), type := 3, pos := "plain.go:113", after := #[{ on := 21, ground := Ground.data }, { on := 17, ground := Ground.guard }], guard := some (17, false) }) (v := ?vz22) rfl (by kernel_rfl) (by kernel_rfl) (by kernel_rfl) (fun _ _ _ h => h) (Or.inl ⟨by rfl, ?hz22⟩) (by assumption) ?rz22
          case hz22 => (intro w0 hSw; (try dsimp only at hSw); go_simp; try (with_reducible rfl))
          simp only [Act.put, List.setIfInBounds_toArray, List.set_cons_zero, List.set_cons_succ]
          refine wpAnyH_take (i := 23) (oi := { dst := some 188, op := Op.move (Operand.tmp 16), type := 23, pos := "plain.go:113", after := #[{ on := 17, ground := Ground.guard }], guard := some (17, false) }) (v := ?vz23) rfl (by kernel_rfl) (by kernel_rfl) (by kernel_rfl) (fun _ _ _ h => h) (Or.inl ⟨by rfl, ?hz23⟩) (by assumption) ?rz23
          case hz23 => (intro w0 hSw; (try dsimp only at hSw); go_simp; try (with_reducible rfl))
          simp only [Act.put, List.setIfInBounds_toArray, List.set_cons_zero, List.set_cons_succ]
          refine wpAnyH_take (i := 24) (oi := { dst := some 189, op := Op.move (Operand.tmp 37), type := 3, pos := "plain.go:113", after := #[{ on := 17, ground := Ground.guard }], guard := some (17, false) }) (v := ?vz24) rfl (by kernel_rfl) (by kernel_rfl) (by kernel_rfl) (fun _ _ _ h => h) (Or.inl ⟨by rfl, ?hz24⟩) (by assumption) ?rz24
          case hz24 => (intro w0 hSw; (try dsimp only at hSw); go_simp; try (with_reducible rfl))
          simp only [Act.put, List.setIfInBounds_toArray, List.set_cons_zero, List.set_cons_succ]
          refine wpAnyH_take (i := 25) (oi := { dst := some 190, op := Op.indexAddr 23 (Operand.tmp 188) (Operand.tmp 189), type := 0, pos := "plain.go:113", after := #[{ on := 23, ground := Ground.data }, { on := 24, ground := Ground.data }, { on := 17, ground := Ground.guard }], guard := some (17, false) }) (v := ?vz25) rfl (by kernel_rfl) (by kernel_rfl) (by kernel_rfl) (fun _ _ _ h => h) (Or.inl ⟨by rfl, ?hz25⟩) (by assumption) ?rz25
          case hz25 => (intro w0 hSw; (try dsimp only at hSw); go_simp; try (with_reducible rfl))
          simp only [Act.put, List.setIfInBounds_toArray, List.set_cons_zero, List.set_cons_succ]
          refine wpAnyH_take (i := 26) (oi := { dst := some 191, op := Op.fieldAddr 30 (Operand.tmp 190) 1, type := 0, pos := "plain.go:113", after := #[{ on := 25, ground := Ground.data }, { on := 17, ground := Ground.guard }], guard := some (17, false) }) (v := ?vz26) rfl (by kernel_rfl) (by kernel_rfl) (by kernel_rfl) (fun _ _ _ h => h) (Or.inl ⟨by rfl, ?hz26⟩) (by assumption) ?rz26
          case hz26 => (intro w0 hSw; (try dsimp only at hSw); go_simp; try (with_reducible rfl))
          simp only [Act.put, List.setIfInBounds_toArray, List.set_cons_zero, List.set_cons_succ]
          refine wpAnyH_take (i := 27) (oi := { dst := some 192, op := Op.load 3 (Operand.tmp 191), type := 3, pos := "plain.go:113", after := #[{ on := 26, ground := Ground.data }, { on := 17, ground := Ground.guard }], guard := some (17, false) }) (v := ?vz27) rfl (by kernel_rfl) (by kernel_rfl) (by kernel_rfl) (fun _ _ _ h => h) (Or.inl ⟨by rfl, ?hz27⟩) (by assumption) ?rz27
          case hz27 => (intro w0 hSw; (try dsimp only at hSw); go_simp; try (with_reducible rfl))
          simp only [Act.put, List.setIfInBounds_toArray, List.set_cons_zero, List.set_cons_succ]
          refine wpAnyH_take (i := 28) (oi := { dst := some 193, op := Op.move (Operand.tmp 20), type := 23, pos := "plain.go:113", after := #[{ on := 17, ground := Ground.guard }], guard := some (17, false) }) (v := ?vz28) rfl (by kernel_rfl) (by kernel_rfl) (by kernel_rfl) (fun _ _ _ h => h) (Or.inl ⟨by rfl, ?hz28⟩) (by assumption) ?rz28
          case hz28 => (intro w0 hSw; (try dsimp only at hSw); go_simp; try (with_reducible rfl))
          simp only [Act.put, List.setIfInBounds_toArray, List.set_cons_zero, List.set_cons_succ]
          refine wpAnyH_take (i := 29) (oi := { dst := some 194, op := Op.move (Operand.tmp 37), type := 3, pos := "plain.go:113", after := #[{ on := 17, ground := Ground.guard }], guard := some (17, false) }) (v := ?vz29) rfl (by kernel_rfl) (by kernel_rfl) (by kernel_rfl) (fun _ _ _ h => h) (Or.inl ⟨by rfl, ?hz29⟩) (by assumption) ?rz29
          case hz29 => (intro w0 hSw; (try dsimp only at hSw); go_simp; try (with_reducible rfl))
          simp only [Act.put, List.setIfInBounds_toArray, List.set_cons_zero, List.set_cons_succ]
          refine wpAnyH_take (i := 30) (oi := { dst := some 195, op := Op.indexAddr 23 (Operand.tmp 193) (Operand.tmp 194), type := 0, pos := "plain.go:113", after := #[{ on := 28, ground := Ground.data }, { on := 29, ground := Ground.data }, { on := 17, ground := Ground.guard }], guard := some (17, false) }) (v := ?vz30) rfl (by kernel_rfl) (by kernel_rfl) (by kernel_rfl) (fun _ _ _ h => h) (Or.inl ⟨by rfl, ?hz30⟩) (by assumption) ?rz30
          case hz30 => (intro w0 hSw; (try dsimp only at hSw); go_simp; try (with_reducible rfl))
          simp only [Act.put, List.setIfInBounds_toArray, List.set_cons_zero, List.set_cons_succ]
          refine wpAnyH_take (i := 31) (oi := { dst := some 196, op := Op.fieldAddr 30 (Operand.tmp 195) 1, type := 0, pos := "plain.go:113", after := #[{ on := 30, ground := Ground.data }, { on := 17, ground := Ground.guard }], guard := some (17, false) }) (v := ?vz31) rfl (by kernel_rfl) (by kernel_rfl) (by kernel_rfl) (fun _ _ _ h => h) (Or.inl ⟨by rfl, ?hz31⟩) (by assumption) ?rz31
          case hz31 => (intro w0 hSw; (try dsimp only at hSw); go_simp; try (with_reducible rfl))
          simp only [Act.put, List.setIfInBounds_toArray, List.set_cons_zero, List.set_cons_succ]
          refine wpAnyH_take (i := 32) (oi := { dst := some 197, op := Op.load 3 (Operand.tmp 196), type := 3, pos := "plain.go:113", after := #[{ on := 31, ground := Ground.data }, { on := 17, ground := Ground.guard }], guard := some (17, false) }) (v := ?vz32) rfl (by kernel_rfl) (by kernel_rfl) (by kernel_rfl) (fun _ _ _ h => h) (Or.inl ⟨by rfl, ?hz32⟩) (by assumption) ?rz32
          case hz32 => (intro w0 hSw; (try dsimp only at hSw); go_simp; try (with_reducible rfl))
          simp only [Act.put, List.setIfInBounds_toArray, List.set_cons_zero, List.set_cons_succ]
          refine wpAnyH_take (i := 33) (oi := { dst := some 198, op := Op.binOp BinOp.add 3 (Operand.tmp 192) (Operand.tmp 197) 3, type := 3, pos := "plain.go:113", after := #[{ on := 27, ground := Ground.data }, { on := 32, ground := Ground.data }, { on := 17, ground := Ground.guard }], guard := some (17, false) }) (v := ?vz33) rfl (by kernel_rfl) (by kernel_rfl) (by kernel_rfl) (fun _ _ _ h => h) (Or.inl ⟨by rfl, ?hz33⟩) (by assumption) ?rz33
          case hz33 => (intro w0 hSw; (try dsimp only at hSw); go_simp; try (with_reducible rfl))
          simp only [Act.put, List.setIfInBounds_toArray, List.set_cons_zero, List.set_cons_succ]
          refine wpAnyH_take (i := 34) (oi := { dst := some 199, op := Op.binOp BinOp.neq 3 (Operand.tmp 187) (Operand.tmp 198) 3, type := 4, pos := "plain.go:113", after := #[{ on := 22, ground := Ground.data }, { on := 33, ground := Ground.data }, { on := 17, ground := Ground.guard }], guard := some (17, false) }) (v := ?vz34) rfl (by kernel_rfl) (by kernel_rfl) (by kernel_rfl) (fun _ _ _ h => h) (Or.inl ⟨by rfl, ?hz34⟩) (by assumption) ?rz34
          case hz34 => (intro w0 hSw; (try dsimp only at hSw); go_simp; try (with_reducible rfl))
          simp only [Act.put, List.setIfInBounds_toArray, List.set_cons_zero, List.set_cons_succ]
          refine wpAnyH_take (i := 35) (oi := { dst := some 200, op := Op.pick (Operand.tmp 182) (Operand.const (Value.bool true)) (Operand.tmp 199), type := 4, pos := "plain.go:113", after := #[{ on := 17, ground := Ground.data }, { on := 34, ground := Ground.data }], guard := none }) (v := ?vz35) rfl (by kernel_rfl) (by kernel_rfl) (by kernel_rfl) (fun _ _ _ h => h) (Or.inl ⟨by rfl, ?hz35⟩) (by assumption) ?rz35
          case hz35 => (intro w0 hSw; (try dsimp only at hSw); go_simp; try (with_reducible rfl))
          simp only [Act.put, List.setIfInBounds_toArray, List.set_cons_zero, List.set_cons_succ]
          refine wpAnyH_take (i := 36) (oi := { dst := some 201, op := Op.move (Operand.tmp 200), type := 4, pos := "plain.go:113", after := #[{ on := 35, ground := Ground.data }, { on := 17, ground := Ground.chain }], guard := none }) (v := ?vz36) rfl (by kernel_rfl) (by kernel_rfl) (by kernel_rfl) (fun _ _ _ h => h) (Or.inl ⟨by rfl, ?hz36⟩) (by assumption) ?rz36
          case hz36 => (intro w0 hSw; (try dsimp only at hSw); go_simp; try (with_reducible rfl))
          simp only [Act.put, List.setIfInBounds_toArray, List.set_cons_zero, List.set_cons_succ]
          refine wpAnyH_take (i := 37) (oi := { dst := some 202, op := Op.move (Operand.tmp 28), type := 23, pos := "plain.go:113", after := #[{ on := 36, ground := Ground.guard }], guard := some (36, false) }) (v := ?vz37) rfl (by kernel_rfl) (by kernel_rfl) (by kernel_rfl) (fun _ _ _ h => h) (Or.inl ⟨by rfl, ?hz37⟩) (by assumption) ?rz37
          case hz37 => (intro w0 hSw; (try dsimp only at hSw); go_simp; try (with_reducible rfl))
          simp only [Act.put, List.setIfInBounds_toArray, List.set_cons_zero, List.set_cons_succ]
          refine wpAnyH_take (i := 38) (oi := { dst := some 203, op := Op.move (Operand.tmp 37), type := 3, pos := "plain.go:113", after := #[{ on := 36, ground := Ground.guard }], guard := some (36, false) }) (v := ?vz38) rfl (by kernel_rfl) (by kernel_rfl) (by kernel_rfl) (fun _ _ _ h => h) (Or.inl ⟨by rfl, ?hz38⟩) (by assumption) ?rz38
          case hz38 => (intro w0 hSw; (try dsimp only at hSw); go_simp; try (with_reducible rfl))
          simp only [Act.put, List.setIfInBounds_toArray, List.set_cons_zero, List.set_cons_succ]
          refine wpAnyH_take (i := 39) (oi := { dst := some 204, op := Op.indexAddr 23 (Operand.tmp 202) (Operand.tmp 203), type := 0, pos := "plain.go:113", after := #[{ on := 37, ground := Ground.data }, { on := 38, ground := Ground.data }, { on := 36, ground := Ground.guard }], guard := some (36, false) }) (v := ?vz39) rfl (by kernel_rfl) (by kernel_rfl) (by kernel_rfl) (fun _ _ _ h => h) (Or.inl ⟨by rfl, ?hz39⟩) (by assumption) ?rz39
          case hz39 => (intro w0 hSw; (try dsimp only at hSw); go_simp; try (with_reducible rfl))
          simp only [Act.put, List.setIfInBounds_toArray, List.set_cons_zero, List.set_cons_succ]
          refine wpAnyH_take (i := 40) (oi := { dst := some 205, op := Op.load 30 (Operand.tmp 204), type := 30, pos := "plain.go:113", after := #[{ on := 39, ground := Ground.data }, { on := 36, ground := Ground.guard }], guard := some (36, false) }) (v := ?vz40) rfl (by kernel_rfl) (by kernel_rfl) (by kernel_rfl) (fun _ _ _ h => h) (Or.inl ⟨by rfl, ?hz40⟩) (by assumption) ?rz40
          case hz40 => (intro w0 hSw; (try dsimp only at hSw); go_simp; try (with_reducible rfl))
          simp only [Act.put, List.setIfInBounds_toArray, List.set_cons_zero, List.set_cons_succ]
          refine wpAnyH_take (i := 41) (oi := { dst := some 206, op := Op.move (Operand.tmp 36), type := 23, pos := "plain.go:113", after := #[{ on := 36, ground := Ground.guard }], guard := some (36, false) }) (v := ?vz41) rfl (by kernel_rfl) (by kernel_rfl) (by kernel_rfl) (fun _ _ _ h => h) (Or.inl ⟨by rfl, ?hz41⟩) (by assumption) ?rz41
          case hz41 => (intro w0 hSw; (try dsimp only at hSw); go_simp; try (with_reducible rfl))
          simp only [Act.put, List.setIfInBounds_toArray, List.set_cons_zero, List.set_cons_succ]
          refine wpAnyH_take (i := 42) (oi := { dst := some 207, op := Op.move (Operand.tmp 37), type := 3, pos := "plain.go:113", after := #[{ on := 36, ground := Ground.guard }], guard := some (36, false) }) (v := ?vz42) rfl (by kernel_rfl) (by kernel_rfl) (by kernel_rfl) (fun _ _ _ h => h) (Or.inl ⟨by rfl, ?hz42⟩) (by assumption) ?rz42
          case hz42 => (intro w0 hSw; (try dsimp only at hSw); go_simp; try (with_reducible rfl))
          simp only [Act.put, List.setIfInBounds_toArray, List.set_cons_zero, List.set_cons_succ]
          refine wpAnyH_take (i := 43) (oi := { dst := some 208, op := Op.indexAddr 23 (Operand.tmp 206) (Operand.tmp 207), type := 0, pos := "plain.go:113", after := #[{ on := 41, ground := Ground.data }, { on := 42, ground := Ground.data }, { on := 36, ground := Ground.guard }], guard := some (36, false) }) (v := ?vz43) rfl (by kernel_rfl) (by kernel_rfl) (by kernel_rfl) (fun _ _ _ h => h) (Or.inl ⟨by rfl, ?hz43⟩) (by assumption) ?rz43
          case hz43 => (intro w0 hSw; (try dsimp only at hSw); go_simp; try (with_reducible rfl))
          simp only [Act.put, List.setIfInBounds_toArray, List.set_cons_zero, List.set_cons_succ]
          refine wpAnyH_take (i := 44) (oi := { dst := some 209, op := Op.load 30 (Operand.tmp 208), type := 30, pos := "plain.go:113", after := #[{ on := 43, ground := Ground.data }, { on := 36, ground := Ground.guard }], guard := some (36, false) }) (v := ?vz44) rfl (by kernel_rfl) (by kernel_rfl) (by kernel_rfl) (fun _ _ _ h => h) (Or.inl ⟨by rfl, ?hz44⟩) (by assumption) ?rz44
          case hz44 => (intro w0 hSw; (try dsimp only at hSw); go_simp; try (with_reducible rfl))
          simp only [Act.put, List.setIfInBounds_toArray, List.set_cons_zero, List.set_cons_succ]
          refine wpAnyH_take (i := 45) (oi := { dst := some 210, op := Op.binOp BinOp.neq 30 (Operand.tmp 205) (Operand.tmp 209) 30, type := 4, pos := "plain.go:113", after := #[{ on := 40, ground := Ground.data }, { on := 44, ground := Ground.data }, { on := 36, ground := Ground.guard }], guard := some (36, false) }) (v := ?vz45) rfl (by kernel_rfl) (by kernel_rfl) (by kernel_rfl) (fun _ _ _ h => h) (Or.inl ⟨by rfl, ?hz45⟩) (by assumption) ?rz45
          case hz45 => (intro w0 hSw; (try dsimp only at hSw); go_simp; try (with_reducible rfl))
          simp only [Act.put, List.setIfInBounds_toArray, List.set_cons_zero, List.set_cons_succ]
          refine wpAnyH_take (i := 46) (oi := { dst := some 211, op := Op.pick (Operand.tmp 201) (Operand.const (Value.bool true)) (Operand.tmp 210), type := 4, pos := "plain.go:113", after := #[{ on := 36, ground := Ground.data }, { on := 45, ground := Ground.data }], guard := none }) (v := ?vz46) rfl (by kernel_rfl) (by kernel_rfl) (by kernel_rfl) (fun _ _ _ h => h) (Or.inl ⟨by rfl, ?hz46⟩) (by assumption) ?rz46
          case hz46 => (intro w0 hSw; (try dsimp only at hSw); go_simp; try (with_reducible rfl))
          simp only [Act.put, List.setIfInBounds_toArray, List.set_cons_zero, List.set_cons_succ]
          refine wpAnyH_take (i := 47) (oi := { dst := some 212, op := Op.move (Operand.tmp 211), type := 4, pos := "plain.go:113", after := #[{ on := 46, ground := Ground.data }, { on := 36, ground := Ground.chain }], guard := none }) (v := ?vz47) rfl (by kernel_rfl) (by kernel_rfl) (by kernel_rfl) (fun _ _ _ h => h) (Or.inl ⟨by rfl, ?hz47⟩) (by assumption) ?rz47
          case hz47 => (intro w0 hSw; (try dsimp only at hSw); go_simp; try (with_reducible rfl))
          simp only [Act.put, List.setIfInBounds_toArray, List.set_cons_zero, List.set_cons_succ]
          refine wpAnyH_take (i := 48) (oi := { dst := some 213, op := Op.move (Operand.tmp 32), type := 23, pos := "plain.go:113", after := #[{ on := 47, ground := Ground.guard }], guard := some (47, false) }) (v := ?vz48) rfl (by kernel_rfl) (by kernel_rfl) (by kernel_rfl) (fun _ _ _ h => h) (Or.inl ⟨by rfl, ?hz48⟩) (by assumption) ?rz48
          case hz48 => (intro w0 hSw; (try dsimp only at hSw); go_simp; try (with_reducible rfl))
          simp only [Act.put, List.setIfInBounds_toArray, List.set_cons_zero, List.set_cons_succ]
          refine wpAnyH_take (i := 49) (oi := { dst := some 214, op := Op.move (Operand.tmp 37), type := 3, pos := "plain.go:113", after := #[{ on := 47, ground := Ground.guard }], guard := some (47, false) }) (v := ?vz49) rfl (by kernel_rfl) (by kernel_rfl) (by kernel_rfl) (fun _ _ _ h => h) (Or.inl ⟨by rfl, ?hz49⟩) (by assumption) ?rz49
          case hz49 => (intro w0 hSw; (try dsimp only at hSw); go_simp; try (with_reducible rfl))
          simp only [Act.put, List.setIfInBounds_toArray, List.set_cons_zero, List.set_cons_succ]
          refine wpAnyH_take (i := 50) (oi := { dst := some 215, op := Op.indexAddr 23 (Operand.tmp 213) (Operand.tmp 214), type := 0, pos := "plain.go:113", after := #[{ on := 48, ground := Ground.data }, { on := 49, ground := Ground.data }, { on := 47, ground := Ground.guard }], guard := some (47, false) }) (v := ?vz50) rfl (by kernel_rfl) (by kernel_rfl) (by kernel_rfl) (fun _ _ _ h => h) (Or.inl ⟨by rfl, ?hz50⟩) (by assumption) ?rz50
          case hz50 => (intro w0 hSw; (try dsimp only at hSw); go_simp; try (with_reducible rfl))
          simp only [Act.put, List.setIfInBounds_toArray, List.set_cons_zero, List.set_cons_succ]
          refine wpAnyH_take (i := 51) (oi := { dst := some 216, op := Op.load 30 (Operand.tmp 215), type := 30, pos := "plain.go:113", after := #[{ on := 50, ground := Ground.data }, { on := 47, ground := Ground.guard }], guard := some (47, false) }) (v := ?vz51) rfl (by kernel_rfl) (by kernel_rfl) (by kernel_rfl) (fun _ _ _ h => h) (Or.inl ⟨by rfl, ?hz51⟩) (by assumption) ?rz51
          case hz51 => (intro w0 hSw; (try dsimp only at hSw); go_simp; try (with_reducible rfl))
          simp only [Act.put, List.setIfInBounds_toArray, List.set_cons_zero, List.set_cons_succ]
          refine wpAnyH_take (i := 52) (oi := { dst := some 217, op := Op.move (Operand.tmp 35), type := 23, pos := "plain.go:113", after := #[{ on := 47, ground := Ground.guard }], guard := some (47, false) }) (v := ?vz52) rfl (by kernel_rfl) (by kernel_rfl) (by kernel_rfl) (fun _ _ _ h => h) (Or.inl ⟨by rfl, ?hz52⟩) (by assumption) ?rz52
          case hz52 => (intro w0 hSw; (try dsimp only at hSw); go_simp; try (with_reducible rfl))
          simp only [Act.put, List.setIfInBounds_toArray, List.set_cons_zero, List.set_cons_succ]
          refine wpAnyH_take (i := 53) (oi := { dst := some 218, op := Op.move (Operand.tmp 37), type := 3, pos := "plain.go:113", after := #[{ on := 47, ground := Ground.guard }], guard := some (47, false) }) (v := ?vz53) rfl (by kernel_rfl) (by kernel_rfl) (by kernel_rfl) (fun _ _ _ h => h) (Or.inl ⟨by rfl, ?hz53⟩) (by assumption) ?rz53
          case hz53 => (intro w0 hSw; (try dsimp only at hSw); go_simp; try (with_reducible rfl))
          simp only [Act.put, List.setIfInBounds_toArray, List.set_cons_zero, List.set_cons_succ]
          refine wpAnyH_take (i := 54) (oi := { dst := some 219, op := Op.indexAddr 23 (Operand.tmp 217) (Operand.tmp 218), type := 0, pos := "plain.go:113", after := #[{ on := 52, ground := Ground.data }, { on := 53, ground := Ground.data }, { on := 47, ground := Ground.guard }], guard := some (47, false) }) (v := ?vz54) rfl (by kernel_rfl) (by kernel_rfl) (by kernel_rfl) (fun _ _ _ h => h) (Or.inl ⟨by rfl, ?hz54⟩) (by assumption) ?rz54
          case hz54 => (intro w0 hSw; (try dsimp only at hSw); go_simp; try (with_reducible rfl))
          simp only [Act.put, List.setIfInBounds_toArray, List.set_cons_zero, List.set_cons_succ]
          refine wpAnyH_take (i := 55) (oi := { dst := some 220, op := Op.load 30 (Operand.tmp 219), type := 30, pos := "plain.go:113", after := #[{ on := 54, ground := Ground.data }, { on := 47, ground := Ground.guard }], guard := some (47, false) }) (v := ?vz55) rfl (by kernel_rfl) (by kernel_rfl) (by kernel_rfl) (fun _ _ _ h => h) (Or.inl ⟨by rfl, ?hz55⟩) (by assumption) ?rz55
          case hz55 => (intro w0 hSw; (try dsimp only at hSw); go_simp; try (with_reducible rfl))
          simp only [Act.put, List.setIfInBounds_toArray, List.set_cons_zero, List.set_cons_succ]
          refine wpAnyH_take (i := 56) (oi := { dst := some 221, op := Op.binOp BinOp.neq 30 (Operand.tmp 216) (Operand.tmp 220) 30, type := 4, pos := "plain.go:113", after := #[{ on := 51, ground := Ground.data }, { on := 55, ground := Ground.data }, { on := 47, ground := Ground.guard }], guard := some (47, false) }) (v := ?vz56) rfl (by kernel_rfl) (by kernel_rfl) (by kernel_rfl) (fun _ _ _ h => h) (Or.inl ⟨by rfl, ?hz56⟩) (by assumption) ?rz56
          case hz56 => (intro w0 hSw; (try dsimp only at hSw); go_simp; try (with_reducible rfl))
          simp only [Act.put, List.setIfInBounds_toArray, List.set_cons_zero, List.set_cons_succ]
          refine wpAnyH_take (i := 57) (oi := { dst := some 222, op := Op.pick (Operand.tmp 212) (Operand.const (Value.bool true)) (Operand.tmp 221), type := 4, pos := "plain.go:113", after := #[{ on := 47, ground := Ground.data }, { on := 56, ground := Ground.data }], guard := none }) (v := ?vz57) rfl (by kernel_rfl) (by kernel_rfl) (by kernel_rfl) (fun _ _ _ h => h) (Or.inl ⟨by rfl, ?hz57⟩) (by assumption) ?rz57
          case hz57 => (intro w0 hSw; (try dsimp only at hSw); go_simp; try (with_reducible rfl))
          simp only [Act.put, List.setIfInBounds_toArray, List.set_cons_zero, List.set_cons_succ]
          refine wpAnyH_done (by kernel_rfl) ?_ _
          go_wp2
          go_roundw
          case rel => exact ⟨j + 1, hjt, by go_num, HW.out.drew⟩
          case measure => simp [intOf]; omega
        · clear hB
          have hj' : ¬ (j : Int) < (m : Int) := by omega
          go_wp2
          go_ret
          have B := H9.out.2.2.2.2.2.2.2
          exact ⟨rfl, B.trans (HW.out.mono B.size)⟩
end Go.Proofs.Ytmdmjjobhkpojaa
