/-
  DERIVED. sign: Code, for every signer and vector.
-/
import Derived.Test.YtmdmjjobhkpojaaQCodeM
set_option linter.unusedVariables false
set_option linter.unusedSimpArgs false
namespace Go.Proofs.Ytmdmjjobhkpojaa
open Go.RowKit Go.Shelf Go.Proofs.BitMath Go.Proofs.FloatMath
attribute [local go_sem] Oper.semAt_some
theorem Try.infoB : (Try.prog.info? 5).map (fun i => (i.zero, i.size, i.bytes)) = some (some (.int .u8 0), 1, 1) := by kernel_rfl
set_option maxRecDepth 100000 in
set_option maxHeartbeats 8000000 in
theorem code_any (b wd dm : Nat) (sd : Int) (la : Option Addr) (c : Nat) (v : List Zp) (w : World) (hs : SgAt w b wd dm sd) (hd : 0 < dm) (hd2 : dm ≤ 1024) (hw : 64 ≤ wd) (hw2 : wd ≤ 1024) (hw3 : wd % 8 = 0) (hv : zE.At w la v) :
    Calls Try.prog 18 #[Pt b, .slice la v.length c] w fun e w' => e = .returned (.tuple #[.string (cdB wd dm sd v), .int .i64 (ckE dm v)]) ∧ Below w.heap.size w w' := by
  have kS := sums_any b wd dm sd la c v w hs hd hd2 (by omega) hw2 hv (fun e w' => SumsO wd dm sd v w.heap.size e w' ∧ Below w.heap.size w w') (fun e w' h b => ⟨h, b⟩)
  have s0 := hs.c0
  obtain ⟨n, en⟩ : ∃ n, wd / 8 = n := ⟨_, rfl⟩
  obtain ⟨m, em⟩ : ∃ m, wd / 2 = m := ⟨_, rfl⟩
  have eI : (wd : Int) / 8 = (n : Int) := by omega
  have hmn : m = 4 * n := by omega
  have hn : n ≤ 128 := by omega
  have hn0 : 0 < n := by omega
  obtain ⟨i0, hi, hz0, hz1, hz2⟩ := info_parts Try.infoB
  have EN := Hid.mk en
  have EM := Hid.mk em
  clear hs hd hd2 hw hw2 hw3 hv en em
  refine (callsIn_wide (n := 9)).1 ?_
  refine callsIn_of_wp Try.func18 rfl trivial ?_ rfl
  simp only [Try.ntmps18, List.size_toArray, List.length_cons, List.length_nil, Nat.reduceAdd, Nat.reduceSub, Array.replicate_succ, Array.replicate_zero, List.push_toArray, List.append_toArray, List.nil_append, List.cons_append]
  gi_wp2_with fail
  refine ⟨trivial, (callsIn_wide.2 kS).mono ?_⟩
  rintro e w1 ⟨hO, hB1⟩
  clear kS
  have s1 := cell_lat hB1 s0
  clear s0
  rcases hO with ⟨hk, rfl⟩ | ⟨g, cap, hk, hg, hr, rfl⟩
  · have HK := Hid.mk hk
    have k1 : ((ckE dm v) != 0) = true := by simpa using hk
    clear hk
    gi_wp2
    refine bodyPost_ret (results_tmp2 rfl _ _ _) rfl ?_
    refine ⟨?_, hB1⟩
    unfold cdB
    rw [if_neg HK.out]
    rfl
  · have HK := Hid.mk hk
    rw [EM.out] at hr ⊢
    have hSl : (sumsL wd sd v).length = m := by rw [sumsL_len, EM.out]
    obtain ⟨S, eS⟩ : ∃ S, sumsL wd sd v = S := ⟨_, rfl⟩
    rw [eS] at hr hSl
    have ES := Hid.mk eS
    have HR := Hid.mk hr
    have HSl := Hid.mk hSl
    have HM := Hid.mk hmn
    have gl : g < w1.heap.size := row_lt hr rfl
    clear hk hr eS hSl hmn
    gi_wp2_with (gi_at_make; refine wpListIn_make_full _ rfl _ _ 70 rfl 5 i0 (.int .u8 0) 1 Try.underlying70 hi hz0 hz1 _ _ _ _ n rfl rfl rfl rfl (by rw [hz2]; omega) (by unfold maxLen; omega) ?_; intro w2 hrow hgr)
    rw [made_bytes, ← byT_zero S n] at hrow
    have hB2 : Below w1.heap.size w1 w2 := (Below.refl _ _).grown hgr (Nat.le_refl _) (fun k h => by cases h)
    obtain ⟨G, eG⟩ : ∃ G, w1.heap.size = G := ⟨_, rfl⟩
    rw [eG] at hrow
    simp only [eG]
    have H0 : Hid (RowIs w2 G 5 ((byT S n 0).map BV) ∧ zE.Row w2 (.slice (some ⟨g, 0, none⟩) m cap) S ∧ Below w.heap.size w w2) := ⟨hrow, HR.out.below hB2, hB1.trans (hB2.mono hB1.size)⟩
    have hGs : w.heap.size ≤ G := eG ▸ hB1.size
    have hgG : g < G := eG ▸ gl
    clear eG hrow hB2 hB1 hgr HR gl s1
    gi_loopw [9, 28] (fun f i wr => ∃ (j : Nat), j ≤ m ∧ i = .int .i64 j ∧ RowIs wr G 5 ((byT S n j).map BV) ∧ zE.Row wr (.slice (some ⟨g, 0, none⟩) m cap) S ∧ Below w.heap.size w wr) (fun _ i _ => m - (intOf i).toNat)
    case atStart => exact ⟨0, Nat.zero_le _, rfl, H0.out.1, H0.out.2.1, H0.out.2.2⟩
    case round =>
      obtain ⟨j, hj, rfl, hrow, hS, hB⟩ := hrel
      clear H0
      by_cases hlt : j < m
      · have hj' : (j : Int) < (m : Int) := by omega
        have hm := HM.out
        obtain ⟨c0, c1, -⟩ := z_row hS j (by rw [HSl.out]; exact hlt)
        have hgd : S.getD j (0, 0) = S[j]'(by rw [HSl.out]; exact hlt) := getD_at _
        obtain ⟨p, ep⟩ : ∃ p, S[j]'(by rw [HSl.out]; exact hlt) = p := ⟨_, rfl⟩
        rw [ep] at c0 c1 hgd
        obtain ⟨q, eq⟩ : ∃ q, j / 4 = q := ⟨_, rfl⟩
        have hq : q < n := by omega
        have hqI : (j : Int) / 4 = (q : Int) := by omega
        have hq' : (q : Int) < (n : Int) := by omega
        have hwq : IntKind.i64.wrap (q : Int) = (q : Int) := i64_in _ (by omega) (by omega)
        have hX := byN_part S j
        have hst := byT_step S n j (by omega)
        have hat := byT_at S n j q hq
        rw [eq, hgd] at hst
        rw [eq] at hX
        obtain ⟨X, eX⟩ : ∃ X, byN S j q = X := ⟨_, rfl⟩
        rw [eX] at hX hst hat
        have y0 : wr.cell? ⟨G, q, none⟩ = some (.int .u8 (X : Nat)) := by rw [hrow.cell]; exact hat
        have f0 := hrow.frozen q
        have hm2 : m ≤ 512 := by omega
        have hps := push2 X (sgN p) hX (sgN_lt p)
        have HP := Hid.mk hps
        have HST := Hid.mk hst
        have HW := Hid.mk hrow
        have HZ := Hid.mk hS
        have HB := Hid.mk hB
        have HJ := Hid.mk (And.intro hlt hj)
        have lG := hrow.lt
        obtain ⟨Bx, eB⟩ : ∃ Bx, wr.heap.size = Bx := ⟨_, rfl⟩
        obtain ⟨A1, eA⟩ : ∃ A1, wr.alloc (.cells #[.int .i64 p.1, .int .i64 p.2] 30) = A1 := ⟨_, rfl⟩
        have S0 : A1.drew.cell? ⟨G, q, none⟩ = some (.int .u8 (X : Nat)) ∧ A1.drew.cell? ⟨Bx, 0, none⟩ = some (.int .i64 p.1) ∧ A1.drew.cell? ⟨Bx, 1, none⟩ = some (.int .i64 p.2) ∧ A1.drew.frozen? ⟨G, q, none⟩ = false := by
          rw [← eA, ← eB]
          refine ⟨cell_lat ((Below.refl _ wr).alloc (Nat.le_refl _) _).drew y0, ?_, ?_, ?_⟩
          · have := cells_new wr (zC p) 30 0 _ rfl; exact this
          · have := cells_new wr (zC p) 30 1 _ rfl; exact this
          · exact (hrow.alloc (.cells #[.int .i64 p.1, .int .i64 p.2] 30)).frozen q
        have bA : Below A1.drew.heap.size A1.drew (A1.drew.alloc (.cells #[.int .i64 p.1, .int .i64 p.2] 30)) := (Below.refl _ _).alloc (Nat.le_refl _) _
        have fz3 : (A1.drew.alloc (.cells #[.int .i64 p.1, .int .i64 p.2] 30)).frozen? ⟨G, q, none⟩ = false := by
          have h1 : RowIs A1 G 5 ((byT S n j).map BV) := by rw [← eA]; exact hrow.alloc (.cells #[.int .i64 p.1, .int .i64 p.2] 30)
          exact (RowIs.alloc (W := A1.drew) h1 (.cells #[.int .i64 p.1, .int .i64 p.2] 30)).frozen q
        have HA := Hid.mk eA
        have HBx := Hid.mk eB
        clear hps hst hrow hS hB hat y0 f0 eX ep hgd eq hX hj hlt hi hz0 hz1 hz2 hm
        gi_wp2_with fail
        refine region_late mixed 14 rfl (L := [13]) (S := fun w' => w'.cell? ⟨G, q, none⟩ = some (.int .u8 (X : Nat)) ∧ w'.cell? ⟨Bx, 0, none⟩ = some (.int .i64 p.1) ∧ w'.cell? ⟨Bx, 1, none⟩ = some (.int .i64 p.2) ∧ w'.frozen? ⟨G, q, none⟩ = false) ?_
        refine AnyL.take (i := 0) (oi := { dst := some 33, op := Op.move (Operand.tmp 8), type := 70, pos := "sign.go:50", after := #[], guard := none }) (v := ?vc0) (by kernel_rfl) rfl (by kernel_rfl) (by kernel_rfl) (by kernel_rfl) (by kernel_rfl) (fun _ _ _ h => h) ⟨Or.inl ⟨by kernel_rfl, fun w' hS => ?yc0⟩, fun _ => rfl⟩ S0 ?_
        case yc0 => go_simp; rfl
        simp only [Act.put, List.setIfInBounds_toArray, List.set_cons_zero, List.set_cons_succ]
        refine AnyL.take (i := 1) (oi := { dst := some 34, op := Op.move (Operand.tmp 9), type := 3, pos := "sign.go:50", after := #[], guard := none }) (v := ?vc1) (by kernel_rfl) rfl (by kernel_rfl) (by kernel_rfl) (by kernel_rfl) (by kernel_rfl) (fun _ _ _ h => h) ⟨Or.inl ⟨by kernel_rfl, fun w' hS => ?yc1⟩, fun _ => rfl⟩ S0 ?_
        case yc1 => go_simp; rfl
        simp only [Act.put, List.setIfInBounds_toArray, List.set_cons_zero, List.set_cons_succ]
        refine AnyL.take (i := 2) (oi := { dst := some 35, op := Op.binOp BinOp.quo 3 (Operand.tmp 34) (Operand.const (Value.int IntKind.i64 4)) 3, type := 3, pos := "sign.go:50", after := #[{ on := 1, ground := Ground.data }], guard := none }) (v := ?vc2) (by kernel_rfl) rfl (by kernel_rfl) (by kernel_rfl) (by kernel_rfl) (by kernel_rfl) (fun _ _ _ h => h) ⟨Or.inl ⟨by kernel_rfl, fun w' hS => ?yc2⟩, fun _ => rfl⟩ S0 ?_
        case yc2 => clear hS; go_simp; rfl
        simp only [Act.put, List.setIfInBounds_toArray, List.set_cons_zero, List.set_cons_succ]
        refine AnyL.take (i := 3) (oi := { dst := some 36, op := Op.move (Operand.tmp 8), type := 70, pos := "sign.go:50", after := #[], guard := none }) (v := ?vc3) (by kernel_rfl) rfl (by kernel_rfl) (by kernel_rfl) (by kernel_rfl) (by kernel_rfl) (fun _ _ _ h => h) ⟨Or.inl ⟨by kernel_rfl, fun w' hS => ?yc3⟩, fun _ => rfl⟩ S0 ?_
        case yc3 => go_simp; rfl
        simp only [Act.put, List.setIfInBounds_toArray, List.set_cons_zero, List.set_cons_succ]
        refine AnyL.take (i := 4) (oi := { dst := some 37, op := Op.move (Operand.tmp 9), type := 3, pos := "sign.go:50", after := #[], guard := none }) (v := ?vc4) (by kernel_rfl) rfl (by kernel_rfl) (by kernel_rfl) (by kernel_rfl) (by kernel_rfl) (fun _ _ _ h => h) ⟨Or.inl ⟨by kernel_rfl, fun w' hS => ?yc4⟩, fun _ => rfl⟩ S0 ?_
        case yc4 => go_simp; rfl
        simp only [Act.put, List.setIfInBounds_toArray, List.set_cons_zero, List.set_cons_succ]
        refine AnyL.take (i := 5) (oi := { dst := some 38, op := Op.binOp BinOp.quo 3 (Operand.tmp 37) (Operand.const (Value.int IntKind.i64 4)) 3, type := 3, pos := "sign.go:50", after := #[{ on := 4, ground := Ground.data }], guard := none }) (v := ?vc5) (by kernel_rfl) rfl (by kernel_rfl) (by kernel_rfl) (by kernel_rfl) (by kernel_rfl) (fun _ _ _ h => h) ⟨Or.inl ⟨by kernel_rfl, fun w' hS => ?yc5⟩, fun _ => rfl⟩ S0 ?_
        case yc5 => clear hS; go_simp; rfl
        simp only [Act.put, List.setIfInBounds_toArray, List.set_cons_zero, List.set_cons_succ]
        refine AnyL.take (i := 6) (oi := { dst := some 39, op := Op.indexAddr 70 (Operand.tmp 36) (Operand.tmp 38), type := 0, pos := "sign.go:50", after := #[{ on := 3, ground := Ground.data }, { on := 5, ground := Ground.data }], guard := none }) (v := ?vc6) (by kernel_rfl) rfl (by kernel_rfl) (by kernel_rfl) (by kernel_rfl) (by kernel_rfl) (fun _ _ _ h => h) ⟨Or.inl ⟨by kernel_rfl, fun w' hS => ?yc6⟩, fun _ => rfl⟩ S0 ?_
        case yc6 => clear hS; go_simp; rfl
        simp only [Act.put, List.setIfInBounds_toArray, List.set_cons_zero, List.set_cons_succ]
        refine AnyL.take (i := 7) (oi := { dst := some 40, op := Op.load 5 (Operand.tmp 39), type := 5, pos := "sign.go:50", after := #[{ on := 6, ground := Ground.data }], guard := none }) (v := ?vc7) (by kernel_rfl) rfl (by kernel_rfl) (by kernel_rfl) (by kernel_rfl) (by kernel_rfl) (fun _ _ _ h => h) ⟨Or.inl ⟨by kernel_rfl, fun w' hS => ?yc7⟩, fun _ => rfl⟩ S0 ?_
        case yc7 => have g0 := hS.1; clear hS; go_simp; rfl
        simp only [Act.put, List.setIfInBounds_toArray, List.set_cons_zero, List.set_cons_succ]
        refine AnyL.take (i := 8) (oi := { dst := some 41, op := Op.binOp BinOp.shl 5 (Operand.tmp 40) (Operand.const (Value.int IntKind.u64 2)) 71, type := 5, pos := "sign.go:50", after := #[{ on := 7, ground := Ground.data }], guard := none }) (v := ?vc8) (by kernel_rfl) rfl (by kernel_rfl) (by kernel_rfl) (by kernel_rfl) (by kernel_rfl) (fun _ _ _ h => h) ⟨Or.inl ⟨by kernel_rfl, fun w' hS => ?yc8⟩, fun _ => rfl⟩ S0 ?_
        case yc8 => clear hS; go_simp; rfl
        simp only [Act.put, List.setIfInBounds_toArray, List.set_cons_zero, List.set_cons_succ]
        refine AnyL.take (i := 9) (oi := { dst := some 42, op := Op.load 30 (Operand.tmp 10), type := 30, pos := "sign.go:50", after := #[], guard := none }) (v := ?vc9) (by kernel_rfl) rfl (by kernel_rfl) (by kernel_rfl) (by kernel_rfl) (by kernel_rfl) (fun _ _ _ h => h) ⟨Or.inl ⟨by kernel_rfl, fun w' hS => ?yc9⟩, fun _ => rfl⟩ S0 ?_
        case yc9 => obtain ⟨-, g0, g1, -⟩ := hS; go_simp; rfl
        simp only [Act.put, List.setIfInBounds_toArray, List.set_cons_zero, List.set_cons_succ]
        refine AnyL.one (i := 10) (by kernel_rfl) (wpOpIn_step (o := { dst := some 43, op := Op.call { callee := Callee.value (Operand.func 31), args := #[Operand.tmp 42], argTypes := #[30] }, type := 5, pos := "sign.go:50", after := #[{ on := 9, ground := Ground.data }], guard := none }) rfl (fun K hK => ?_))
        go_simp
        refine ⟨trivial, (callsIn_wide.2 (signs_any _ _ _)).mono ?_⟩
        rintro r w3 ⟨rfl, rfl⟩
        have T3 : (A1.drew.alloc (.cells #[.int .i64 p.1, .int .i64 p.2] 30)).cell? ⟨G, q, none⟩ = some (.int .u8 (X : Nat)) ∧ (A1.drew.alloc (.cells #[.int .i64 p.1, .int .i64 p.2] 30)).cell? ⟨Bx, 0, none⟩ = some (.int .i64 p.1) ∧ (A1.drew.alloc (.cells #[.int .i64 p.1, .int .i64 p.2] 30)).cell? ⟨Bx, 1, none⟩ = some (.int .i64 p.2) ∧ (A1.drew.alloc (.cells #[.int .i64 p.1, .int .i64 p.2] 30)).frozen? ⟨G, q, none⟩ = false := ⟨cell_lat bA S0.1, cell_lat bA S0.2.1, cell_lat bA S0.2.2.1, fz3⟩
        refine hK _ _ ⟨fun _ => T3, ?_⟩
        clear hK K
        refine AnyL.take (i := 11) (oi := { dst := some 44, op := Op.binOp BinOp.or 5 (Operand.tmp 41) (Operand.tmp 43) 5, type := 5, pos := "sign.go:50", after := #[{ on := 8, ground := Ground.data }, { on := 10, ground := Ground.data }], guard := none }) (v := ?vc11) (by kernel_rfl) rfl (by kernel_rfl) (by kernel_rfl) (by kernel_rfl) (by kernel_rfl) (fun _ _ _ h => h) ⟨Or.inl ⟨by kernel_rfl, fun w' hS => ?yc11⟩, fun _ => rfl⟩ T3 ?_
        case yc11 => clear hS; go_simp; rfl
        simp only [Act.put, List.setIfInBounds_toArray, List.set_cons_zero, List.set_cons_succ]
        refine AnyL.take (i := 12) (oi := { dst := some 45, op := Op.indexAddr 70 (Operand.tmp 33) (Operand.tmp 35), type := 0, pos := "sign.go:50", after := #[{ on := 0, ground := Ground.data }, { on := 2, ground := Ground.data }, { on := 0, ground := Ground.phase }, { on := 1, ground := Ground.phase }, { on := 2, ground := Ground.phase }, { on := 3, ground := Ground.phase }, { on := 4, ground := Ground.phase }, { on := 5, ground := Ground.phase }, { on := 6, ground := Ground.phase }, { on := 7, ground := Ground.phase }, { on := 8, ground := Ground.phase }, { on := 9, ground := Ground.phase }, { on := 10, ground := Ground.phase }, { on := 11, ground := Ground.phase }], guard := none }) (v := ?vc12) (by kernel_rfl) rfl (by kernel_rfl) (by kernel_rfl) (by kernel_rfl) (by kernel_rfl) (fun _ _ _ h => h) ⟨Or.inl ⟨by kernel_rfl, fun w' hS => ?yc12⟩, fun _ => rfl⟩ T3 ?_
        case yc12 => clear hS; go_simp; rfl
        simp only [Act.put, List.setIfInBounds_toArray, List.set_cons_zero, List.set_cons_succ]
        refine AnyL.one (i := 13) (by kernel_rfl) (wpOpIn_step (o := { dst := none, op := Op.store 5 (Operand.tmp 45) (Operand.tmp 44), type := 0, pos := "sign.go:50", after := #[{ on := 12, ground := Ground.data }, { on := 11, ground := Ground.data }, { on := 10, ground := Ground.chain }, { on := 0, ground := Ground.phase }, { on := 1, ground := Ground.phase }, { on := 2, ground := Ground.phase }, { on := 3, ground := Ground.phase }, { on := 4, ground := Ground.phase }, { on := 5, ground := Ground.phase }, { on := 6, ground := Ground.phase }, { on := 7, ground := Ground.phase }, { on := 8, ground := Ground.phase }, { on := 9, ground := Ground.phase }, { on := 10, ground := Ground.phase }, { on := 11, ground := Ground.phase }], guard := none }) rfl (fun K hK => ?_))
        have k1 : (A1.alloc (.cells #[.int .i64 p.1, .int .i64 p.2] 30)).cell? ⟨G, q, none⟩ = some (.int .u8 (X : Nat)) := T3.1
        have k2 : (A1.alloc (.cells #[.int .i64 p.1, .int .i64 p.2] 30)).frozen? ⟨G, q, none⟩ = false := T3.2.2.2
        go_simp
        refine hK _ _ ⟨fun h => absurd (by simp) h, ?_⟩
        clear hK K
        refine AnyL.done (by kernel_rfl) ?_
        rw [show sgN (p.1, p.2) = sgN p from rfl, HP.out]
        have hj5 := HJ.out.1
        have hj6 : j < 512 := by omega
        gi_wp2
        go_roundw
        case rel =>
          refine ⟨j + 1, hj5, by go_num, ?_, ?_, ?_⟩
          · have h1 : RowIs (A1.alloc (.cells #[.int .i64 p.1, .int .i64 p.2] 30)) G 5 ((byT S n j).map BV) := by rw [← HA.out]; exact (HW.out.alloc (.cells #[.int .i64 p.1, .int .i64 p.2] 30)).alloc (.cells #[.int .i64 p.1, .int .i64 p.2] 30)
            have := h1.set q (.int .u8 ((X * 4 + sgN p : Nat) : Int))
            rw [HST.out] at this
            exact this
          · have h1 : zE.Row (A1.alloc (.cells #[.int .i64 p.1, .int .i64 p.2] 30)) (.slice (some ⟨g, 0, none⟩) m cap) S := by
              rw [← HA.out]
              exact (HZ.out.below ((Below.refl _ wr).alloc (Nat.le_refl _) _)).below ((Below.refl _ _).alloc (Nat.le_refl _) _)
            exact row_kept (F := fun k => k = G) h1 (Stay.setCell (F := fun k => k = G) (p := ⟨G, q, none⟩) (Stay.refl _ _) (fun _ => rfl) _).drew (fun k hk e => by cases hk; exact absurd e (Nat.ne_of_lt hgG))
          · have h1 : Below w.heap.size w (A1.alloc (.cells #[.int .i64 p.1, .int .i64 p.2] 30)) := by
              rw [← HA.out]
              exact (HB.out.alloc HB.out.size _).alloc (by have := HB.out.size; simp; omega) _
            exact (h1.setCell (p := ⟨G, q, none⟩) hGs _).drew
        case measure => simp [intOf]; omega
      · have e : j = m := by omega
        have HW : Hid (RowIs wr G 5 ((codeL S n).map BV)) := by
          rw [e, HM.out] at hrow
          exact hrow
        have hc : (convert 70 9 (.slice (some ⟨G, 0, none⟩) n n)).run Try.prog wr = .ok (.string ⟨(codeL S n).toArray⟩) wr := by
          have hcl : (codeL S n).length = n := byT_len _ _ _
          have := run_convert_bytes_back (P := Try.prog) wr 70 9 5 ⟨G, 0, none⟩ n (codeL S n) Try.underlying70 Try.underlying5 Try.underlying9 (fun k hk => by
            have e1 : (⟨G, 0, none⟩ : Addr).add k = ⟨G, k, none⟩ := by unfold Addr.add; split <;> simp_all
            rw [e1, HW.out.cell, List.getElem?_map, List.getElem?_eq_getElem hk]; rfl)
          rw [hcl] at this
          exact this
        have HB := Hid.mk hB
        clear e hrow hS hB
        gi_wp2
        refine bodyPost_ret (results_tmp2 rfl _ _ _) rfl ?_
        refine ⟨?_, HB.out⟩
        unfold cdB
        rw [if_pos HK.out, HK.out, EN.out, ES.out]
        rfl
end Go.Proofs.Ytmdmjjobhkpojaa
