/-
  DERIVED. sign: the laws' helpers.
-/
import Derived.Test.YtmdmjjobhkpojaaQCode
import Derived.OrdersHeld
import Derived.Deep.RegionHeld
set_option linter.unusedVariables false
set_option linter.unusedSimpArgs false
namespace Go.Proofs.Ytmdmjjobhkpojaa
open Go.RowKit Go.Shelf Go.Proofs.BitMath Go.Proofs.FloatMath
theorem oper_append_eq {P : Program} {w : World} {o : Oper} {a : Act} {K : Act → World → Prop} {Q : Exit → Act → World → Prop} (s x : Operand) (t u : TypeId)
    (ho : o.op = .call { callee := .builtin .append, args := #[s, x], argTypes := #[t, u] }) (v xv v' : Value) (w' : World) (hs : a.eval s = v) (hx : a.eval x = xv) (hr : (Builtin.append_ #[t, u] o.type #[v, xv]).run P w = .ok v' w')
    (h : K (a.put o.dst v') w') : Oper.wp P o a w K Q := by
  unfold Oper.wp execOp
  simp only [ho, resolve, invoke, builtin, Sem.run_bind, Sem.run_pure, Result.andThen_ok, List.map_toArray, List.map_cons, List.map_nil, hs, hx, hr]
  exact h
theorem i64_sg (a : Int) (h0 : -9223372036854775808 ≤ a) (h1 : a < 9223372036854775808) : IntKind.i64.wrap a = a := by
  rw [IntKind.wrap_i64]; omega
/-- Parts in a row that is new. -/
def NewZ (w : World) (X : List Zp) (e : Ending) (w' : World) : Prop := ∃ o, e = .returned o ∧ zE.Row w' o X ∧ (∀ k, o.ownBlock = some k → w.heap.size ≤ k) ∧ Below w.heap.size w w'
/-- While it grows. -/
structure GroZ (w : World) (X : List Zp) (o : Value) (W : World) : Prop where
  row : zE.Row W o X
  new : ∀ k, o.ownBlock = some k → w.heap.size ≤ k
  bel : Below w.heap.size w W
theorem GroZ.start (w : World) : GroZ w [] (.slice none 0 0) w := ⟨El.Row.nil zE w, fun k h => (by cases h), Below.refl _ _⟩
theorem GroZ.later {w W W' : World} {X : List Zp} {o : Value} (h : GroZ w X o W) (b : Below W.heap.size W W') : GroZ w X o W' := ⟨h.row.below b, h.new, h.bel.trans (b.mono h.bel.size)⟩
theorem GroZ.push {w W : World} {X : List Zp} {o : Value} (h : GroZ w X o W) (hl : X.length ≤ 1048576) (x : Zp) :
    ∃ o' W', (Builtin.append_ #[23, 23] 23 #[o, .slice (some ⟨W.heap.size, 0, none⟩) 1 1]).run Try.prog (W.alloc (.cells #[.int .i64 x.1, .int .i64 x.2] 30)) = .ok o' W' ∧ GroZ w (X ++ [x]) o' W' := by
  obtain ⟨o', W', h1, h2, h3, h4⟩ := El.app1 zOk W X o h.row x (by show _ * 16 ≤ _; omega) (by omega)
  refine ⟨o', W', h1, h2, fun k hk => ?_, ?_⟩
  · rcases h4 k hk with e | e
    · exact h.new k e
    · exact Nat.le_trans h.bel.size e
  · exact h.bel.trans (h3.toBelow (fun k hk e => by have := h.new k e; omega) h.bel.size)
theorem map_take_succ {α : Type} (f : Zp → α) {v : List Zp} {i : Nat} (h : i < v.length) : (v.take (i + 1)).map f = (v.take i).map f ++ [f v[i]] := by
  rw [List.take_succ_eq_append_getElem h, List.map_append]; rfl
set_option maxRecDepth 100000 in
set_option maxHeartbeats 4000000 in
theorem scaled_any (la : Option Addr) (c : Nat) (v : List Zp) (k : Int) (w : World) (hv : zE.At w la v) (hl : v.length ≤ 1024) (hk : ∀ p ∈ v, (k * p.1).natAbs ≤ 4611686018427387904 ∧ (k * p.2).natAbs ≤ 4611686018427387904) :
    Calls Try.prog 12 #[.slice la v.length c, .int .i64 k] w (NewZ w (v.map (fun p => (k * p.1, k * p.2)))) := by
  obtain ⟨n, en⟩ : ∃ n, v.length = n := ⟨_, rfl⟩
  rw [en] at hl ⊢
  have EN := Hid.mk en
  have HV := Hid.mk hv
  clear en hv
  go_enter Try.func12, Try.ntmps12
  go_wp2
  go_loopw [5, 6] (fun o f wr => ∃ (i : Nat), i ≤ n ∧ f = .int .i64 i ∧ GroZ w ((v.take i).map (fun p => (k * p.1, k * p.2))) o wr) (fun _ f _ => n - (intOf f).toNat)
  case atStart => exact ⟨0, Nat.zero_le _, rfl, GroZ.start w⟩
  case round =>
    obtain ⟨i, hi, rfl, hG⟩ := hrel
    have HG := Hid.mk hG
    by_cases hlt : i < n
    · have hlv : i < v.length := by rw [EN.out]; exact hlt
      obtain ⟨g, off, rfl, hr⟩ := HV.out.at' (fun e => by rw [e] at hlv; simp at hlv)
      obtain ⟨q0, q1⟩ := z_cells hr i hlv
      have hgl : g < w.heap.size := World.block_lt_of_cell? w _ q0
      have y0 := (hG.bel.cell (p := ⟨g, off + i * 2, none⟩) hgl).trans q0
      have y1 := (hG.bel.cell (p := ⟨g, off + i * 2 + 1, none⟩) hgl).trans q1
      have hmt := map_take_succ ((fun p => (k * p.1, k * p.2))) hlv
      obtain ⟨p, ep⟩ : ∃ p, v[i] = p := ⟨_, rfl⟩
      have EP := Hid.mk ep
      rw [ep] at y0 y1 hmt
      have hG1 := hG.later (b_drew wr)
      obtain ⟨o', W', hap, hG2⟩ := hG1.push (by simp; omega) (((fun p => (k * p.1, k * p.2))) p)
      have y2 := cell_lat ((Below.refl _ wr).alloc (Nat.le_refl _) (.cells #[.int .i64 (k * p.1), .int .i64 (k * p.2)] 30)) y0
      have y3 := cell_lat ((Below.refl _ wr).alloc (Nat.le_refl _) (.cells #[.int .i64 (k * p.1), .int .i64 (k * p.2)] 30)) y1
      have y4 := (hG2.bel.cell (p := ⟨g, off + i * 2, none⟩) hgl).trans (q0.trans (by rw [ep]))
      have y5 := (hG2.bel.cell (p := ⟨g, off + i * 2 + 1, none⟩) hgl).trans (q1.trans (by rw [ep]))
      have hlt' : (i : Int) < (n : Int) := by omega
      have hi2 : i < 1024 := by omega
      rw [← hmt] at hG2
      have HG2 := Hid.mk hG2
      obtain ⟨hb1, hb2⟩ := hk p (EP.out ▸ List.getElem_mem hlv)
      have a1 : IntKind.i64.wrap (k * p.1) = k * p.1 := i64_sg _ (by omega) (by omega)
      have a2 : IntKind.i64.wrap (k * p.2) = k * p.2 := i64_sg _ (by omega) (by omega)
      clear hG hG1 hG2 hmt q0 q1 ep hr
      go_wp2_with fail
      refine wp_region_held_drew (S := fun w' => w'.cell? ⟨g, off + i * 2, none⟩ = some (.int .i64 p.1) ∧ w'.cell? ⟨g, off + i * 2 + 1, none⟩ = some (.int .i64 p.2)) (by kernel_rfl) ?_ (fun hHeld => ?_)
      · exact ⟨y0, y1⟩
      refine wpAnyH_take (i := 0) (oi := { dst := some 13, op := Op.move (Operand.tmp 5), type := 23, pos := "plain.go:61", after := #[], guard := none }) (v := ?vs0) rfl (by kernel_rfl) (by kernel_rfl) (by kernel_rfl) (fun _ _ _ h => h) (Or.inl ⟨by rfl, ?hs0⟩) (by assumption) ?rs0
      case hs0 => (intro w0 hSw; (try dsimp only at hSw); go_simp; try (with_reducible rfl))
      simp only [Act.put, List.setIfInBounds_toArray, List.set_cons_zero, List.set_cons_succ]
      refine wpAnyH_take (i := 1) (oi := { dst := some 14, op := Op.move (Operand.tmp 1), type := 3, pos := "plain.go:61", after := #[], guard := none }) (v := ?vs1) rfl (by kernel_rfl) (by kernel_rfl) (by kernel_rfl) (fun _ _ _ h => h) (Or.inl ⟨by rfl, ?hs1⟩) (by assumption) ?rs1
      case hs1 => (intro w0 hSw; (try dsimp only at hSw); go_simp; try (with_reducible rfl))
      simp only [Act.put, List.setIfInBounds_toArray, List.set_cons_zero, List.set_cons_succ]
      refine wpAnyH_take (i := 2) (oi := { dst := some 15, op := Op.move (Operand.tmp 0), type := 23, pos := "plain.go:61", after := #[], guard := none }) (v := ?vs2) rfl (by kernel_rfl) (by kernel_rfl) (by kernel_rfl) (fun _ _ _ h => h) (Or.inl ⟨by rfl, ?hs2⟩) (by assumption) ?rs2
      case hs2 => (intro w0 hSw; (try dsimp only at hSw); go_simp; try (with_reducible rfl))
      simp only [Act.put, List.setIfInBounds_toArray, List.set_cons_zero, List.set_cons_succ]
      refine wpAnyH_take (i := 3) (oi := { dst := some 16, op := Op.move (Operand.tmp 6), type := 3, pos := "plain.go:61", after := #[], guard := none }) (v := ?vs3) rfl (by kernel_rfl) (by kernel_rfl) (by kernel_rfl) (fun _ _ _ h => h) (Or.inl ⟨by rfl, ?hs3⟩) (by assumption) ?rs3
      case hs3 => (intro w0 hSw; (try dsimp only at hSw); go_simp; try (with_reducible rfl))
      simp only [Act.put, List.setIfInBounds_toArray, List.set_cons_zero, List.set_cons_succ]
      refine wpAnyH_take (i := 4) (oi := { dst := some 17, op := Op.indexAddr 23 (Operand.tmp 15) (Operand.tmp 16), type := 0, pos := "plain.go:61", after := #[{ on := 2, ground := Ground.data }, { on := 3, ground := Ground.data }], guard := none }) (v := ?vs4) rfl (by kernel_rfl) (by kernel_rfl) (by kernel_rfl) (fun _ _ _ h => h) (Or.inl ⟨by rfl, ?hs4⟩) (by assumption) ?rs4
      case hs4 => (intro w0 hSw; (try dsimp only at hSw); go_simp; try (with_reducible rfl))
      simp only [Act.put, List.setIfInBounds_toArray, List.set_cons_zero, List.set_cons_succ]
      refine wpAnyH_take (i := 5) (oi := { dst := some 18, op := Op.fieldAddr 30 (Operand.tmp 17) 0, type := 0, pos := "plain.go:61", after := #[{ on := 4, ground := Ground.data }], guard := none }) (v := ?vs5) rfl (by kernel_rfl) (by kernel_rfl) (by kernel_rfl) (fun _ _ _ h => h) (Or.inl ⟨by rfl, ?hs5⟩) (by assumption) ?rs5
      case hs5 => (intro w0 hSw; (try dsimp only at hSw); go_simp; try (with_reducible rfl))
      simp only [Act.put, List.setIfInBounds_toArray, List.set_cons_zero, List.set_cons_succ]
      refine wpAnyH_take (i := 6) (oi := { dst := some 19, op := Op.load 3 (Operand.tmp 18), type := 3, pos := "plain.go:61", after := #[{ on := 5, ground := Ground.data }], guard := none }) (v := ?vs6) rfl (by kernel_rfl) (by kernel_rfl) (by kernel_rfl) (fun _ _ _ h => h) (Or.inl ⟨by rfl, ?hs6⟩) (by assumption) ?rs6
      case hs6 => (intro w0 hSw; (try dsimp only at hSw); go_simp; try (with_reducible rfl))
      simp only [Act.put, List.setIfInBounds_toArray, List.set_cons_zero, List.set_cons_succ]
      refine wpAnyH_take (i := 7) (oi := { dst := some 20, op := Op.binOp BinOp.mul 3 (Operand.tmp 14) (Operand.tmp 19) 3, type := 3, pos := "plain.go:61", after := #[{ on := 1, ground := Ground.data }, { on := 6, ground := Ground.data }], guard := none }) (v := ?vs7) rfl (by kernel_rfl) (by kernel_rfl) (by kernel_rfl) (fun _ _ _ h => h) (Or.inl ⟨by rfl, ?hs7⟩) (by assumption) ?rs7
      case hs7 => (intro w0 hSw; (try dsimp only at hSw); go_simp; try (with_reducible rfl))
      simp only [Act.put, List.setIfInBounds_toArray, List.set_cons_zero, List.set_cons_succ]
      refine wpAnyH_take (i := 8) (oi := { dst := some 21, op := Op.move (Operand.tmp 1), type := 3, pos := "plain.go:61", after := #[], guard := none }) (v := ?vs8) rfl (by kernel_rfl) (by kernel_rfl) (by kernel_rfl) (fun _ _ _ h => h) (Or.inl ⟨by rfl, ?hs8⟩) (by assumption) ?rs8
      case hs8 => (intro w0 hSw; (try dsimp only at hSw); go_simp; try (with_reducible rfl))
      simp only [Act.put, List.setIfInBounds_toArray, List.set_cons_zero, List.set_cons_succ]
      refine wpAnyH_take (i := 9) (oi := { dst := some 22, op := Op.move (Operand.tmp 0), type := 23, pos := "plain.go:61", after := #[], guard := none }) (v := ?vs9) rfl (by kernel_rfl) (by kernel_rfl) (by kernel_rfl) (fun _ _ _ h => h) (Or.inl ⟨by rfl, ?hs9⟩) (by assumption) ?rs9
      case hs9 => (intro w0 hSw; (try dsimp only at hSw); go_simp; try (with_reducible rfl))
      simp only [Act.put, List.setIfInBounds_toArray, List.set_cons_zero, List.set_cons_succ]
      refine wpAnyH_take (i := 10) (oi := { dst := some 23, op := Op.move (Operand.tmp 6), type := 3, pos := "plain.go:61", after := #[], guard := none }) (v := ?vs10) rfl (by kernel_rfl) (by kernel_rfl) (by kernel_rfl) (fun _ _ _ h => h) (Or.inl ⟨by rfl, ?hs10⟩) (by assumption) ?rs10
      case hs10 => (intro w0 hSw; (try dsimp only at hSw); go_simp; try (with_reducible rfl))
      simp only [Act.put, List.setIfInBounds_toArray, List.set_cons_zero, List.set_cons_succ]
      refine wpAnyH_take (i := 11) (oi := { dst := some 24, op := Op.indexAddr 23 (Operand.tmp 22) (Operand.tmp 23), type := 0, pos := "plain.go:61", after := #[{ on := 9, ground := Ground.data }, { on := 10, ground := Ground.data }], guard := none }) (v := ?vs11) rfl (by kernel_rfl) (by kernel_rfl) (by kernel_rfl) (fun _ _ _ h => h) (Or.inl ⟨by rfl, ?hs11⟩) (by assumption) ?rs11
      case hs11 => (intro w0 hSw; (try dsimp only at hSw); go_simp; try (with_reducible rfl))
      simp only [Act.put, List.setIfInBounds_toArray, List.set_cons_zero, List.set_cons_succ]
      refine wpAnyH_take (i := 12) (oi := { dst := some 25, op := Op.fieldAddr 30 (Operand.tmp 24) 1, type := 0, pos := "plain.go:61", after := #[{ on := 11, ground := Ground.data }], guard := none }) (v := ?vs12) rfl (by kernel_rfl) (by kernel_rfl) (by kernel_rfl) (fun _ _ _ h => h) (Or.inl ⟨by rfl, ?hs12⟩) (by assumption) ?rs12
      case hs12 => (intro w0 hSw; (try dsimp only at hSw); go_simp; try (with_reducible rfl))
      simp only [Act.put, List.setIfInBounds_toArray, List.set_cons_zero, List.set_cons_succ]
      refine wpAnyH_take (i := 13) (oi := { dst := some 26, op := Op.load 3 (Operand.tmp 25), type := 3, pos := "plain.go:61", after := #[{ on := 12, ground := Ground.data }], guard := none }) (v := ?vs13) rfl (by kernel_rfl) (by kernel_rfl) (by kernel_rfl) (fun _ _ _ h => h) (Or.inl ⟨by rfl, ?hs13⟩) (by assumption) ?rs13
      case hs13 => (intro w0 hSw; (try dsimp only at hSw); go_simp; try (with_reducible rfl))
      simp only [Act.put, List.setIfInBounds_toArray, List.set_cons_zero, List.set_cons_succ]
      refine wpAnyH_take (i := 14) (oi := { dst := some 27, op := Op.binOp BinOp.mul 3 (Operand.tmp 21) (Operand.tmp 26) 3, type := 3, pos := "plain.go:61", after := #[{ on := 8, ground := Ground.data }, { on := 13, ground := Ground.data }], guard := none }) (v := ?vs14) rfl (by kernel_rfl) (by kernel_rfl) (by kernel_rfl) (fun _ _ _ h => h) (Or.inl ⟨by rfl, ?hs14⟩) (by assumption) ?rs14
      case hs14 => (intro w0 hSw; (try dsimp only at hSw); go_simp; try (with_reducible rfl))
      simp only [Act.put, List.setIfInBounds_toArray, List.set_cons_zero, List.set_cons_succ]
      refine wpAnyH_take (i := 15) (oi := { dst := some 28, op := Op.build 30 #[(0, Operand.tmp 20), (1, Operand.tmp 27)], type := 30, pos := "plain.go:61", after := #[{ on := 7, ground := Ground.data }, { on := 14, ground := Ground.data }], guard := none }) (v := ?vs15) rfl (by kernel_rfl) (by kernel_rfl) (by kernel_rfl) (fun _ _ _ h => h) (Or.inl ⟨by rfl, ?hs15⟩) (by assumption) ?rs15
      case hs15 => (intro w0 hSw; (try dsimp only at hSw); go_simp; try (with_reducible rfl))
      simp only [Act.put, List.setIfInBounds_toArray, List.set_cons_zero, List.set_cons_succ]
      refine wpAnyH_ready (rs := [16]) (by kernel_rfl) (by simp) ?_
      refine AllReadyH.cons rfl (fun K0 hK0 => ?_) AllReadyH.nil
      go_simp
      refine hK0.out _ _ ?_ (fun hHeld => ?_)
      · exact ⟨y2, y3⟩
      clear hK0 K0
      refine wpAnyH_ready (rs := [17]) (by kernel_rfl) (by simp) ?_
      refine AllReadyH.cons rfl (fun K0 hK0 => ?_) AllReadyH.nil
      rw [if_pos (by rfl)]
      refine oper_append_eq _ _ _ _ rfl _ _ _ _ rfl rfl hap ?_
      go_simp
      refine hK0.out _ _ ?_ (fun hHeld => ?_)
      · exact ⟨y4, y5⟩
      clear hK0 K0
      refine wpAnyH_take (i := 18) (oi := { dst := some 5, op := Op.assign (Operand.tmp 30), type := 23, pos := "plain.go:61", after := #[{ on := 17, ground := Ground.data }, { on := 17, ground := Ground.chain }, { on := 0, ground := Ground.phase }, { on := 1, ground := Ground.phase }, { on := 2, ground := Ground.phase }, { on := 3, ground := Ground.phase }, { on := 4, ground := Ground.phase }, { on := 5, ground := Ground.phase }, { on := 6, ground := Ground.phase }, { on := 7, ground := Ground.phase }, { on := 8, ground := Ground.phase }, { on := 9, ground := Ground.phase }, { on := 10, ground := Ground.phase }, { on := 11, ground := Ground.phase }, { on := 12, ground := Ground.phase }, { on := 13, ground := Ground.phase }, { on := 14, ground := Ground.phase }, { on := 15, ground := Ground.phase }, { on := 16, ground := Ground.phase }, { on := 17, ground := Ground.phase }], guard := none }) (v := ?vs18) rfl (by kernel_rfl) (by kernel_rfl) (by kernel_rfl) (fun _ _ _ h => h) (Or.inl ⟨by rfl, ?hs18⟩) (by assumption) ?rs18
      case hs18 => (intro w0 hSw; (try dsimp only at hSw); go_simp; try (with_reducible rfl))
      simp only [Act.put, List.setIfInBounds_toArray, List.set_cons_zero, List.set_cons_succ]
      refine wpAnyH_done (by kernel_rfl) ?_ _
      clear hHeld
      go_wp2
      go_roundw
      case rel => exact ⟨i + 1, hlt, by go_num, HG2.out⟩
      case measure => simp [intOf]; omega
    · have e : i = n := by omega
      have h9 := hG.row
      rw [List.take_of_length_le (by rw [EN.out]; omega)] at h9
      have HG3 := Hid.mk (And.intro h9 (And.intro hG.new hG.bel))
      clear h9
      clear e hG HG
      go_wp2
      go_ret
      exact ⟨_, rfl, HG3.out⟩
set_option maxRecDepth 100000 in
set_option maxHeartbeats 4000000 in
theorem turned_any (la : Option Addr) (c : Nat) (v : List Zp) (w : World) (hv : zE.At w la v) (hl : v.length ≤ 1024) (hk : ∀ p ∈ v, p.1.natAbs ≤ 4611686018427387904 ∧ p.2.natAbs ≤ 4611686018427387904) :
    Calls Try.prog 13 #[.slice la v.length c] w (NewZ w (v.map (fun p => (-p.2, p.1)))) := by
  obtain ⟨n, en⟩ : ∃ n, v.length = n := ⟨_, rfl⟩
  rw [en] at hl ⊢
  have EN := Hid.mk en
  have HV := Hid.mk hv
  clear en hv
  go_enter Try.func13, Try.ntmps13
  go_wp2
  go_loopw [3, 4] (fun o f wr => ∃ (i : Nat), i ≤ n ∧ f = .int .i64 i ∧ GroZ w ((v.take i).map (fun p => (-p.2, p.1))) o wr) (fun _ f _ => n - (intOf f).toNat)
  case atStart => exact ⟨0, Nat.zero_le _, rfl, GroZ.start w⟩
  case round =>
    obtain ⟨i, hi, rfl, hG⟩ := hrel
    have HG := Hid.mk hG
    by_cases hlt : i < n
    · have hlv : i < v.length := by rw [EN.out]; exact hlt
      obtain ⟨g, off, rfl, hr⟩ := HV.out.at' (fun e => by rw [e] at hlv; simp at hlv)
      obtain ⟨q0, q1⟩ := z_cells hr i hlv
      have hgl : g < w.heap.size := World.block_lt_of_cell? w _ q0
      have y0 := (hG.bel.cell (p := ⟨g, off + i * 2, none⟩) hgl).trans q0
      have y1 := (hG.bel.cell (p := ⟨g, off + i * 2 + 1, none⟩) hgl).trans q1
      have hmt := map_take_succ ((fun p => (-p.2, p.1))) hlv
      obtain ⟨p, ep⟩ : ∃ p, v[i] = p := ⟨_, rfl⟩
      have EP := Hid.mk ep
      rw [ep] at y0 y1 hmt
      have hG1 := hG.later (b_drew wr)
      obtain ⟨o', W', hap, hG2⟩ := hG1.push (by simp; omega) (((fun p => (-p.2, p.1))) p)
      have y2 := cell_lat ((Below.refl _ wr).alloc (Nat.le_refl _) (.cells #[.int .i64 (-p.2), .int .i64 p.1] 30)) y0
      have y3 := cell_lat ((Below.refl _ wr).alloc (Nat.le_refl _) (.cells #[.int .i64 (-p.2), .int .i64 p.1] 30)) y1
      have y4 := (hG2.bel.cell (p := ⟨g, off + i * 2, none⟩) hgl).trans (q0.trans (by rw [ep]))
      have y5 := (hG2.bel.cell (p := ⟨g, off + i * 2 + 1, none⟩) hgl).trans (q1.trans (by rw [ep]))
      have hlt' : (i : Int) < (n : Int) := by omega
      have hi2 : i < 1024 := by omega
      rw [← hmt] at hG2
      have HG2 := Hid.mk hG2
      obtain ⟨hb1, hb2⟩ := hk p (EP.out ▸ List.getElem_mem hlv)
      have a1 : IntKind.i64.wrap (-p.2) = -p.2 := i64_sg _ (by omega) (by omega)
      clear hG hG1 hG2 hmt q0 q1 ep hr
      go_wp2_with fail
      refine wp_region_held_drew (S := fun w' => w'.cell? ⟨g, off + i * 2, none⟩ = some (.int .i64 p.1) ∧ w'.cell? ⟨g, off + i * 2 + 1, none⟩ = some (.int .i64 p.2)) (by kernel_rfl) ?_ (fun hHeld => ?_)
      · exact ⟨y0, y1⟩
      refine wpAnyH_take (i := 0) (oi := { dst := some 11, op := Op.move (Operand.tmp 3), type := 23, pos := "plain.go:70", after := #[], guard := none }) (v := ?vt0) rfl (by kernel_rfl) (by kernel_rfl) (by kernel_rfl) (fun _ _ _ h => h) (Or.inl ⟨by rfl, ?ht0⟩) (by assumption) ?rt0
      case ht0 => (intro w0 hSw; (try dsimp only at hSw); go_simp; try (with_reducible rfl))
      simp only [Act.put, List.setIfInBounds_toArray, List.set_cons_zero, List.set_cons_succ]
      refine wpAnyH_take (i := 1) (oi := { dst := some 12, op := Op.move (Operand.tmp 0), type := 23, pos := "plain.go:70", after := #[], guard := none }) (v := ?vt1) rfl (by kernel_rfl) (by kernel_rfl) (by kernel_rfl) (fun _ _ _ h => h) (Or.inl ⟨by rfl, ?ht1⟩) (by assumption) ?rt1
      case ht1 => (intro w0 hSw; (try dsimp only at hSw); go_simp; try (with_reducible rfl))
      simp only [Act.put, List.setIfInBounds_toArray, List.set_cons_zero, List.set_cons_succ]
      refine wpAnyH_take (i := 2) (oi := { dst := some 13, op := Op.move (Operand.tmp 4), type := 3, pos := "plain.go:70", after := #[], guard := none }) (v := ?vt2) rfl (by kernel_rfl) (by kernel_rfl) (by kernel_rfl) (fun _ _ _ h => h) (Or.inl ⟨by rfl, ?ht2⟩) (by assumption) ?rt2
      case ht2 => (intro w0 hSw; (try dsimp only at hSw); go_simp; try (with_reducible rfl))
      simp only [Act.put, List.setIfInBounds_toArray, List.set_cons_zero, List.set_cons_succ]
      refine wpAnyH_take (i := 3) (oi := { dst := some 14, op := Op.indexAddr 23 (Operand.tmp 12) (Operand.tmp 13), type := 0, pos := "plain.go:70", after := #[{ on := 1, ground := Ground.data }, { on := 2, ground := Ground.data }], guard := none }) (v := ?vt3) rfl (by kernel_rfl) (by kernel_rfl) (by kernel_rfl) (fun _ _ _ h => h) (Or.inl ⟨by rfl, ?ht3⟩) (by assumption) ?rt3
      case ht3 => (intro w0 hSw; (try dsimp only at hSw); go_simp; try (with_reducible rfl))
      simp only [Act.put, List.setIfInBounds_toArray, List.set_cons_zero, List.set_cons_succ]
      refine wpAnyH_take (i := 4) (oi := { dst := some 15, op := Op.fieldAddr 30 (Operand.tmp 14) 1, type := 0, pos := "plain.go:70", after := #[{ on := 3, ground := Ground.data }], guard := none }) (v := ?vt4) rfl (by kernel_rfl) (by kernel_rfl) (by kernel_rfl) (fun _ _ _ h => h) (Or.inl ⟨by rfl, ?ht4⟩) (by assumption) ?rt4
      case ht4 => (intro w0 hSw; (try dsimp only at hSw); go_simp; try (with_reducible rfl))
      simp only [Act.put, List.setIfInBounds_toArray, List.set_cons_zero, List.set_cons_succ]
      refine wpAnyH_take (i := 5) (oi := { dst := some 16, op := Op.load 3 (Operand.tmp 15), type := 3, pos := "plain.go:70", after := #[{ on := 4, ground := Ground.data }], guard := none }) (v := ?vt5) rfl (by kernel_rfl) (by kernel_rfl) (by kernel_rfl) (fun _ _ _ h => h) (Or.inl ⟨by rfl, ?ht5⟩) (by assumption) ?rt5
      case ht5 => (intro w0 hSw; (try dsimp only at hSw); go_simp; try (with_reducible rfl))
      simp only [Act.put, List.setIfInBounds_toArray, List.set_cons_zero, List.set_cons_succ]
      refine wpAnyH_take (i := 6) (oi := { dst := some 17, op := Op.unOp UnOp.neg 3 (Operand.tmp 16), type := 3, pos := "plain.go:70", after := #[{ on := 5, ground := Ground.data }], guard := none }) (v := ?vt6) rfl (by kernel_rfl) (by kernel_rfl) (by kernel_rfl) (fun _ _ _ h => h) (Or.inl ⟨by rfl, ?ht6⟩) (by assumption) ?rt6
      case ht6 => (intro w0 hSw; (try dsimp only at hSw); go_simp; try (with_reducible rfl))
      simp only [Act.put, List.setIfInBounds_toArray, List.set_cons_zero, List.set_cons_succ]
      refine wpAnyH_take (i := 7) (oi := { dst := some 18, op := Op.move (Operand.tmp 0), type := 23, pos := "plain.go:70", after := #[], guard := none }) (v := ?vt7) rfl (by kernel_rfl) (by kernel_rfl) (by kernel_rfl) (fun _ _ _ h => h) (Or.inl ⟨by rfl, ?ht7⟩) (by assumption) ?rt7
      case ht7 => (intro w0 hSw; (try dsimp only at hSw); go_simp; try (with_reducible rfl))
      simp only [Act.put, List.setIfInBounds_toArray, List.set_cons_zero, List.set_cons_succ]
      refine wpAnyH_take (i := 8) (oi := { dst := some 19, op := Op.move (Operand.tmp 4), type := 3, pos := "plain.go:70", after := #[], guard := none }) (v := ?vt8) rfl (by kernel_rfl) (by kernel_rfl) (by kernel_rfl) (fun _ _ _ h => h) (Or.inl ⟨by rfl, ?ht8⟩) (by assumption) ?rt8
      case ht8 => (intro w0 hSw; (try dsimp only at hSw); go_simp; try (with_reducible rfl))
      simp only [Act.put, List.setIfInBounds_toArray, List.set_cons_zero, List.set_cons_succ]
      refine wpAnyH_take (i := 9) (oi := { dst := some 20, op := Op.indexAddr 23 (Operand.tmp 18) (Operand.tmp 19), type := 0, pos := "plain.go:70", after := #[{ on := 7, ground := Ground.data }, { on := 8, ground := Ground.data }], guard := none }) (v := ?vt9) rfl (by kernel_rfl) (by kernel_rfl) (by kernel_rfl) (fun _ _ _ h => h) (Or.inl ⟨by rfl, ?ht9⟩) (by assumption) ?rt9
      case ht9 => (intro w0 hSw; (try dsimp only at hSw); go_simp; try (with_reducible rfl))
      simp only [Act.put, List.setIfInBounds_toArray, List.set_cons_zero, List.set_cons_succ]
      refine wpAnyH_take (i := 10) (oi := { dst := some 21, op := Op.fieldAddr 30 (Operand.tmp 20) 0, type := 0, pos := "plain.go:70", after := #[{ on := 9, ground := Ground.data }], guard := none }) (v := ?vt10) rfl (by kernel_rfl) (by kernel_rfl) (by kernel_rfl) (fun _ _ _ h => h) (Or.inl ⟨by rfl, ?ht10⟩) (by assumption) ?rt10
      case ht10 => (intro w0 hSw; (try dsimp only at hSw); go_simp; try (with_reducible rfl))
      simp only [Act.put, List.setIfInBounds_toArray, List.set_cons_zero, List.set_cons_succ]
      refine wpAnyH_take (i := 11) (oi := { dst := some 22, op := Op.load 3 (Operand.tmp 21), type := 3, pos := "plain.go:70", after := #[{ on := 10, ground := Ground.data }], guard := none }) (v := ?vt11) rfl (by kernel_rfl) (by kernel_rfl) (by kernel_rfl) (fun _ _ _ h => h) (Or.inl ⟨by rfl, ?ht11⟩) (by assumption) ?rt11
      case ht11 => (intro w0 hSw; (try dsimp only at hSw); go_simp; try (with_reducible rfl))
      simp only [Act.put, List.setIfInBounds_toArray, List.set_cons_zero, List.set_cons_succ]
      refine wpAnyH_take (i := 12) (oi := { dst := some 23, op := Op.build 30 #[(0, Operand.tmp 17), (1, Operand.tmp 22)], type := 30, pos := "plain.go:70", after := #[{ on := 6, ground := Ground.data }, { on := 11, ground := Ground.data }], guard := none }) (v := ?vt12) rfl (by kernel_rfl) (by kernel_rfl) (by kernel_rfl) (fun _ _ _ h => h) (Or.inl ⟨by rfl, ?ht12⟩) (by assumption) ?rt12
      case ht12 => (intro w0 hSw; (try dsimp only at hSw); go_simp; try (with_reducible rfl))
      simp only [Act.put, List.setIfInBounds_toArray, List.set_cons_zero, List.set_cons_succ]
      refine wpAnyH_ready (rs := [13]) (by kernel_rfl) (by simp) ?_
      refine AllReadyH.cons rfl (fun K0 hK0 => ?_) AllReadyH.nil
      go_simp
      refine hK0.out _ _ ?_ (fun hHeld => ?_)
      · exact ⟨y2, y3⟩
      clear hK0 K0
      refine wpAnyH_ready (rs := [14]) (by kernel_rfl) (by simp) ?_
      refine AllReadyH.cons rfl (fun K0 hK0 => ?_) AllReadyH.nil
      rw [if_pos (by rfl)]
      refine oper_append_eq _ _ _ _ rfl _ _ _ _ rfl rfl hap ?_
      go_simp
      refine hK0.out _ _ ?_ (fun hHeld => ?_)
      · exact ⟨y4, y5⟩
      clear hK0 K0
      refine wpAnyH_take (i := 15) (oi := { dst := some 3, op := Op.assign (Operand.tmp 25), type := 23, pos := "plain.go:70", after := #[{ on := 14, ground := Ground.data }, { on := 14, ground := Ground.chain }, { on := 0, ground := Ground.phase }, { on := 1, ground := Ground.phase }, { on := 2, ground := Ground.phase }, { on := 3, ground := Ground.phase }, { on := 4, ground := Ground.phase }, { on := 5, ground := Ground.phase }, { on := 6, ground := Ground.phase }, { on := 7, ground := Ground.phase }, { on := 8, ground := Ground.phase }, { on := 9, ground := Ground.phase }, { on := 10, ground := Ground.phase }, { on := 11, ground := Ground.phase }, { on := 12, ground := Ground.phase }, { on := 13, ground := Ground.phase }, { on := 14, ground := Ground.phase }], guard := none }) (v := ?vt15) rfl (by kernel_rfl) (by kernel_rfl) (by kernel_rfl) (fun _ _ _ h => h) (Or.inl ⟨by rfl, ?ht15⟩) (by assumption) ?rt15
      case ht15 => (intro w0 hSw; (try dsimp only at hSw); go_simp; try (with_reducible rfl))
      simp only [Act.put, List.setIfInBounds_toArray, List.set_cons_zero, List.set_cons_succ]
      refine wpAnyH_done (by kernel_rfl) ?_ _
      clear hHeld
      go_wp2
      go_roundw
      case rel => exact ⟨i + 1, hlt, by go_num, HG2.out⟩
      case measure => simp [intOf]; omega
    · have e : i = n := by omega
      have h9 := hG.row
      rw [List.take_of_length_le (by rw [EN.out]; omega)] at h9
      have HG3 := Hid.mk (And.intro h9 (And.intro hG.new hG.bel))
      clear h9
      clear e hG HG
      go_wp2
      go_ret
      exact ⟨_, rfl, HG3.out⟩
/-- The width that is taken. -/
def wdI (x : Int) : Int := if isW x = true then x else 64
theorem wdI_ok (x : Int) : ∃ wd : Nat, wdI x = wd ∧ 64 ≤ wd ∧ wd ≤ 1024 ∧ wd % 64 = 0 := by
  unfold wdI
  split
  · have h := isW_bd ‹_›
    have h2 : x % 64 = 0 := by have h1 := ‹isW x = true›; simp [isW] at h1; omega
    exact ⟨x.toNat, by omega, by omega, by omega, by omega⟩
  · exact ⟨64, rfl, by omega, by omega, by omega⟩
theorem wdI_no {x : Int} (h : isW x = false) : wdI x = 64 := by simp [wdI, h]
theorem wdI_yes {x : Int} (h : isW x = true) : wdI x = x := by simp [wdI, h]
theorem width_any (x : Int) (w : World) :
    Calls Try.prog 6 #[.int .i64 x] w fun e w' => e = .returned (.int .i64 (wdI x)) ∧ w' = w := by
  by_cases h1 : x < 64
  · have HE : Hid (wdI x = 64) := wdI_no (isW_small h1)
    go_enter Try.func6, Try.ntmps6
    go_wp2
    go_ret
    exact ⟨ret_int HE.out.symm, rfl⟩
  · by_cases h2 : 1024 < x
    · have HE : Hid (wdI x = 64) := wdI_no (isW_big h2)
      go_enter Try.func6, Try.ntmps6
      go_wp2
      go_ret
      exact ⟨ret_int HE.out.symm, rfl⟩
    · obtain ⟨a, rfl⟩ : ∃ a : Nat, x = a := ⟨x.toNat, by omega⟩
      cases h3 : (((a : Int) % 64) != 0)
      · have HE : Hid (wdI a = a) := wdI_yes (by rw [isW_pos (by omega) (by omega)]; simpa using h3)
        have h4 : ¬ ((a : Int) < 64) := h1
        have h5 : ¬ (1024 < (a : Int)) := h2
        go_enter Try.func6, Try.ntmps6
        go_wp2
        go_ret
        exact ⟨ret_int HE.out.symm, rfl⟩
      · have HE : Hid (wdI a = 64) := wdI_no (by rw [isW_pos (by omega) (by omega)]; simpa using h3)
        go_enter Try.func6, Try.ntmps6
        go_wp2
        go_ret
        exact ⟨ret_int HE.out.symm, rfl⟩
/-- How many parts are taken. -/
def szN (n : Nat) : Nat := if n = 0 then 1 else if 40 < n then 40 else n
theorem szN_bd (n : Nat) : 1 ≤ szN n ∧ szN n ≤ 40 := by unfold szN; split <;> (try split) <;> omega
theorem size_any (la : Option Addr) (n c : Nat) (w : World) (hn : n < 4611686018427387904) :
    Calls Try.prog 8 #[.slice la n c] w fun e w' => e = .returned (.int .i64 (szN n : Nat)) ∧ w' = w := by
  by_cases h1 : n = 0
  · subst h1
    go_enter Try.func8, Try.ntmps8
    go_wp2
    go_ret
    exact ⟨rfl, rfl⟩
  · have h1' : ((n : Int) == 0) = false := by simp; omega
    by_cases h2 : 40 < n
    · have HE : Hid (szN n = 40) := by show _ = _; simp [szN, h1, h2]
      have h2' : (40 : Int) < (n : Int) := by omega
      clear h1 h2
      go_enter Try.func8, Try.ntmps8
      go_wp2
      go_ret
      rw [HE.out]
      exact ⟨rfl, rfl⟩
    · have HE : Hid (szN n = n) := by show _ = _; simp [szN, h1, h2]
      have h2' : ¬ (40 : Int) < (n : Int) := by omega
      clear h1 h2
      go_enter Try.func8, Try.ntmps8
      go_wp2
      go_ret
      rw [HE.out]
      exact ⟨rfl, rfl⟩
/-- A number brought within its bound. -/
def fitI (n most : Int) : Int := Int.tmod n (most + 1)
theorem fitI_bd (n most : Int) (h : 0 ≤ most) : (fitI n most).natAbs ≤ most.natAbs := by
  unfold fitI
  have h1 : (Int.tmod n (most + 1)).natAbs < (most + 1).natAbs := by
    rw [Int.natAbs_tmod]; exact Nat.mod_lt _ (by omega)
  omega
set_option maxHeartbeats 1000000 in
theorem fit_any (n most : Int) (w : World) (h : 0 ≤ most) (h2 : most ≤ 1048576) :
    Calls Try.prog 10 #[.int .i64 n, .int .i64 most] w fun e w' => e = .returned (.int .i64 (fitI n most)) ∧ w' = w := by
  have a1 : IntKind.i64.wrap (most + 1) = most + 1 := i64_sg _ (by omega) (by omega)
  have a2 : (most + 1 == 0) = false := by simp; omega
  have hb := fitI_bd n most h
  have a3 : IntKind.i64.wrap (Int.tmod n (most + 1)) = Int.tmod n (most + 1) := i64_sg _ (by unfold fitI at hb; omega) (by unfold fitI at hb; omega)
  go_enter Try.func10, Try.ntmps10
  go_wp2
  all_goals go_ret
  all_goals exact ⟨rfl, rfl⟩
end Go.Proofs.Ytmdmjjobhkpojaa
