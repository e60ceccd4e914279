/-
  DERIVED. sign: a vector's sum along a direction.
-/
import Derived.Test.YtmdmjjobhkpojaaQMath
set_option linter.unusedVariables false
set_option linter.unusedSimpArgs false
namespace Go.Proofs.Ytmdmjjobhkpojaa
open Go.RowKit Go.Shelf Go.Proofs.BitMath Go.Proofs.FloatMath
attribute [local go_sem] Oper.semAt_some
set_option maxRecDepth 100000 in
set_option maxHeartbeats 8000000 in
theorem sum_any (b wd dm jj : Nat) (sd : Int) (g off c : Nat) (v : List Zp) (w : World) (hs : SgAt w b wd dm sd) (hl : v.length = dm) (hd0 : 0 < dm) (hd : dm ≤ 1024) (hj : jj ≤ 512) (hok : v.all okP = true)
    (hr : ∀ j x, (v.flatMap zC)[j]? = some x → w.cell? ⟨g, off + j, none⟩ = some x) :
    Calls Try.prog 27 #[Pt b, .int .i64 jj, .slice (some ⟨g, off, none⟩) dm c] w fun e w' => (∃ x y, e = .returned (.complex .f64 x y) ∧ CI x y (sumZ sd jj v dm).1 (sumZ sd jj v dm).2) ∧ Below w.heap.size w w' := by
  have hb := hs.lt
  have hg : g < w.heap.size := World.block_lt_of_cell? w _ (z_cells hr 0 (by omega)).1
  have HR := Hid.mk hr
  have HL := Hid.mk hl
  have HS := Hid.mk hs
  have HO := Hid.mk hok
  clear hr hl hs hok
  have hsc : ∀ (W : World) (p : Addr) (x y : Nat), (store p (.complex .f64 x y)).run Try.prog W = stored Try.prog W p (.complex .f64 x y) .plain := fun W p x y => run_store Try.prog W p _ .plain rfl
  refine (callsIn_wide (n := 9)).1 ?_
  refine callsIn_of_wp_marks Try.func27 rfl trivial ?_ rfl
  simp only [Try.ntmps27, List.size_toArray, List.length_cons, List.length_nil, Nat.reduceAdd, Nat.reduceSub, Array.replicate_succ, Array.replicate_zero, List.push_toArray, List.append_toArray, List.nil_append, List.cons_append]
  gi_wp2_with fail
  refine ⟨trivial, (callsIn_wide.2 (units_any _ _ _)).mono ?_⟩
  rintro e w2 ⟨rfl, rfl⟩
  gi_wp2_with fail
  have B0 : Below w.heap.size w ((((w.alloc (.cells #[.slice (some ⟨g, off, none⟩) dm c] 23)).alloc (.cells #[.complex .f64 0 0] 66)).alloc (.cells #[Pt b] 31)).alloc (.cells #[.int .i64 jj] 3)) := ((((Below.refl _ w).alloc (Nat.le_refl _) _).alloc (by simp) _).alloc (by simp; omega) _).alloc (by simp; omega) _
  have d0 : Boxed ((((w.alloc (.cells #[.slice (some ⟨g, off, none⟩) dm c] 23)).alloc (.cells #[.complex .f64 0 0] 66)).alloc (.cells #[Pt b] 31)).alloc (.cells #[.int .i64 jj] 3)) w.heap.size 23 (.slice (some ⟨g, off, none⟩) dm c) := (((Boxed.new w 23 _).alloc _).alloc _).alloc _
  have d1 : Boxed ((((w.alloc (.cells #[.slice (some ⟨g, off, none⟩) dm c] 23)).alloc (.cells #[.complex .f64 0 0] 66)).alloc (.cells #[Pt b] 31)).alloc (.cells #[.int .i64 jj] 3)) (w.heap.size + 1) 66 (.complex .f64 0 0) := by
    have := ((Boxed.new (w.alloc (.cells #[.slice (some ⟨g, off, none⟩) dm c] 23)) 66 (.complex .f64 0 0)).alloc (.cells #[Pt b] 31)).alloc (.cells #[.int .i64 jj] 3)
    rwa [World.size_alloc] at this
  have c2 : ((((w.alloc (.cells #[.slice (some ⟨g, off, none⟩) dm c] 23)).alloc (.cells #[.complex .f64 0 0] 66)).alloc (.cells #[Pt b] 31)).alloc (.cells #[.int .i64 jj] 3)).cell? ⟨w.heap.size + 1 + 1, 0, none⟩ = some (Pt b) := by go_simp
  have c3 : ((((w.alloc (.cells #[.slice (some ⟨g, off, none⟩) dm c] 23)).alloc (.cells #[.complex .f64 0 0] 66)).alloc (.cells #[Pt b] 31)).alloc (.cells #[.int .i64 jj] 3)).cell? ⟨w.heap.size + 1 + 1 + 1, 0, none⟩ = some (.int .i64 jj) := by go_simp
  have sz : ((((w.alloc (.cells #[.slice (some ⟨g, off, none⟩) dm c] 23)).alloc (.cells #[.complex .f64 0 0] 66)).alloc (.cells #[Pt b] 31)).alloc (.cells #[.int .i64 jj] 3)).heap.size = w.heap.size + 4 := by simp
  generalize (((w.alloc (.cells #[.slice (some ⟨g, off, none⟩) dm c] 23)).alloc (.cells #[.complex .f64 0 0] 66)).alloc (.cells #[Pt b] 31)).alloc (.cells #[.int .i64 jj] 3) = W0 at *
  have hs0 : SgAt W0 b wd dm sd := HS.out.below B0
  have hseq := units_st jj wd dm b (w.heap.size + 1 + 1) (w.heap.size + 1 + 1 + 1) (w.heap.size + 1) (9 - 1) sd W0 c2 c3 hs0 hd hj (by omega) (by omega) (by omega)
  refine wpIn_rangeFunc_st rfl (by omega) (gf := 38) (lb := #[Pt (w.heap.size + 1 + 1), Pt (w.heap.size + 1 + 1 + 1)]) rfl trivial (enters_of Try.func38 (by kernel_rfl) rfl) hseq (fun _ _ _ _ h => TrU.others h) keepX_t (fun s A l o o' h1 h2 h3 h4 => keepX_b (w := W0) A l o o' h1 h2 h3 h4) (fun _ => rfl)
    (fun p s A => (∃ x y, Boxed A (w.heap.size + 1) 66 (.complex .f64 x y) ∧ CI x y (sumZ sd jj v p.length).1 (sumZ sd jj v p.length).2) ∧ Boxed A w.heap.size 23 (.slice (some ⟨g, off, none⟩) dm c) ∧ Below w.heap.size w A)
    (fun _ _ _ _ => False)
    (fun p s A s' B h ht => by
      obtain ⟨⟨x, y, h1, h2⟩, h3, h4⟩ := h
      exact ⟨⟨x, y, (ht.block _ h1.lt).trans h1, h2⟩, (ht.block _ h3.lt).trans h3, h4.trans (ht.mono h4.size)⟩)
    (fun _ _ _ _ _ _ h _ => h.elim)
    (fun z A B row h hg hr => by
      obtain ⟨⟨x, y, h1, h2⟩, h3, h4⟩ := h
      exact ⟨⟨x, y, Own.from (boxed_own (w.heap.size + 1) 66 (fun _ : Unit => .complex .f64 x y)) W0.heap.size () A B row h1 hg hr, h2⟩, Own.from (boxed_own w.heap.size 23 (fun _ : Unit => .slice (some ⟨g, off, none⟩) dm c)) W0.heap.size () A B row h3 hg hr, ownFrom_below (β := Unit) (w₀ := w) (Nat.le_refl _) (by omega) () A B row h4 hg hr⟩)
    (fun _ _ _ _ _ h _ _ => h)
    ⟨⟨0, 0, d1, fi_zero, fi_zero⟩, d0, B0⟩
    (fun k a' A => a' = { tmps := #[Pt b, .int .i64 jj, .slice (some ⟨g, off, none⟩) dm c, undef, undef, .pointer (some ⟨w.heap.size, 0, none⟩), .complex .f64 0 0, .pointer (some ⟨w.heap.size + 1, 0, none⟩), .int .i64 (k : Nat), uV (uq sd (1024 * (jj : Int) + (k : Nat) + 1)), Pt b, .int .i64 jj, .func (.func 38) #[] #[Pt (w.heap.size + 1 + 1), Pt (w.heap.size + 1 + 1 + 1)], .int .i64 (k : Nat), uV (uq sd (1024 * (jj : Int) + (k : Nat) + 1)), undef, undef, undef, undef, undef, undef, undef, undef, undef, undef], defers := [] })
    (fun x a' s A B row h hg hr => h) ?assign ?body ?done ?stop
  case assign =>
    intro lp p x s A K hI hx hK
    clear hx
    obtain ⟨U, eU⟩ : ∃ U, uV (uq sd (1024 * (jj : Int) + (x : Nat) + 1)) = U := ⟨_, rfl⟩
    simp only [encU, eU]
    have HU := Hid.mk eU
    clear eU
    gi_wp2
    exact hK _ _ (KeepsFrom.refl _ _) (fun _ _ _ h _ => h) hI (by rw [HU.out])
  case body =>
    rintro l pp k s a' A hlp ⟨rc, hrc⟩ ⟨⟨x, y, hT, hC⟩, hV, hB⟩ rfl ⟨hk1, hk2⟩
    have hlv : k < v.length := by rw [HL.out]; exact hk2
    obtain ⟨q0, q1⟩ := z_cells HR.out k hlv
    have z0 := (hB.cell (p := ⟨g, off + k * 2, none⟩) hg).trans q0
    have z1 := (hB.cell (p := ⟨g, off + k * 2 + 1, none⟩) hg).trans q1
    clear q0 q1
    have hpb : bdZ 1048576 v[k] := okP_bd (List.all_eq_true.1 HO.out _ (List.getElem_mem hlv))
    have hgd : v.getD k (0, 0) = v[k] := getD_at hlv
    have hsk := sumZ_bd (sd := sd) (jj := jj) HO.out (k + 1)
    obtain ⟨p, ep⟩ : ∃ p, v[k] = p := ⟨_, rfl⟩
    rw [ep] at z0 z1 hpb hgd
    obtain ⟨ux, uy, r1, s1, eU, eM, cM⟩ := unit_mul hpb (uq sd (1024 * (jj : Int) + (k : Nat) + 1)) (a := floatOfInt .f64 p.1) (b := floatOfInt .f64 p.2) ⟨fi_of _ (by have := hpb.1; omega), fi_of _ (by have := hpb.2; omega)⟩
    have hcm : sumZ sd jj v (k + 1) = addZ (sumZ sd jj v k) (cm p (uq sd (1024 * (jj : Int) + (k : Nat) + 1))) := by simp only [sumZ, hgd]
    rw [← hk1] at hC
    obtain ⟨r2, s2, eA, cA⟩ := CI.add hC cM (by have := hsk.1; rw [hcm] at this; simp only [addZ] at this; omega) (by have := hsk.2; rw [hcm] at this; simp only [addZ] at this; omega)
    have HF : Hid (CI r2 s2 (sumZ sd jj v (pp ++ [k]).length).1 (sumZ sd jj v (pp ++ [k]).length).2) := by
      show CI _ _ _ _
      rw [List.length_append, List.length_singleton, ← hk1, hcm]; exact cA
    have hM := fun W => run_complex_mul (P := Try.prog) W 66 _ _ _ _ _ _ eM
    have hA := fun W => run_complex_sum (P := Try.prog) W .add (.inl rfl) 66 .f64 _ _ _ _ _ _ eA
    rw [eU]
    have hz := hT.cell
    have hfz := hT.frozen
    have hvv := hV.cell
    have HT := Hid.mk hT
    have HV := Hid.mk hV
    have HB := Hid.mk hB
    have HH := Hid.mk (And.intro hk1 (And.intro hk2 (And.intro hlp hrc)))
    have hk5 : k < dm := hk2
    have hk6 : k < 1024 := by omega
    have hk7 : (k : Int) < (dm : Int) := by omega
    have bA : Below A.drew.heap.size A.drew (A.drew.alloc (.cells #[.int .i64 p.1, .int .i64 p.2] 30)) := (Below.refl _ _).alloc (Nat.le_refl _) _
    have fz3 : (A.drew.alloc (.cells #[.int .i64 p.1, .int .i64 p.2] 30)).frozen? ⟨w.heap.size + 1, 0, none⟩ = false := (Boxed.alloc (W := A.drew) (B := w.heap.size + 1) (t := 66) (v := .complex .f64 x y) hT _).frozen
    have EP := Hid.mk ep
    clear ep
    clear hT hV hB hk1 hk2 hlp hrc eM eA eU cM cA hC hcm hsk hgd hpb hseq hs0 B0 d0 d1 c2 c3 sz hd hd0 hj
    have S0 : A.drew.cell? ⟨w.heap.size + 1, 0, none⟩ = some (.complex .f64 x y) ∧ A.drew.cell? ⟨w.heap.size, 0, none⟩ = some (.slice (some ⟨g, off, none⟩) dm c) ∧ A.drew.cell? ⟨g, off + k * 2, none⟩ = some (.int .i64 p.1) ∧ A.drew.cell? ⟨g, off + k * 2 + 1, none⟩ = some (.int .i64 p.2) ∧ A.drew.frozen? ⟨w.heap.size + 1, 0, none⟩ = false := ⟨hz, hvv, z0, z1, hfz⟩
    clear hz hvv z0 z1 hfz
    gi_wp2_with fail
    refine region_late mixed 10 rfl (L := [9]) (S := fun w' => w'.cell? ⟨w.heap.size + 1, 0, none⟩ = some (.complex .f64 x y) ∧ w'.cell? ⟨w.heap.size, 0, none⟩ = some (.slice (some ⟨g, off, none⟩) dm c) ∧ w'.cell? ⟨g, off + k * 2, none⟩ = some (.int .i64 p.1) ∧ w'.cell? ⟨g, off + k * 2 + 1, none⟩ = some (.int .i64 p.2) ∧ w'.frozen? ⟨w.heap.size + 1, 0, none⟩ = false) ?_
    refine AnyL.take (i := 0) (oi := { dst := some 15, op := Op.load 66 (Operand.tmp 7), type := 66, pos := "sign.go:73", after := #[], guard := none }) (v := ?vs0) (by kernel_rfl) rfl (by kernel_rfl) (by kernel_rfl) (by kernel_rfl) (by kernel_rfl) (fun _ _ _ h => h) ⟨Or.inl ⟨by kernel_rfl, fun w' hS => ?ys0⟩, fun _ => rfl⟩ S0 ?_
    case ys0 => have g0 := hS.1; clear hS; go_simp; rfl
    simp only [Act.put, List.setIfInBounds_toArray, List.set_cons_zero, List.set_cons_succ]
    refine AnyL.take (i := 1) (oi := { dst := some 16, op := Op.load 23 (Operand.tmp 5), type := 23, pos := "sign.go:73", after := #[], guard := none }) (v := ?vs1) (by kernel_rfl) rfl (by kernel_rfl) (by kernel_rfl) (by kernel_rfl) (by kernel_rfl) (fun _ _ _ h => h) ⟨Or.inl ⟨by kernel_rfl, fun w' hS => ?ys1⟩, fun _ => rfl⟩ S0 ?_
    case ys1 => have g0 := hS.2.1; clear hS; go_simp; rfl
    simp only [Act.put, List.setIfInBounds_toArray, List.set_cons_zero, List.set_cons_succ]
    refine AnyL.take (i := 2) (oi := { dst := some 17, op := Op.move (Operand.tmp 8), type := 3, pos := "sign.go:73", after := #[], guard := none }) (v := ?vs2) (by kernel_rfl) rfl (by kernel_rfl) (by kernel_rfl) (by kernel_rfl) (by kernel_rfl) (fun _ _ _ h => h) ⟨Or.inl ⟨by kernel_rfl, fun w' hS => ?ys2⟩, fun _ => rfl⟩ S0 ?_
    case ys2 => go_simp; rfl
    simp only [Act.put, List.setIfInBounds_toArray, List.set_cons_zero, List.set_cons_succ]
    refine AnyL.take (i := 3) (oi := { dst := some 18, op := Op.indexAddr 23 (Operand.tmp 16) (Operand.tmp 17), type := 0, pos := "sign.go:73", after := #[{ on := 1, ground := Ground.data }, { on := 2, ground := Ground.data }], guard := none }) (v := ?vs3) (by kernel_rfl) rfl (by kernel_rfl) (by kernel_rfl) (by kernel_rfl) (by kernel_rfl) (fun _ _ _ h => h) ⟨Or.inl ⟨by kernel_rfl, fun w' hS => ?ys3⟩, fun _ => rfl⟩ S0 ?_
    case ys3 => clear hS; go_simp; rfl
    simp only [Act.put, List.setIfInBounds_toArray, List.set_cons_zero, List.set_cons_succ]
    refine AnyL.take (i := 4) (oi := { dst := some 19, op := Op.load 30 (Operand.tmp 18), type := 30, pos := "sign.go:73", after := #[{ on := 3, ground := Ground.data }], guard := none }) (v := ?vs4) (by kernel_rfl) rfl (by kernel_rfl) (by kernel_rfl) (by kernel_rfl) (by kernel_rfl) (fun _ _ _ h => h) ⟨Or.inl ⟨by kernel_rfl, fun w' hS => ?ys4⟩, fun _ => rfl⟩ S0 ?_
    case ys4 => obtain ⟨-, -, g0, g1, -⟩ := hS; go_simp; rfl
    simp only [Act.put, List.setIfInBounds_toArray, List.set_cons_zero, List.set_cons_succ]
    refine AnyL.take (i := 6) (oi := { dst := some 21, op := Op.move (Operand.tmp 9), type := 66, pos := "sign.go:73", after := #[], guard := none }) (v := ?vs6) (by kernel_rfl) rfl (by kernel_rfl) (by kernel_rfl) (by kernel_rfl) (by kernel_rfl) (fun _ _ _ h => h) ⟨Or.inl ⟨by kernel_rfl, fun w' hS => ?ys6⟩, fun _ => rfl⟩ S0 ?_
    case ys6 => go_simp; rfl
    simp only [Act.put, List.setIfInBounds_toArray, List.set_cons_zero, List.set_cons_succ]
    refine AnyL.one (i := 5) (by kernel_rfl) (wpOpIn_step (o := { dst := some 20, op := Op.call { callee := Callee.value (Operand.func 37), args := #[Operand.tmp 19], argTypes := #[30] }, type := 66, pos := "sign.go:73", after := #[{ on := 4, ground := Ground.data }], guard := none }) rfl (fun K hK => ?_))
    go_simp
    refine ⟨trivial, (CallsIn.inRound l (callsIn_wide.2 (number_any _ _ _))).mono ?_⟩
    rintro r w3 ⟨rfl, rfl⟩
    have T3 : (A.drew.alloc (.cells #[.int .i64 p.1, .int .i64 p.2] 30)).cell? ⟨w.heap.size + 1, 0, none⟩ = some (.complex .f64 x y) ∧ (A.drew.alloc (.cells #[.int .i64 p.1, .int .i64 p.2] 30)).cell? ⟨w.heap.size, 0, none⟩ = some (.slice (some ⟨g, off, none⟩) dm c) ∧ (A.drew.alloc (.cells #[.int .i64 p.1, .int .i64 p.2] 30)).cell? ⟨g, off + k * 2, none⟩ = some (.int .i64 p.1) ∧ (A.drew.alloc (.cells #[.int .i64 p.1, .int .i64 p.2] 30)).cell? ⟨g, off + k * 2 + 1, none⟩ = some (.int .i64 p.2) ∧ (A.drew.alloc (.cells #[.int .i64 p.1, .int .i64 p.2] 30)).frozen? ⟨w.heap.size + 1, 0, none⟩ = false := ⟨cell_lat bA S0.1, cell_lat bA S0.2.1, cell_lat bA S0.2.2.1, cell_lat bA S0.2.2.2.1, fz3⟩
    refine hK _ _ ⟨fun _ => T3, ?_⟩
    clear hK K
    refine AnyL.take (i := 7) (oi := { dst := some 22, op := Op.binOp BinOp.mul 66 (Operand.tmp 20) (Operand.tmp 21) 66, type := 66, pos := "sign.go:73", after := #[{ on := 5, ground := Ground.data }, { on := 6, ground := Ground.data }], guard := none }) (v := ?vs7) (by kernel_rfl) rfl (by kernel_rfl) (by kernel_rfl) (by kernel_rfl) (by kernel_rfl) (fun _ _ _ h => h) ⟨Or.inl ⟨by kernel_rfl, fun w' hS => ?ys7⟩, fun _ => rfl⟩ T3 ?_
    case ys7 => clear hS; go_simp; rfl
    simp only [Act.put, List.setIfInBounds_toArray, List.set_cons_zero, List.set_cons_succ]
    refine AnyL.take (i := 8) (oi := { dst := some 23, op := Op.binOp BinOp.add 66 (Operand.tmp 15) (Operand.tmp 22) 66, type := 66, pos := "sign.go:73", after := #[{ on := 0, ground := Ground.data }, { on := 7, ground := Ground.data }], guard := none }) (v := ?vs8) (by kernel_rfl) rfl (by kernel_rfl) (by kernel_rfl) (by kernel_rfl) (by kernel_rfl) (fun _ _ _ h => h) ⟨Or.inl ⟨by kernel_rfl, fun w' hS => ?ys8⟩, fun _ => rfl⟩ T3 ?_
    case ys8 => clear hS; go_simp; rfl
    simp only [Act.put, List.setIfInBounds_toArray, List.set_cons_zero, List.set_cons_succ]
    refine AnyL.one (i := 9) (by kernel_rfl) (wpOpIn_step (o := { dst := none, op := Op.store 66 (Operand.tmp 7) (Operand.tmp 23), type := 0, pos := "sign.go:73", after := #[{ on := 8, ground := Ground.data }, { on := 5, ground := Ground.chain }, { on := 0, ground := Ground.phase }, { on := 1, ground := Ground.phase }, { on := 2, ground := Ground.phase }, { on := 3, ground := Ground.phase }, { on := 4, ground := Ground.phase }, { on := 5, ground := Ground.phase }, { on := 6, ground := Ground.phase }, { on := 7, ground := Ground.phase }, { on := 8, ground := Ground.phase }], guard := none }) rfl (fun K hK => ?_))
    have k1 : (A.alloc (.cells #[.int .i64 p.1, .int .i64 p.2] 30)).cell? ⟨w.heap.size + 1, 0, none⟩ = some (.complex .f64 x y) := T3.1
    have k2 : (A.alloc (.cells #[.int .i64 p.1, .int .i64 p.2] 30)).frozen? ⟨w.heap.size + 1, 0, none⟩ = false := T3.2.2.2.2
    go_simp
    refine hK _ _ ⟨fun h => absurd (by simp) h, ?_⟩
    clear hK K
    refine AnyL.done (by kernel_rfl) ?_
    have bb : Below A.heap.size A (A.alloc (.cells #[.int .i64 p.1, .int .i64 p.2] 30)) := (Below.refl _ _).alloc (Nat.le_refl _) _
    have t1 : Boxed (A.alloc (.cells #[.int .i64 p.1, .int .i64 p.2] 30)) (w.heap.size + 1) 66 (.complex .f64 x y) := HT.out.alloc _
    have t2 : Boxed (A.alloc (.cells #[.int .i64 p.1, .int .i64 p.2] 30)) w.heap.size 23 (.slice (some ⟨g, off, none⟩) dm c) := HV.out.alloc _
    have kx : KeepX (w.heap.size + 1) (A.alloc (.cells #[.int .i64 p.1, .int .i64 p.2] 30)) ((A.alloc (.cells #[.int .i64 p.1, .int .i64 p.2] 30)).setCell ⟨w.heap.size + 1, 0, none⟩ (.complex .f64 r2 s2)) := KeepX.set (a := ⟨w.heap.size + 1, 0, none⟩) rfl _
    have ko : KeepsOthers A ((A.alloc (.cells #[.int .i64 p.1, .int .i64 p.2] 30)).setCell ⟨w.heap.size + 1, 0, none⟩ (.complex .f64 r2 s2)).drew := by
      have k := (KeepsOthers.alloc A (.cells #[.int .i64 p.1, .int .i64 p.2] 30)).trans (KeepsOthers.setCell _ ⟨w.heap.size + 1, 0, none⟩ (.complex .f64 r2 s2))
      exact ⟨k.1, k.2⟩
    have t3 := (HB.out.trans (bb.mono HB.out.size)).setCell (p := ⟨w.heap.size + 1, 0, none⟩) (by simp) (.complex .f64 r2 s2)
    exact ⟨ko.from _, keepX_t (KeepX.below bb) kx, ⟨r2, s2, t1.set _, HF.out⟩, t2.other (by omega) _, t3.drew⟩
  case done =>
    rintro D ys s A hD hys ⟨⟨x, y, hT, hC⟩, hV, hB⟩ hK
    have hcell := hT.cell
    have HC : Hid (CI x y (sumZ sd jj v dm).1 (sumZ sd jj v dm).2) := by
      rw [hys, List.length_range] at hC; exact hC
    gi_wp2
    refine ⟨by simp, .inl ⟨_, _, rfl, run_takeDeferred hK, ?_⟩⟩
    refine ⟨_, results_tmp rfl _ _ _, ⟨x, y, rfl, HC.out⟩, hB.trans (belowK_b (w := W0) (by omega) A D _ _ (by omega) hK rfl rfl)⟩
  case stop =>
    intro D c pre s A _ _ h _
    exact h.elim
end Go.Proofs.Ytmdmjjobhkpojaa
