/-
  DERIVED. A search takes a code: it is put to its distance, the bound falls.
-/
import Derived.Test.YtnnbcdfpbdmgdaaDoorTSea0
import Derived.Deep.RegionHeld
import Derived.Maps.AppendAt
set_option linter.unusedVariables false
set_option linter.unusedSimpArgs false
namespace Go.Proofs.YtnnbcdfpbdmgdaaDoor
open Go.RowKit Go.Maps Go.Sort Go.Proofs.BitMath Go.Proofs.TreeMath
theorem oper_append_eq {P : Program} {w : World} {o : Oper} {a : Act} {K : Act → World → Prop} {Q : Exit → Act → World → Prop} (s x : Operand) (t u : TypeId)
    (ho : o.op = .call { callee := .builtin .append, args := #[s, x], argTypes := #[t, u] }) (v xv v' : Value) (w' : World) (hs : a.eval s = v) (hx : a.eval x = xv) (hr : (Builtin.append_ #[t, u] o.type #[v, xv]).run P w = .ok v' w')
    (h : K (a.put o.dst v') w') : Oper.wp P o a w K Q := by
  unfold Oper.wp execOp
  simp only [ho, resolve, invoke, builtin, Sem.run_bind, Sem.run_pure, Result.andThen_ok, List.map_toArray, List.map_cons, List.map_nil, hs, hx, hr]
  exact h
/-- A text is put behind a row. -/
theorem sapp {n : Nat} {B : Nat} {w : World} {v : Value} {l : List (Cd n)} (h : w.ownsRow B 9 1 v l.length (l.map sV)) (c : Cd n) (hB : B ≤ w.heap.size) (hl : l.length ≤ 1099511627776) :
    ∃ v3 w3, (Builtin.append_ #[45, 45] 45 #[v, .slice (some ⟨w.heap.size, 0, none⟩) 1 1]).run Tryd.prog (w.alloc (.cells #[.string c.1] 9)).drew = .ok v3 w3 ∧ w3.ownsRow B 9 1 v3 (l ++ [c]).length ((l ++ [c]).map sV) ∧ Stay (fun k => v.ownBlock = some k) w w3 ∧ (∀ b, v3.ownBlock = some b → v.ownBlock = some b ∨ w.heap.size ≤ b) ∧ w.heap.size ≤ w3.heap.size := by
  obtain ⟨i0, hi, hz0, hz1, hz2⟩ := info_parts inf9
  have bA : Below w.heap.size w (w.alloc (.cells #[.string c.1] 9)).drew := ((Below.refl _ w).alloc (Nat.le_refl _) _).drew
  have hA := row_kept (F := fun _ => False) h (.below bA) (fun _ _ hh => hh)
  obtain ⟨v3, w3, hap, ho, hg, -, hloc⟩ := run_append_own_at (P := Tryd.prog) (w.alloc (.cells #[.string c.1] 9)).drew B 45 45 9 i0 _ 1 16 Tryd.underlying45 hi hz0 hz1 hz2 rfl (by decide) v l.length _ hA ⟨w.heap.size, 0, none⟩ 1 1 [.string c.1] rfl (fun j u hu => by
    match j, hu with
    | 0, hu =>
      cases hu
      exact cell_one_new _ _ _ 0 _ rfl
    | j + 1, hu => simp at hu) (fun u hu => by simp at hu; subst hu; rfl) (by unfold maxLen; omega) (by omega) (Nat.le_trans hB bA.size)
  have st : Stay (fun k => v.ownBlock = some k) w w3 := (Stay.below bA).trans (.grown hg (fun k hk => hk))
  refine ⟨v3, w3, hap, by simpa [sV] using ho, st, fun b hb => ?_, st.size⟩
  rcases hloc with e | e
  · exact .inl (e ▸ hb)
  · rw [e] at hb; cases hb; exact .inr bA.size
theorem via {T P : Prop} (t : T) (f : PLift T → P) : P := f ⟨t⟩
theorem FX.drewed {n : Nat} {B : Nat} {w : World} {g cb : Nat} {k bound count : Int} {R : List (List (Cd n))} {vs : List Value} (h : FX B w g cb k bound count R vs) : FX B w.drew g cb k bound count R vs := ⟨h.box, h.row, h.len, h.each, h.apart, h.low⟩
/-- A bound in memory. -/
def bdOf (w : World) (g : Nat) : Nat := match w.cell? ⟨g, 1, none⟩ with | some (.int _ z) => z.toNat | _ => 0
theorem bdOf_eq {w : World} {g : Nat} {z : Int} (h : w.cell? ⟨g, 1, none⟩ = some (.int .i64 z)) : bdOf w g = z.toNat := by unfold bdOf; rw [h]
theorem lc_len (D : List Nat) (b : Nat) : lc D b ≤ D.length := lc_le D b
/-- While the bound falls. -/
structure FL {n : Nat} (B : Nat) (w wr : World) (g cb : Nat) (k : Nat) (b0 : Nat) (q : Cd n) (M : List (Cd n)) (vs : List Value) (bb : Nat) (vs' : List Value) : Prop where
  fx : FX B wr g cb k bb (lc (dqs q M) (bb + 1) : Nat) (RL q M b0 bb) vs'
  le : bb ≤ b0
  lo : lower k (dqs q M) bb = bdM k b0 q M
  st : Stay (FF g cb vs) w wr
set_option maxHeartbeats 4000000 in
set_option maxRecDepth 100000 in
theorem fadd_any {n : Nat} (q c : Cd n) (k b0 : Nat) (hk1 : 1 ≤ k) (hk2 : k ≤ 9223372036854775807) (M : List (Cd n)) (B g cb cnt : Nat) (vs : List Value) (w : World) (h : FB B w g cb k (bdM k b0 q M) cnt (RL q M b0 (bdM k b0 q M)) vs) (hb0 : b0 ≤ 8192) (hM : M.length < 1099511627776) (hB : B ≤ w.heap.size) :
    Calls Tryd.prog 56 #[.pointer (some ⟨g, 0, none⟩), .int .i64 (dC c q : Nat), .string c.1] w fun r w' => r = .returned (.tuple #[]) ∧ ∃ cnt' vs', FB B w' g cb k (bdM k b0 q (M ++ [c])) cnt' (RL q (M ++ [c]) b0 (bdM k b0 q (M ++ [c]))) vs' ∧ Stay (FF g cb vs) w w' := by
  have fx := h.fx
  obtain ⟨k0, k1, k2, k3, kf⟩ := fx.cell
  have hbl := bdM_le k b0 q M
  by_cases hfar : bdM k b0 q M < dC c q
  · rw [bdM_far hk1 hfar, RL_far hfar]
    obtain ⟨b, hb⟩ : ∃ b, b = bdM k b0 q M := ⟨_, rfl⟩
    obtain ⟨D, hD⟩ : ∃ D, D = dC c q := ⟨_, rfl⟩
    rw [← hb] at h fx k1 hfar ⊢
    rw [← hD] at hfar ⊢
    have HF := Hid.mk h
    have hlt : (b : Int) < (D : Int) := by omega
    clear h fx hb hD
    go_enter Tryd.func56, Tryd.ntmps56
    go_wp2
    refine bodyPost_ret (results_none rfl _ _ _) rfl ?_
    exact ⟨rfl, cnt, vs, HF.out, .refl _ _⟩
  · have hnear : dC c q ≤ bdM k b0 q M := by omega
    have hlen : vs.length = b0 + 1 := by rw [← h.len, RL_len]
    have hc2 := h.cnt
    rw [RL_sum q M hbl] at hc2
    have hcl := lc_len (dqs q M) (bdM k b0 q M + 1)
    have hdl : (dqs q M).length = M.length := by simp [dqs]
    obtain ⟨v, hv⟩ : ∃ v, vs[dC c q]? = some v := ⟨_, List.getElem?_eq_getElem (by omega)⟩
    have hR := RL_at q M b0 (bdM k b0 q M) (j := dC c q) (by omega)
    have hvr := fx.each _ v _ hv hR
    have hal : (atJ q M (bdM k b0 q M) (dC c q)).length ≤ M.length := by unfold atJ; rw [if_pos hnear]; exact List.length_filter_le _ _
    obtain ⟨v3, w3, hap, hr3, st3, hloc, hsz3⟩ := sapp hvr c hB (by omega)
    obtain ⟨va3, vc3, hv3, -⟩ := slice_form hr3
    subst hv3
    have fx4 := fx.put hv st3 hr3 hloc
    rw [← RL_near hnear] at fx4
    have hcell := fx.code (dC c q)
    rw [hv] at hcell
    obtain ⟨va0, vc0, hvf, -⟩ := slice_form hvr
    have hgl : g < w.heap.size := (Array.getElem?_eq_some_iff.1 fx.box).1
    have hcl2 : cb < w.heap.size := (Array.getElem?_eq_some_iff.1 fx.row).1
    have hgv : v.ownBlock ≠ some g := fun e => by
      obtain ⟨cur, e⟩ := row_block hvr e
      rw [fx.box] at e; simp at e
    have hcv : v.ownBlock ≠ some cb := fun e => by
      obtain ⟨cur, e⟩ := row_block hvr e
      rw [fx.row] at e; simp at e
    have hbox3 := (st3.block g hgl hgv).trans fx.box
    have hrow3 := (st3.block cb hcl2 hcv).trans fx.row
    have k33 : w3.cell? ⟨g, 3, none⟩ = some (.slice (some ⟨cb, 0, none⟩) vs.length vs.length) := by simp [World.cell?, hbox3]
    have c33 : w3.cell? ⟨cb, dC c q, none⟩ = some v := by simp [World.cell?, hrow3, hv]
    have f33 : w3.frozen? ⟨cb, dC c q, none⟩ = false := by simp [World.frozen?, hrow3]
    have k34 : (w3.setCell ⟨cb, dC c q, none⟩ (.slice va3 (atJ q M (bdM k b0 q M) (dC c q) ++ [c]).length vc3)).cell? ⟨g, 3, none⟩ = some (.slice (some ⟨cb, 0, none⟩) vs.length vs.length) := by
      have := fx4.cell.2.2.2.1
      rw [List.length_set] at this
      exact this
    have stF : Stay (FF g cb vs) w (w3.setCell ⟨cb, dC c q, none⟩ (.slice va3 (atJ q M (bdM k b0 q M) (dC c q) ++ [c]).length vc3)) := Stay.setCell (p := ⟨cb, dC c q, none⟩) (st3.mono (fun j _ e => .inr (.inr ⟨v, List.mem_of_getElem? hv, e⟩))) (fun _ => .inr (.inl rfl)) _
    have ka : (w.alloc (.cells #[.string c.1] 9)).drew.cell? ⟨g, 3, none⟩ = some (.slice (some ⟨cb, 0, none⟩) vs.length vs.length) := cell_lat (((Below.refl _ w).alloc (Nat.le_refl _) _).drew) k3
    have hfrom := bdM_from hk1 b0 q c M
    have hlc : lc (dqs q (M ++ [c])) (bdM k b0 q M + 1) = cnt + 1 := by rw [dqs_snoc, lc_snoc, if_pos (by omega), hc2]
    obtain ⟨vs2, hvs2⟩ : ∃ vs2, vs2 = vs.set (dC c q) (.slice va3 (atJ q M (bdM k b0 q M) (dC c q) ++ [c]).length vc3) := ⟨_, rfl⟩
    have hvl2 : vs2.length = vs.length := by rw [hvs2, List.length_set]
    rw [← hvs2] at fx4
    obtain ⟨l3, hl3⟩ : ∃ l3, l3 = (atJ q M (bdM k b0 q M) (dC c q) ++ [c]).length := ⟨_, rfl⟩
    rw [← hl3] at fx4 hap k34 stF
    obtain ⟨M2, hM2⟩ : ∃ M2, M2 = M ++ [c] := ⟨_, rfl⟩
    have hM2l : M2.length = M.length + 1 := by rw [hM2]; simp
    rw [← hM2] at fx4 hfrom hlc ⊢
    obtain ⟨b, hb⟩ : ∃ b, b = bdM k b0 q M := ⟨_, rfl⟩
    obtain ⟨D, hD⟩ : ∃ D, D = dC c q := ⟨_, rfl⟩
    rw [← hb] at h fx fx4 k1 hnear hfrom hlc hbl
    rw [← hD] at hnear hcell stF k34 c33 f33 fx4 ⊢
    obtain ⟨hcell1, hcell2⟩ := hcell
    have H4 := Hid.mk (And.intro fx4 (And.intro stF (And.intro hfrom hlc)))
    have hD1 : (D : Int) < (vs.length : Int) := by omega
    have hD2 : (0 : Int) ≤ (D : Int) := by omega
    have hnb : ¬ (b : Int) < (D : Int) := by omega
    have hcnt : cnt ≤ M.length := by omega
    have HL := Hid.mk (And.intro hlen hvl2)
    have hw1 : IntKind.i64.wrap ((cnt : Int) + 1) = ((cnt + 1 : Nat) : Int) := by rw [IntKind.wrap_i64]; omega
    subst hvf
    clear h fx hb hD hfar hR hvr hal hr3 st3 hloc fx4 stF hfrom hlc hM2 hvs2 hc2 hv hlen hvl2 hcl hdl hl3
    go_enter Tryd.func56, Tryd.ntmps56
    go_wp2_with fail
    refine' via ?_ ?_
    rotate_left 2
    · intro hvia
      refine wp_region_held_drew (S := fun w' => w'.cell? ⟨g, 3, none⟩ = some (.slice (some ⟨cb, 0, none⟩) vs.length vs.length)) (by kernel_rfl) ?_ (fun hHeld => ?_)
      · exact k3
      refine wpAnyH_take (i := 0) (oi := { dst := some 12, op := Op.move (Operand.tmp 0), type := 77, pos := "search.go:74", after := #[], guard := none }) (v := ?va0) rfl (by kernel_rfl) (by kernel_rfl) (by kernel_rfl) (fun _ _ _ h => h) (Or.inl ⟨by rfl, ?ha0⟩) (by assumption) ?ra0
      case ha0 => (intro w0 hSw; (try dsimp only at hSw); go_simp; try (with_reducible rfl))
      simp only [Act.put, List.setIfInBounds_toArray, List.set_cons_zero, List.set_cons_succ]
      refine wpAnyH_take (i := 1) (oi := { dst := some 13, op := Op.nilCheck (Operand.tmp 12), type := 0, pos := "search.go:74", after := #[{ on := 0, ground := Ground.data }], guard := none }) (v := ?va1) rfl (by kernel_rfl) (by kernel_rfl) (by kernel_rfl) (fun _ _ _ h => h) (Or.inl ⟨by rfl, ?ha1⟩) (by assumption) ?ra1
      case ha1 => (intro w0 hSw; (try dsimp only at hSw); go_simp; try (with_reducible rfl))
      simp only [Act.put, List.setIfInBounds_toArray, List.set_cons_zero, List.set_cons_succ]
      refine wpAnyH_take (i := 2) (oi := { dst := some 14, op := Op.fieldAddr 94 (Operand.tmp 13) 3, type := 0, pos := "search.go:74", after := #[{ on := 1, ground := Ground.data }], guard := none }) (v := ?va2) rfl (by kernel_rfl) (by kernel_rfl) (by kernel_rfl) (fun _ _ _ h => h) (Or.inl ⟨by rfl, ?ha2⟩) (by assumption) ?ra2
      case ha2 => (intro w0 hSw; (try dsimp only at hSw); go_simp; try (with_reducible rfl))
      simp only [Act.put, List.setIfInBounds_toArray, List.set_cons_zero, List.set_cons_succ]
      refine wpAnyH_take (i := 3) (oi := { dst := some 15, op := Op.load 92 (Operand.tmp 14), type := 92, pos := "search.go:74", after := #[{ on := 2, ground := Ground.data }], guard := none }) (v := ?va3) rfl (by kernel_rfl) (by kernel_rfl) (by kernel_rfl) (fun _ _ _ h => h) (Or.inl ⟨by rfl, ?ha3⟩) (by assumption) ?ra3
      case ha3 => (intro w0 hSw; (try dsimp only at hSw); go_simp; try (with_reducible rfl))
      simp only [Act.put, List.setIfInBounds_toArray, List.set_cons_zero, List.set_cons_succ]
      refine wpAnyH_take (i := 4) (oi := { dst := some 16, op := Op.move (Operand.tmp 1), type := 3, pos := "search.go:74", after := #[], guard := none }) (v := ?va4) rfl (by kernel_rfl) (by kernel_rfl) (by kernel_rfl) (fun _ _ _ h => h) (Or.inl ⟨by rfl, ?ha4⟩) (by assumption) ?ra4
      case ha4 => (intro w0 hSw; (try dsimp only at hSw); go_simp; try (with_reducible rfl))
      simp only [Act.put, List.setIfInBounds_toArray, List.set_cons_zero, List.set_cons_succ]
      refine wpAnyH_take (i := 5) (oi := { dst := some 17, op := Op.move (Operand.tmp 0), type := 77, pos := "search.go:74", after := #[], guard := none }) (v := ?va5) rfl (by kernel_rfl) (by kernel_rfl) (by kernel_rfl) (fun _ _ _ h => h) (Or.inl ⟨by rfl, ?ha5⟩) (by assumption) ?ra5
      case ha5 => (intro w0 hSw; (try dsimp only at hSw); go_simp; try (with_reducible rfl))
      simp only [Act.put, List.setIfInBounds_toArray, List.set_cons_zero, List.set_cons_succ]
      refine wpAnyH_take (i := 6) (oi := { dst := some 18, op := Op.nilCheck (Operand.tmp 17), type := 0, pos := "search.go:74", after := #[{ on := 5, ground := Ground.data }], guard := none }) (v := ?va6) rfl (by kernel_rfl) (by kernel_rfl) (by kernel_rfl) (fun _ _ _ h => h) (Or.inl ⟨by rfl, ?ha6⟩) (by assumption) ?ra6
      case ha6 => (intro w0 hSw; (try dsimp only at hSw); go_simp; try (with_reducible rfl))
      simp only [Act.put, List.setIfInBounds_toArray, List.set_cons_zero, List.set_cons_succ]
      refine wpAnyH_take (i := 7) (oi := { dst := some 19, op := Op.fieldAddr 94 (Operand.tmp 18) 3, type := 0, pos := "search.go:74", after := #[{ on := 6, ground := Ground.data }], guard := none }) (v := ?va7) rfl (by kernel_rfl) (by kernel_rfl) (by kernel_rfl) (fun _ _ _ h => h) (Or.inl ⟨by rfl, ?ha7⟩) (by assumption) ?ra7
      case ha7 => (intro w0 hSw; (try dsimp only at hSw); go_simp; try (with_reducible rfl))
      simp only [Act.put, List.setIfInBounds_toArray, List.set_cons_zero, List.set_cons_succ]
      refine wpAnyH_take (i := 8) (oi := { dst := some 20, op := Op.load 92 (Operand.tmp 19), type := 92, pos := "search.go:74", after := #[{ on := 7, ground := Ground.data }], guard := none }) (v := ?va8) rfl (by kernel_rfl) (by kernel_rfl) (by kernel_rfl) (fun _ _ _ h => h) (Or.inl ⟨by rfl, ?ha8⟩) (by assumption) ?ra8
      case ha8 => (intro w0 hSw; (try dsimp only at hSw); go_simp; try (with_reducible rfl))
      simp only [Act.put, List.setIfInBounds_toArray, List.set_cons_zero, List.set_cons_succ]
      refine wpAnyH_take (i := 9) (oi := { dst := some 21, op := Op.move (Operand.tmp 1), type := 3, pos := "search.go:74", after := #[], guard := none }) (v := ?va9) rfl (by kernel_rfl) (by kernel_rfl) (by kernel_rfl) (fun _ _ _ h => h) (Or.inl ⟨by rfl, ?ha9⟩) (by assumption) ?ra9
      case ha9 => (intro w0 hSw; (try dsimp only at hSw); go_simp; try (with_reducible rfl))
      simp only [Act.put, List.setIfInBounds_toArray, List.set_cons_zero, List.set_cons_succ]
      refine wpAnyH_take (i := 10) (oi := { dst := some 22, op := Op.indexAddr 92 (Operand.tmp 20) (Operand.tmp 21), type := 0, pos := "search.go:74", after := #[{ on := 8, ground := Ground.data }, { on := 9, ground := Ground.data }], guard := none }) (v := ?va10) rfl (by kernel_rfl) (by kernel_rfl) (by kernel_rfl) (fun _ _ _ h => h) (Or.inl ⟨by rfl, ?ha10⟩) (by assumption) ?ra10
      case ha10 => (intro w0 hSw; (try dsimp only at hSw); go_simp; try (with_reducible rfl))
      simp only [Act.put, List.setIfInBounds_toArray, List.set_cons_zero, List.set_cons_succ]
      refine wpAnyH_take (i := 12) (oi := { dst := some 24, op := Op.move (Operand.tmp 2), type := 9, pos := "search.go:74", after := #[], guard := none }) (v := ?va12) rfl (by kernel_rfl) (by kernel_rfl) (by kernel_rfl) (fun _ _ _ h => h) (Or.inl ⟨by rfl, ?ha12⟩) (by assumption) ?ra12
      case ha12 => (intro w0 hSw; (try dsimp only at hSw); go_simp; try (with_reducible rfl))
      simp only [Act.put, List.setIfInBounds_toArray, List.set_cons_zero, List.set_cons_succ]
      refine wpAnyH_ready (rs := [11, 13]) (by kernel_rfl) (by simp) ?_
      refine AllReadyH.cons rfl (fun K0 hK0 => ?_) (AllReadyH.cons rfl (fun K0 hK0 => ?_) AllReadyH.nil)
      · go_simp
        refine hK0.out _ _ ?_ (fun hHeld => ?_)
        · exact k3
        clear hK0 K0
        refine wpAnyH_ready (rs := [13]) (by kernel_rfl) (by simp) ?_
        refine AllReadyH.cons rfl (fun K0 hK0 => ?_) AllReadyH.nil
        go_simp
        refine hK0.out _ _ ?_ (fun hHeld => ?_)
        · exact ka
        clear hK0 K0
        refine wpAnyH_ready (rs := [14]) (by kernel_rfl) (by simp) ?_
        refine AllReadyH.cons rfl (fun K0 hK0 => ?_) AllReadyH.nil
        rw [if_pos (by rfl)]
        refine oper_append_eq _ _ _ _ rfl _ _ _ _ rfl rfl hap ?_
        go_simp
        refine hK0.out _ _ ?_ (fun hHeld => ?_)
        · exact k33
        clear hK0 K0
        refine wpAnyH_take (i := 15) (oi := { dst := some 27, op := Op.indexAddr 92 (Operand.tmp 15) (Operand.tmp 16), type := 0, pos := "search.go:74", after := #[{ on := 3, ground := Ground.data }, { on := 4, ground := Ground.data }, { on := 0, ground := Ground.phase }, { on := 1, ground := Ground.phase }, { on := 2, ground := Ground.phase }, { on := 3, ground := Ground.phase }, { on := 4, ground := Ground.phase }, { on := 5, ground := Ground.phase }, { on := 6, ground := Ground.phase }, { on := 7, ground := Ground.phase }, { on := 8, ground := Ground.phase }, { on := 9, ground := Ground.phase }, { on := 10, ground := Ground.phase }, { on := 11, ground := Ground.phase }, { on := 12, ground := Ground.phase }, { on := 13, ground := Ground.phase }, { on := 14, ground := Ground.phase }], guard := none }) (v := ?ve15) rfl (by kernel_rfl) (by kernel_rfl) (by kernel_rfl) (fun _ _ _ h => h) (Or.inl ⟨by rfl, ?he15⟩) (by assumption) ?re15
        case he15 => (intro w0 hSw; (try dsimp only at hSw); go_simp; try (with_reducible rfl))
        simp only [Act.put, List.setIfInBounds_toArray, List.set_cons_zero, List.set_cons_succ]
        refine wpAnyH_ready (rs := [16]) (by kernel_rfl) (by simp) ?_
        refine AllReadyH.cons rfl (fun K0 hK0 => ?_) AllReadyH.nil
        go_simp
        refine hK0.out _ _ ?_ (fun hHeld => ?_)
        · exact k34
        clear hK0 K0
        refine wpAnyH_done (by kernel_rfl) ?_ _
        exact hvia.down
      · go_simp
        refine hK0.out _ _ ?_ (fun hHeld => ?_)
        · exact ka
        clear hK0 K0
        refine wpAnyH_ready (rs := [11]) (by kernel_rfl) (by simp) ?_
        refine AllReadyH.cons rfl (fun K0 hK0 => ?_) AllReadyH.nil
        go_simp
        refine hK0.out _ _ ?_ (fun hHeld => ?_)
        · exact ka
        clear hK0 K0
        refine wpAnyH_ready (rs := [14]) (by kernel_rfl) (by simp) ?_
        refine AllReadyH.cons rfl (fun K0 hK0 => ?_) AllReadyH.nil
        rw [if_pos (by rfl)]
        refine oper_append_eq _ _ _ _ rfl _ _ _ _ rfl rfl hap ?_
        go_simp
        refine hK0.out _ _ ?_ (fun hHeld => ?_)
        · exact k33
        clear hK0 K0
        refine wpAnyH_take (i := 15) (oi := { dst := some 27, op := Op.indexAddr 92 (Operand.tmp 15) (Operand.tmp 16), type := 0, pos := "search.go:74", after := #[{ on := 3, ground := Ground.data }, { on := 4, ground := Ground.data }, { on := 0, ground := Ground.phase }, { on := 1, ground := Ground.phase }, { on := 2, ground := Ground.phase }, { on := 3, ground := Ground.phase }, { on := 4, ground := Ground.phase }, { on := 5, ground := Ground.phase }, { on := 6, ground := Ground.phase }, { on := 7, ground := Ground.phase }, { on := 8, ground := Ground.phase }, { on := 9, ground := Ground.phase }, { on := 10, ground := Ground.phase }, { on := 11, ground := Ground.phase }, { on := 12, ground := Ground.phase }, { on := 13, ground := Ground.phase }, { on := 14, ground := Ground.phase }], guard := none }) (v := ?vf15) rfl (by kernel_rfl) (by kernel_rfl) (by kernel_rfl) (fun _ _ _ h => h) (Or.inl ⟨by rfl, ?hf15⟩) (by assumption) ?rf15
        case hf15 => (intro w0 hSw; (try dsimp only at hSw); go_simp; try (with_reducible rfl))
        simp only [Act.put, List.setIfInBounds_toArray, List.set_cons_zero, List.set_cons_succ]
        refine wpAnyH_ready (rs := [16]) (by kernel_rfl) (by simp) ?_
        refine AllReadyH.cons rfl (fun K0 hK0 => ?_) AllReadyH.nil
        go_simp
        refine hK0.out _ _ ?_ (fun hHeld => ?_)
        · exact k34
        clear hK0 K0
        refine wpAnyH_done (by kernel_rfl) ?_ _
        exact hvia.down
    obtain ⟨w4, hw4⟩ : ∃ w4, w4 = w3.setCell ⟨cb, D, none⟩ (.slice va3 l3 vc3) := ⟨_, rfl⟩
    have G := H4.out
    rw [← hw4] at G ⊢
    obtain ⟨fx4, stF, hfrom, hlc⟩ := G
    obtain ⟨-, -, m2, -, mf⟩ := fx4.cell
    have G5 : FL B w (w4.setCell ⟨g, 2, none⟩ (.int .i64 ((cnt + 1 : Nat) : Int))) g cb k b0 q M2 vs b vs2 := ⟨by rw [hlc]; exact fx4.count' _, hbl, hfrom, Stay.setCell (p := ⟨g, 2, none⟩) stF (fun _ => .inl rfl) _⟩
    have H5 := Hid.mk G5
    clear G5 fx4 stF hfrom hlc hw4 H4 hap k3 k33 k34 c33 f33 ka k0 k1 k2 hcell1 hcell2 kf hbox3 hrow3
    go_wp2_with fail
    go_loopw [] (fun wr => ∃ bb vs', Hid (FL B w wr g cb k b0 q M2 vs bb vs')) (fun wr => bdOf wr g)
    case atStart => exact ⟨b, vs2, H5⟩
    case round =>
      obtain ⟨bb, vs', HJ⟩ := hrel
      obtain ⟨e0, e1, e2, e3, ef⟩ := HJ.out.fx.cell
      have hmes := bdOf_eq e1
      have hvl : vs'.length = b0 + 1 := by rw [← HJ.out.fx.len, RL_len]
      have hbb := HJ.out.le
      obtain ⟨v5, hv5⟩ : ∃ v, vs'[bb]? = some v := ⟨_, List.getElem?_eq_getElem (by omega)⟩
      have hR5 := RL_at q M2 b0 bb (j := bb) hbb
      have hr5 := HJ.out.fx.each _ _ _ hv5 hR5
      obtain ⟨va, vc, rfl, -⟩ := slice_form hr5
      obtain ⟨ec, ecf⟩ := HJ.out.fx.code bb
      rw [hv5] at ec
      have hln := atJ_len q M2 (b := bb) (j := bb) (Nat.le_refl _)
      have hls := lc_succ (dqs q M2) bb
      have hlx := lc_len (dqs q M2) (bb + 1)
      have hdl2 : (dqs q M2).length = M2.length := by simp [dqs]
      obtain ⟨ln, hlneq⟩ : ∃ ln, ln = (atJ q M2 bb bb).length := ⟨_, rfl⟩
      rw [← hlneq] at ec hln
      obtain ⟨c5, hc5⟩ : ∃ c5, c5 = lc (dqs q M2) (bb + 1) := ⟨_, rfl⟩
      rw [← hc5] at e2 hls hlx
      obtain ⟨L5, hL5⟩ : ∃ L5, L5 = lc (dqs q M2) bb := ⟨_, rfl⟩
      rw [← hL5] at hls
      have hcl5 : c5 = L5 + ln := by omega
      have hws : IntKind.i64.wrap ((c5 : Int) - (ln : Int)) = (L5 : Int) := by rw [IntKind.wrap_i64]; omega
      have b1 : (bb : Int) < (vs'.length : Int) := by omega
      have b2 : (0 : Int) ≤ (bb : Int) := by omega
      have HQ := Hid.mk (And.intro hL5 (And.intro hc5 (And.intro hvl (And.intro (by rw [hlneq]; exact hv5 : vs'[bb]? = some (.slice va ln vc)) hmes))))
      clear hR5 hr5 hln hls hlx hdl2 hlneq hvl hmes hv5 hc5
      by_cases hk : k ≤ L5
      · have hk' : (k : Int) ≤ (L5 : Int) := by omega
        have hbb1 : 1 ≤ bb := by
          rcases Nat.eq_zero_or_pos bb with e | e
          · exfalso; rw [e, lc_zero] at hL5; omega
          · exact e
        have hgc : g ≠ cb := HJ.out.fx.low.2.2
        have hgc' : cb ≠ g := fun e => hgc e.symm
        have hwb : IntKind.i64.wrap ((bb : Int) - 1) = ((bb - 1 : Nat) : Int) := by rw [IntKind.wrap_i64]; omega
        have s4 : ∀ x : Int, (wr.setCell ⟨g, 2, none⟩ (.int .i64 x)).cell? ⟨g, 3, none⟩ = some (.slice (some ⟨cb, 0, none⟩) vs'.length vs'.length) ∧ (wr.setCell ⟨g, 2, none⟩ (.int .i64 x)).cell? ⟨g, 1, none⟩ = some (.int .i64 (bb : Nat)) ∧ (wr.setCell ⟨g, 2, none⟩ (.int .i64 x)).cell? ⟨cb, bb, none⟩ = some (.slice va ln vc) := fun x => by
          have f := HJ.out.fx.count' x
          refine ⟨f.cell.2.2.2.1, f.cell.2.1, ?_⟩
          rw [(f.code bb).1]
          exact HQ.out.2.2.2.1
        have HG := Hid.mk (And.intro hL5 (And.intro hbb1 hk))
        clear hL5 hcl5 hk
        go_wp2_with fail
        go_region
        all_goals
          go_wp2_with fail
          refine wp_region_held_drew (S := fun w' => w'.cell? ⟨g, 3, none⟩ = some (.slice (some ⟨cb, 0, none⟩) vs'.length vs'.length) ∧ w'.cell? ⟨g, 1, none⟩ = some (.int .i64 (bb : Nat)) ∧ w'.cell? ⟨cb, bb, none⟩ = some (.slice va ln vc)) (by kernel_rfl) ?_ (fun hHeld => ?_)
          · exact ⟨e3, e1, ec⟩
          refine wpAnyH_take (i := 0) (oi := { dst := some 56, op := Op.move (Operand.tmp 0), type := 77, pos := "search.go:77", after := #[], guard := none }) (v := ?vc0) rfl (by kernel_rfl) (by kernel_rfl) (by kernel_rfl) (fun _ _ _ h => h) (Or.inl ⟨by rfl, ?hc0⟩) (by assumption) ?rc0
          case hc0 => (intro w0 hSw; (try dsimp only at hSw); go_simp; try (with_reducible rfl))
          simp only [Act.put, List.setIfInBounds_toArray, List.set_cons_zero, List.set_cons_succ]
          refine wpAnyH_take (i := 1) (oi := { dst := some 57, op := Op.nilCheck (Operand.tmp 56), type := 0, pos := "search.go:77", after := #[{ on := 0, ground := Ground.data }], guard := none }) (v := ?vc1) rfl (by kernel_rfl) (by kernel_rfl) (by kernel_rfl) (fun _ _ _ h => h) (Or.inl ⟨by rfl, ?hc1⟩) (by assumption) ?rc1
          case hc1 => (intro w0 hSw; (try dsimp only at hSw); go_simp; try (with_reducible rfl))
          simp only [Act.put, List.setIfInBounds_toArray, List.set_cons_zero, List.set_cons_succ]
          refine wpAnyH_take (i := 2) (oi := { dst := some 58, op := Op.fieldAddr 94 (Operand.tmp 57) 2, type := 0, pos := "search.go:77", after := #[{ on := 1, ground := Ground.data }], guard := none }) (v := ?vc2) rfl (by kernel_rfl) (by kernel_rfl) (by kernel_rfl) (fun _ _ _ h => h) (Or.inl ⟨by rfl, ?hc2⟩) (by assumption) ?rc2
          case hc2 => (intro w0 hSw; (try dsimp only at hSw); go_simp; try (with_reducible rfl))
          simp only [Act.put, List.setIfInBounds_toArray, List.set_cons_zero, List.set_cons_succ]
          refine wpAnyH_take (i := 4) (oi := { dst := some 60, op := Op.move (Operand.tmp 0), type := 77, pos := "search.go:77", after := #[], guard := none }) (v := ?vc4) rfl (by kernel_rfl) (by kernel_rfl) (by kernel_rfl) (fun _ _ _ h => h) (Or.inl ⟨by rfl, ?hc4⟩) (by assumption) ?rc4
          case hc4 => (intro w0 hSw; (try dsimp only at hSw); go_simp; try (with_reducible rfl))
          simp only [Act.put, List.setIfInBounds_toArray, List.set_cons_zero, List.set_cons_succ]
          refine wpAnyH_take (i := 5) (oi := { dst := some 61, op := Op.nilCheck (Operand.tmp 60), type := 0, pos := "search.go:77", after := #[{ on := 4, ground := Ground.data }], guard := none }) (v := ?vc5) rfl (by kernel_rfl) (by kernel_rfl) (by kernel_rfl) (fun _ _ _ h => h) (Or.inl ⟨by rfl, ?hc5⟩) (by assumption) ?rc5
          case hc5 => (intro w0 hSw; (try dsimp only at hSw); go_simp; try (with_reducible rfl))
          simp only [Act.put, List.setIfInBounds_toArray, List.set_cons_zero, List.set_cons_succ]
          refine wpAnyH_take (i := 6) (oi := { dst := some 62, op := Op.fieldAddr 94 (Operand.tmp 61) 3, type := 0, pos := "search.go:77", after := #[{ on := 5, ground := Ground.data }], guard := none }) (v := ?vc6) rfl (by kernel_rfl) (by kernel_rfl) (by kernel_rfl) (fun _ _ _ h => h) (Or.inl ⟨by rfl, ?hc6⟩) (by assumption) ?rc6
          case hc6 => (intro w0 hSw; (try dsimp only at hSw); go_simp; try (with_reducible rfl))
          simp only [Act.put, List.setIfInBounds_toArray, List.set_cons_zero, List.set_cons_succ]
          refine wpAnyH_take (i := 7) (oi := { dst := some 63, op := Op.load 92 (Operand.tmp 62), type := 92, pos := "search.go:77", after := #[{ on := 6, ground := Ground.data }], guard := none }) (v := ?vc7) rfl (by kernel_rfl) (by kernel_rfl) (by kernel_rfl) (fun _ _ _ h => h) (Or.inl ⟨by rfl, ?hc7⟩) (by assumption) ?rc7
          case hc7 => (intro w0 hSw; (try dsimp only at hSw); go_simp; try (with_reducible rfl))
          simp only [Act.put, List.setIfInBounds_toArray, List.set_cons_zero, List.set_cons_succ]
          refine wpAnyH_take (i := 8) (oi := { dst := some 64, op := Op.move (Operand.tmp 0), type := 77, pos := "search.go:77", after := #[], guard := none }) (v := ?vc8) rfl (by kernel_rfl) (by kernel_rfl) (by kernel_rfl) (fun _ _ _ h => h) (Or.inl ⟨by rfl, ?hc8⟩) (by assumption) ?rc8
          case hc8 => (intro w0 hSw; (try dsimp only at hSw); go_simp; try (with_reducible rfl))
          simp only [Act.put, List.setIfInBounds_toArray, List.set_cons_zero, List.set_cons_succ]
          refine wpAnyH_take (i := 9) (oi := { dst := some 65, op := Op.nilCheck (Operand.tmp 64), type := 0, pos := "search.go:77", after := #[{ on := 8, ground := Ground.data }], guard := none }) (v := ?vc9) rfl (by kernel_rfl) (by kernel_rfl) (by kernel_rfl) (fun _ _ _ h => h) (Or.inl ⟨by rfl, ?hc9⟩) (by assumption) ?rc9
          case hc9 => (intro w0 hSw; (try dsimp only at hSw); go_simp; try (with_reducible rfl))
          simp only [Act.put, List.setIfInBounds_toArray, List.set_cons_zero, List.set_cons_succ]
          refine wpAnyH_take (i := 10) (oi := { dst := some 66, op := Op.fieldAddr 94 (Operand.tmp 65) 1, type := 0, pos := "search.go:77", after := #[{ on := 9, ground := Ground.data }], guard := none }) (v := ?vc10) rfl (by kernel_rfl) (by kernel_rfl) (by kernel_rfl) (fun _ _ _ h => h) (Or.inl ⟨by rfl, ?hc10⟩) (by assumption) ?rc10
          case hc10 => (intro w0 hSw; (try dsimp only at hSw); go_simp; try (with_reducible rfl))
          simp only [Act.put, List.setIfInBounds_toArray, List.set_cons_zero, List.set_cons_succ]
          refine wpAnyH_take (i := 11) (oi := { dst := some 67, op := Op.load 3 (Operand.tmp 66), type := 3, pos := "search.go:77", after := #[{ on := 10, ground := Ground.data }], guard := none }) (v := ?vc11) rfl (by kernel_rfl) (by kernel_rfl) (by kernel_rfl) (fun _ _ _ h => h) (Or.inl ⟨by rfl, ?hc11⟩) (by assumption) ?rc11
          case hc11 => (intro w0 hSw; (try dsimp only at hSw); go_simp; try (with_reducible rfl))
          simp only [Act.put, List.setIfInBounds_toArray, List.set_cons_zero, List.set_cons_succ]
          refine wpAnyH_take (i := 12) (oi := { dst := some 68, op := Op.indexAddr 92 (Operand.tmp 63) (Operand.tmp 67), type := 0, pos := "search.go:77", after := #[{ on := 7, ground := Ground.data }, { on := 11, ground := Ground.data }], guard := none }) (v := ?vc12) rfl (by kernel_rfl) (by kernel_rfl) (by kernel_rfl) (fun _ _ _ h => h) (Or.inl ⟨by rfl, ?hc12⟩) (by assumption) ?rc12
          case hc12 => (intro w0 hSw; (try dsimp only at hSw); go_simp; try (with_reducible rfl))
          simp only [Act.put, List.setIfInBounds_toArray, List.set_cons_zero, List.set_cons_succ]
          refine wpAnyH_take (i := 13) (oi := { dst := some 69, op := Op.load 45 (Operand.tmp 68), type := 45, pos := "search.go:77", after := #[{ on := 12, ground := Ground.data }], guard := none }) (v := ?vc13) rfl (by kernel_rfl) (by kernel_rfl) (by kernel_rfl) (fun _ _ _ h => h) (Or.inl ⟨by rfl, ?hc13⟩) (by assumption) ?rc13
          case hc13 => (intro w0 hSw; (try dsimp only at hSw); go_simp; try (with_reducible rfl))
          simp only [Act.put, List.setIfInBounds_toArray, List.set_cons_zero, List.set_cons_succ]
          refine wpAnyH_take (i := 14) (oi := { dst := some 70, op := Op.call { callee := Callee.builtin Builtin.len, args := #[Operand.tmp 69], argTypes := #[45] }, type := 3, pos := "search.go:77", after := #[{ on := 13, ground := Ground.data }], guard := none }) (v := ?vc14) rfl (by kernel_rfl) (by kernel_rfl) (by kernel_rfl) (fun _ _ _ h => h) (Or.inl ⟨by rfl, ?hc14⟩) (by assumption) ?rc14
          case hc14 => (intro w0 hSw; (try dsimp only at hSw); go_simp; try (with_reducible rfl))
          simp only [Act.put, List.setIfInBounds_toArray, List.set_cons_zero, List.set_cons_succ]
          refine wpAnyH_ready (rs := [3]) (by kernel_rfl) (by simp) ?_
          refine AllReadyH.cons rfl (fun K0 hK0 => ?_) AllReadyH.nil
          go_simp
          refine hK0.out _ _ ?_ (fun hHeld => ?_)
          · exact ⟨e3, e1, ec⟩
          clear hK0 K0
          refine wpAnyH_take (i := 15) (oi := { dst := some 71, op := Op.binOp BinOp.sub 3 (Operand.tmp 59) (Operand.tmp 70) 3, type := 3, pos := "search.go:77", after := #[{ on := 3, ground := Ground.data }, { on := 14, ground := Ground.data }], guard := none }) (v := ?vd15) rfl (by kernel_rfl) (by kernel_rfl) (by kernel_rfl) (fun _ _ _ h => h) (Or.inl ⟨by rfl, ?hd15⟩) (by assumption) ?rd15
          case hd15 => (intro w0 hSw; (try dsimp only at hSw); go_simp; try (with_reducible rfl))
          simp only [Act.put, List.setIfInBounds_toArray, List.set_cons_zero, List.set_cons_succ]
          refine wpAnyH_take (i := 16) (oi := { dst := some 72, op := Op.nilCheck (Operand.tmp 56), type := 0, pos := "search.go:77", after := #[{ on := 0, ground := Ground.data }, { on := 0, ground := Ground.phase }, { on := 1, ground := Ground.phase }, { on := 2, ground := Ground.phase }, { on := 3, ground := Ground.phase }, { on := 4, ground := Ground.phase }, { on := 5, ground := Ground.phase }, { on := 6, ground := Ground.phase }, { on := 7, ground := Ground.phase }, { on := 8, ground := Ground.phase }, { on := 9, ground := Ground.phase }, { on := 10, ground := Ground.phase }, { on := 11, ground := Ground.phase }, { on := 12, ground := Ground.phase }, { on := 13, ground := Ground.phase }, { on := 14, ground := Ground.phase }, { on := 15, ground := Ground.phase }], guard := none }) (v := ?vd16) rfl (by kernel_rfl) (by kernel_rfl) (by kernel_rfl) (fun _ _ _ h => h) (Or.inl ⟨by rfl, ?hd16⟩) (by assumption) ?rd16
          case hd16 => (intro w0 hSw; (try dsimp only at hSw); go_simp; try (with_reducible rfl))
          simp only [Act.put, List.setIfInBounds_toArray, List.set_cons_zero, List.set_cons_succ]
          refine wpAnyH_take (i := 17) (oi := { dst := some 73, op := Op.fieldAddr 94 (Operand.tmp 72) 2, type := 0, pos := "search.go:77", after := #[{ on := 16, ground := Ground.data }, { on := 0, ground := Ground.phase }, { on := 1, ground := Ground.phase }, { on := 2, ground := Ground.phase }, { on := 3, ground := Ground.phase }, { on := 4, ground := Ground.phase }, { on := 5, ground := Ground.phase }, { on := 6, ground := Ground.phase }, { on := 7, ground := Ground.phase }, { on := 8, ground := Ground.phase }, { on := 9, ground := Ground.phase }, { on := 10, ground := Ground.phase }, { on := 11, ground := Ground.phase }, { on := 12, ground := Ground.phase }, { on := 13, ground := Ground.phase }, { on := 14, ground := Ground.phase }, { on := 15, ground := Ground.phase }], guard := none }) (v := ?vd17) rfl (by kernel_rfl) (by kernel_rfl) (by kernel_rfl) (fun _ _ _ h => h) (Or.inl ⟨by rfl, ?hd17⟩) (by assumption) ?rd17
          case hd17 => (intro w0 hSw; (try dsimp only at hSw); go_simp; try (with_reducible rfl))
          simp only [Act.put, List.setIfInBounds_toArray, List.set_cons_zero, List.set_cons_succ]
          refine wpAnyH_ready (rs := [18]) (by kernel_rfl) (by simp) ?_
          refine AllReadyH.cons rfl (fun K0 hK0 => ?_) AllReadyH.nil
          go_simp
          refine hK0.out _ _ ?_ (fun hHeld => ?_)
          · exact s4 _
          clear hK0 K0
          refine wpAnyH_done (by kernel_rfl) ?_ _
          have f6 := HJ.out.fx.count' (L5 : Int)
          obtain ⟨w6, hw6⟩ : ∃ w6, w6 = wr.setCell ⟨g, 2, none⟩ (.int .i64 (L5 : Int)) := ⟨_, rfl⟩
          have st6 : Stay (FF g cb vs) w w6 := by rw [hw6]; exact Stay.setCell (p := ⟨g, 2, none⟩) HJ.out.st (fun _ => .inl rfl) _
          rw [← hw6] at f6 ⊢
          obtain ⟨-, q1, q2, q3, qf⟩ := f6.cell
          have qc := (f6.code bb).1
          have qcf := (f6.code bb).2
          rw [HQ.out.2.2.2.1] at qc
          have f7 := f6.put (l3 := []) HQ.out.2.2.2.1 (Stay.refl _ w6) (v3 := .slice none 0 0) ⟨rfl, .inl ⟨rfl, rfl⟩⟩ (fun b hb => by cases hb)
          have e7 : (vs'.set bb (.slice none 0 0)).length = vs'.length := by simp
          have s5 : (w6.setCell ⟨cb, bb, none⟩ (.slice none 0 0)).cell? ⟨g, 3, none⟩ = some (.slice (some ⟨cb, 0, none⟩) vs'.length vs'.length) ∧ (w6.setCell ⟨cb, bb, none⟩ (.slice none 0 0)).cell? ⟨g, 1, none⟩ = some (.int .i64 (bb : Nat)) := by
            have := f7.cell.2.2.2.1
            rw [e7] at this
            exact ⟨this, f7.cell.2.1⟩
          have st7 : Stay (FF g cb vs) w (w6.setCell ⟨cb, bb, none⟩ (.slice none 0 0)) := Stay.setCell (p := ⟨cb, bb, none⟩) st6 (fun _ => .inr (.inl rfl)) _
          have HF7 := Hid.mk (And.intro f7 st7)
          clear f6 f7 st6 st7 hw6 e7 e0 e1 e2 e3 ef ec ecf s4
          go_wp2_with fail
          refine wp_region_held_drew (S := fun w' => w'.cell? ⟨g, 3, none⟩ = some (.slice (some ⟨cb, 0, none⟩) vs'.length vs'.length) ∧ w'.cell? ⟨g, 1, none⟩ = some (.int .i64 (bb : Nat))) (by kernel_rfl) ?_ (fun hHeld => ?_)
          · exact ⟨q3, q1⟩
          refine wpAnyH_take (i := 0) (oi := { dst := some 74, op := Op.move (Operand.tmp 0), type := 77, pos := "search.go:78", after := #[], guard := none }) (v := ?vx0) rfl (by kernel_rfl) (by kernel_rfl) (by kernel_rfl) (fun _ _ _ h => h) (Or.inl ⟨by rfl, ?hx0⟩) (by assumption) ?rx0
          case hx0 => (intro w0 hSw; (try dsimp only at hSw); go_simp; try (with_reducible rfl))
          simp only [Act.put, List.setIfInBounds_toArray, List.set_cons_zero, List.set_cons_succ]
          refine wpAnyH_take (i := 1) (oi := { dst := some 75, op := Op.nilCheck (Operand.tmp 74), type := 0, pos := "search.go:78", after := #[{ on := 0, ground := Ground.data }], guard := none }) (v := ?vx1) rfl (by kernel_rfl) (by kernel_rfl) (by kernel_rfl) (fun _ _ _ h => h) (Or.inl ⟨by rfl, ?hx1⟩) (by assumption) ?rx1
          case hx1 => (intro w0 hSw; (try dsimp only at hSw); go_simp; try (with_reducible rfl))
          simp only [Act.put, List.setIfInBounds_toArray, List.set_cons_zero, List.set_cons_succ]
          refine wpAnyH_take (i := 2) (oi := { dst := some 76, op := Op.fieldAddr 94 (Operand.tmp 75) 3, type := 0, pos := "search.go:78", after := #[{ on := 1, ground := Ground.data }], guard := none }) (v := ?vx2) rfl (by kernel_rfl) (by kernel_rfl) (by kernel_rfl) (fun _ _ _ h => h) (Or.inl ⟨by rfl, ?hx2⟩) (by assumption) ?rx2
          case hx2 => (intro w0 hSw; (try dsimp only at hSw); go_simp; try (with_reducible rfl))
          simp only [Act.put, List.setIfInBounds_toArray, List.set_cons_zero, List.set_cons_succ]
          refine wpAnyH_take (i := 3) (oi := { dst := some 77, op := Op.load 92 (Operand.tmp 76), type := 92, pos := "search.go:78", after := #[{ on := 2, ground := Ground.data }], guard := none }) (v := ?vx3) rfl (by kernel_rfl) (by kernel_rfl) (by kernel_rfl) (fun _ _ _ h => h) (Or.inl ⟨by rfl, ?hx3⟩) (by assumption) ?rx3
          case hx3 => (intro w0 hSw; (try dsimp only at hSw); go_simp; try (with_reducible rfl))
          simp only [Act.put, List.setIfInBounds_toArray, List.set_cons_zero, List.set_cons_succ]
          refine wpAnyH_take (i := 4) (oi := { dst := some 78, op := Op.move (Operand.tmp 0), type := 77, pos := "search.go:78", after := #[], guard := none }) (v := ?vx4) rfl (by kernel_rfl) (by kernel_rfl) (by kernel_rfl) (fun _ _ _ h => h) (Or.inl ⟨by rfl, ?hx4⟩) (by assumption) ?rx4
          case hx4 => (intro w0 hSw; (try dsimp only at hSw); go_simp; try (with_reducible rfl))
          simp only [Act.put, List.setIfInBounds_toArray, List.set_cons_zero, List.set_cons_succ]
          refine wpAnyH_take (i := 5) (oi := { dst := some 79, op := Op.nilCheck (Operand.tmp 78), type := 0, pos := "search.go:78", after := #[{ on := 4, ground := Ground.data }], guard := none }) (v := ?vx5) rfl (by kernel_rfl) (by kernel_rfl) (by kernel_rfl) (fun _ _ _ h => h) (Or.inl ⟨by rfl, ?hx5⟩) (by assumption) ?rx5
          case hx5 => (intro w0 hSw; (try dsimp only at hSw); go_simp; try (with_reducible rfl))
          simp only [Act.put, List.setIfInBounds_toArray, List.set_cons_zero, List.set_cons_succ]
          refine wpAnyH_take (i := 6) (oi := { dst := some 80, op := Op.fieldAddr 94 (Operand.tmp 79) 1, type := 0, pos := "search.go:78", after := #[{ on := 5, ground := Ground.data }], guard := none }) (v := ?vx6) rfl (by kernel_rfl) (by kernel_rfl) (by kernel_rfl) (fun _ _ _ h => h) (Or.inl ⟨by rfl, ?hx6⟩) (by assumption) ?rx6
          case hx6 => (intro w0 hSw; (try dsimp only at hSw); go_simp; try (with_reducible rfl))
          simp only [Act.put, List.setIfInBounds_toArray, List.set_cons_zero, List.set_cons_succ]
          refine wpAnyH_take (i := 7) (oi := { dst := some 81, op := Op.load 3 (Operand.tmp 80), type := 3, pos := "search.go:78", after := #[{ on := 6, ground := Ground.data }], guard := none }) (v := ?vx7) rfl (by kernel_rfl) (by kernel_rfl) (by kernel_rfl) (fun _ _ _ h => h) (Or.inl ⟨by rfl, ?hx7⟩) (by assumption) ?rx7
          case hx7 => (intro w0 hSw; (try dsimp only at hSw); go_simp; try (with_reducible rfl))
          simp only [Act.put, List.setIfInBounds_toArray, List.set_cons_zero, List.set_cons_succ]
          refine wpAnyH_take (i := 8) (oi := { dst := some 82, op := Op.indexAddr 92 (Operand.tmp 77) (Operand.tmp 81), type := 0, pos := "search.go:78", after := #[{ on := 3, ground := Ground.data }, { on := 7, ground := Ground.data }, { on := 0, ground := Ground.phase }, { on := 1, ground := Ground.phase }, { on := 2, ground := Ground.phase }, { on := 3, ground := Ground.phase }, { on := 4, ground := Ground.phase }, { on := 5, ground := Ground.phase }, { on := 6, ground := Ground.phase }, { on := 7, ground := Ground.phase }], guard := none }) (v := ?vx8) rfl (by kernel_rfl) (by kernel_rfl) (by kernel_rfl) (fun _ _ _ h => h) (Or.inl ⟨by rfl, ?hx8⟩) (by assumption) ?rx8
          case hx8 => (intro w0 hSw; (try dsimp only at hSw); go_simp; try (with_reducible rfl))
          simp only [Act.put, List.setIfInBounds_toArray, List.set_cons_zero, List.set_cons_succ]
          refine wpAnyH_ready (rs := [9]) (by kernel_rfl) (by simp) ?_
          refine AllReadyH.cons rfl (fun K0 hK0 => ?_) AllReadyH.nil
          go_simp
          refine hK0.out _ _ ?_ (fun hHeld => ?_)
          · exact s5
          clear hK0 K0
          refine wpAnyH_done (by kernel_rfl) ?_ _
          obtain ⟨w7, hw7⟩ : ∃ w7, w7 = w6.setCell ⟨cb, bb, none⟩ (.slice none 0 0) := ⟨_, rfl⟩
          have f7 := HF7.out
          rw [← hw7] at f7 s5 ⊢
          have g1 := s5.2
          have gf := f7.1.cell.2.2.2.2
          have f8 := f7.1.bound' ((bb - 1 : Nat) : Int)
          have st8 : Stay (FF g cb vs) w (w7.setCell ⟨g, 1, none⟩ (.int .i64 ((bb - 1 : Nat) : Int))) := Stay.setCell (p := ⟨g, 1, none⟩) f7.2 (fun _ => .inl rfl) _
          have HF8 := Hid.mk (And.intro f8 st8)
          clear f7 f8 st8 HF7 q1 q2 q3 qf qc qcf hw7
          go_wp2_with fail
          obtain ⟨h1, h2, h3⟩ := HG.out
          obtain ⟨m, rfl⟩ : ∃ m, bb = m + 1 := ⟨bb - 1, by omega⟩
          have hR := RL_low q M2 b0 m
          have f9 := HF8.out.1
          rw [hR] at f9
          simp only [Nat.add_sub_cancel] at f9
          refine ⟨⟨m, vs'.set (m + 1) (.slice none 0 0), Hid.mk ⟨?_, by omega, ?_, HF8.out.2.drew.drew.drew⟩⟩, ?_⟩
          · rw [← h1]; exact f9.drewed.drewed.drewed
          · rw [← lower_step (by rw [← h1]; exact h3)]; exact HJ.out.lo
          · have h8 := bdOf_eq f9.drewed.drewed.drewed.cell.2.1
            simp only [Int.toNat_natCast] at h8
            rw [HQ.out.2.2.2.2, Int.toNat_natCast]
            exact Nat.lt_of_le_of_lt (Nat.le_of_eq h8) (Nat.lt_succ_self m)
      · have hk' : ¬ (k : Int) ≤ (L5 : Int) := by omega
        have HG := Hid.mk (And.intro hL5 hk)
        clear hL5 hcl5 hk
        go_wp2_with fail
        go_region
        all_goals
          go_wp2_with fail
          go_end0
          obtain ⟨h1, h2⟩ := HG.out
          have hlo := HJ.out.lo
          rw [lower_stop (by rw [← h1]; omega)] at hlo
          have ffx := HJ.out.fx
          have hsum := RL_sum q M2 hbb
          rw [hlo] at ffx hsum
          exact ⟨rfl, _, vs', ffx.drewed.fb hsum.symm, HJ.out.st.drew⟩
end Go.Proofs.YtnnbcdfpbdmgdaaDoor
