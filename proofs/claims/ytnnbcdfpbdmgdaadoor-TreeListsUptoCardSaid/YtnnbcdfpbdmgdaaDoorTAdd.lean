/-
  DERIVED. Add.
-/
import Derived.Test.YtnnbcdfpbdmgdaaDoorDClone
import Derived.Deep.RegionHeld
set_option linter.unusedVariables false
set_option linter.unusedSimpArgs false
namespace Go.Proofs.YtnnbcdfpbdmgdaaDoor
open Go.RowKit Go.Maps Go.Proofs.BitMath Go.Proofs.TreeMath
theorem cell_lat {W W' : World} {g o : Nat} {v : Value} (b : Below W.heap.size W W') (h : W.cell? ⟨g, o, none⟩ = some v) : W'.cell? ⟨g, o, none⟩ = some v := (World.cell?_of_block (b.block g (World.block_lt_of_cell? W _ h))).trans h
theorem cell_sty {F : Nat → Prop} {W W' : World} {g o : Nat} {v : Value} (s : Stay F W W') (hg : ¬ F g) (h : W.cell? ⟨g, o, none⟩ = some v) : W'.cell? ⟨g, o, none⟩ = some v := (World.cell?_of_block (s.block g (World.block_lt_of_cell? W _ h) hg)).trans h
/-- The tree is T' now. -/
structure Moved {n : Nat} (W W' : World) (t wd : Nat) (T' : List (Nd (Cd n))) (bs : List Nat) (ms : List (Option Nat)) (x : Num) : Prop where
  ex : ∃ bs' ms' x', TR W' t wd T' bs' ms' x' ∧ x'.looked = x.looked ∧ ∀ k, TFoot t bs' ms' k → TFoot t bs ms k ∨ W.heap.size ≤ k
  stay : Stay (TFoot t bs ms) W W'
theorem Moved.same {n t wd : Nat} {T : List (Nd (Cd n))} {bs : List Nat} {ms : List (Option Nat)} {x : Num} {W W' : World} (h : TR W t wd T bs ms x) (b : Below W.heap.size W W') : Moved W W' t wd T bs ms x :=
  ⟨⟨bs, ms, x, h.below b, rfl, fun k hk => .inl hk⟩, .below b⟩
theorem Moved.hung {n t wd : Nat} {T' : List (Nd (Cd n))} {bs : List Nat} {ms : List (Option Nat)} {x : Num} {W W1 W' : World} (b : Below W.heap.size W W1) (h : HangTo W1 W' t wd T' bs ms x) : Moved W W' t wd T' bs ms x := by
  obtain ⟨⟨bs', ms', x', h1, -, -, h4, h5⟩, h6⟩ := h
  exact ⟨⟨bs', ms', x', h1, h4, fun k hk => (h5 k hk).imp id (fun e => Nat.le_trans b.size e)⟩, (Stay.below b).trans h6⟩
/-- What Add answers. -/
def AddO {n : Nat} (W : World) (t wd : Nat) (T : List (Nd (Cd n))) (bs : List Nat) (ms : List (Option Nat)) (x : Num) (s : ByteArray) (r : Ending) (W' : World) : Prop :=
  (s.size ≠ n ∧ r = .returned (.tuple #[.bool false, .int .i64 11]) ∧ Moved W W' t wd T bs ms x) ∨
  ∃ hs : s.size = n,
    ((∀ (j : Nat) nd, T[j]? = some nd → nd.code ≠ ⟨s, hs⟩) ∧ r = .returned (.tuple #[.bool true, .int .i64 0]) ∧ Moved W W' t wd (TreeMath.hang dC T ⟨s, hs⟩) bs ms x) ∨
    (∃ j nd, T[j]? = some nd ∧ nd.code = ⟨s, hs⟩ ∧ ((nd.live = true ∧ r = .returned (.tuple #[.bool false, .int .i64 0]) ∧ Moved W W' t wd T bs ms x) ∨ (nd.live = false ∧ r = .returned (.tuple #[.bool true, .int .i64 0]) ∧ Moved W W' t wd (setLive T j true) bs ms x)))
set_option maxHeartbeats 4000000 in
set_option maxRecDepth 100000 in
theorem add_any {n t wd : Nat} {T : List (Nd (Cd n))} {bs : List Nat} {ms : List (Option Nat)} {x : Num} (s : ByteArray) (W : World) (h : TR W t wd T bs ms x) (ht : Tab W) (hW0 : 0 < W.heap.size) (hsm : T.length < 1099511627776) :
    Calls Tryd.prog 11 #[.pointer (some ⟨t, 0, none⟩), .string s] W (AddO W t wd T bs ms x s) := by
  have hk := takes_any s W h
  by_cases hs : s.size = n
  · rw [decide_eq_true hs] at hk
    have hr := reach_any ⟨s, hs⟩ W h ht hW0
    have HT := Hid.mk h
    have hn8 : n ≤ 128 := by have := isW_bd h.wid; have := h.eight; omega
    clear h
    go_enter Tryd.func11, Tryd.ntmps11
    go_wp2_with fail
    refine hk.mono ?_
    rintro r w1 ⟨rfl, rfl⟩
    go_wp2_with fail
    refine hr.mono ?_
    rintro r w2 ⟨b2, l, d, k, rfl, hw⟩
    obtain ⟨q, rfl⟩ := hw.ptr
    have hd8 : d ≤ 8192 := by
      rcases hw with ⟨-, -, rfl, -⟩ | ⟨nd, -, -, -, rfl, -⟩
      · omega
      · exact Nat.le_trans (dC_le _ _) (by omega)
    have HO := Hid.mk (hw.own HT.out.wf)
    have HW := Hid.mk hw
    clear hk hr hw
    have hbx2 := heap_alloc_new w2 (.cells #[.pointer q, .int .i64 d, .int .i64 k] 66)
    have ba2 : Below w2.heap.size w2 (w2.alloc (.cells #[.pointer q, .int .i64 d, .int .i64 k] 66)) := (Below.refl _ w2).alloc (Nat.le_refl _) _
    have ho := own_any q d k (w2.alloc (.cells #[.pointer q, .int .i64 d, .int .i64 k] 66)) hd8
    go_wp2_with fail
    refine ho.mono ?_
    rintro r w3 ⟨rfl, b3⟩
    have b23 : Below w2.heap.size w2 w3 := chain ba2 b3 (Nat.le_refl _)
    have b13 : Below w1.heap.size w1 w3 := chain b2 b23 (Nat.le_refl _)
    have box3 : w3.heap[w2.heap.size]? = some (.cells #[.pointer q, .int .i64 d, .int .i64 k] 66 (0, 0)) := (b3.block _ (by simp)).trans hbx2
    have tr3 := HT.out.below b13
    clear ho hbx2 ba2 b3
    have hHF : ¬ TFoot t bs ms w2.heap.size := fun hk => by have := HT.out.lt hk; have := b2.size; omega
    generalize w2.heap.size = H at *
    rcases HO.out with ⟨j, nd, rfl, hj, hc, hq⟩ | ⟨hno, hz⟩
    · obtain ⟨b, m, hbb, hmm, hgd, q0, q1, q2, qf, hbl⟩ := tr3.at_ hj
      have e1 : Value.pointer q = .pointer (some ⟨b, 0, none⟩) := by rw [hq]; show Value.pointer (some ⟨bs.getD j 0, 0, none⟩) = _; rw [hgd]
      simp only [Value.pointer.injEq] at e1
      subst e1
      rw [if_pos rfl]
      have HJ := Hid.mk (And.intro hj hc)
      cases hlv : nd.live
      · obtain ⟨t0, t1, t2, t3, t4, t5⟩ := tr3.cell
        have tf := tr3.frz
        have htn := tr3.tn (List.mem_of_getElem? hbb)
        have hbt : b ≠ t := htn.1
        have htb : t ≠ b := fun e => htn.1 e.symm
        have hll := lives_len T j nd true hj
        rw [hlv] at hll q1
        simp only [if_true, if_false, Bool.false_eq_true] at hll
        have hal := tr3.all
        have hlv2 := tr3.live
        have hxs : x.live ≤ 1099511627776 := by omega
        have hxd : x.dead ≤ 1099511627776 := by omega
        have hd1 : 1 ≤ x.dead := by
          have h1 : (lives (setLive T j true)).length ≤ T.length := by
            unfold lives
            rw [List.length_map]
            exact Nat.le_trans (List.length_filter_le _ _) (by rw [setLive_len]; exact Nat.le_refl _)
          omega
        obtain ⟨dd, hdd⟩ : ∃ dd, x.dead = dd + 1 := ⟨x.dead - 1, by omega⟩
        have HM : Hid (Moved w1 (((w3.setCell ⟨b, 1, none⟩ (.bool true)).setCell ⟨t, 3, none⟩ (.int .i64 dd)).setCell ⟨t, 2, none⟩ (.int .i64 ((x.live : Int) + 1))) t wd (setLive T j true) bs ms x) := by
          have n0 := tr3.node j b nd m hj hbb hmm
          have n1 : (w3.setCell ⟨b, 1, none⟩ (.bool true)).heap[b]? = some (.cells #[.string nd.code.1, .bool true, .map m] 73 (0, 0)) := heap_setCell_same w3 b 1 _ _ _ n0
          have s1 : Stay (fun k => k = b) w3 (w3.setCell ⟨b, 1, none⟩ (.bool true)) := by refine Stay.setCell (Stay.refl _ w3) (p := ⟨b, 1, none⟩) (fun _ => ?_) _; rfl
          have s2 : Stay (fun k => k = t) (w3.setCell ⟨b, 1, none⟩ (.bool true)) (((w3.setCell ⟨b, 1, none⟩ (.bool true)).setCell ⟨t, 3, none⟩ (.int .i64 dd)).setCell ⟨t, 2, none⟩ (.int .i64 ((x.live : Int) + 1))) := by
            refine Stay.setCell (Stay.setCell (Stay.refl _ _) (p := ⟨t, 3, none⟩) (fun _ => ?_) _) (p := ⟨t, 2, none⟩) (fun _ => ?_) _ <;> rfl
          have htl : t < w3.heap.size := tr3.lt (.inl rfl)
          have m0 : (w3.setCell ⟨b, 1, none⟩ (.bool true)).heap[t]? = _ := (s1.block t htl htb).trans tr3.tree
          have m1 : ((w3.setCell ⟨b, 1, none⟩ (.bool true)).setCell ⟨t, 3, none⟩ (.int .i64 dd)).heap[t]? = some (.cells #[.int .i64 wd, ptr bs (if T.length = 0 then none else some 0), .int .i64 x.live, .int .i64 dd, .int .i64 x.dep, .int .i64 x.looked] 64 (0, 0)) := heap_setCell_same _ t 3 _ _ _ m0
          have m2 : (((w3.setCell ⟨b, 1, none⟩ (.bool true)).setCell ⟨t, 3, none⟩ (.int .i64 dd)).setCell ⟨t, 2, none⟩ (.int .i64 ((x.live : Int) + 1))).heap[t]? = some (.cells #[.int .i64 wd, ptr bs (if T.length = 0 then none else some 0), .int .i64 ((x.live : Int) + 1), .int .i64 dd, .int .i64 x.dep, .int .i64 x.looked] 64 (0, 0)) := heap_setCell_same _ t 2 _ _ _ m1
          have sA : Stay (fun k => k = t ∨ k = b) w3 (((w3.setCell ⟨b, 1, none⟩ (.bool true)).setCell ⟨t, 3, none⟩ (.int .i64 dd)).setCell ⟨t, 2, none⟩ (.int .i64 ((x.live : Int) + 1))) := (s1.mono (fun k _ hk => .inr hk)).andThen s2 (fun i _ hi => .inl hi)
          have tr4 := tr3.relive hj hbb hmm true (x.live + 1) dd (by omega) (by omega) sA (by rw [m2]; simp) ((s2.block b (by have := s1.size; omega) hbt).trans n1)
          refine ⟨⟨bs, ms, _, tr4, rfl, fun k hk => .inl hk⟩, (Stay.below b13).trans (sA.mono (fun k _ hk => ?_))⟩
          rcases hk with hk | hk
          · exact .inl hk
          · rw [hk]; exact .inr (.inl (List.mem_of_getElem? hbb))
        have HL := Hid.mk hlv
        have hdc : (x.dead : Int) - 1 = (dd : Int) := by omega
        have hdb : dd ≤ 1099511627776 := by omega
        clear hq HO hj hc tr3 q0 q2 hbb hmm hgd hlv hll hal hlv2 htn box3 hd1 t0 t1 t4 t5 hdd
        go_wp2
        go_ret2
        exact .inr ⟨hs, .inr ⟨j, nd, HJ.out.1, HJ.out.2, .inr ⟨HL.out, rfl, HM.out⟩⟩⟩
      · rw [hlv] at q1
        have HL := Hid.mk hlv
        have HM := Hid.mk (Moved.same HT.out b13)
        clear hq HO hj hc tr3 q0 q2 hbb hmm hgd hlv
        go_wp2
        go_ret2
        exact .inr ⟨hs, .inr ⟨j, nd, HJ.out.1, HJ.out.2, .inl ⟨HL.out, rfl, HM.out⟩⟩⟩
    · have e2 : (if d = 0 then Value.pointer q else .pointer none) = .pointer none := by
        by_cases hd0 : d = 0
        · rw [if_pos hd0, hz hd0]
        · rw [if_neg hd0]
      rw [e2]
      have HN := Hid.mk hno
      have c0 : w3.cell? ⟨H, 0, none⟩ = some (.pointer q) := by unfold World.cell?; rw [box3]; rfl
      have c1 : w3.cell? ⟨H, 1, none⟩ = some (.int .i64 d) := by unfold World.cell?; rw [box3]; rfl
      have c2 : w3.cell? ⟨H, 2, none⟩ = some (.int .i64 k) := by unfold World.cell?; rw [box3]; rfl
      have hcl := clone_any s w3.drew (by omega)
      have HH := Hid.mk (fun (W4 : World) (b4 : Below w3.heap.size w3 W4) => hang_any ⟨s, hs⟩ W4 (HT.out.below (chain b13 b4 (Nat.le_refl _))) HN.out hsm HW.out)
      clear hz HO e2 tr3 box3 hno
      go_wp2_with fail
      refine wp_region_held_drew (S := fun w' => w'.cell? ⟨H, 0, none⟩ = some (.pointer q) ∧ w'.cell? ⟨H, 1, none⟩ = some (.int .i64 d) ∧ w'.cell? ⟨H, 2, none⟩ = some (.int .i64 k)) (by kernel_rfl) ?_ (fun hHeld => ?_)
      · exact ⟨c0, c1, c2⟩
      refine wpAnyH_take (i := 0) (oi := { dst := some 37, op := Op.move (Operand.tmp 0), type := 24, pos := "bktree.go:38", after := #[], guard := none }) (v := ?va0) rfl (by kernel_rfl) (by kernel_rfl) (by kernel_rfl) (fun _ _ _ h => h) (Or.inl ⟨by rfl, ?ha0⟩) (by assumption) ?ra0
      case ha0 => (intro w0 hSw; (try dsimp only at hSw); go_simp; try (with_reducible rfl))
      simp only [Act.put, List.setIfInBounds_toArray, List.set_cons_zero, List.set_cons_succ]
      refine wpAnyH_take (i := 1) (oi := { dst := some 38, op := Op.load 66 (Operand.tmp 6), type := 66, pos := "bktree.go:38", after := #[], guard := none }) (v := ?va1) rfl (by kernel_rfl) (by kernel_rfl) (by kernel_rfl) (fun _ _ _ h => h) (Or.inl ⟨by rfl, ?ha1⟩) (by assumption) ?ra1
      case ha1 => (intro w0 hSw; (try dsimp only at hSw); go_simp; try (with_reducible rfl))
      simp only [Act.put, List.setIfInBounds_toArray, List.set_cons_zero, List.set_cons_succ]
      refine wpAnyH_take (i := 2) (oi := { dst := some 39, op := Op.move (Operand.tmp 1), type := 9, pos := "bktree.go:38", after := #[], guard := none }) (v := ?va2) rfl (by kernel_rfl) (by kernel_rfl) (by kernel_rfl) (fun _ _ _ h => h) (Or.inl ⟨by rfl, ?ha2⟩) (by assumption) ?ra2
      case ha2 => (intro w0 hSw; (try dsimp only at hSw); go_simp; try (with_reducible rfl))
      simp only [Act.put, List.setIfInBounds_toArray, List.set_cons_zero, List.set_cons_succ]
      refine wpAnyH_ready (rs := [3]) (by kernel_rfl) (by simp) ?_
      refine AllReadyH.cons rfl (fun K0 hK0 => ?_) AllReadyH.nil
      go_simp
      go_at_call 37
      refine hcl.mono ?_
      rintro r w4 ⟨rfl, b4⟩
      have b34 : Below w3.heap.size w3 w4 := chain (Below.refl _ w3).drew b4 (Nat.le_refl _)
      go_wp2_with fail
      refine hK0.out _ _ ?_ (fun hHeld => ?_)
      · exact ⟨cell_lat b34 c0, cell_lat b34 c1, cell_lat b34 c2⟩
      clear hK0 K0
      have hh := HH.out w4 b34
      refine wpAnyH_ready (rs := [4]) (by kernel_rfl) (by simp) ?_
      refine AllReadyH.cons rfl (fun K0 hK0 => ?_) AllReadyH.nil
      go_simp
      go_at_call 36
      refine hh.mono ?_
      rintro r w5 ⟨rfl, ht5⟩
      have d0 := cell_sty ht5.stay hHF (cell_lat b34 c0)
      have d1 := cell_sty ht5.stay hHF (cell_lat b34 c1)
      have d2 := cell_sty ht5.stay hHF (cell_lat b34 c2)
      have HM := Hid.mk (Moved.hung (chain b13 b34 (Nat.le_refl _)) ht5)
      go_wp2_with fail
      refine hK0.out _ _ ?_ (fun hHeld => ?_)
      · exact ⟨d0, d1, d2⟩
      clear hK0 K0 hh hHeld
      refine wpAnyH_done (by kernel_rfl) ?_ _
      go_wp2
      go_ret2
      exact .inr ⟨hs, .inl ⟨HN.out, rfl, HM.out⟩⟩
  · rw [decide_eq_false hs] at hk
    have HS := Hid.mk hs
    have HM := Hid.mk (Moved.same h (Below.refl _ W))
    clear h hs
    go_enter Tryd.func11, Tryd.ntmps11
    go_wp2_with fail
    refine hk.mono ?_
    rintro r w1 ⟨rfl, rfl⟩
    go_wp2
    go_ret2
    exact .inl ⟨HS.out, rfl, HM.out⟩
end Go.Proofs.YtnnbcdfpbdmgdaaDoor
