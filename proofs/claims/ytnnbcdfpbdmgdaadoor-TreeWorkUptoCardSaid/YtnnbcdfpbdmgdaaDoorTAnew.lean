/-
  DERIVED. makeAnew, given what codes tells.
-/
import Derived.Test.YtnnbcdfpbdmgdaaDoorTAdd
set_option linter.unusedVariables false
set_option linter.unusedSimpArgs false
namespace Go.Proofs.YtnnbcdfpbdmgdaaDoor
open Go.RowKit Go.Maps Go.Proofs.BitMath Go.Proofs.TreeMath
theorem hangs_snoc {α : Type} (d : α → α → Nat) : ∀ (l : List α) (T : List (Nd α)) (c : α), hangs d T (l ++ [c]) = hang d (hangs d T l) c
  | [], T, c => rfl
  | a :: l, T, c => by
    show hangs d (hang d T a) (l ++ [c]) = hang d (hangs d (hang d T a) l) c
    exact hangs_snoc d l _ c
theorem hangs_codes {α : Type} {d : α → α → Nat} (hz : ∀ a b, d a b = 0 → a = b) : ∀ (l : List α) (T : List (Nd α)), WF d T → (T.map Nd.code ++ l).Nodup → (hangs d T l).map Nd.code = T.map Nd.code ++ l
  | [], T, _, _ => by simp [hangs]
  | a :: l, T, h, hn => by
    have hne : ∀ n ∈ T, n.code ≠ a := fun n hn' e => by
      have := (List.nodup_append.1 hn).2.2 n.code (List.mem_map_of_mem hn') a (by simp)
      exact this e
    have hw := hang_wf hz h hne
    have hc := hang_codes h a
    show (hangs d (hang d T a) l).map Nd.code = _
    rw [hangs_codes hz l _ hw (by rw [hc]; simpa using hn), hc]
    simp
/-- The tree emptied, in its own block. -/
theorem TR.reset {n t wd : Nat} {T : List (Nd (Cd n))} {bs : List Nat} {ms : List (Option Nat)} {x : Num} {W W' : World} (h : TR W t wd T bs ms x)
    (htree : W'.heap[t]? = some (.cells #[.int .i64 wd, .pointer none, .int .i64 0, .int .i64 0, .int .i64 0, .int .i64 x.looked] 64 (0, 0))) : TR (n := n) W' t wd [] [] [] ⟨0, 0, 0, x.looked⟩ :=
  { wid := h.wid, eight := h.eight, wf := WF.nil _, lb := rfl, lm := rfl
    tree := htree
    node := fun j b nd m h1 => by simp at h1
    kids := fun j mb h1 => by simp at h1
    bare := fun j h1 => by simp at h1
    nodup := List.nodup_nil
    msep := fun i j a h1 => by simp at h1
    live := rfl, all := rfl, small := Nat.zero_le _, dep := fun j hj => by simp at hj
    depT := Nat.le_refl _, depE := .inl rfl, lk := h.lk }
/-- What codes tells. -/
def CodesO {n : Nat} (W : World) (cs : List (Cd n)) (r : Ending) (w' : World) : Prop := Below W.heap.size W w' ∧ ∃ g cap, r = .returned (.slice (some ⟨g, 0, none⟩) cs.length cap) ∧ W.heap.size ≤ g ∧ g < w'.heap.size ∧ ∀ i (hi : i < cs.length), w'.cell? ⟨g, i, none⟩ = some (.string (cs[i]).1)
/-- The tree made anew. -/
def AnewO {n : Nat} (W : World) (t wd : Nat) (x : Num) (cs : List (Cd n)) (W2 w' : World) (i : Nat) : Prop := ∃ bs' ms' x', TR w' t wd (hangs dC [] (cs.take i)) bs' ms' x' ∧ x'.looked = x.looked ∧ Stay (fun k => k = t) W w' ∧ (∀ k, TFoot t bs' ms' k → k = t ∨ W2.heap.size ≤ k) ∧ W2.heap.size ≤ w'.heap.size
set_option maxHeartbeats 4000000 in
set_option maxRecDepth 100000 in
theorem anew_any {n t wd : Nat} {T : List (Nd (Cd n))} {bs : List Nat} {ms : List (Option Nat)} {x : Num} (W : World) (h : TR W t wd T bs ms x) (ht : Tab W) (htp : 0 < t) (cs : List (Cd n)) (hnd : cs.Nodup) (hcl : cs.length ≤ T.length)
    (hcodes : Calls Tryd.prog 54 #[.pointer (some ⟨t, 0, none⟩)] W (CodesO W cs)) :
    Calls Tryd.prog 39 #[.pointer (some ⟨t, 0, none⟩)] W (fun r w' => r = .returned (.tuple #[]) ∧ AnewO W t wd x cs W w' cs.length) := by
  have hsmall := h.small
  have htl : t < W.heap.size := h.lt (.inl rfl)
  have HT := Hid.mk (And.intro h ht)
  clear h ht
  go_enter Tryd.func39, Tryd.ntmps39
  go_wp2_with fail
  refine hcodes.mono ?_
  rintro r w2 ⟨b2, g, cap, rfl, hg, hgl, hrow⟩
  have tr2 := HT.out.1.below b2
  obtain ⟨t0, t1, t2, t3, t4, t5⟩ := tr2.cell
  have tf := tr2.frz
  have tree2 := tr2.tree
  have HRow := Hid.mk hrow
  have hgt : g ≠ t := by omega
  obtain ⟨w3, hw3⟩ : ∃ w3, w3 = (((((w2.setCell ⟨t, 0, none⟩ (.int .i64 wd)).setCell ⟨t, 1, none⟩ (.pointer none)).setCell ⟨t, 2, none⟩ (.int .i64 0)).setCell ⟨t, 3, none⟩ (.int .i64 0)).setCell ⟨t, 4, none⟩ (.int .i64 0)).setCell ⟨t, 5, none⟩ (.int .i64 x.looked) := ⟨_, rfl⟩
  have tree3 : w3.heap[t]? = some (.cells #[.int .i64 wd, .pointer none, .int .i64 0, .int .i64 0, .int .i64 0, .int .i64 x.looked] 64 (0, 0)) := by
    rw [hw3]
    exact heap_setCell_same _ t 5 _ _ _ (heap_setCell_same _ t 4 _ _ _ (heap_setCell_same _ t 3 _ _ _ (heap_setCell_same _ t 2 _ _ _ (heap_setCell_same _ t 1 _ _ _ (heap_setCell_same w2 t 0 _ _ _ tree2)))))
  have s23 : Stay (fun k => k = t) w2 w3 := by
    rw [hw3]
    refine Stay.setCell (Stay.setCell (Stay.setCell (Stay.setCell (Stay.setCell (Stay.setCell (Stay.refl _ w2) (p := ⟨t, 0, none⟩) (fun _ => ?_) _) (p := ⟨t, 1, none⟩) (fun _ => ?_) _) (p := ⟨t, 2, none⟩) (fun _ => ?_) _) (p := ⟨t, 3, none⟩) (fun _ => ?_) _) (p := ⟨t, 4, none⟩) (fun _ => ?_) _) (p := ⟨t, 5, none⟩) (fun _ => ?_) _ <;> rfl
  have tr3 := tr2.reset tree3
  have st3 : Stay (fun k => k = t) W w3 := (Stay.below b2).trans s23
  have row3 : ∀ i (hi : i < cs.length), w3.cell? ⟨g, i, none⟩ = some (.string (cs[i]).1) := fun i hi => cell_sty s23 hgt (hrow i hi)
  have z0 : w3.cell? ⟨t, 0, none⟩ = some (.int .i64 wd) := by unfold World.cell?; rw [tree3]; rfl
  have z5 : w3.cell? ⟨t, 5, none⟩ = some (.int .i64 x.looked) := by unfold World.cell?; rw [tree3]; rfl
  have H0 : Hid (AnewO W t wd x cs w2 w3.drew 0) := by
    refine ⟨[], [], _, tr3.below (Below.refl _ w3).drew, rfl, st3.drew, fun k hk => ?_, s23.size⟩
    rcases hk with hk | hk | hk
    · exact .inl hk
    · cases hk
    · cases hk
  have HR3 := Hid.mk row3
  have HW3 := Hid.mk hw3
  clear hw3 tree3 tree2 s23 tr3 st3 row3 tr2 hrow hcodes
  go_wp2_with fail
  refine wp_region_held_drew (S := fun w' => w'.cell? ⟨t, 0, none⟩ = some (.int .i64 wd) ∧ w'.cell? ⟨t, 5, none⟩ = some (.int .i64 x.looked)) (by kernel_rfl) ?_ (fun hHeld => ?_)
  · exact ⟨t0, t5⟩
  refine wpAnyH_take (i := 0) (oi := { dst := some 7, op := Op.move (Operand.tmp 0), type := 24, pos := "node.go:74", after := #[], guard := none }) (v := ?va0) rfl (by kernel_rfl) (by kernel_rfl) (by kernel_rfl) (fun _ _ _ h => h) (Or.inl ⟨by rfl, ?ha0⟩) (by assumption) ?ra0
  case ha0 => (intro w0 hSw; (try dsimp only at hSw); go_simp; try (with_reducible rfl))
  simp only [Act.put, List.setIfInBounds_toArray, List.set_cons_zero, List.set_cons_succ]
  refine wpAnyH_take (i := 1) (oi := { dst := some 8, op := Op.move (Operand.tmp 0), type := 24, pos := "node.go:74", after := #[], guard := none }) (v := ?va1) rfl (by kernel_rfl) (by kernel_rfl) (by kernel_rfl) (fun _ _ _ h => h) (Or.inl ⟨by rfl, ?ha1⟩) (by assumption) ?ra1
  case ha1 => (intro w0 hSw; (try dsimp only at hSw); go_simp; try (with_reducible rfl))
  simp only [Act.put, List.setIfInBounds_toArray, List.set_cons_zero, List.set_cons_succ]
  refine wpAnyH_take (i := 2) (oi := { dst := some 9, op := Op.nilCheck (Operand.tmp 8), type := 0, pos := "node.go:74", after := #[{ on := 1, ground := Ground.data }], guard := none }) (v := ?va2) rfl (by kernel_rfl) (by kernel_rfl) (by kernel_rfl) (fun _ _ _ h => h) (Or.inl ⟨by rfl, ?ha2⟩) (by assumption) ?ra2
  case ha2 => (intro w0 hSw; (try dsimp only at hSw); go_simp; try (with_reducible rfl))
  simp only [Act.put, List.setIfInBounds_toArray, List.set_cons_zero, List.set_cons_succ]
  refine wpAnyH_take (i := 3) (oi := { dst := some 10, op := Op.fieldAddr 64 (Operand.tmp 9) 0, type := 0, pos := "node.go:74", after := #[{ on := 2, ground := Ground.data }], guard := none }) (v := ?va3) rfl (by kernel_rfl) (by kernel_rfl) (by kernel_rfl) (fun _ _ _ h => h) (Or.inl ⟨by rfl, ?ha3⟩) (by assumption) ?ra3
  case ha3 => (intro w0 hSw; (try dsimp only at hSw); go_simp; try (with_reducible rfl))
  simp only [Act.put, List.setIfInBounds_toArray, List.set_cons_zero, List.set_cons_succ]
  refine wpAnyH_take (i := 4) (oi := { dst := some 11, op := Op.load 3 (Operand.tmp 10), type := 3, pos := "node.go:74", after := #[{ on := 3, ground := Ground.data }], guard := none }) (v := ?va4) rfl (by kernel_rfl) (by kernel_rfl) (by kernel_rfl) (fun _ _ _ h => h) (Or.inl ⟨by rfl, ?ha4⟩) (by assumption) ?ra4
  case ha4 => (intro w0 hSw; (try dsimp only at hSw); go_simp; try (with_reducible rfl))
  simp only [Act.put, List.setIfInBounds_toArray, List.set_cons_zero, List.set_cons_succ]
  refine wpAnyH_take (i := 5) (oi := { dst := some 12, op := Op.move (Operand.tmp 0), type := 24, pos := "node.go:74", after := #[], guard := none }) (v := ?va5) rfl (by kernel_rfl) (by kernel_rfl) (by kernel_rfl) (fun _ _ _ h => h) (Or.inl ⟨by rfl, ?ha5⟩) (by assumption) ?ra5
  case ha5 => (intro w0 hSw; (try dsimp only at hSw); go_simp; try (with_reducible rfl))
  simp only [Act.put, List.setIfInBounds_toArray, List.set_cons_zero, List.set_cons_succ]
  refine wpAnyH_take (i := 6) (oi := { dst := some 13, op := Op.nilCheck (Operand.tmp 12), type := 0, pos := "node.go:74", after := #[{ on := 5, ground := Ground.data }], guard := none }) (v := ?va6) rfl (by kernel_rfl) (by kernel_rfl) (by kernel_rfl) (fun _ _ _ h => h) (Or.inl ⟨by rfl, ?ha6⟩) (by assumption) ?ra6
  case ha6 => (intro w0 hSw; (try dsimp only at hSw); go_simp; try (with_reducible rfl))
  simp only [Act.put, List.setIfInBounds_toArray, List.set_cons_zero, List.set_cons_succ]
  refine wpAnyH_take (i := 7) (oi := { dst := some 14, op := Op.fieldAddr 64 (Operand.tmp 13) 5, type := 0, pos := "node.go:74", after := #[{ on := 6, ground := Ground.data }], guard := none }) (v := ?va7) rfl (by kernel_rfl) (by kernel_rfl) (by kernel_rfl) (fun _ _ _ h => h) (Or.inl ⟨by rfl, ?ha7⟩) (by assumption) ?ra7
  case ha7 => (intro w0 hSw; (try dsimp only at hSw); go_simp; try (with_reducible rfl))
  simp only [Act.put, List.setIfInBounds_toArray, List.set_cons_zero, List.set_cons_succ]
  refine wpAnyH_take (i := 8) (oi := { dst := some 15, op := Op.load 3 (Operand.tmp 14), type := 3, pos := "node.go:74", after := #[{ on := 7, ground := Ground.data }], guard := none }) (v := ?va8) rfl (by kernel_rfl) (by kernel_rfl) (by kernel_rfl) (fun _ _ _ h => h) (Or.inl ⟨by rfl, ?ha8⟩) (by assumption) ?ra8
  case ha8 => (intro w0 hSw; (try dsimp only at hSw); go_simp; try (with_reducible rfl))
  simp only [Act.put, List.setIfInBounds_toArray, List.set_cons_zero, List.set_cons_succ]
  refine wpAnyH_take (i := 9) (oi := { dst := some 16, op := Op.build 64 #[(0, Operand.tmp 11), (5, Operand.tmp 15)], type := 64, pos := "node.go:74", after := #[{ on := 4, ground := Ground.data }, { on := 8, ground := Ground.data }], guard := none }) (v := ?va9) rfl (by kernel_rfl) (by kernel_rfl) (by kernel_rfl) (fun _ _ _ h => h) (Or.inl ⟨by rfl, ?ha9⟩) (by assumption) ?ra9
  case ha9 => (intro w0 hSw; (try dsimp only at hSw); go_simp; try (with_reducible rfl))
  simp only [Act.put, List.setIfInBounds_toArray, List.set_cons_zero, List.set_cons_succ]
  refine wpAnyH_take (i := 10) (oi := { dst := some 17, op := Op.nilCheck (Operand.tmp 7), type := 0, pos := "node.go:74", after := #[{ on := 0, ground := Ground.data }, { on := 0, ground := Ground.phase }, { on := 1, ground := Ground.phase }, { on := 2, ground := Ground.phase }, { on := 3, ground := Ground.phase }, { on := 4, ground := Ground.phase }, { on := 5, ground := Ground.phase }, { on := 6, ground := Ground.phase }, { on := 7, ground := Ground.phase }, { on := 8, ground := Ground.phase }, { on := 9, ground := Ground.phase }], guard := none }) (v := ?va10) rfl (by kernel_rfl) (by kernel_rfl) (by kernel_rfl) (fun _ _ _ h => h) (Or.inl ⟨by rfl, ?ha10⟩) (by assumption) ?ra10
  case ha10 => (intro w0 hSw; (try dsimp only at hSw); go_simp; try (with_reducible rfl))
  simp only [Act.put, List.setIfInBounds_toArray, List.set_cons_zero, List.set_cons_succ]
  refine wpAnyH_ready (rs := [11]) (by kernel_rfl) (by simp) ?_
  refine AllReadyH.cons rfl (fun K0 hK0 => ?_) AllReadyH.nil
  go_simp
  refine hK0.out _ _ ?_ (fun hHeld => ?_)
  · rw [← HW3.out]; exact ⟨z0, z5⟩
  clear hK0 K0
  refine wpAnyH_done (by kernel_rfl) ?_ _
  rw [← HW3.out]
  clear hHeld t0 t1 t2 t3 t4 t5 tf z0 z5
  go_wp2
  go_loopw [20] (fun iv wr => ∃ i : Nat, iv = .int .i64 i ∧ i ≤ cs.length ∧ Hid (AnewO W t wd x cs w2 wr i) ∧ Hid (∀ i (hi : i < cs.length), wr.cell? ⟨g, i, none⟩ = some (.string (cs[i]).1))) (fun iv _ => cs.length - (intOf iv).toNat)
  case atStart => exact ⟨0, rfl, Nat.zero_le _, H0, HR3⟩
  case round =>
    obtain ⟨i, rfl, hi, HA, HR⟩ := hrel
    clear H0 HR3
    by_cases hlt : i < cs.length
    · obtain ⟨bs', ms', x', tri, hlk, sti, fti, szi⟩ := HA.out
      have c0 := HR.out i hlt
      have hwf := hangs_wf dC_zero (cs.take i) [] (WF.nil _) (by simpa using hnd.sublist (List.take_sublist i cs))
      have hcd := hangs_codes dC_zero (cs.take i) [] (WF.nil _) (by simpa using hnd.sublist (List.take_sublist i cs))
      have hlen : (hangs dC [] (cs.take i)).length < 1099511627776 := by rw [hwf.2.2]; simp; omega
      have hfr : ∀ (j : Nat) nd, (hangs dC [] (cs.take i))[j]? = some nd → nd.code ≠ cs[i] := fun j nd hj e => by
        have h1 : nd.code ∈ (hangs dC [] (cs.take i)).map Nd.code := List.mem_map_of_mem (List.mem_of_getElem? hj)
        rw [hcd, e] at h1
        simp at h1
        obtain ⟨q, hq, he⟩ := List.getElem_of_mem h1
        rw [List.getElem_take] at he
        have hq' : q < i := by simp at hq; omega
        have := (List.getElem_inj hnd).1 he
        omega
      have htab : Tab wr := fun j hj => cell_sty sti (by omega) (HT.out.2 j hj)
      have hr := reach_any cs[i] wr tri htab (by have := sti.size; omega)
      have htk : cs.take (i + 1) = cs.take i ++ [cs[i]] := List.take_succ_eq_append_getElem hlt
      have HH := Hid.mk (fun (w4 : World) (b4 : Below wr.heap.size wr w4) (l : Value) (d k : Nat) (hw : WayO (hangs dC [] (cs.take i)) bs' cs[i] l d k) => hang_any cs[i] w4 (tri.below b4) hfr hlen hw)
      have HN : Hid (∀ w4 w5, Below wr.heap.size wr w4 → HangTo w4 w5 t wd (TreeMath.hang dC (hangs dC [] (cs.take i)) cs[i]) bs' ms' x' → AnewO W t wd x cs w2 w5 (i + 1) ∧ ∀ i (hi : i < cs.length), w5.cell? ⟨g, i, none⟩ = some (.string (cs[i]).1)) := fun w4 w5 b4 hh => by
        obtain ⟨⟨bs2, ms2, x2, h1, -, -, h4, h5⟩, h6⟩ := hh
        have s4 : Stay (fun k => k = t) W w4 := sti.trans (Stay.below b4)
        refine ⟨⟨bs2, ms2, x2, by rw [htk, hangs_snoc]; exact h1, h4.trans hlk, s4.andThen h6 (fun k hk hF => ?_), fun k hk => ?_, ?_⟩, fun j hj => ?_⟩
        · rcases fti k hF with e | e
          · exact e
          · have := b2.size; omega
        · rcases h5 k hk with e | e
          · exact fti k e
          · right; have := b4.size; omega
        · have := b4.size; have := h6.size; omega
        · refine cell_sty h6 (fun hF => ?_) (cell_lat b4 (HR.out j hj))
          rcases fti g hF with e | e
          · exact hgt e
          · omega
      generalize hcc : (cs[i]).1 = CC at *
      clear tri hlk sti fti szi hwf hcd hlen hfr htab htk HA hcc
      go_wp2_with fail
      refine hr.mono ?_
      rintro r w4 ⟨b4, l, d, k, rfl, hw⟩
      have hh := HH.out w4 b4 l d k hw
      clear hr hw HH
      go_wp2_with fail
      refine hh.mono ?_
      rintro r w5 ⟨rfl, h5⟩
      obtain ⟨ha, hrw⟩ := HN.out w4 w5 b4 h5
      have HA2 := Hid.mk ha
      have HR2 := Hid.mk hrw
      clear ha hrw h5 hh HN
      go_wp2
      exact ⟨⟨i + 1, rfl, hlt, HA2, HR2⟩, by simp only [intOf]; omega⟩
    · have hie : i = cs.length := by omega
      subst hie
      have HE : Hid (AnewO W t wd x cs W wr cs.length) := by
        obtain ⟨bs', ms', x', tri, hlk, sti, fti, szi⟩ := HA.out
        exact ⟨bs', ms', x', tri, hlk, sti, fun k hk => (fti k hk).imp id (fun e => Nat.le_trans b2.size e), sti.size⟩
      clear HA HR
      go_wp2
      go_end0
      exact ⟨rfl, HE.out⟩
end Go.Proofs.YtnnbcdfpbdmgdaaDoor
