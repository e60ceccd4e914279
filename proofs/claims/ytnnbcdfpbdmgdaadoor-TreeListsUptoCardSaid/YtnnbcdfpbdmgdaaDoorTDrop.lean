/-
  DERIVED. Drop, given what codes tells.
-/
import Derived.Test.YtnnbcdfpbdmgdaaDoorTAnew
set_option linter.unusedVariables false
set_option linter.unusedSimpArgs false
namespace Go.Proofs.YtnnbcdfpbdmgdaaDoor
open Go.RowKit Go.Maps Go.Proofs.BitMath Go.Proofs.TreeMath
/-- The codes that are there, rising. -/
def Rising {n : Nat} (cs : List (Cd n)) : Prop := cs.Pairwise (fun a b => a.1.data.toList < b.1.data.toList)
/-- What codes is to do for every tree that has a node. -/
def CodesF (n t wd : Nat) : Prop := ∀ (W : World) (T : List (Nd (Cd n))) (bs : List Nat) (ms : List (Option Nat)) (x : Num), TR W t wd T bs ms x → 0 < T.length → ∃ cs : List (Cd n), cs.Perm (lives T) ∧ Rising cs ∧ Calls Tryd.prog 54 #[.pointer (some ⟨t, 0, none⟩)] W (CodesO W cs)
/-- What Drop answers. -/
def DropO {n : Nat} (W : World) (t wd : Nat) (T : List (Nd (Cd n))) (bs : List Nat) (ms : List (Option Nat)) (x : Num) (s : ByteArray) (r : Ending) (W' : World) : Prop :=
  ((∀ c ∈ lives T, c.1 ≠ s) ∧ r = .returned (.bool false) ∧ Moved W W' t wd T bs ms x) ∨
  ∃ j nd, T[j]? = some nd ∧ nd.code.1 = s ∧ nd.live = true ∧ r = .returned (.bool true) ∧
    ((x.dead ≤ x.live + 14 ∧ Moved W W' t wd (setLive T j false) bs ms x) ∨ (x.live + 14 < x.dead ∧ ∃ cs : List (Cd n), cs.Perm (lives (setLive T j false)) ∧ Rising cs ∧ Moved W W' t wd (hangs dC [] cs) bs ms x))
set_option maxHeartbeats 4000000 in
set_option maxRecDepth 100000 in
theorem drop_any {n t wd : Nat} {T : List (Nd (Cd n))} {bs : List Nat} {ms : List (Option Nat)} {x : Num} (s : ByteArray) (W : World) (h : TR W t wd T bs ms x) (ht : Tab W) (htp : 0 < t) (hcodes : CodesF n t wd) :
    Calls Tryd.prog 14 #[.pointer (some ⟨t, 0, none⟩), .string s] W (DropO W t wd T bs ms x s) := by
  have htl : t < W.heap.size := h.lt (.inl rfl)
  have hf := find_any s W h ht (by omega)
  have HT := Hid.mk (And.intro h ht)
  clear h ht
  go_enter Tryd.func14, Tryd.ntmps14
  go_wp2_with fail
  refine hf.mono ?_
  rintro r w3 ⟨b3, o, rfl, ho⟩
  clear hf
  rcases ho with ⟨rfl, hno⟩ | ⟨j, nd, rfl, hj, hc, hlv⟩
  · have e1 : ptr bs none = .pointer none := rfl
    rw [e1]
    have HM := Hid.mk (Moved.same HT.out.1 b3)
    have HN := Hid.mk hno
    clear hno
    go_wp2
    go_ret
    exact .inl ⟨HN.out, rfl, HM.out⟩
  · have tr3 := HT.out.1.below b3
    obtain ⟨b, m, hbb, hmm, hgd, q0, q1, q2, qf, hbl⟩ := tr3.at_ hj
    have e1 : ptr bs (some j) = .pointer (some ⟨b, 0, none⟩) := by show Value.pointer (some ⟨bs.getD j 0, 0, none⟩) = _; rw [hgd]
    rw [e1]
    have HJ := Hid.mk (And.intro hj (And.intro hc hlv))
    obtain ⟨t0, t1, t2, t3, t4, t5⟩ := tr3.cell
    have tf := tr3.frz
    have htn := tr3.tn (List.mem_of_getElem? hbb)
    have hbt : b ≠ t := htn.1
    have htb : t ≠ b := fun e => htn.1 e.symm
    have hll := lives_len T j nd false hj
    rw [hlv] at hll
    simp only [if_true, if_false, Bool.false_eq_true] at hll
    have hal := tr3.all
    have hlv2 := tr3.live
    have hsm := tr3.small
    have hxs : x.live ≤ 1099511627776 := by omega
    have hxd : x.dead ≤ 1099511627776 := by omega
    obtain ⟨lv, hlvd⟩ : ∃ lv, x.live = lv + 1 := ⟨x.live - 1, by omega⟩
    obtain ⟨w6, hw6⟩ : ∃ w6, w6 = ((w3.setCell ⟨b, 1, none⟩ (.bool false)).setCell ⟨t, 2, none⟩ (.int .i64 lv)).setCell ⟨t, 3, none⟩ (.int .i64 ((x.dead : Int) + 1)) := ⟨_, rfl⟩
    have n0 := tr3.node j b nd m hj hbb hmm
    have n1 : (w3.setCell ⟨b, 1, none⟩ (.bool false)).heap[b]? = some (.cells #[.string nd.code.1, .bool false, .map m] 73 (0, 0)) := heap_setCell_same w3 b 1 _ _ _ n0
    have s1 : Stay (fun k => k = b) w3 (w3.setCell ⟨b, 1, none⟩ (.bool false)) := by refine Stay.setCell (Stay.refl _ w3) (p := ⟨b, 1, none⟩) (fun _ => ?_) _; rfl
    have s2 : Stay (fun k => k = t) (w3.setCell ⟨b, 1, none⟩ (.bool false)) w6 := by
      rw [hw6]
      refine Stay.setCell (Stay.setCell (Stay.refl _ _) (p := ⟨t, 2, none⟩) (fun _ => ?_) _) (p := ⟨t, 3, none⟩) (fun _ => ?_) _ <;> rfl
    have htl3 : t < w3.heap.size := tr3.lt (.inl rfl)
    have m0 : (w3.setCell ⟨b, 1, none⟩ (.bool false)).heap[t]? = _ := (s1.block t htl3 htb).trans tr3.tree
    have m1 : ((w3.setCell ⟨b, 1, none⟩ (.bool false)).setCell ⟨t, 2, none⟩ (.int .i64 lv)).heap[t]? = some (.cells #[.int .i64 wd, ptr bs (if T.length = 0 then none else some 0), .int .i64 lv, .int .i64 x.dead, .int .i64 x.dep, .int .i64 x.looked] 64 (0, 0)) := heap_setCell_same _ t 2 _ _ _ m0
    have m2 : w6.heap[t]? = some (.cells #[.int .i64 wd, ptr bs (if T.length = 0 then none else some 0), .int .i64 lv, .int .i64 ((x.dead : Int) + 1), .int .i64 x.dep, .int .i64 x.looked] 64 (0, 0)) := by rw [hw6]; exact heap_setCell_same _ t 3 _ _ _ m1
    have sA : Stay (fun k => k = t ∨ k = b) w3 w6 := (s1.mono (fun k _ hk => .inr hk)).andThen s2 (fun i _ hi => .inl hi)
    have tr6 := tr3.relive hj hbb hmm false lv (x.dead + 1) (by omega) (by omega) sA (by rw [m2]; simp) ((s2.block b (by have := s1.size; omega) hbt).trans n1)
    have sF : Stay (TFoot t bs ms) W w6 := (Stay.below b3).trans (sA.mono (fun k _ hk => by
      rcases hk with hk | hk
      · exact .inl hk
      · rw [hk]; exact .inr (.inl (List.mem_of_getElem? hbb))))
    have tab6 : Tab w6.drew := fun i hi => by
      refine (cell_sty sA.drew (g := 0) ?_ (cell_lat b3 (HT.out.2 i hi)))
      rintro (e | e)
      · omega
      · rw [← e, (show w3.heap[0]? = W.heap[0]? from b3.block 0 (by omega))] at n0
        have hz := HT.out.2 0 (by omega)
        unfold World.cell? at hz
        rw [n0] at hz
        simp at hz
    have tr6d := tr6.below (Below.refl _ w6).drew
    have HM : Hid (Moved W w6.drew t wd (setLive T j false) bs ms x) := ⟨⟨bs, ms, _, tr6d, rfl, fun k hk => .inl hk⟩, sF.drew⟩
    have z2 : w6.cell? ⟨t, 2, none⟩ = some (.int .i64 lv) := by unfold World.cell?; rw [m2]; rfl
    have z3 : w6.cell? ⟨t, 3, none⟩ = some (.int .i64 ((x.dead : Int) + 1)) := by unfold World.cell?; rw [m2]; rfl
    have hTl : 0 < (setLive T j false).length := by rw [setLive_len]; have := (List.getElem?_eq_some_iff.1 hj).1; omega
    obtain ⟨cs, hcp, hcr, hcc⟩ := hcodes w6.drew _ bs ms _ tr6d hTl
    have hnd : cs.Nodup := hcp.nodup_iff.2 tr6d.wf.lives_nodup
    have hcl : cs.length ≤ (setLive T j false).length := by
      rw [hcp.length_eq]
      unfold lives
      rw [List.length_map]
      exact List.length_filter_le _ _
    have han := anew_any w6.drew tr6d tab6 htp cs hnd hcl hcc
    have HA : Hid (∀ w', AnewO w6.drew t wd ⟨lv, x.dead + 1, x.dep, x.looked⟩ cs w6.drew w' cs.length → Moved W w' t wd (hangs dC [] cs) bs ms x) := fun w' ha => by
      obtain ⟨bs', ms', x', h1, h2, h3, h4, -⟩ := ha
      rw [List.take_length] at h1
      refine ⟨⟨bs', ms', x', h1, h2, fun k hk => ?_⟩, sF.drew.andThen h3 (fun k _ hk => .inl hk)⟩
      rcases h4 k hk with e | e
      · exact .inl (.inl e)
      · right; have := sF.size; exact Nat.le_trans this e
    have HC := Hid.mk (And.intro hcp hcr)
    have HW6 := Hid.mk hw6
    have hdc : (x.live : Int) - 1 = (lv : Int) := by omega
    have HLV := Hid.mk hlvd
    have hlb : lv ≤ 1099511627776 := by omega
    clear e1 hj hc hlv tr3 q0 q2 hbb hmm hgd hll hal hlv2 htn t0 t1 t4 t5 hlvd n0 n1 s1 s2 m0 m1 m2 sA tr6 sF tab6 tr6d hTl hcp hcr hcc hnd hcl hw6 hcodes hsm
    go_wp2_with fail
    rw [← HW6.out]
    refine wp_region_held_drew (S := fun w' => w'.cell? ⟨t, 2, none⟩ = some (.int .i64 lv) ∧ w'.cell? ⟨t, 3, none⟩ = some (.int .i64 ((x.dead : Int) + 1))) (by kernel_rfl) ?_ (fun hHeld => ?_)
    · exact ⟨z2, z3⟩
    have hw16 : IntKind.i64.wrap ((lv : Int) + 16) = (lv : Int) + 16 := by rw [IntKind.wrap_i64]; omega
    by_cases hgo : (lv : Int) + 16 < (x.dead : Int) + 1
    · have hg2 : x.live + 14 < x.dead := by have := HLV.out; omega
      refine wpAnyH_take (i := 0) (oi := { dst := some 28, op := Op.move (Operand.tmp 0), type := 24, pos := "bktree.go:58", after := #[], guard := none }) (v := ?va0) rfl (by kernel_rfl) (by kernel_rfl) (by kernel_rfl) (fun _ _ _ h => h) (Or.inl ⟨by rfl, ?ha0⟩) (by assumption) ?ra0
      case ha0 => (intro w0 hSw; (try dsimp only at hSw); go_simp; try (with_reducible rfl))
      simp only [Act.put, List.setIfInBounds_toArray, List.set_cons_zero, List.set_cons_succ]
      refine wpAnyH_take (i := 1) (oi := { dst := some 29, op := Op.nilCheck (Operand.tmp 28), type := 0, pos := "bktree.go:58", after := #[{ on := 0, ground := Ground.data }], guard := none }) (v := ?va1) rfl (by kernel_rfl) (by kernel_rfl) (by kernel_rfl) (fun _ _ _ h => h) (Or.inl ⟨by rfl, ?ha1⟩) (by assumption) ?ra1
      case ha1 => (intro w0 hSw; (try dsimp only at hSw); go_simp; try (with_reducible rfl))
      simp only [Act.put, List.setIfInBounds_toArray, List.set_cons_zero, List.set_cons_succ]
      refine wpAnyH_take (i := 2) (oi := { dst := some 30, op := Op.fieldAddr 64 (Operand.tmp 29) 3, type := 0, pos := "bktree.go:58", after := #[{ on := 1, ground := Ground.data }], guard := none }) (v := ?va2) rfl (by kernel_rfl) (by kernel_rfl) (by kernel_rfl) (fun _ _ _ h => h) (Or.inl ⟨by rfl, ?ha2⟩) (by assumption) ?ra2
      case ha2 => (intro w0 hSw; (try dsimp only at hSw); go_simp; try (with_reducible rfl))
      simp only [Act.put, List.setIfInBounds_toArray, List.set_cons_zero, List.set_cons_succ]
      refine wpAnyH_take (i := 3) (oi := { dst := some 31, op := Op.load 3 (Operand.tmp 30), type := 3, pos := "bktree.go:58", after := #[{ on := 2, ground := Ground.data }], guard := none }) (v := ?va3) rfl (by kernel_rfl) (by kernel_rfl) (by kernel_rfl) (fun _ _ _ h => h) (Or.inl ⟨by rfl, ?ha3⟩) (by assumption) ?ra3
      case ha3 => (intro w0 hSw; (try dsimp only at hSw); go_simp; try (with_reducible rfl))
      simp only [Act.put, List.setIfInBounds_toArray, List.set_cons_zero, List.set_cons_succ]
      refine wpAnyH_take (i := 4) (oi := { dst := some 32, op := Op.move (Operand.tmp 0), type := 24, pos := "bktree.go:58", after := #[], guard := none }) (v := ?va4) rfl (by kernel_rfl) (by kernel_rfl) (by kernel_rfl) (fun _ _ _ h => h) (Or.inl ⟨by rfl, ?ha4⟩) (by assumption) ?ra4
      case ha4 => (intro w0 hSw; (try dsimp only at hSw); go_simp; try (with_reducible rfl))
      simp only [Act.put, List.setIfInBounds_toArray, List.set_cons_zero, List.set_cons_succ]
      refine wpAnyH_take (i := 5) (oi := { dst := some 33, op := Op.nilCheck (Operand.tmp 32), type := 0, pos := "bktree.go:58", after := #[{ on := 4, ground := Ground.data }], guard := none }) (v := ?va5) rfl (by kernel_rfl) (by kernel_rfl) (by kernel_rfl) (fun _ _ _ h => h) (Or.inl ⟨by rfl, ?ha5⟩) (by assumption) ?ra5
      case ha5 => (intro w0 hSw; (try dsimp only at hSw); go_simp; try (with_reducible rfl))
      simp only [Act.put, List.setIfInBounds_toArray, List.set_cons_zero, List.set_cons_succ]
      refine wpAnyH_take (i := 6) (oi := { dst := some 34, op := Op.fieldAddr 64 (Operand.tmp 33) 2, type := 0, pos := "bktree.go:58", after := #[{ on := 5, ground := Ground.data }], guard := none }) (v := ?va6) rfl (by kernel_rfl) (by kernel_rfl) (by kernel_rfl) (fun _ _ _ h => h) (Or.inl ⟨by rfl, ?ha6⟩) (by assumption) ?ra6
      case ha6 => (intro w0 hSw; (try dsimp only at hSw); go_simp; try (with_reducible rfl))
      simp only [Act.put, List.setIfInBounds_toArray, List.set_cons_zero, List.set_cons_succ]
      refine wpAnyH_take (i := 7) (oi := { dst := some 35, op := Op.load 3 (Operand.tmp 34), type := 3, pos := "bktree.go:58", after := #[{ on := 6, ground := Ground.data }], guard := none }) (v := ?va7) rfl (by kernel_rfl) (by kernel_rfl) (by kernel_rfl) (fun _ _ _ h => h) (Or.inl ⟨by rfl, ?ha7⟩) (by assumption) ?ra7
      case ha7 => (intro w0 hSw; (try dsimp only at hSw); go_simp; try (with_reducible rfl))
      simp only [Act.put, List.setIfInBounds_toArray, List.set_cons_zero, List.set_cons_succ]
      refine wpAnyH_take (i := 8) (oi := { dst := some 36, op := Op.binOp BinOp.add 3 (Operand.tmp 35) (Operand.const (Value.int IntKind.i64 16)) 3, type := 3, pos := "bktree.go:58", after := #[{ on := 7, ground := Ground.data }], guard := none }) (v := ?va8) rfl (by kernel_rfl) (by kernel_rfl) (by kernel_rfl) (fun _ _ _ h => h) (Or.inl ⟨by rfl, ?ha8⟩) (by assumption) ?ra8
      case ha8 => (intro w0 hSw; (try dsimp only at hSw); go_simp; try (with_reducible rfl))
      simp only [Act.put, List.setIfInBounds_toArray, List.set_cons_zero, List.set_cons_succ]
      refine wpAnyH_take (i := 9) (oi := { dst := some 37, op := Op.binOp BinOp.gtr 3 (Operand.tmp 31) (Operand.tmp 36) 3, type := 4, pos := "bktree.go:58", after := #[{ on := 3, ground := Ground.data }, { on := 8, ground := Ground.data }], guard := none }) (v := ?va9) rfl (by kernel_rfl) (by kernel_rfl) (by kernel_rfl) (fun _ _ _ h => h) (Or.inl ⟨by rfl, ?ha9⟩) (by assumption) ?ra9
      case ha9 => (intro w0 hSw; (try dsimp only at hSw); go_simp; try (with_reducible rfl))
      simp only [Act.put, List.setIfInBounds_toArray, List.set_cons_zero, List.set_cons_succ]
      refine wpAnyH_done (by kernel_rfl) ?_ _
      clear hHeld
      go_wp2_with fail
      refine han.mono ?_
      rintro r w7 ⟨rfl, ha⟩
      have HM7 := Hid.mk (HA.out w7 ha)
      clear ha han
      go_wp2
      go_ret
      exact .inr ⟨j, nd, HJ.out.1, HJ.out.2.1, HJ.out.2.2, rfl, .inr ⟨hg2, cs, HC.out.1, HC.out.2, HM7.out⟩⟩
    · have hg2 : x.dead ≤ x.live + 14 := by have := HLV.out; omega
      have hgo2 : (x.dead : Int) + 1 ≤ (lv : Int) + 16 := by omega
      refine wpAnyH_take (i := 0) (oi := { dst := some 28, op := Op.move (Operand.tmp 0), type := 24, pos := "bktree.go:58", after := #[], guard := none }) (v := ?vb0) rfl (by kernel_rfl) (by kernel_rfl) (by kernel_rfl) (fun _ _ _ h => h) (Or.inl ⟨by rfl, ?hb0⟩) (by assumption) ?rb0
      case hb0 => (intro w0 hSw; (try dsimp only at hSw); go_simp; try (with_reducible rfl))
      simp only [Act.put, List.setIfInBounds_toArray, List.set_cons_zero, List.set_cons_succ]
      refine wpAnyH_take (i := 1) (oi := { dst := some 29, op := Op.nilCheck (Operand.tmp 28), type := 0, pos := "bktree.go:58", after := #[{ on := 0, ground := Ground.data }], guard := none }) (v := ?vb1) rfl (by kernel_rfl) (by kernel_rfl) (by kernel_rfl) (fun _ _ _ h => h) (Or.inl ⟨by rfl, ?hb1⟩) (by assumption) ?rb1
      case hb1 => (intro w0 hSw; (try dsimp only at hSw); go_simp; try (with_reducible rfl))
      simp only [Act.put, List.setIfInBounds_toArray, List.set_cons_zero, List.set_cons_succ]
      refine wpAnyH_take (i := 2) (oi := { dst := some 30, op := Op.fieldAddr 64 (Operand.tmp 29) 3, type := 0, pos := "bktree.go:58", after := #[{ on := 1, ground := Ground.data }], guard := none }) (v := ?vb2) rfl (by kernel_rfl) (by kernel_rfl) (by kernel_rfl) (fun _ _ _ h => h) (Or.inl ⟨by rfl, ?hb2⟩) (by assumption) ?rb2
      case hb2 => (intro w0 hSw; (try dsimp only at hSw); go_simp; try (with_reducible rfl))
      simp only [Act.put, List.setIfInBounds_toArray, List.set_cons_zero, List.set_cons_succ]
      refine wpAnyH_take (i := 3) (oi := { dst := some 31, op := Op.load 3 (Operand.tmp 30), type := 3, pos := "bktree.go:58", after := #[{ on := 2, ground := Ground.data }], guard := none }) (v := ?vb3) rfl (by kernel_rfl) (by kernel_rfl) (by kernel_rfl) (fun _ _ _ h => h) (Or.inl ⟨by rfl, ?hb3⟩) (by assumption) ?rb3
      case hb3 => (intro w0 hSw; (try dsimp only at hSw); go_simp; try (with_reducible rfl))
      simp only [Act.put, List.setIfInBounds_toArray, List.set_cons_zero, List.set_cons_succ]
      refine wpAnyH_take (i := 4) (oi := { dst := some 32, op := Op.move (Operand.tmp 0), type := 24, pos := "bktree.go:58", after := #[], guard := none }) (v := ?vb4) rfl (by kernel_rfl) (by kernel_rfl) (by kernel_rfl) (fun _ _ _ h => h) (Or.inl ⟨by rfl, ?hb4⟩) (by assumption) ?rb4
      case hb4 => (intro w0 hSw; (try dsimp only at hSw); go_simp; try (with_reducible rfl))
      simp only [Act.put, List.setIfInBounds_toArray, List.set_cons_zero, List.set_cons_succ]
      refine wpAnyH_take (i := 5) (oi := { dst := some 33, op := Op.nilCheck (Operand.tmp 32), type := 0, pos := "bktree.go:58", after := #[{ on := 4, ground := Ground.data }], guard := none }) (v := ?vb5) rfl (by kernel_rfl) (by kernel_rfl) (by kernel_rfl) (fun _ _ _ h => h) (Or.inl ⟨by rfl, ?hb5⟩) (by assumption) ?rb5
      case hb5 => (intro w0 hSw; (try dsimp only at hSw); go_simp; try (with_reducible rfl))
      simp only [Act.put, List.setIfInBounds_toArray, List.set_cons_zero, List.set_cons_succ]
      refine wpAnyH_take (i := 6) (oi := { dst := some 34, op := Op.fieldAddr 64 (Operand.tmp 33) 2, type := 0, pos := "bktree.go:58", after := #[{ on := 5, ground := Ground.data }], guard := none }) (v := ?vb6) rfl (by kernel_rfl) (by kernel_rfl) (by kernel_rfl) (fun _ _ _ h => h) (Or.inl ⟨by rfl, ?hb6⟩) (by assumption) ?rb6
      case hb6 => (intro w0 hSw; (try dsimp only at hSw); go_simp; try (with_reducible rfl))
      simp only [Act.put, List.setIfInBounds_toArray, List.set_cons_zero, List.set_cons_succ]
      refine wpAnyH_take (i := 7) (oi := { dst := some 35, op := Op.load 3 (Operand.tmp 34), type := 3, pos := "bktree.go:58", after := #[{ on := 6, ground := Ground.data }], guard := none }) (v := ?vb7) rfl (by kernel_rfl) (by kernel_rfl) (by kernel_rfl) (fun _ _ _ h => h) (Or.inl ⟨by rfl, ?hb7⟩) (by assumption) ?rb7
      case hb7 => (intro w0 hSw; (try dsimp only at hSw); go_simp; try (with_reducible rfl))
      simp only [Act.put, List.setIfInBounds_toArray, List.set_cons_zero, List.set_cons_succ]
      refine wpAnyH_take (i := 8) (oi := { dst := some 36, op := Op.binOp BinOp.add 3 (Operand.tmp 35) (Operand.const (Value.int IntKind.i64 16)) 3, type := 3, pos := "bktree.go:58", after := #[{ on := 7, ground := Ground.data }], guard := none }) (v := ?vb8) rfl (by kernel_rfl) (by kernel_rfl) (by kernel_rfl) (fun _ _ _ h => h) (Or.inl ⟨by rfl, ?hb8⟩) (by assumption) ?rb8
      case hb8 => (intro w0 hSw; (try dsimp only at hSw); go_simp; try (with_reducible rfl))
      simp only [Act.put, List.setIfInBounds_toArray, List.set_cons_zero, List.set_cons_succ]
      refine wpAnyH_take (i := 9) (oi := { dst := some 37, op := Op.binOp BinOp.gtr 3 (Operand.tmp 31) (Operand.tmp 36) 3, type := 4, pos := "bktree.go:58", after := #[{ on := 3, ground := Ground.data }, { on := 8, ground := Ground.data }], guard := none }) (v := ?vb9) rfl (by kernel_rfl) (by kernel_rfl) (by kernel_rfl) (fun _ _ _ h => h) (Or.inl ⟨by rfl, ?hb9⟩) (by assumption) ?rb9
      case hb9 => (intro w0 hSw; (try dsimp only at hSw); go_simp; try (with_reducible rfl))
      simp only [Act.put, List.setIfInBounds_toArray, List.set_cons_zero, List.set_cons_succ]
      refine wpAnyH_done (by kernel_rfl) ?_ _
      clear hHeld
      go_wp2
      go_ret
      exact .inr ⟨j, nd, HJ.out.1, HJ.out.2.1, HJ.out.2.2, rfl, .inl ⟨hg2, HM.out⟩⟩
end Go.Proofs.YtnnbcdfpbdmgdaaDoor
