/-
  DERIVED. BLs2, BListsRow, as one text.
-/
import Derived.Test.YtjdpolhjbkpnlaaGreatDoorLzAY
import Derived.Deep.RegionHeldLaw
import Derived.Deep.RegionHeld
import Derived.Test.YtjdpolhjbkpnlaaGreatDoorLzAA
import Derived.Test.YtjdpolhjbkpnlaaGreatDoorLzAW
import Derived.ChangeMaps5
import Derived.ChangeSlices
import Derived.Deep.DeepHandedRow
import Derived.JoinedCond
set_option linter.unusedVariables false
set_option linter.unusedSimpArgs false
namespace Go.Proofs.YtjdpolhjbkpnlaaGreatDoor.Dx
open Go.RowKit Go.Proofs.SealMath
open Go.Proofs.YtjdpolhjbkpnlaaGreatDoor.Rb
open Go.Proofs.YtjdpolhjbkpnlaaGreatDoor.Ap (row_mono' row_from LS apart_any)
def LvI (w0 : World) (fb rb : Nat) (h : Hd) (l : List En) (bl : List (List UInt8)) (ix : List En) (bv iv lv sv : Value) (u10 u11 : Value) (wr : World) : Prop :=
  ∃ (i rd : Nat) (a : Option Addr) (c : Nat) (ss : List Value) (ns : List Nat), u10 = .slice a (i * 3) c ∧ u11 = .int .i64 (i : Nat) ∧ i ≤ 5 ∧ LI w0 wr fb rb h l bl ix bv iv lv sv i rd (.slice a (i * 3) c) ss ns
set_option maxHeartbeats 16000000 in
set_option maxRecDepth 100000 in
theorem law_lists (b : ByteArray) (av : Int) (ac : ByteArray) (ai as' : Int) (ad : Bool) (am : Int) (w : World) (ht : Tab w) (hg : 0 < w.heap.size) (hb : b.size ≤ 1099511627776) :
    Calls Tryz.prog 4 #[.string b, .agg #[.int .i64 av, .string ac, .int .i64 ai, .int .i64 as', .bool ad, .int .i64 am]] w fun r w' => r = .returned (.bool true) ∧ Below w.heap.size w w' := by
  obtain ⟨W, hW⟩ : ∃ W, W = w.alloc (.cells #[.int .i64 av, .string ac, .int .i64 ai, .int .i64 as', .bool ad, .int .i64 am] 40) := ⟨_, rfl⟩
  have bW : Below w.heap.size w W := by rw [hW]; exact (Below.refl _ w).alloc (Nat.le_refl _) _
  have hX : W.heap[w.heap.size]? = some (.cells #[.int .i64 av, .string ac, .int .i64 ai, .int .i64 as', .bool ad, .int .i64 am] 40 (0, 0)) := by rw [hW]; exact heap_alloc_last w _
  have hop := two_open b W (ht.blk hg bW).1 (ht.blk hg bW).2 hb
  have HW := Hid.mk hW
  clear ht hg hb hW
  go_enter Tryz.func4, Tryz.ntmps4
  go_wp2_with fail
  rw [← HW.out]
  refine hop.mono ?_
  clear hop
  rintro r w1 ⟨a, x, rfl, b1, hop⟩
  go_wp2_with fail
  refine hop.mono ?_
  clear hop
  rintro r w2 ⟨c, y, rfl, bw2, hO⟩
  have bww := chain bW bw2 (Nat.le_refl _)
  rcases hO with ⟨rfl, rfl, rfl, rfl⟩ | ⟨fb, rb, h, l, bl, ix, bv, iv, lv, sv, rfl, rfl, rfl, rfl, hfb, hrb, F, H⟩
  · go_wp2
    go_ret
    exact ⟨rfl, bww⟩
  · have hX2 : w2.heap[w.heap.size]? = _ := (bw2.block _ (Array.getElem?_eq_some_iff.1 hX).1).trans hX
    have y0 : w2.cell? ⟨w.heap.size, 0, none⟩ = some (.int .i64 av) := by rw [cell_of_row w2 _ 0 _ _ (0, 0) hX2]; rfl
    have y1 : w2.cell? ⟨w.heap.size, 1, none⟩ = some (.string ac) := by rw [cell_of_row w2 _ 1 _ _ (0, 0) hX2]; rfl
    have y2 : w2.cell? ⟨w.heap.size, 2, none⟩ = some (.int .i64 ai) := by rw [cell_of_row w2 _ 2 _ _ (0, 0) hX2]; rfl
    have y3 : w2.cell? ⟨w.heap.size, 3, none⟩ = some (.int .i64 as') := by rw [cell_of_row w2 _ 3 _ _ (0, 0) hX2]; rfl
    have y4 : w2.cell? ⟨w.heap.size, 4, none⟩ = some (.bool ad) := by rw [cell_of_row w2 _ 4 _ _ (0, 0) hX2]; rfl
    have y5 : w2.cell? ⟨w.heap.size, 5, none⟩ = some (.int .i64 am) := by rw [cell_of_row w2 _ 5 _ _ (0, 0) hX2]; rfl
    obtain ⟨w0, hw0⟩ : ∃ w0, w0 = w2.alloc (.cells (arr30 ⟨⟨av, ac, ai, as', ad⟩, am⟩) 40) := ⟨_, rfl⟩
    have b20 : Below w2.heap.size w2 w0 := by rw [hw0]; exact (Below.refl _ w2).alloc (Nat.le_refl _) _
    have hT0 : w0.heap[w2.heap.size]? = some (.cells (arr30 ⟨⟨av, ac, ai, as', ad⟩, am⟩) 40 (0, 0)) := by rw [hw0]; exact heap_alloc_last w2 _
    have H0 := H.below b20
    have hX0 : w0.heap[w.heap.size]? = _ := (b20.block _ (Array.getElem?_eq_some_iff.1 hX2).1).trans hX2
    have L0 : LI w0 w0 fb rb h l bl ix bv iv lv sv 0 0 (.slice none 0 0) [] [] := ⟨⟨H0.p, H0.r, (Array.getElem?_eq_some_iff.1 H0.p.box).1, H0.r.lt, .refl _ _⟩, Nat.zero_le _, ⟨rfl, .inl ⟨rfl, rfl⟩⟩, LS.nil _ _, rfl, fun n hn => by cases hn⟩
    have hwx := bW.size
    have HB := Hid.mk (And.intro H0 (And.intro F (And.intro (chain bww b20 (Nat.le_refl _)) (And.intro hT0 (And.intro hX0 (And.intro (Nat.le_trans hwx hfb) (Nat.le_trans hwx hrb)))))))
    have HL := Hid.mk L0
    dsimp only [arr30] at hw0
    have Hw0 := Hid.mk hw0
    clear H F bww hX hX2 b20 hT0 H0 hX0 L0 hw0 bW b1 bw2 hfb hrb hwx
    go_wp2_with fail
    rw [← Hw0.out]
    clear y0 y1 y2 y3 y4 y5
    go_loopw [10, 11, 12, 13, 14, 15, 16, 17] (fun u10 u11 _ _ _ _ _ _ wr => LvI w0 fb rb h l bl ix bv iv lv sv u10 u11 wr) (fun _ u _ _ _ _ _ _ _ => 5 - (intOf u).toNat)
    case atStart => exact ⟨0, 0, none, 0, [], [], rfl, rfl, by omega, HL.out⟩
    case round =>
      clear HL
      obtain ⟨i, rd, oa, oc, ss, ns, rfl, rfl, hi, hI⟩ := hrel
      by_cases hlt : i < 5
      · as_aux_lemma =>
        clear hi
        have hT := hI.rr.blk HB.out.1 HB.out.2.2.2.1 (by decide) (by decide)
        have hil : i < (tq ⟨⟨av, ac, ai, as', ad⟩, am⟩).length := hlt
        have cq := fun (W : World) (hW : W.heap[w2.heap.size]? = some (.cells (arr30 ⟨⟨av, ac, ai, as', ad⟩, am⟩) 40 (0, 0))) => turn_at hW i hil
        generalize (tq ⟨⟨av, ac, ai, as', ad⟩, am⟩)[i] = q at cq
        have HC := Hid.mk cq
        have HI := Hid.mk hI
        have F := HB.out.2.1
        have hll := F.hl
        have hle := hI.le
        have hb1 : rd + 4194304 ≤ 4611686018427387904 := by omega
        have i1 : (i : Int) < 5 := by omega
        have i2 : 0 ≤ (i : Int) := by omega
        have hall := hI.rr.allP F
        have kr := hI.rr.ltr
        have kp := hI.rr.ltp
        have k0 := hI.rr.size
        clear cq hT hI hle
        go_wp2_with fail
        refine hall.mono ?_
        clear hall
        rintro r w3 ⟨v1, rfl, r1, b3⟩
        obtain ⟨M3, s3⟩ := HI.out.rr.below b3
        obtain ⟨z0, z1, z2, z3, z4, z5⟩ := HC.out w3 (M3.blk HB.out.1 HB.out.2.2.2.1 (by decide) (by decide))
        have hf := M3.findP F q (by omega)
        have k3 := s3.size
        clear b3
        go_wp2_with fail
        refine hf.mono ?_
        clear hf z0 z1 z2 z3 z4 z5
        rintro r w4 hA
        obtain ⟨v2, rfl, M4, r2, s4, t4, n4⟩ := M3.goP hA
        clear hA
        have k4 := s4.size
        obtain ⟨M4d, s4d⟩ := M4.below (b_drew w4)
        have hg := M4d.fromP F q (by omega)
        go_wp2_with fail
        refine wp_region_held_drew (S := fun w' => w'.heap[w2.heap.size]? = some (.cells (arr30 ⟨⟨av, ac, ai, as', ad⟩, am⟩) 40 (0, 0))) (by kernel_rfl) (M4d.blk HB.out.1 HB.out.2.2.2.1 (by decide) (by decide)) (fun hHeld => ?_)
        refine wpAnyH_take (i := 0) (oi := { dst := some 66, op := Op.move (Operand.tmp 5), type := 23, pos := "law.go:151", after := #[], guard := none }) (v := ?v1) rfl (by kernel_rfl) (by kernel_rfl) (by kernel_rfl) (fun _ _ _ h => h) (Or.inl ⟨by rfl, ?h1⟩) (by assumption) ?r1
        case h1 => (intro w0_ hSw; (try dsimp only at hSw); obtain ⟨z0, z1, z2, z3, z4, z5⟩ := HC.out w0_ hSw; go_simp; try (with_reducible rfl))
        simp only [Act.put, List.setIfInBounds_toArray, List.set_cons_zero, List.set_cons_succ]
        refine wpAnyH_take (i := 1) (oi := { dst := some 67, op := Op.move (Operand.tmp 9), type := 22, pos := "law.go:151", after := #[], guard := none }) (v := ?v2) rfl (by kernel_rfl) (by kernel_rfl) (by kernel_rfl) (fun _ _ _ h => h) (Or.inl ⟨by rfl, ?h2⟩) (by assumption) ?r2
        case h2 => (intro w0_ hSw; (try dsimp only at hSw); obtain ⟨z0, z1, z2, z3, z4, z5⟩ := HC.out w0_ hSw; go_simp; try (with_reducible rfl))
        simp only [Act.put, List.setIfInBounds_toArray, List.set_cons_zero, List.set_cons_succ]
        refine wpAnyH_take (i := 2) (oi := { dst := some 68, op := Op.move (Operand.tmp 11), type := 3, pos := "law.go:151", after := #[], guard := none }) (v := ?v3) rfl (by kernel_rfl) (by kernel_rfl) (by kernel_rfl) (fun _ _ _ h => h) (Or.inl ⟨by rfl, ?h3⟩) (by assumption) ?r3
        case h3 => (intro w0_ hSw; (try dsimp only at hSw); obtain ⟨z0, z1, z2, z3, z4, z5⟩ := HC.out w0_ hSw; go_simp; try (with_reducible rfl))
        simp only [Act.put, List.setIfInBounds_toArray, List.set_cons_zero, List.set_cons_succ]
        refine wpAnyH_take (i := 3) (oi := { dst := some 69, op := Op.indexAddr 22 (Operand.tmp 67) (Operand.tmp 68), type := 0, pos := "law.go:151", after := #[{ on := 1, ground := Ground.data }, { on := 2, ground := Ground.data }], guard := none }) (v := ?v4) rfl (by kernel_rfl) (by kernel_rfl) (by kernel_rfl) (fun _ _ _ h => h) (Or.inl ⟨by rfl, ?h4⟩) (by assumption) ?r4
        case h4 => (intro w0_ hSw; (try dsimp only at hSw); obtain ⟨z0, z1, z2, z3, z4, z5⟩ := HC.out w0_ hSw; go_simp; try (with_reducible rfl))
        simp only [Act.put, List.setIfInBounds_toArray, List.set_cons_zero, List.set_cons_succ]
        refine wpAnyH_take (i := 4) (oi := { dst := some 70, op := Op.fieldAddr 40 (Operand.tmp 69) 0, type := 0, pos := "law.go:151", after := #[{ on := 3, ground := Ground.data }], guard := none }) (v := ?v5) rfl (by kernel_rfl) (by kernel_rfl) (by kernel_rfl) (fun _ _ _ h => h) (Or.inl ⟨by rfl, ?h5⟩) (by assumption) ?r5
        case h5 => (intro w0_ hSw; (try dsimp only at hSw); obtain ⟨z0, z1, z2, z3, z4, z5⟩ := HC.out w0_ hSw; go_simp; try (with_reducible rfl))
        simp only [Act.put, List.setIfInBounds_toArray, List.set_cons_zero, List.set_cons_succ]
        refine wpAnyH_take (i := 5) (oi := { dst := some 71, op := Op.load 38 (Operand.tmp 70), type := 38, pos := "law.go:151", after := #[{ on := 4, ground := Ground.data }], guard := none }) (v := ?v6) rfl (by kernel_rfl) (by kernel_rfl) (by kernel_rfl) (fun _ _ _ h => h) (Or.inl ⟨by rfl, ?h6⟩) (by assumption) ?r6
        case h6 => (intro w0_ hSw; (try dsimp only at hSw); obtain ⟨z0, z1, z2, z3, z4, z5⟩ := HC.out w0_ hSw; go_simp; try (with_reducible rfl))
        simp only [Act.put, List.setIfInBounds_toArray, List.set_cons_zero, List.set_cons_succ]
        refine wpAnyH_take (i := 6) (oi := { dst := some 72, op := Op.move (Operand.tmp 9), type := 22, pos := "law.go:151", after := #[], guard := none }) (v := ?v7) rfl (by kernel_rfl) (by kernel_rfl) (by kernel_rfl) (fun _ _ _ h => h) (Or.inl ⟨by rfl, ?h7⟩) (by assumption) ?r7
        case h7 => (intro w0_ hSw; (try dsimp only at hSw); obtain ⟨z0, z1, z2, z3, z4, z5⟩ := HC.out w0_ hSw; go_simp; try (with_reducible rfl))
        simp only [Act.put, List.setIfInBounds_toArray, List.set_cons_zero, List.set_cons_succ]
        refine wpAnyH_take (i := 7) (oi := { dst := some 73, op := Op.move (Operand.tmp 11), type := 3, pos := "law.go:151", after := #[], guard := none }) (v := ?v8) rfl (by kernel_rfl) (by kernel_rfl) (by kernel_rfl) (fun _ _ _ h => h) (Or.inl ⟨by rfl, ?h8⟩) (by assumption) ?r8
        case h8 => (intro w0_ hSw; (try dsimp only at hSw); obtain ⟨z0, z1, z2, z3, z4, z5⟩ := HC.out w0_ hSw; go_simp; try (with_reducible rfl))
        simp only [Act.put, List.setIfInBounds_toArray, List.set_cons_zero, List.set_cons_succ]
        refine wpAnyH_take (i := 8) (oi := { dst := some 74, op := Op.indexAddr 22 (Operand.tmp 72) (Operand.tmp 73), type := 0, pos := "law.go:151", after := #[{ on := 6, ground := Ground.data }, { on := 7, ground := Ground.data }], guard := none }) (v := ?v9) rfl (by kernel_rfl) (by kernel_rfl) (by kernel_rfl) (fun _ _ _ h => h) (Or.inl ⟨by rfl, ?h9⟩) (by assumption) ?r9
        case h9 => (intro w0_ hSw; (try dsimp only at hSw); obtain ⟨z0, z1, z2, z3, z4, z5⟩ := HC.out w0_ hSw; go_simp; try (with_reducible rfl))
        simp only [Act.put, List.setIfInBounds_toArray, List.set_cons_zero, List.set_cons_succ]
        refine wpAnyH_take (i := 9) (oi := { dst := some 75, op := Op.fieldAddr 40 (Operand.tmp 74) 1, type := 0, pos := "law.go:151", after := #[{ on := 8, ground := Ground.data }], guard := none }) (v := ?v10) rfl (by kernel_rfl) (by kernel_rfl) (by kernel_rfl) (fun _ _ _ h => h) (Or.inl ⟨by rfl, ?h10⟩) (by assumption) ?r10
        case h10 => (intro w0_ hSw; (try dsimp only at hSw); obtain ⟨z0, z1, z2, z3, z4, z5⟩ := HC.out w0_ hSw; go_simp; try (with_reducible rfl))
        simp only [Act.put, List.setIfInBounds_toArray, List.set_cons_zero, List.set_cons_succ]
        refine wpAnyH_take (i := 10) (oi := { dst := some 76, op := Op.load 3 (Operand.tmp 75), type := 3, pos := "law.go:151", after := #[{ on := 9, ground := Ground.data }], guard := none }) (v := ?v11) rfl (by kernel_rfl) (by kernel_rfl) (by kernel_rfl) (fun _ _ _ h => h) (Or.inl ⟨by rfl, ?h11⟩) (by assumption) ?r11
        case h11 => (intro w0_ hSw; (try dsimp only at hSw); obtain ⟨z0, z1, z2, z3, z4, z5⟩ := HC.out w0_ hSw; go_simp; try (with_reducible rfl))
        simp only [Act.put, List.setIfInBounds_toArray, List.set_cons_zero, List.set_cons_succ]
        refine wpAnyH_ready (rs := [11]) (by kernel_rfl) (by simp) ?_
        refine AllReadyH.cons rfl (fun K hK => ?_) AllReadyH.nil
        go_simp
        go_wp2_with (go_at_call 16; refine hg.mono ?_; clear hg; rintro r w5 hA; obtain ⟨v3, rfl, M5, r3', s5, t5, n5⟩ := M4d.goP hA; have r3 : Rw w4.heap.size w5 v3 (gA l ix q).2 := r3'; clear hA r3')
        refine hK.out _ _ (M5.blk HB.out.1 HB.out.2.2.2.1 (by decide) (by decide)) (fun hH_ => ?_)
        clear hK K
        refine wpAnyH_take (i := 12) (oi := { dst := some 14, op := Op.assign (Operand.tmp 77), type := 34, pos := "law.go:151", after := #[{ on := 11, ground := Ground.data }, { on := 11, ground := Ground.chain }, { on := 0, ground := Ground.phase }, { on := 1, ground := Ground.phase }, { on := 2, ground := Ground.phase }, { on := 3, ground := Ground.phase }, { on := 4, ground := Ground.phase }, { on := 5, ground := Ground.phase }, { on := 6, ground := Ground.phase }, { on := 7, ground := Ground.phase }, { on := 8, ground := Ground.phase }, { on := 9, ground := Ground.phase }, { on := 10, ground := Ground.phase }, { on := 11, ground := Ground.phase }], guard := none }) (v := ?v24) rfl (by kernel_rfl) (by kernel_rfl) (by kernel_rfl) (fun _ _ _ h => h) (Or.inl ⟨by rfl, ?h24⟩) (by assumption) ?r24
        case h24 => (intro w0_ hSw; (try dsimp only at hSw); go_simp; try (with_reducible rfl))
        simp only [Act.put, List.setIfInBounds_toArray, List.set_cons_zero, List.set_cons_succ]
        refine wpAnyH_done (by kernel_rfl) ?_ _

        have k5 := s5.size
        have hra := M5.allR F
        clear hHeld hH_
        go_wp2_with fail
        refine hra.mono ?_
        clear hra
        rintro r w6 ⟨u1, rfl, x1, b6⟩
        obtain ⟨M6, s6⟩ := M5.below b6
        have k6 := s6.size
        have s46 : Stay (SS fb rb) w4 w6 := (s4d.trans s5).trans s6
        have s36 : Stay (SS fb rb) w3 w6 := s4.trans s46
        have y1 := Rw.kept r1 s36 (by omega) (by omega)
        have hsm := same_rw y1 x1 hll
        clear x1 y1 b6
        go_wp2_with fail
        refine hsm.mono ?_
        clear hsm
        rintro r w7 ⟨rfl, b7⟩
        obtain ⟨M7, s7⟩ := M6.below b7
        have k7 := s7.size
        obtain ⟨z0, z1, z2, z3, z4, z5⟩ := HC.out w7 (M7.blk HB.out.1 HB.out.2.2.2.1 (by decide) (by decide))
        have hf := M7.findR F q (by omega)
        clear b7
        go_wp2_with fail
        refine hf.mono ?_
        clear hf z0 z1 z2 z3 z4 z5
        rintro r w8 hA
        obtain ⟨u2, rfl, M8, x2, s8⟩ := M7.goR hA
        clear hA
        have k8 := s8.size
        have s48 : Stay (SS fb rb) w4 w8 := (s46.trans s7).trans s8
        have y2 := Rw.kept r2 s48 (by omega) (by omega)
        have hsm := same_rw y2 x2 n4
        clear x2 y2
        go_wp2_with fail
        refine hsm.mono ?_
        clear hsm
        rintro r w8a ⟨rfl, b8a⟩
        obtain ⟨M8a, s8a⟩ := M8.below b8a
        obtain ⟨M8d, s8d⟩ := M8a.below (b_drew w8a)
        have k8a := s8a.size
        have k8d := s8d.size
        have hg := M8d.fromR F q (by omega)
        clear b8a
        go_wp2_with fail
        refine wp_region_held_drew (S := fun w' => w'.heap[w2.heap.size]? = some (.cells (arr30 ⟨⟨av, ac, ai, as', ad⟩, am⟩) 40 (0, 0))) (by kernel_rfl) (M8d.blk HB.out.1 HB.out.2.2.2.1 (by decide) (by decide)) (fun hHeld => ?_)
        refine wpAnyH_take (i := 0) (oi := { dst := some 92, op := Op.move (Operand.tmp 14), type := 34, pos := "law.go:154", after := #[], guard := none }) (v := ?v12) rfl (by kernel_rfl) (by kernel_rfl) (by kernel_rfl) (fun _ _ _ h => h) (Or.inl ⟨by rfl, ?h12⟩) (by assumption) ?r12
        case h12 => (intro w0_ hSw; (try dsimp only at hSw); obtain ⟨z0, z1, z2, z3, z4, z5⟩ := HC.out w0_ hSw; go_simp; try (with_reducible rfl))
        simp only [Act.put, List.setIfInBounds_toArray, List.set_cons_zero, List.set_cons_succ]
        refine wpAnyH_take (i := 1) (oi := { dst := some 93, op := Op.move (Operand.tmp 7), type := 27, pos := "law.go:154", after := #[], guard := none }) (v := ?v13) rfl (by kernel_rfl) (by kernel_rfl) (by kernel_rfl) (fun _ _ _ h => h) (Or.inl ⟨by rfl, ?h13⟩) (by assumption) ?r13
        case h13 => (intro w0_ hSw; (try dsimp only at hSw); obtain ⟨z0, z1, z2, z3, z4, z5⟩ := HC.out w0_ hSw; go_simp; try (with_reducible rfl))
        simp only [Act.put, List.setIfInBounds_toArray, List.set_cons_zero, List.set_cons_succ]
        refine wpAnyH_take (i := 2) (oi := { dst := some 94, op := Op.move (Operand.tmp 9), type := 22, pos := "law.go:154", after := #[], guard := none }) (v := ?v14) rfl (by kernel_rfl) (by kernel_rfl) (by kernel_rfl) (fun _ _ _ h => h) (Or.inl ⟨by rfl, ?h14⟩) (by assumption) ?r14
        case h14 => (intro w0_ hSw; (try dsimp only at hSw); obtain ⟨z0, z1, z2, z3, z4, z5⟩ := HC.out w0_ hSw; go_simp; try (with_reducible rfl))
        simp only [Act.put, List.setIfInBounds_toArray, List.set_cons_zero, List.set_cons_succ]
        refine wpAnyH_take (i := 3) (oi := { dst := some 95, op := Op.move (Operand.tmp 11), type := 3, pos := "law.go:154", after := #[], guard := none }) (v := ?v15) rfl (by kernel_rfl) (by kernel_rfl) (by kernel_rfl) (fun _ _ _ h => h) (Or.inl ⟨by rfl, ?h15⟩) (by assumption) ?r15
        case h15 => (intro w0_ hSw; (try dsimp only at hSw); obtain ⟨z0, z1, z2, z3, z4, z5⟩ := HC.out w0_ hSw; go_simp; try (with_reducible rfl))
        simp only [Act.put, List.setIfInBounds_toArray, List.set_cons_zero, List.set_cons_succ]
        refine wpAnyH_take (i := 4) (oi := { dst := some 96, op := Op.indexAddr 22 (Operand.tmp 94) (Operand.tmp 95), type := 0, pos := "law.go:154", after := #[{ on := 2, ground := Ground.data }, { on := 3, ground := Ground.data }], guard := none }) (v := ?v16) rfl (by kernel_rfl) (by kernel_rfl) (by kernel_rfl) (fun _ _ _ h => h) (Or.inl ⟨by rfl, ?h16⟩) (by assumption) ?r16
        case h16 => (intro w0_ hSw; (try dsimp only at hSw); obtain ⟨z0, z1, z2, z3, z4, z5⟩ := HC.out w0_ hSw; go_simp; try (with_reducible rfl))
        simp only [Act.put, List.setIfInBounds_toArray, List.set_cons_zero, List.set_cons_succ]
        refine wpAnyH_take (i := 5) (oi := { dst := some 97, op := Op.fieldAddr 40 (Operand.tmp 96) 0, type := 0, pos := "law.go:154", after := #[{ on := 4, ground := Ground.data }], guard := none }) (v := ?v17) rfl (by kernel_rfl) (by kernel_rfl) (by kernel_rfl) (fun _ _ _ h => h) (Or.inl ⟨by rfl, ?h17⟩) (by assumption) ?r17
        case h17 => (intro w0_ hSw; (try dsimp only at hSw); obtain ⟨z0, z1, z2, z3, z4, z5⟩ := HC.out w0_ hSw; go_simp; try (with_reducible rfl))
        simp only [Act.put, List.setIfInBounds_toArray, List.set_cons_zero, List.set_cons_succ]
        refine wpAnyH_take (i := 6) (oi := { dst := some 98, op := Op.load 38 (Operand.tmp 97), type := 38, pos := "law.go:154", after := #[{ on := 5, ground := Ground.data }], guard := none }) (v := ?v18) rfl (by kernel_rfl) (by kernel_rfl) (by kernel_rfl) (fun _ _ _ h => h) (Or.inl ⟨by rfl, ?h18⟩) (by assumption) ?r18
        case h18 => (intro w0_ hSw; (try dsimp only at hSw); obtain ⟨z0, z1, z2, z3, z4, z5⟩ := HC.out w0_ hSw; go_simp; try (with_reducible rfl))
        simp only [Act.put, List.setIfInBounds_toArray, List.set_cons_zero, List.set_cons_succ]
        refine wpAnyH_take (i := 7) (oi := { dst := some 99, op := Op.move (Operand.tmp 9), type := 22, pos := "law.go:154", after := #[], guard := none }) (v := ?v19) rfl (by kernel_rfl) (by kernel_rfl) (by kernel_rfl) (fun _ _ _ h => h) (Or.inl ⟨by rfl, ?h19⟩) (by assumption) ?r19
        case h19 => (intro w0_ hSw; (try dsimp only at hSw); obtain ⟨z0, z1, z2, z3, z4, z5⟩ := HC.out w0_ hSw; go_simp; try (with_reducible rfl))
        simp only [Act.put, List.setIfInBounds_toArray, List.set_cons_zero, List.set_cons_succ]
        refine wpAnyH_take (i := 8) (oi := { dst := some 100, op := Op.move (Operand.tmp 11), type := 3, pos := "law.go:154", after := #[], guard := none }) (v := ?v20) rfl (by kernel_rfl) (by kernel_rfl) (by kernel_rfl) (fun _ _ _ h => h) (Or.inl ⟨by rfl, ?h20⟩) (by assumption) ?r20
        case h20 => (intro w0_ hSw; (try dsimp only at hSw); obtain ⟨z0, z1, z2, z3, z4, z5⟩ := HC.out w0_ hSw; go_simp; try (with_reducible rfl))
        simp only [Act.put, List.setIfInBounds_toArray, List.set_cons_zero, List.set_cons_succ]
        refine wpAnyH_take (i := 9) (oi := { dst := some 101, op := Op.indexAddr 22 (Operand.tmp 99) (Operand.tmp 100), type := 0, pos := "law.go:154", after := #[{ on := 7, ground := Ground.data }, { on := 8, ground := Ground.data }], guard := none }) (v := ?v21) rfl (by kernel_rfl) (by kernel_rfl) (by kernel_rfl) (fun _ _ _ h => h) (Or.inl ⟨by rfl, ?h21⟩) (by assumption) ?r21
        case h21 => (intro w0_ hSw; (try dsimp only at hSw); obtain ⟨z0, z1, z2, z3, z4, z5⟩ := HC.out w0_ hSw; go_simp; try (with_reducible rfl))
        simp only [Act.put, List.setIfInBounds_toArray, List.set_cons_zero, List.set_cons_succ]
        refine wpAnyH_take (i := 10) (oi := { dst := some 102, op := Op.fieldAddr 40 (Operand.tmp 101) 1, type := 0, pos := "law.go:154", after := #[{ on := 9, ground := Ground.data }], guard := none }) (v := ?v22) rfl (by kernel_rfl) (by kernel_rfl) (by kernel_rfl) (fun _ _ _ h => h) (Or.inl ⟨by rfl, ?h22⟩) (by assumption) ?r22
        case h22 => (intro w0_ hSw; (try dsimp only at hSw); obtain ⟨z0, z1, z2, z3, z4, z5⟩ := HC.out w0_ hSw; go_simp; try (with_reducible rfl))
        simp only [Act.put, List.setIfInBounds_toArray, List.set_cons_zero, List.set_cons_succ]
        refine wpAnyH_take (i := 11) (oi := { dst := some 103, op := Op.load 3 (Operand.tmp 102), type := 3, pos := "law.go:154", after := #[{ on := 10, ground := Ground.data }], guard := none }) (v := ?v23) rfl (by kernel_rfl) (by kernel_rfl) (by kernel_rfl) (fun _ _ _ h => h) (Or.inl ⟨by rfl, ?h23⟩) (by assumption) ?r23
        case h23 => (intro w0_ hSw; (try dsimp only at hSw); obtain ⟨z0, z1, z2, z3, z4, z5⟩ := HC.out w0_ hSw; go_simp; try (with_reducible rfl))
        simp only [Act.put, List.setIfInBounds_toArray, List.set_cons_zero, List.set_cons_succ]
        refine wpAnyH_ready (rs := [12]) (by kernel_rfl) (by simp) ?_
        refine AllReadyH.cons rfl (fun K hK => ?_) AllReadyH.nil
        go_simp
        go_wp2_with (go_at_call 18; refine hg.mono ?_; clear hg; rintro r w9 hA; obtain ⟨u3, rfl, M9, x3, s9⟩ := M8d.goR hA; clear hA; have k9 := s9.size; have s59 : Stay (SS fb rb) w5 w9 := ((((s6.trans s7).trans s8).trans s8a).trans s8d).trans s9; have y3 := Rw.kept r3 s59 (by omega) (by omega); have hsm := same_rw y3 x3 n5; clear x3 y3)
        refine hK.out _ _ (M9.blk HB.out.1 HB.out.2.2.2.1 (by decide) (by decide)) (fun hH_ => ?_)
        clear hK K
        refine wpAnyH_ready (rs := [13]) (by kernel_rfl) (by simp) ?_
        refine AllReadyH.cons rfl (fun K hK => ?_) AllReadyH.nil
        go_simp
        go_wp2_with (go_at_call 9; refine hsm.mono ?_; clear hsm; rintro r w10 ⟨rfl, b10⟩; obtain ⟨M10, s10⟩ := M9.below b10; clear b10)
        refine hK.out _ _ (M10.blk HB.out.1 HB.out.2.2.2.1 (by decide) (by decide)) (fun hH_ => ?_)
        clear hK K
        refine wpAnyH_take (i := 14) (oi := { dst := some 17, op := Op.assign (Operand.tmp 105), type := 4, pos := "law.go:154", after := #[{ on := 13, ground := Ground.data }, { on := 13, ground := Ground.chain }, { on := 0, ground := Ground.phase }, { on := 1, ground := Ground.phase }, { on := 2, ground := Ground.phase }, { on := 3, ground := Ground.phase }, { on := 4, ground := Ground.phase }, { on := 5, ground := Ground.phase }, { on := 6, ground := Ground.phase }, { on := 7, ground := Ground.phase }, { on := 8, ground := Ground.phase }, { on := 9, ground := Ground.phase }, { on := 10, ground := Ground.phase }, { on := 11, ground := Ground.phase }, { on := 12, ground := Ground.phase }, { on := 13, ground := Ground.phase }], guard := none }) (v := ?v25) rfl (by kernel_rfl) (by kernel_rfl) (by kernel_rfl) (fun _ _ _ h => h) (Or.inl ⟨by rfl, ?h25⟩) (by assumption) ?r25
        case h25 => (intro w0_ hSw; (try dsimp only at hSw); go_simp; try (with_reducible rfl))
        simp only [Act.put, List.setIfInBounds_toArray, List.set_cons_zero, List.set_cons_succ]
        refine wpAnyH_done (by kernel_rfl) ?_ _

        have s510 : Stay (SS fb rb) w5 w10 := s59.trans s10
        obtain ⟨a', c', w', hap, ss', ns', hN⟩ := LI.next HI.out HB.out.1 hlt r1 r2 r3 s3 s4 (s4d.trans s5) s510 rfl rfl (t := (fA l ix q).1 + (gA l ix q).1) (by rw [← Nat.add_assoc]; exact M10) hll n4 n5 (by omega)
        obtain ⟨x1, c1, e1, -⟩ := slice_form r1
        obtain ⟨x2, c2, e2, -⟩ := slice_form r2
        obtain ⟨x3, c3, e3, -⟩ := slice_form r3
        obtain ⟨m1, hm1⟩ : ∃ m, m = l.length := ⟨_, rfl⟩
        obtain ⟨m2, hm2⟩ : ∃ m, m = (fA l ix q).2.length := ⟨_, rfl⟩
        obtain ⟨m3, hm3⟩ : ∃ m, m = (gA l ix q).2.length := ⟨_, rfl⟩
        rw [← hm1] at e1
        rw [← hm2] at e2
        rw [← hm3] at e3
        subst e1 e2 e3
        have HA := Hid.mk hap
        have HNX := Hid.mk hN
        have hwi : wrap64 ((i : Int) + 1) = ((i + 1 : Nat) : Int) := by unfold wrap64; omega
        clear hap hN s510 M10 s10 M9 s9 M8d s8d M8a s8a M8 s8 M7 s7 M6 s6 M5 s5 M4d s4d M4 s4 M3 s3 r1 r2 r3 s59 s36 s46 s48 hHeld hH_ k0 k3 k4 k5 k6 k7 k8 k8a k8d k9 kp kr hb1 hll t4 n4 t5 n5 hm1 hm2 hm3
        go_wp2_with (first | (at_builtin; refine wpList_append_eq rfl _ _ _ _ rfl _ _ _ _ rfl rfl HA.out ?_) | go_in)
        have h3 := HNX.out
        have e3 : i * 3 + 3 = (i + 1) * 3 := by omega
        rw [e3] at h3 ⊢
        exact ⟨⟨i + 1, _, a', c', ss', ns', rfl, by push_cast; rfl, by omega, h3⟩, by simp only [intOf]; omega⟩
      · as_aux_lemma =>
        have i1 : ¬ (i : Int) < 5 := by omega
        have F := HB.out.2.1
        have hll := F.hl
        have hsl := hI.sl
        have hle := hI.le
        have hap := apart_any (.slice oa (i * 3) oc) ss ns wr (hI.ls.am hI.row) (by omega) (fun n hn => by have := hI.nb n hn; omega)
        have hb1 : rd + 8388608 ≤ 4611686018427387904 := by omega
        clear hlt hsl
        go_wp2_with fail
        refine hap.mono ?_
        clear hap
        rintro r w3 ⟨rfl, st3⟩
        have M30 := hI.rr.far HB.out.1 st3 (fun k hk => by obtain ⟨j, s, hj, hk⟩ := hk; exact (hI.ls.old hj hk).1)
        obtain ⟨M3, -⟩ := M30.below (b_drew w3)
        have hall := M3.allP F
        have kp := M3.ltp
        have kr := M3.ltr
        have k3 := M3.size
        clear hI hle st3 M30
        go_wp2_with fail
        refine wp_region_held_drew (S := fun w' => w'.heap[w.heap.size]? = some (.cells #[.int .i64 av, .string ac, .int .i64 ai, .int .i64 as', .bool ad, .int .i64 am] 40 (0, 0))) (by kernel_rfl) (M3.blk HB.out.1 HB.out.2.2.2.2.1 (by decide) (by decide)) (fun hHeld => ?_)
        refine wpAnyH_take (i := 0) (oi := { dst := some 124, op := Op.move (Operand.tmp 5), type := 23, pos := "law.go:161", after := #[], guard := none }) (v := ?v26) rfl (by kernel_rfl) (by kernel_rfl) (by kernel_rfl) (fun _ _ _ h => h) (Or.inl ⟨by rfl, ?h26⟩) (by assumption) ?r26
        case h26 => (intro w0_ hSw; (try dsimp only at hSw); go_simp; try (with_reducible rfl))
        simp only [Act.put, List.setIfInBounds_toArray, List.set_cons_zero, List.set_cons_succ]
        refine wpAnyH_take (i := 2) (oi := { dst := some 126, op := Op.move (Operand.tmp 7), type := 27, pos := "law.go:161", after := #[], guard := none }) (v := ?v27) rfl (by kernel_rfl) (by kernel_rfl) (by kernel_rfl) (fun _ _ _ h => h) (Or.inl ⟨by rfl, ?h27⟩) (by assumption) ?r27
        case h27 => (intro w0_ hSw; (try dsimp only at hSw); go_simp; try (with_reducible rfl))
        simp only [Act.put, List.setIfInBounds_toArray, List.set_cons_zero, List.set_cons_succ]
        refine wpAnyH_ready (rs := [1]) (by kernel_rfl) (by simp) ?_
        refine AllReadyH.cons rfl (fun K hK => ?_) AllReadyH.nil
        go_simp
        go_wp2_with (go_at_call 10; refine hall.mono ?_; clear hall; rintro r w4 ⟨v1, rfl, r1, b4⟩; obtain ⟨M4, s4⟩ := M3.below b4; clear b4; have hra := M4.allR F)
        refine hK.out _ _ (M4.blk HB.out.1 HB.out.2.2.2.2.1 (by decide) (by decide)) (fun hH_ => ?_)
        clear hK K
        refine wpAnyH_ready (rs := [3]) (by kernel_rfl) (by simp) ?_
        refine AllReadyH.cons rfl (fun K hK => ?_) AllReadyH.nil
        go_simp
        go_wp2_with (go_at_call 11; refine hra.mono ?_; clear hra; rintro r w5 ⟨u1, rfl, x1, b5⟩; obtain ⟨M5, s5⟩ := M4.below b5; clear b5; replace r1 := Rw.kept r1 s5 (by omega) (by omega); have hsm := same_rw r1 x1 hll; clear r1 x1)
        refine hK.out _ _ (M5.blk HB.out.1 HB.out.2.2.2.2.1 (by decide) (by decide)) (fun hH_ => ?_)
        clear hK K
        refine wpAnyH_ready (rs := [4]) (by kernel_rfl) (by simp) ?_
        refine AllReadyH.cons rfl (fun K hK => ?_) AllReadyH.nil
        go_simp
        go_wp2_with (go_at_call 9; refine hsm.mono ?_; clear hsm; rintro r w6 ⟨rfl, b6⟩; obtain ⟨M6, s6⟩ := M5.below b6; clear b6; have hf := M6.findP F (⟨⟨av, ac, ai, as', ad⟩, am⟩ : Qn) (by omega))
        refine hK.out _ _ (M6.blk HB.out.1 HB.out.2.2.2.2.1 (by decide) (by decide)) (fun hH_ => ?_)
        clear hK K
        refine wpAnyH_take (i := 5) (oi := { dst := some 129, op := Op.move (Operand.tmp 128), type := 4, pos := "law.go:161", after := #[{ on := 4, ground := Ground.data }, { on := 4, ground := Ground.chain }], guard := none }) (v := ?v28) rfl (by kernel_rfl) (by kernel_rfl) (by kernel_rfl) (fun _ _ _ h => h) (Or.inl ⟨by rfl, ?h28⟩) (by assumption) ?r28
        case h28 => (intro w0_ hSw; (try dsimp only at hSw); go_simp; try (with_reducible rfl))
        simp only [Act.put, List.setIfInBounds_toArray, List.set_cons_zero, List.set_cons_succ]
        refine wpAnyH_take (i := 6) (oi := { dst := some 130, op := Op.move (Operand.tmp 5), type := 23, pos := "law.go:161", after := #[{ on := 5, ground := Ground.guard }], guard := some (5, true) }) (v := ?v29) rfl (by kernel_rfl) (by kernel_rfl) (by kernel_rfl) (fun _ _ _ h => h) (Or.inl ⟨by rfl, ?h29⟩) (by assumption) ?r29
        case h29 => (intro w0_ hSw; (try dsimp only at hSw); have y0 : w0_.cell? ⟨w.heap.size, 0, none⟩ = some (.int .i64 av) := by { rw [cell_of_row w0_ _ 0 _ _ (0, 0) hSw]; rfl }; have y1 : w0_.cell? ⟨w.heap.size, 1, none⟩ = some (.string ac) := by { rw [cell_of_row w0_ _ 1 _ _ (0, 0) hSw]; rfl }; have y2 : w0_.cell? ⟨w.heap.size, 2, none⟩ = some (.int .i64 ai) := by { rw [cell_of_row w0_ _ 2 _ _ (0, 0) hSw]; rfl }; have y3 : w0_.cell? ⟨w.heap.size, 3, none⟩ = some (.int .i64 as') := by { rw [cell_of_row w0_ _ 3 _ _ (0, 0) hSw]; rfl }; have y4 : w0_.cell? ⟨w.heap.size, 4, none⟩ = some (.bool ad) := by { rw [cell_of_row w0_ _ 4 _ _ (0, 0) hSw]; rfl }; have y5 : w0_.cell? ⟨w.heap.size, 5, none⟩ = some (.int .i64 am) := by { rw [cell_of_row w0_ _ 5 _ _ (0, 0) hSw]; rfl }; clear hSw; go_simp; try (with_reducible rfl))
        simp only [Act.put, List.setIfInBounds_toArray, List.set_cons_zero, List.set_cons_succ]
        refine wpAnyH_take (i := 7) (oi := { dst := some 131, op := Op.fieldAddr 40 (Operand.tmp 3) 0, type := 0, pos := "law.go:161", after := #[{ on := 5, ground := Ground.guard }], guard := some (5, true) }) (v := ?v30) rfl (by kernel_rfl) (by kernel_rfl) (by kernel_rfl) (fun _ _ _ h => h) (Or.inl ⟨by rfl, ?h30⟩) (by assumption) ?r30
        case h30 => (intro w0_ hSw; (try dsimp only at hSw); have y0 : w0_.cell? ⟨w.heap.size, 0, none⟩ = some (.int .i64 av) := by { rw [cell_of_row w0_ _ 0 _ _ (0, 0) hSw]; rfl }; have y1 : w0_.cell? ⟨w.heap.size, 1, none⟩ = some (.string ac) := by { rw [cell_of_row w0_ _ 1 _ _ (0, 0) hSw]; rfl }; have y2 : w0_.cell? ⟨w.heap.size, 2, none⟩ = some (.int .i64 ai) := by { rw [cell_of_row w0_ _ 2 _ _ (0, 0) hSw]; rfl }; have y3 : w0_.cell? ⟨w.heap.size, 3, none⟩ = some (.int .i64 as') := by { rw [cell_of_row w0_ _ 3 _ _ (0, 0) hSw]; rfl }; have y4 : w0_.cell? ⟨w.heap.size, 4, none⟩ = some (.bool ad) := by { rw [cell_of_row w0_ _ 4 _ _ (0, 0) hSw]; rfl }; have y5 : w0_.cell? ⟨w.heap.size, 5, none⟩ = some (.int .i64 am) := by { rw [cell_of_row w0_ _ 5 _ _ (0, 0) hSw]; rfl }; clear hSw; go_simp; try (with_reducible rfl))
        simp only [Act.put, List.setIfInBounds_toArray, List.set_cons_zero, List.set_cons_succ]
        refine wpAnyH_take (i := 8) (oi := { dst := some 132, op := Op.fieldAddr 38 (Operand.tmp 131) 0, type := 0, pos := "law.go:161", after := #[{ on := 7, ground := Ground.data }, { on := 5, ground := Ground.guard }], guard := some (5, true) }) (v := ?v31) rfl (by kernel_rfl) (by kernel_rfl) (by kernel_rfl) (fun _ _ _ h => h) (Or.inl ⟨by rfl, ?h31⟩) (by assumption) ?r31
        case h31 => (intro w0_ hSw; (try dsimp only at hSw); have y0 : w0_.cell? ⟨w.heap.size, 0, none⟩ = some (.int .i64 av) := by { rw [cell_of_row w0_ _ 0 _ _ (0, 0) hSw]; rfl }; have y1 : w0_.cell? ⟨w.heap.size, 1, none⟩ = some (.string ac) := by { rw [cell_of_row w0_ _ 1 _ _ (0, 0) hSw]; rfl }; have y2 : w0_.cell? ⟨w.heap.size, 2, none⟩ = some (.int .i64 ai) := by { rw [cell_of_row w0_ _ 2 _ _ (0, 0) hSw]; rfl }; have y3 : w0_.cell? ⟨w.heap.size, 3, none⟩ = some (.int .i64 as') := by { rw [cell_of_row w0_ _ 3 _ _ (0, 0) hSw]; rfl }; have y4 : w0_.cell? ⟨w.heap.size, 4, none⟩ = some (.bool ad) := by { rw [cell_of_row w0_ _ 4 _ _ (0, 0) hSw]; rfl }; have y5 : w0_.cell? ⟨w.heap.size, 5, none⟩ = some (.int .i64 am) := by { rw [cell_of_row w0_ _ 5 _ _ (0, 0) hSw]; rfl }; clear hSw; go_simp; try (with_reducible rfl))
        simp only [Act.put, List.setIfInBounds_toArray, List.set_cons_zero, List.set_cons_succ]
        refine wpAnyH_take (i := 9) (oi := { dst := some 133, op := Op.load 3 (Operand.tmp 132), type := 3, pos := "law.go:161", after := #[{ on := 8, ground := Ground.data }, { on := 5, ground := Ground.guard }], guard := some (5, true) }) (v := ?v32) rfl (by kernel_rfl) (by kernel_rfl) (by kernel_rfl) (fun _ _ _ h => h) (Or.inl ⟨by rfl, ?h32⟩) (by assumption) ?r32
        case h32 => (intro w0_ hSw; (try dsimp only at hSw); have y0 : w0_.cell? ⟨w.heap.size, 0, none⟩ = some (.int .i64 av) := by { rw [cell_of_row w0_ _ 0 _ _ (0, 0) hSw]; rfl }; have y1 : w0_.cell? ⟨w.heap.size, 1, none⟩ = some (.string ac) := by { rw [cell_of_row w0_ _ 1 _ _ (0, 0) hSw]; rfl }; have y2 : w0_.cell? ⟨w.heap.size, 2, none⟩ = some (.int .i64 ai) := by { rw [cell_of_row w0_ _ 2 _ _ (0, 0) hSw]; rfl }; have y3 : w0_.cell? ⟨w.heap.size, 3, none⟩ = some (.int .i64 as') := by { rw [cell_of_row w0_ _ 3 _ _ (0, 0) hSw]; rfl }; have y4 : w0_.cell? ⟨w.heap.size, 4, none⟩ = some (.bool ad) := by { rw [cell_of_row w0_ _ 4 _ _ (0, 0) hSw]; rfl }; have y5 : w0_.cell? ⟨w.heap.size, 5, none⟩ = some (.int .i64 am) := by { rw [cell_of_row w0_ _ 5 _ _ (0, 0) hSw]; rfl }; clear hSw; go_simp; try (with_reducible rfl))
        simp only [Act.put, List.setIfInBounds_toArray, List.set_cons_zero, List.set_cons_succ]
        refine wpAnyH_take (i := 11) (oi := { dst := some 135, op := Op.move (Operand.tmp 7), type := 27, pos := "law.go:161", after := #[{ on := 5, ground := Ground.guard }], guard := some (5, true) }) (v := ?v33) rfl (by kernel_rfl) (by kernel_rfl) (by kernel_rfl) (fun _ _ _ h => h) (Or.inl ⟨by rfl, ?h33⟩) (by assumption) ?r33
        case h33 => (intro w0_ hSw; (try dsimp only at hSw); have y0 : w0_.cell? ⟨w.heap.size, 0, none⟩ = some (.int .i64 av) := by { rw [cell_of_row w0_ _ 0 _ _ (0, 0) hSw]; rfl }; have y1 : w0_.cell? ⟨w.heap.size, 1, none⟩ = some (.string ac) := by { rw [cell_of_row w0_ _ 1 _ _ (0, 0) hSw]; rfl }; have y2 : w0_.cell? ⟨w.heap.size, 2, none⟩ = some (.int .i64 ai) := by { rw [cell_of_row w0_ _ 2 _ _ (0, 0) hSw]; rfl }; have y3 : w0_.cell? ⟨w.heap.size, 3, none⟩ = some (.int .i64 as') := by { rw [cell_of_row w0_ _ 3 _ _ (0, 0) hSw]; rfl }; have y4 : w0_.cell? ⟨w.heap.size, 4, none⟩ = some (.bool ad) := by { rw [cell_of_row w0_ _ 4 _ _ (0, 0) hSw]; rfl }; have y5 : w0_.cell? ⟨w.heap.size, 5, none⟩ = some (.int .i64 am) := by { rw [cell_of_row w0_ _ 5 _ _ (0, 0) hSw]; rfl }; clear hSw; go_simp; try (with_reducible rfl))
        simp only [Act.put, List.setIfInBounds_toArray, List.set_cons_zero, List.set_cons_succ]
        refine wpAnyH_take (i := 12) (oi := { dst := some 136, op := Op.fieldAddr 40 (Operand.tmp 3) 0, type := 0, pos := "law.go:161", after := #[{ on := 5, ground := Ground.guard }], guard := some (5, true) }) (v := ?v34) rfl (by kernel_rfl) (by kernel_rfl) (by kernel_rfl) (fun _ _ _ h => h) (Or.inl ⟨by rfl, ?h34⟩) (by assumption) ?r34
        case h34 => (intro w0_ hSw; (try dsimp only at hSw); have y0 : w0_.cell? ⟨w.heap.size, 0, none⟩ = some (.int .i64 av) := by { rw [cell_of_row w0_ _ 0 _ _ (0, 0) hSw]; rfl }; have y1 : w0_.cell? ⟨w.heap.size, 1, none⟩ = some (.string ac) := by { rw [cell_of_row w0_ _ 1 _ _ (0, 0) hSw]; rfl }; have y2 : w0_.cell? ⟨w.heap.size, 2, none⟩ = some (.int .i64 ai) := by { rw [cell_of_row w0_ _ 2 _ _ (0, 0) hSw]; rfl }; have y3 : w0_.cell? ⟨w.heap.size, 3, none⟩ = some (.int .i64 as') := by { rw [cell_of_row w0_ _ 3 _ _ (0, 0) hSw]; rfl }; have y4 : w0_.cell? ⟨w.heap.size, 4, none⟩ = some (.bool ad) := by { rw [cell_of_row w0_ _ 4 _ _ (0, 0) hSw]; rfl }; have y5 : w0_.cell? ⟨w.heap.size, 5, none⟩ = some (.int .i64 am) := by { rw [cell_of_row w0_ _ 5 _ _ (0, 0) hSw]; rfl }; clear hSw; go_simp; try (with_reducible rfl))
        simp only [Act.put, List.setIfInBounds_toArray, List.set_cons_zero, List.set_cons_succ]
        refine wpAnyH_take (i := 13) (oi := { dst := some 137, op := Op.fieldAddr 38 (Operand.tmp 136) 0, type := 0, pos := "law.go:161", after := #[{ on := 12, ground := Ground.data }, { on := 5, ground := Ground.guard }], guard := some (5, true) }) (v := ?v35) rfl (by kernel_rfl) (by kernel_rfl) (by kernel_rfl) (fun _ _ _ h => h) (Or.inl ⟨by rfl, ?h35⟩) (by assumption) ?r35
        case h35 => (intro w0_ hSw; (try dsimp only at hSw); have y0 : w0_.cell? ⟨w.heap.size, 0, none⟩ = some (.int .i64 av) := by { rw [cell_of_row w0_ _ 0 _ _ (0, 0) hSw]; rfl }; have y1 : w0_.cell? ⟨w.heap.size, 1, none⟩ = some (.string ac) := by { rw [cell_of_row w0_ _ 1 _ _ (0, 0) hSw]; rfl }; have y2 : w0_.cell? ⟨w.heap.size, 2, none⟩ = some (.int .i64 ai) := by { rw [cell_of_row w0_ _ 2 _ _ (0, 0) hSw]; rfl }; have y3 : w0_.cell? ⟨w.heap.size, 3, none⟩ = some (.int .i64 as') := by { rw [cell_of_row w0_ _ 3 _ _ (0, 0) hSw]; rfl }; have y4 : w0_.cell? ⟨w.heap.size, 4, none⟩ = some (.bool ad) := by { rw [cell_of_row w0_ _ 4 _ _ (0, 0) hSw]; rfl }; have y5 : w0_.cell? ⟨w.heap.size, 5, none⟩ = some (.int .i64 am) := by { rw [cell_of_row w0_ _ 5 _ _ (0, 0) hSw]; rfl }; clear hSw; go_simp; try (with_reducible rfl))
        simp only [Act.put, List.setIfInBounds_toArray, List.set_cons_zero, List.set_cons_succ]
        refine wpAnyH_take (i := 14) (oi := { dst := some 138, op := Op.load 3 (Operand.tmp 137), type := 3, pos := "law.go:161", after := #[{ on := 13, ground := Ground.data }, { on := 5, ground := Ground.guard }], guard := some (5, true) }) (v := ?v36) rfl (by kernel_rfl) (by kernel_rfl) (by kernel_rfl) (fun _ _ _ h => h) (Or.inl ⟨by rfl, ?h36⟩) (by assumption) ?r36
        case h36 => (intro w0_ hSw; (try dsimp only at hSw); have y0 : w0_.cell? ⟨w.heap.size, 0, none⟩ = some (.int .i64 av) := by { rw [cell_of_row w0_ _ 0 _ _ (0, 0) hSw]; rfl }; have y1 : w0_.cell? ⟨w.heap.size, 1, none⟩ = some (.string ac) := by { rw [cell_of_row w0_ _ 1 _ _ (0, 0) hSw]; rfl }; have y2 : w0_.cell? ⟨w.heap.size, 2, none⟩ = some (.int .i64 ai) := by { rw [cell_of_row w0_ _ 2 _ _ (0, 0) hSw]; rfl }; have y3 : w0_.cell? ⟨w.heap.size, 3, none⟩ = some (.int .i64 as') := by { rw [cell_of_row w0_ _ 3 _ _ (0, 0) hSw]; rfl }; have y4 : w0_.cell? ⟨w.heap.size, 4, none⟩ = some (.bool ad) := by { rw [cell_of_row w0_ _ 4 _ _ (0, 0) hSw]; rfl }; have y5 : w0_.cell? ⟨w.heap.size, 5, none⟩ = some (.int .i64 am) := by { rw [cell_of_row w0_ _ 5 _ _ (0, 0) hSw]; rfl }; clear hSw; go_simp; try (with_reducible rfl))
        simp only [Act.put, List.setIfInBounds_toArray, List.set_cons_zero, List.set_cons_succ]
        have e6 : w6.heap.size = w6.heap.size := rfl
        have k6 := M6.size
        refine wpAnyH_ready (rs := [10]) (by kernel_rfl) (by simp) ?_
        refine AllReadyH.cons rfl (fun K hK => ?_) AllReadyH.nil
        go_simp
        go_wp2_with (go_at_call 15; refine hf.mono ?_; clear hf; rintro r w7 hA; obtain ⟨v2, rfl, M7, r2, s7, t7, n7⟩ := M6.goP hA; clear hA; have hf := M7.findR F (⟨⟨av, ac, ai, as', ad⟩, am⟩ : Qn) (by omega))
        refine hK.out _ _ (M7.blk HB.out.1 HB.out.2.2.2.2.1 (by decide) (by decide)) (fun hH_ => ?_)
        clear hK K
        refine wpAnyH_ready (rs := [15]) (by kernel_rfl) (by simp) ?_
        refine AllReadyH.cons rfl (fun K hK => ?_) AllReadyH.nil
        go_simp
        go_wp2_with (go_at_call 17; refine hf.mono ?_; clear hf; rintro r w8 hA; obtain ⟨u2, rfl, M8, x2, s8⟩ := M7.goR hA; clear hA; replace r2 := Rw.kept r2 s8 (by omega) (by omega); have hsm := same_rw r2 x2 n7; clear r2 x2)
        refine hK.out _ _ (M8.blk HB.out.1 HB.out.2.2.2.2.1 (by decide) (by decide)) (fun hH_ => ?_)
        clear hK K
        refine wpAnyH_ready (rs := [16]) (by kernel_rfl) (by simp) ?_
        refine AllReadyH.cons rfl (fun K hK => ?_) AllReadyH.nil
        go_simp
        go_wp2_with (go_at_call 9; refine hsm.mono ?_; clear hsm; rintro r w9 ⟨rfl, b9⟩; obtain ⟨M9, s9⟩ := M8.below b9; clear b9; have k9 := M9.size; have hg := M9.fromP F (⟨⟨av, ac, ai, as', ad⟩, am⟩ : Qn) (by omega))
        refine hK.out _ _ (M9.blk HB.out.1 HB.out.2.2.2.2.1 (by decide) (by decide)) (fun hH_ => ?_)
        clear hK K
        refine wpAnyH_take (i := 17) (oi := { dst := some 141, op := Op.pick (Operand.tmp 129) (Operand.tmp 140) (Operand.const (Value.bool false)), type := 4, pos := "law.go:161", after := #[{ on := 5, ground := Ground.data }, { on := 16, ground := Ground.data }], guard := none }) (v := ?v37) rfl (by kernel_rfl) (by kernel_rfl) (by kernel_rfl) (fun _ _ _ h => h) (Or.inl ⟨by rfl, ?h37⟩) (by assumption) ?r37
        case h37 => (intro w0_ hSw; (try dsimp only at hSw); go_simp; try (with_reducible rfl))
        simp only [Act.put, List.setIfInBounds_toArray, List.set_cons_zero, List.set_cons_succ]
        refine wpAnyH_take (i := 18) (oi := { dst := some 142, op := Op.move (Operand.tmp 141), type := 4, pos := "law.go:161", after := #[{ on := 17, ground := Ground.data }, { on := 16, ground := Ground.chain }], guard := none }) (v := ?v38) rfl (by kernel_rfl) (by kernel_rfl) (by kernel_rfl) (fun _ _ _ h => h) (Or.inl ⟨by rfl, ?h38⟩) (by assumption) ?r38
        case h38 => (intro w0_ hSw; (try dsimp only at hSw); go_simp; try (with_reducible rfl))
        simp only [Act.put, List.setIfInBounds_toArray, List.set_cons_zero, List.set_cons_succ]
        refine wpAnyH_take (i := 19) (oi := { dst := some 143, op := Op.move (Operand.tmp 5), type := 23, pos := "law.go:161", after := #[{ on := 18, ground := Ground.guard }], guard := some (18, true) }) (v := ?v39) rfl (by kernel_rfl) (by kernel_rfl) (by kernel_rfl) (fun _ _ _ h => h) (Or.inl ⟨by rfl, ?h39⟩) (by assumption) ?r39
        case h39 => (intro w0_ hSw; (try dsimp only at hSw); have y0 : w0_.cell? ⟨w.heap.size, 0, none⟩ = some (.int .i64 av) := by { rw [cell_of_row w0_ _ 0 _ _ (0, 0) hSw]; rfl }; have y1 : w0_.cell? ⟨w.heap.size, 1, none⟩ = some (.string ac) := by { rw [cell_of_row w0_ _ 1 _ _ (0, 0) hSw]; rfl }; have y2 : w0_.cell? ⟨w.heap.size, 2, none⟩ = some (.int .i64 ai) := by { rw [cell_of_row w0_ _ 2 _ _ (0, 0) hSw]; rfl }; have y3 : w0_.cell? ⟨w.heap.size, 3, none⟩ = some (.int .i64 as') := by { rw [cell_of_row w0_ _ 3 _ _ (0, 0) hSw]; rfl }; have y4 : w0_.cell? ⟨w.heap.size, 4, none⟩ = some (.bool ad) := by { rw [cell_of_row w0_ _ 4 _ _ (0, 0) hSw]; rfl }; have y5 : w0_.cell? ⟨w.heap.size, 5, none⟩ = some (.int .i64 am) := by { rw [cell_of_row w0_ _ 5 _ _ (0, 0) hSw]; rfl }; clear hSw; go_simp; try (with_reducible rfl))
        simp only [Act.put, List.setIfInBounds_toArray, List.set_cons_zero, List.set_cons_succ]
        refine wpAnyH_take (i := 20) (oi := { dst := some 144, op := Op.fieldAddr 40 (Operand.tmp 3) 0, type := 0, pos := "law.go:161", after := #[{ on := 18, ground := Ground.guard }], guard := some (18, true) }) (v := ?v40) rfl (by kernel_rfl) (by kernel_rfl) (by kernel_rfl) (fun _ _ _ h => h) (Or.inl ⟨by rfl, ?h40⟩) (by assumption) ?r40
        case h40 => (intro w0_ hSw; (try dsimp only at hSw); have y0 : w0_.cell? ⟨w.heap.size, 0, none⟩ = some (.int .i64 av) := by { rw [cell_of_row w0_ _ 0 _ _ (0, 0) hSw]; rfl }; have y1 : w0_.cell? ⟨w.heap.size, 1, none⟩ = some (.string ac) := by { rw [cell_of_row w0_ _ 1 _ _ (0, 0) hSw]; rfl }; have y2 : w0_.cell? ⟨w.heap.size, 2, none⟩ = some (.int .i64 ai) := by { rw [cell_of_row w0_ _ 2 _ _ (0, 0) hSw]; rfl }; have y3 : w0_.cell? ⟨w.heap.size, 3, none⟩ = some (.int .i64 as') := by { rw [cell_of_row w0_ _ 3 _ _ (0, 0) hSw]; rfl }; have y4 : w0_.cell? ⟨w.heap.size, 4, none⟩ = some (.bool ad) := by { rw [cell_of_row w0_ _ 4 _ _ (0, 0) hSw]; rfl }; have y5 : w0_.cell? ⟨w.heap.size, 5, none⟩ = some (.int .i64 am) := by { rw [cell_of_row w0_ _ 5 _ _ (0, 0) hSw]; rfl }; clear hSw; go_simp; try (with_reducible rfl))
        simp only [Act.put, List.setIfInBounds_toArray, List.set_cons_zero, List.set_cons_succ]
        refine wpAnyH_take (i := 21) (oi := { dst := some 145, op := Op.load 38 (Operand.tmp 144), type := 38, pos := "law.go:161", after := #[{ on := 20, ground := Ground.data }, { on := 18, ground := Ground.guard }], guard := some (18, true) }) (v := ?v41) rfl (by kernel_rfl) (by kernel_rfl) (by kernel_rfl) (fun _ _ _ h => h) (Or.inl ⟨by rfl, ?h41⟩) (by assumption) ?r41
        case h41 => (intro w0_ hSw; (try dsimp only at hSw); have y0 : w0_.cell? ⟨w.heap.size, 0, none⟩ = some (.int .i64 av) := by { rw [cell_of_row w0_ _ 0 _ _ (0, 0) hSw]; rfl }; have y1 : w0_.cell? ⟨w.heap.size, 1, none⟩ = some (.string ac) := by { rw [cell_of_row w0_ _ 1 _ _ (0, 0) hSw]; rfl }; have y2 : w0_.cell? ⟨w.heap.size, 2, none⟩ = some (.int .i64 ai) := by { rw [cell_of_row w0_ _ 2 _ _ (0, 0) hSw]; rfl }; have y3 : w0_.cell? ⟨w.heap.size, 3, none⟩ = some (.int .i64 as') := by { rw [cell_of_row w0_ _ 3 _ _ (0, 0) hSw]; rfl }; have y4 : w0_.cell? ⟨w.heap.size, 4, none⟩ = some (.bool ad) := by { rw [cell_of_row w0_ _ 4 _ _ (0, 0) hSw]; rfl }; have y5 : w0_.cell? ⟨w.heap.size, 5, none⟩ = some (.int .i64 am) := by { rw [cell_of_row w0_ _ 5 _ _ (0, 0) hSw]; rfl }; clear hSw; go_simp; try (with_reducible rfl))
        simp only [Act.put, List.setIfInBounds_toArray, List.set_cons_zero, List.set_cons_succ]
        refine wpAnyH_take (i := 22) (oi := { dst := some 146, op := Op.fieldAddr 40 (Operand.tmp 3) 1, type := 0, pos := "law.go:161", after := #[{ on := 18, ground := Ground.guard }], guard := some (18, true) }) (v := ?v42) rfl (by kernel_rfl) (by kernel_rfl) (by kernel_rfl) (fun _ _ _ h => h) (Or.inl ⟨by rfl, ?h42⟩) (by assumption) ?r42
        case h42 => (intro w0_ hSw; (try dsimp only at hSw); have y0 : w0_.cell? ⟨w.heap.size, 0, none⟩ = some (.int .i64 av) := by { rw [cell_of_row w0_ _ 0 _ _ (0, 0) hSw]; rfl }; have y1 : w0_.cell? ⟨w.heap.size, 1, none⟩ = some (.string ac) := by { rw [cell_of_row w0_ _ 1 _ _ (0, 0) hSw]; rfl }; have y2 : w0_.cell? ⟨w.heap.size, 2, none⟩ = some (.int .i64 ai) := by { rw [cell_of_row w0_ _ 2 _ _ (0, 0) hSw]; rfl }; have y3 : w0_.cell? ⟨w.heap.size, 3, none⟩ = some (.int .i64 as') := by { rw [cell_of_row w0_ _ 3 _ _ (0, 0) hSw]; rfl }; have y4 : w0_.cell? ⟨w.heap.size, 4, none⟩ = some (.bool ad) := by { rw [cell_of_row w0_ _ 4 _ _ (0, 0) hSw]; rfl }; have y5 : w0_.cell? ⟨w.heap.size, 5, none⟩ = some (.int .i64 am) := by { rw [cell_of_row w0_ _ 5 _ _ (0, 0) hSw]; rfl }; clear hSw; go_simp; try (with_reducible rfl))
        simp only [Act.put, List.setIfInBounds_toArray, List.set_cons_zero, List.set_cons_succ]
        refine wpAnyH_take (i := 23) (oi := { dst := some 147, op := Op.load 3 (Operand.tmp 146), type := 3, pos := "law.go:161", after := #[{ on := 22, ground := Ground.data }, { on := 18, ground := Ground.guard }], guard := some (18, true) }) (v := ?v43) rfl (by kernel_rfl) (by kernel_rfl) (by kernel_rfl) (fun _ _ _ h => h) (Or.inl ⟨by rfl, ?h43⟩) (by assumption) ?r43
        case h43 => (intro w0_ hSw; (try dsimp only at hSw); have y0 : w0_.cell? ⟨w.heap.size, 0, none⟩ = some (.int .i64 av) := by { rw [cell_of_row w0_ _ 0 _ _ (0, 0) hSw]; rfl }; have y1 : w0_.cell? ⟨w.heap.size, 1, none⟩ = some (.string ac) := by { rw [cell_of_row w0_ _ 1 _ _ (0, 0) hSw]; rfl }; have y2 : w0_.cell? ⟨w.heap.size, 2, none⟩ = some (.int .i64 ai) := by { rw [cell_of_row w0_ _ 2 _ _ (0, 0) hSw]; rfl }; have y3 : w0_.cell? ⟨w.heap.size, 3, none⟩ = some (.int .i64 as') := by { rw [cell_of_row w0_ _ 3 _ _ (0, 0) hSw]; rfl }; have y4 : w0_.cell? ⟨w.heap.size, 4, none⟩ = some (.bool ad) := by { rw [cell_of_row w0_ _ 4 _ _ (0, 0) hSw]; rfl }; have y5 : w0_.cell? ⟨w.heap.size, 5, none⟩ = some (.int .i64 am) := by { rw [cell_of_row w0_ _ 5 _ _ (0, 0) hSw]; rfl }; clear hSw; go_simp; try (with_reducible rfl))
        simp only [Act.put, List.setIfInBounds_toArray, List.set_cons_zero, List.set_cons_succ]
        refine wpAnyH_take (i := 25) (oi := { dst := some 149, op := Op.move (Operand.tmp 7), type := 27, pos := "law.go:161", after := #[{ on := 18, ground := Ground.guard }], guard := some (18, true) }) (v := ?v44) rfl (by kernel_rfl) (by kernel_rfl) (by kernel_rfl) (fun _ _ _ h => h) (Or.inl ⟨by rfl, ?h44⟩) (by assumption) ?r44
        case h44 => (intro w0_ hSw; (try dsimp only at hSw); have y0 : w0_.cell? ⟨w.heap.size, 0, none⟩ = some (.int .i64 av) := by { rw [cell_of_row w0_ _ 0 _ _ (0, 0) hSw]; rfl }; have y1 : w0_.cell? ⟨w.heap.size, 1, none⟩ = some (.string ac) := by { rw [cell_of_row w0_ _ 1 _ _ (0, 0) hSw]; rfl }; have y2 : w0_.cell? ⟨w.heap.size, 2, none⟩ = some (.int .i64 ai) := by { rw [cell_of_row w0_ _ 2 _ _ (0, 0) hSw]; rfl }; have y3 : w0_.cell? ⟨w.heap.size, 3, none⟩ = some (.int .i64 as') := by { rw [cell_of_row w0_ _ 3 _ _ (0, 0) hSw]; rfl }; have y4 : w0_.cell? ⟨w.heap.size, 4, none⟩ = some (.bool ad) := by { rw [cell_of_row w0_ _ 4 _ _ (0, 0) hSw]; rfl }; have y5 : w0_.cell? ⟨w.heap.size, 5, none⟩ = some (.int .i64 am) := by { rw [cell_of_row w0_ _ 5 _ _ (0, 0) hSw]; rfl }; clear hSw; go_simp; try (with_reducible rfl))
        simp only [Act.put, List.setIfInBounds_toArray, List.set_cons_zero, List.set_cons_succ]
        refine wpAnyH_take (i := 26) (oi := { dst := some 150, op := Op.fieldAddr 40 (Operand.tmp 3) 0, type := 0, pos := "law.go:161", after := #[{ on := 18, ground := Ground.guard }], guard := some (18, true) }) (v := ?v45) rfl (by kernel_rfl) (by kernel_rfl) (by kernel_rfl) (fun _ _ _ h => h) (Or.inl ⟨by rfl, ?h45⟩) (by assumption) ?r45
        case h45 => (intro w0_ hSw; (try dsimp only at hSw); have y0 : w0_.cell? ⟨w.heap.size, 0, none⟩ = some (.int .i64 av) := by { rw [cell_of_row w0_ _ 0 _ _ (0, 0) hSw]; rfl }; have y1 : w0_.cell? ⟨w.heap.size, 1, none⟩ = some (.string ac) := by { rw [cell_of_row w0_ _ 1 _ _ (0, 0) hSw]; rfl }; have y2 : w0_.cell? ⟨w.heap.size, 2, none⟩ = some (.int .i64 ai) := by { rw [cell_of_row w0_ _ 2 _ _ (0, 0) hSw]; rfl }; have y3 : w0_.cell? ⟨w.heap.size, 3, none⟩ = some (.int .i64 as') := by { rw [cell_of_row w0_ _ 3 _ _ (0, 0) hSw]; rfl }; have y4 : w0_.cell? ⟨w.heap.size, 4, none⟩ = some (.bool ad) := by { rw [cell_of_row w0_ _ 4 _ _ (0, 0) hSw]; rfl }; have y5 : w0_.cell? ⟨w.heap.size, 5, none⟩ = some (.int .i64 am) := by { rw [cell_of_row w0_ _ 5 _ _ (0, 0) hSw]; rfl }; clear hSw; go_simp; try (with_reducible rfl))
        simp only [Act.put, List.setIfInBounds_toArray, List.set_cons_zero, List.set_cons_succ]
        refine wpAnyH_take (i := 27) (oi := { dst := some 151, op := Op.load 38 (Operand.tmp 150), type := 38, pos := "law.go:161", after := #[{ on := 26, ground := Ground.data }, { on := 18, ground := Ground.guard }], guard := some (18, true) }) (v := ?v46) rfl (by kernel_rfl) (by kernel_rfl) (by kernel_rfl) (fun _ _ _ h => h) (Or.inl ⟨by rfl, ?h46⟩) (by assumption) ?r46
        case h46 => (intro w0_ hSw; (try dsimp only at hSw); have y0 : w0_.cell? ⟨w.heap.size, 0, none⟩ = some (.int .i64 av) := by { rw [cell_of_row w0_ _ 0 _ _ (0, 0) hSw]; rfl }; have y1 : w0_.cell? ⟨w.heap.size, 1, none⟩ = some (.string ac) := by { rw [cell_of_row w0_ _ 1 _ _ (0, 0) hSw]; rfl }; have y2 : w0_.cell? ⟨w.heap.size, 2, none⟩ = some (.int .i64 ai) := by { rw [cell_of_row w0_ _ 2 _ _ (0, 0) hSw]; rfl }; have y3 : w0_.cell? ⟨w.heap.size, 3, none⟩ = some (.int .i64 as') := by { rw [cell_of_row w0_ _ 3 _ _ (0, 0) hSw]; rfl }; have y4 : w0_.cell? ⟨w.heap.size, 4, none⟩ = some (.bool ad) := by { rw [cell_of_row w0_ _ 4 _ _ (0, 0) hSw]; rfl }; have y5 : w0_.cell? ⟨w.heap.size, 5, none⟩ = some (.int .i64 am) := by { rw [cell_of_row w0_ _ 5 _ _ (0, 0) hSw]; rfl }; clear hSw; go_simp; try (with_reducible rfl))
        simp only [Act.put, List.setIfInBounds_toArray, List.set_cons_zero, List.set_cons_succ]
        refine wpAnyH_take (i := 28) (oi := { dst := some 152, op := Op.fieldAddr 40 (Operand.tmp 3) 1, type := 0, pos := "law.go:161", after := #[{ on := 18, ground := Ground.guard }], guard := some (18, true) }) (v := ?v47) rfl (by kernel_rfl) (by kernel_rfl) (by kernel_rfl) (fun _ _ _ h => h) (Or.inl ⟨by rfl, ?h47⟩) (by assumption) ?r47
        case h47 => (intro w0_ hSw; (try dsimp only at hSw); have y0 : w0_.cell? ⟨w.heap.size, 0, none⟩ = some (.int .i64 av) := by { rw [cell_of_row w0_ _ 0 _ _ (0, 0) hSw]; rfl }; have y1 : w0_.cell? ⟨w.heap.size, 1, none⟩ = some (.string ac) := by { rw [cell_of_row w0_ _ 1 _ _ (0, 0) hSw]; rfl }; have y2 : w0_.cell? ⟨w.heap.size, 2, none⟩ = some (.int .i64 ai) := by { rw [cell_of_row w0_ _ 2 _ _ (0, 0) hSw]; rfl }; have y3 : w0_.cell? ⟨w.heap.size, 3, none⟩ = some (.int .i64 as') := by { rw [cell_of_row w0_ _ 3 _ _ (0, 0) hSw]; rfl }; have y4 : w0_.cell? ⟨w.heap.size, 4, none⟩ = some (.bool ad) := by { rw [cell_of_row w0_ _ 4 _ _ (0, 0) hSw]; rfl }; have y5 : w0_.cell? ⟨w.heap.size, 5, none⟩ = some (.int .i64 am) := by { rw [cell_of_row w0_ _ 5 _ _ (0, 0) hSw]; rfl }; clear hSw; go_simp; try (with_reducible rfl))
        simp only [Act.put, List.setIfInBounds_toArray, List.set_cons_zero, List.set_cons_succ]
        refine wpAnyH_take (i := 29) (oi := { dst := some 153, op := Op.load 3 (Operand.tmp 152), type := 3, pos := "law.go:161", after := #[{ on := 28, ground := Ground.data }, { on := 18, ground := Ground.guard }], guard := some (18, true) }) (v := ?v48) rfl (by kernel_rfl) (by kernel_rfl) (by kernel_rfl) (fun _ _ _ h => h) (Or.inl ⟨by rfl, ?h48⟩) (by assumption) ?r48
        case h48 => (intro w0_ hSw; (try dsimp only at hSw); have y0 : w0_.cell? ⟨w.heap.size, 0, none⟩ = some (.int .i64 av) := by { rw [cell_of_row w0_ _ 0 _ _ (0, 0) hSw]; rfl }; have y1 : w0_.cell? ⟨w.heap.size, 1, none⟩ = some (.string ac) := by { rw [cell_of_row w0_ _ 1 _ _ (0, 0) hSw]; rfl }; have y2 : w0_.cell? ⟨w.heap.size, 2, none⟩ = some (.int .i64 ai) := by { rw [cell_of_row w0_ _ 2 _ _ (0, 0) hSw]; rfl }; have y3 : w0_.cell? ⟨w.heap.size, 3, none⟩ = some (.int .i64 as') := by { rw [cell_of_row w0_ _ 3 _ _ (0, 0) hSw]; rfl }; have y4 : w0_.cell? ⟨w.heap.size, 4, none⟩ = some (.bool ad) := by { rw [cell_of_row w0_ _ 4 _ _ (0, 0) hSw]; rfl }; have y5 : w0_.cell? ⟨w.heap.size, 5, none⟩ = some (.int .i64 am) := by { rw [cell_of_row w0_ _ 5 _ _ (0, 0) hSw]; rfl }; clear hSw; go_simp; try (with_reducible rfl))
        simp only [Act.put, List.setIfInBounds_toArray, List.set_cons_zero, List.set_cons_succ]
        refine wpAnyH_ready (rs := [24]) (by kernel_rfl) (by simp) ?_
        refine AllReadyH.cons rfl (fun K hK => ?_) AllReadyH.nil
        go_simp
        go_wp2_with (go_at_call 16; refine hg.mono ?_; clear hg; rintro r w10 hA; obtain ⟨v3, rfl, M10, r3, s10, t10, n10⟩ := M9.goP hA; clear hA; have hg := M10.fromR F (⟨⟨av, ac, ai, as', ad⟩, am⟩ : Qn) (by omega))
        refine hK.out _ _ (M10.blk HB.out.1 HB.out.2.2.2.2.1 (by decide) (by decide)) (fun hH_ => ?_)
        clear hK K
        refine wpAnyH_ready (rs := [30]) (by kernel_rfl) (by simp) ?_
        refine AllReadyH.cons rfl (fun K hK => ?_) AllReadyH.nil
        go_simp
        go_wp2_with (go_at_call 18; refine hg.mono ?_; clear hg; rintro r w11 hA; obtain ⟨u3, rfl, M11, x3, s11⟩ := M10.goR hA; clear hA; replace r3 := Rw.kept r3 s11 (by omega) (by omega); have hsm := same_rw r3 x3 n10; clear r3 x3)
        refine hK.out _ _ (M11.blk HB.out.1 HB.out.2.2.2.2.1 (by decide) (by decide)) (fun hH_ => ?_)
        clear hK K
        refine wpAnyH_ready (rs := [31]) (by kernel_rfl) (by simp) ?_
        refine AllReadyH.cons rfl (fun K hK => ?_) AllReadyH.nil
        go_simp
        go_wp2_with (go_at_call 9; refine hsm.mono ?_; clear hsm; rintro r w12 ⟨rfl, b12⟩; obtain ⟨M12, s12⟩ := M11.below b12; clear b12)
        refine hK.out _ _ (M12.blk HB.out.1 HB.out.2.2.2.2.1 (by decide) (by decide)) (fun hH_ => ?_)
        clear hK K
        refine wpAnyH_take (i := 32) (oi := { dst := some 156, op := Op.pick (Operand.tmp 142) (Operand.tmp 155) (Operand.const (Value.bool false)), type := 4, pos := "law.go:161", after := #[{ on := 18, ground := Ground.data }, { on := 31, ground := Ground.data }], guard := none }) (v := ?v49) rfl (by kernel_rfl) (by kernel_rfl) (by kernel_rfl) (fun _ _ _ h => h) (Or.inl ⟨by rfl, ?h49⟩) (by assumption) ?r49
        case h49 => (intro w0_ hSw; (try dsimp only at hSw); go_simp; try (with_reducible rfl))
        simp only [Act.put, List.setIfInBounds_toArray, List.set_cons_zero, List.set_cons_succ]
        refine wpAnyH_take (i := 33) (oi := { dst := some 19, op := Op.assign (Operand.tmp 156), type := 4, pos := "law.go:161", after := #[{ on := 32, ground := Ground.data }, { on := 31, ground := Ground.chain }, { on := 0, ground := Ground.phase }, { on := 1, ground := Ground.phase }, { on := 2, ground := Ground.phase }, { on := 3, ground := Ground.phase }, { on := 4, ground := Ground.phase }, { on := 5, ground := Ground.phase }, { on := 6, ground := Ground.phase }, { on := 7, ground := Ground.phase }, { on := 8, ground := Ground.phase }, { on := 9, ground := Ground.phase }, { on := 10, ground := Ground.phase }, { on := 11, ground := Ground.phase }, { on := 12, ground := Ground.phase }, { on := 13, ground := Ground.phase }, { on := 14, ground := Ground.phase }, { on := 15, ground := Ground.phase }, { on := 16, ground := Ground.phase }, { on := 17, ground := Ground.phase }, { on := 18, ground := Ground.phase }, { on := 19, ground := Ground.phase }, { on := 20, ground := Ground.phase }, { on := 21, ground := Ground.phase }, { on := 22, ground := Ground.phase }, { on := 23, ground := Ground.phase }, { on := 24, ground := Ground.phase }, { on := 25, ground := Ground.phase }, { on := 26, ground := Ground.phase }, { on := 27, ground := Ground.phase }, { on := 28, ground := Ground.phase }, { on := 29, ground := Ground.phase }, { on := 30, ground := Ground.phase }, { on := 31, ground := Ground.phase }, { on := 32, ground := Ground.phase }], guard := none }) (v := ?v50) rfl (by kernel_rfl) (by kernel_rfl) (by kernel_rfl) (fun _ _ _ h => h) (Or.inl ⟨by rfl, ?h50⟩) (by assumption) ?r50
        case h50 => (intro w0_ hSw; (try dsimp only at hSw); go_simp; try (with_reducible rfl))
        simp only [Act.put, List.setIfInBounds_toArray, List.set_cons_zero, List.set_cons_succ]
        refine wpAnyH_done (by kernel_rfl) ?_ _
        have hpr := reads_any fb h bv iv _ w12 M12.p.box
        clear hHeld hH_
        go_wp2_with (first | (go_at_call 13; refine hpr.mono ?_; clear hpr; rintro r w13 ⟨rfl, b13⟩; obtain ⟨M13, s13⟩ := M12.below b13; have hrr := rreads_any rb h lv sv _ w13 M13.r.box) | (go_at_call 14; refine hrr.mono ?_; clear hrr; rintro r w14 ⟨rfl, rfl⟩))
        go_ret
        exact ⟨rfl, HB.out.2.2.1.trans (M13.st.toBelow (fun k hk e => by have := HB.out.2.2.2.2.2; omega) HB.out.2.2.1.size)⟩
end Go.Proofs.YtjdpolhjbkpnlaaGreatDoor.Dx
set_option linter.unusedVariables false
set_option linter.unusedSimpArgs false
namespace Go.Proofs.YtjdpolhjbkpnlaaGreatDoor
open Go.Proofs.YtjdpolhjbkpnlaaGreatDoor.Dx
open Go.ChangeMaps (open_string shut_string)
open Go.ChangeShapes Go.WideShapes Go.ChangeAt Go.WideMaps Go.WideElems Go.RowKit Go.Proofs.SealMath
theorem lists_small {H : Type} {d1 : DataW H} {b : ByteArray} (hk : Rows.uptoSmall H [.lit (.string b.data.toList), d1] = true) : b.size ≤ 1048576 ∧ Rows.uptoBulk d1 ≤ 1048576 := by
  have h : Rows.uptoBulkAll [DataW.lit (H := H) (.string b.data.toList), d1] ≤ 1048576 := of_decide_eq_true hk
  simp only [Rows.uptoBulkAll, Rows.uptoBulk] at h
  have e : b.data.toList.length = b.size := Array.length_toList
  omega
theorem lists_reads (os : Os) {H : Type} (enc : TypeId × Value → H) : ∃ places, DataW.whole enc Tryz.prog ((World.doorLaid Tryz.prog 4000 os).forCall (fun _ _ => 0) ⟨#[], #[.string ⟨#[]⟩, .agg #[.int .i64 0, .string ⟨#[]⟩, .int .i64 0, .int .i64 0, .bool false, .int .i64 0]], []⟩).memory Tryz.f4.params.toList Rows.blockListsSpec.vars false #[Value.string ⟨#[]⟩, .agg #[.int .i64 0, .string ⟨#[]⟩, .int .i64 0, .int .i64 0, .bool false, .int .i64 0]].toList 8 = some ([.lit (.string []), .agg [.agg [.lit (.int .i64 0), .lit (.string []), .lit (.int .i64 0), .lit (.int .i64 0), .lit (.bool false)], .lit (.int .i64 0)]], [], places) :=
  ⟨[], by kernel_rfl⟩
set_option maxRecDepth 100000 in
theorem lists_lifted (os : Os) (started : os.Started) (H : Type) (enc : TypeId × Value → H) (F : Stop.Interp) :
    ReturnsInHanded {} Tryz.checked os 4 .any ((Rows.OpenSpec.upto Rows.blockListsSpec).preRow enc Tryz.prog Tryz.f4 Rows.blockListsUptoRow.domain false Rows.blockListsUptoRow.laid) (((Rows.OpenSpec.upto Rows.blockListsSpec).at F).post enc Tryz.prog Tryz.f4 false true false false) := by
  obtain ⟨places, hx⟩ := lists_reads os enc
  refine returnsInHanded_of_row (C := Tryz.checked) (s := Rows.OpenSpec.upto Rows.blockListsSpec) own started (by kernel_rfl) Tryz.func4
    (witness_row_at (enc := enc) (C := Tryz.checked) false (World.doorLaid Tryz.prog 4000 os) #[.string ⟨#[]⟩, .agg #[.int .i64 0, .string ⟨#[]⟩, .int .i64 0, .int .i64 0, .bool false, .int .i64 0]] rfl (by kernel_rfl) (by kernel_rfl) (by kernel_rfl)
      (OpenSpec.preRow_of_cond 8 hx (by kernel_rfl) (fun k hk => by cases hk; kernel_rfl) (by kernel_rfl) (laidMet_of_run' 8 (by kernel_rfl) (by kernel_rfl)))) ?_
  intro W base args ds gs before hval0 hW0 _ hcond _ hL0 _ _
  have hL : laidMetH Tryz.prog lst W := hL0
  have hW : DataW.Whole enc Tryz.prog Tryz.f4.params.toList Rows.blockListsSpec.vars false W args.toList ds gs before := hW0
  have hk : Rows.uptoSmall H (ds ++ gs) = true := hcond _ rfl
  show Calls Tryz.prog 4 args W _
  have hval : ∀ (j : Nat) t v, Tryz.f4.params[j]? = some t → args[j]? = some v → Value.okWide Tryz.prog W .any base t v := hval0
  clear hval0 hW0 hL0 hcond
  have hW' := hW
  obtain ⟨p, q, hA0, hV, rfl, hfz, hnd⟩ := hW
  have hA : DataW.TrodAll enc Tryz.prog W 0 (fun _ => true) true Tryz.f4.params.toList args.toList ds p := hA0
  rw [Tryz.params4] at hA hval
  obtain ⟨v0, v1, d0, d1, p0, p1, rfl, rfl, rfl, h0, h1⟩ := trodAll_two hA
  obtain ⟨rfl, rfl⟩ := trodVars_none hV
  obtain ⟨b, rfl, rfl, rfl, hb⟩ := open_string Tryz.underlying9 (hval 0 9 v0 rfl rfl) h0
  have h1k := h1
  obtain ⟨q, rfl⟩ := open_q (hval 1 40 v1 rfl rfl) h1
  clear hA0
  simp only [List.append_nil, List.nil_append] at hW' hk
  have hsm := lists_small hk
  have hlt1 : ∀ x ∈ p1, x.block < W.heap.size := fun x hx => hW'.lt x (by simp [hx])
  have e1 : Rows.blockListsSpec.fn H ([.lit (.string b.data.toList), d1] ++ []) = { results := [.lit (.bool true)], args := [.lit (.string b.data.toList), d1] } := by simp [Rows.blockListsSpec]
  have fin : ∀ (e : Ending) (W' : World), (e = .returned (.bool true) ∧ Below W.heap.size W W') → ∃ v, e = .returned v ∧ ((Rows.OpenSpec.upto Rows.blockListsSpec).at F).post enc Tryz.prog Tryz.f4 false true false false W #[.string b, .agg (qC q).toArray] v W' := by
    rintro e W' ⟨rfl, hbl⟩
    refine ⟨_, rfl, _, _, _, [], p1, [], hW', ?_, ?_, ?_, hbl.frame _, fun h => by cases h⟩
    · exact (show _ from by rw [show ((Rows.OpenSpec.upto Rows.blockListsSpec).at F).fn = Rows.blockListsSpec.fn from rfl, e1]; exact trodAll_mk1 (shut_bool Tryz.underlying4 true))
    · exact (show _ from by rw [show ((Rows.OpenSpec.upto Rows.blockListsSpec).at F).fn = Rows.blockListsSpec.fn from rfl, e1]; have h5 := trodAll_mk2 (shut_string Tryz.underlying9 hb) (Below.trod laidOut (by kernel_rfl) (of_decide_eq_true (by kernel_rfl)) h1k hbl hlt1); simp only [List.append_nil, List.nil_append] at h5; exact h5)
    · exact (show _ from by rw [show ((Rows.OpenSpec.upto Rows.blockListsSpec).at F).fn = Rows.blockListsSpec.fn from rfl, e1]; rfl)
  have ht := tab_of hL
  have hg0 := tab_pos ht
  obtain ⟨⟨qv, qc, qi, qs, qd⟩, qm⟩ := q
  exact (law_lists b qv qc qi qs qd qm W ht hg0 (by omega)).mono fin
theorem lists_row : Rows.BlockListsUptoSaid :=
  OpenClaim.holds_of_cond 4 Tryz.f4 rfl rfl rfl rfl rfl rfl rfl ⟨rfl, rfl, rfl, rfl, rfl⟩ rfl rfl rfl rfl rfl (by kernel_rfl) Tryz.func4 (by kernel_rfl)
    (of_decide_eq_true (by kernel_rfl)) (by unfold Func.isWrapper; first | (rw [if_pos (by decide +kernel)]; kernel_rfl) | (rw [if_neg (by decide +kernel)]; exact ⟨rfl, rfl⟩))
    (fun os started H enc _ F => by rw [OpenClaim.pre_eq_preRow]; exact lists_lifted os started H enc F)
theorem lists_plain (f : FuncId) (fn : Func) (hf : Tryz.pinned.checked.prog.funcNamed "kindred/kindredlaw6.BlockLists" = some f) (hfn : Tryz.pinned.checked.prog.funcs[f]? = some fn) :
    false = Tryz.pinned.checked.prog.looks [] ∧ ∀ (j : Nat) t, fn.params[j]? = some t → Tryz.pinned.checked.prog.wantsStandIn t = false := by
  obtain rfl : f = 4 := Option.some.inj ((show Tryz.prog.funcNamed "kindred/kindredlaw6.BlockLists" = some 4 by kernel_rfl).symm.trans hf) |>.symm
  obtain rfl : fn = Tryz.f4 := (Option.some.inj (Tryz.func4.symm.trans hfn)).symm
  refine ⟨by kernel_rfl, fun j t ht => ?_⟩
  rw [Tryz.params4] at ht
  have hm : t ∈ [9, 40] := by simpa using Array.mem_of_getElem? ht
  have hall : ([9, 40].all fun u => !Tryz.prog.wantsStandIn u) = true := by kernel_rfl
  exact (show Tryz.prog.wantsStandIn t = false by simpa using List.all_eq_true.1 hall t hm)
theorem lists_holds : Rows.BlockListsUptoCardSaid :=
  Claim7.holds_tied_plain_at .later [] _ _ _ _ lists_row (fun _ h => by cases h) (by kernel_rfl) (fun _ h => by cases h) blockListsUpto_row_tie rfl ⟨rfl, rfl⟩ (by kernel_rfl) rfl lists_plain (by kernel_rfl)
#print axioms lists_holds
end Go.Proofs.YtjdpolhjbkpnlaaGreatDoor
