/-
  DERIVED. BReadF, as one text.
-/
import Derived.Test.YtjdpolhjbkpnlaaGreatDoorLzAL
import Derived.Test.YtjdpolhjbkpnlaaGreatDoorLzAI
import Derived.Deep.RegionHeldLaw
import Derived.Deep.RegionHeld
set_option linter.unusedVariables false
set_option linter.unusedSimpArgs false
namespace Go.Proofs.YtjdpolhjbkpnlaaGreatDoor
open Go.RowKit Go.Proofs.SealMath
theorem parse_nat (b : ByteArray) (a : Nat) (k : Nat) (p : List UInt8) (q : Nat) (e : Int) (w : World) (ht : Tab w) (hg : 0 < w.heap.size) (hb : b.size < 4611686018427387904) (ha : a ≤ b.size) (hR : psA b a = (k, p, q, e)) :
    Calls Tryz.prog 33 #[.string b, .int .i64 a] w fun r w' => r = .returned (.tuple #[.int .i64 k, .string ⟨p.toArray⟩, .int .i64 q, .int .i64 e]) ∧ Below w.heap.size w w' := parse_ok b a (k, p, q, e) w ht hg hb ha hR.symm
/-- What read is to tell. -/
def RdO (b : ByteArray) (w : World) (r : Ending) (w' : World) : Prop := Below w.heap.size w w' ∧ match rdA b with
  | none => r = .returned (.tuple #[.pointer none, .bool false])
  | some (h, bl) => ∃ fb bv, r = .returned (.tuple #[Pt fb, .bool true]) ∧ w.heap.size ≤ fb ∧ FA w' fb h bl [] bv (.slice none 0 0) 0 ∧ ∀ k, bv.ownBlock = some k → w.heap.size ≤ k
theorem RdO.no {b : ByteArray} {w w' : World} (h : rdA b = none) (hb : Below w.heap.size w w') : RdO b w (.returned (.tuple #[.pointer none, .bool false])) w' := ⟨hb, by rw [h]⟩
theorem RdO.yes {b : ByteArray} {w w' : World} {h : Hd} {bl : List (List UInt8)} {fb : Nat} {bv : Value} (e : rdA b = some (h, bl)) (hb : Below w.heap.size w w') (hf : w.heap.size ≤ fb) (hF : FA w' fb h bl [] bv (.slice none 0 0) 0) (hv : ∀ k, bv.ownBlock = some k → w.heap.size ≤ k) : RdO b w (.returned (.tuple #[Pt fb, .bool true])) w' := ⟨hb, by rw [e]; exact ⟨fb, bv, rfl, hf, hF, hv⟩⟩
theorem Tab.blk {w w' : World} (ht : Tab w) (hg : 0 < w.heap.size) (hb : Below w.heap.size w w') : Tab w' ∧ 0 < w'.heap.size := ⟨ht.below hb hg, Nat.lt_of_lt_of_le hg hb.size⟩
set_option maxHeartbeats 8000000 in
set_option maxRecDepth 100000 in
theorem read_any (b : ByteArray) (w : World) (ht : Tab w) (hg : 0 < w.heap.size) (hb : b.size ≤ 1099511627776) :
    Calls Tryz.prog 20 #[.string b] w (RdO b w) := by
  have hb' : b.size < 4611686018427387904 := by omega
  obtain ⟨⟨k, p, q, e⟩, hR⟩ : ∃ R, psA b 0 = R := ⟨_, rfl⟩
  have c1 := fun W h1 h2 => parse_nat b 0 k p q e W h1 h2 hb' (Nat.zero_le _) hR
  rw [show ((0 : Nat) : Int) = 0 from rfl] at c1
  replace c1 := c1 w ht hg
  by_cases he : e = 0
  · subst he
    have hnx := psA_next (b := b) (a := 0) (by rw [hR])
    rw [hR] at hnx
    dsimp only at hnx
    by_cases hk : k = 4
    · subst hk
      have e1 : rdA b = if hdE (hdR ⟨p.toArray⟩) = 0 ∧ 0 ≤ (hdR ⟨p.toArray⟩).n ∧ (hdR ⟨p.toArray⟩).n ≤ (b.size : Int) / ((hdR ⟨p.toArray⟩).w / 8 + 7) then some (hdR ⟨p.toArray⟩, blks b q) else none := by
        unfold rdA
        rw [hR]
        dsimp only
        rw [if_pos ⟨rfl, rfl⟩]
      have c2 := fun W => readHead_any ⟨p.toArray⟩ W (by rw [ba_len]; omega)
      obtain ⟨H, hH⟩ : ∃ H, H = hdR ⟨p.toArray⟩ := ⟨_, rfl⟩
      rw [← hH] at e1 c2
      have HE1 := Hid.mk e1
      obtain ⟨P, hP⟩ : ∃ P : ByteArray, P = ⟨p.toArray⟩ := ⟨_, rfl⟩
      rw [← hP] at c1 c2
      have HT := Hid.mk (And.intro ht hg)
      clear e1 hH hP hR ht hg
      have hch := fun W => checkHead_any H W
      obtain ⟨wd, t, bt, lo, hi, cn⟩ := H
      simp only [hdC] at c2 hch
      go_enter Tryz.func20, Tryz.ntmps20
      go_wp2_with first
        | (go_at_call 33; refine c1.mono ?_; rintro e w1 ⟨rfl, b1⟩; clear c1)
        | (go_at_call 34; refine (c2 _).mono ?_; rintro e w2 ⟨rfl, b2⟩; clear c2)
      have b12 := chain b1 b2 (Nat.le_refl _)
      obtain ⟨fb, hfb⟩ : ∃ fb, fb = w2.heap.size := ⟨_, rfl⟩
      obtain ⟨V, hV⟩ : ∃ V, V = w2.alloc (.cells #[.int .i64 wd, .int .i64 t, .int .i64 bt, .int .i64 lo, .int .i64 hi, .int .i64 cn, .slice none 0 0, .slice none 0 0, .int .i64 0] 54) := ⟨_, rfl⟩
      have hF : V.heap[fb]? = some (.cells (flV ⟨wd, t, bt, lo, hi, cn⟩ (.slice none 0 0) (.slice none 0 0) 0) 54 (0, 0)) := by rw [hV, hfb]; exact heap_alloc_last w2 _
      have bF : Below w2.heap.size w2 V := by rw [hV]; exact (Below.refl _ w2).alloc (Nat.le_refl _) _
      have b13 := chain b12 bF (Nat.le_refl _)
      have hfw : w.heap.size ≤ fb := by rw [hfb]; exact b12.size
      rw [← hfb, ← hV]
      clear hV bF b12 b1 b2 hfb
      obtain ⟨⟨y0, y1, y2, y3, y4, y5⟩, -⟩ := fl9 hF
      by_cases hH : hdE ⟨wd, t, bt, lo, hi, cn⟩ = 0
      · rw [hH] at hch
        obtain ⟨k1, -⟩ := hdE0 hH
        have hw := isW_bd k1
        have hcb := fun W hbx => codeBytes_any fb ⟨wd, t, bt, lo, hi, cn⟩ (.slice none 0 0) (.slice none 0 0) 0 W hbx hw
        obtain ⟨CB, hCB⟩ : ∃ CB, CB = cbH ⟨wd, t, bt, lo, hi, cn⟩ := ⟨_, rfl⟩
        have hCB1 : (CB : Int) = wd / 8 := by rw [hCB]; unfold cbH; dsimp only at hw ⊢; omega
        have hCB2 : CB ≤ 128 := by dsimp only at hw; omega
        rw [← hCB] at hcb
        rw [hH] at HE1
        try dsimp only at HE1
        rw [← hCB1] at HE1
        obtain ⟨M, hM⟩ : ∃ M, M = CB + 7 := ⟨_, rfl⟩
        have hMI : (CB : Int) + 7 = (M : Int) := by omega
        rw [hMI] at HE1
        have w7 : IntKind.i64.wrap ((CB : Int) + 7) = (M : Int) := by rw [IntKind.wrap_i64]; omega
        have m0 : ¬ (M : Int) = 0 := by omega
        have m1 : ¬ M = 0 := by omega
        obtain ⟨QQ, hQQ⟩ : ∃ QQ, QQ = (b.size : Int) / (M : Int) := ⟨_, rfl⟩
        have hQb : 0 ≤ QQ ∧ QQ ≤ (b.size : Int) := by rw [hQQ]; exact ⟨Int.ediv_nonneg (by omega) (by omega), Int.ediv_le_self _ (by omega)⟩
        have wQ : IntKind.i64.wrap ((b.size : Int) / (M : Int)) = QQ := by rw [← hQQ, IntKind.wrap_i64]; omega
        rw [← hQQ] at HE1
        clear hQQ hMI hM
        by_cases hc0 : 0 ≤ cn
        · by_cases hq : cn ≤ QQ
          · have hE : rdA b = some (⟨wd, t, bt, lo, hi, cn⟩, blks b q) := by rw [HE1.out, if_pos ⟨rfl, hc0, hq⟩]
            have hq1 : decide (QQ < cn) = false := decide_eq_false (by omega)
            have hc1 : decide (cn < 0) = false := decide_eq_false (by omega)
            have HE := Hid.mk hE
            clear HE1 hE hH hq hc0 hCB hCB1 k1 hw hQb hCB2
            refine wp_region_held_drew (S := fun w' => w'.cell? ⟨fb, 0, none⟩ = some (.int .i64 wd) ∧ w'.cell? ⟨fb, 1, none⟩ = some (.int .i64 t) ∧ w'.cell? ⟨fb, 2, none⟩ = some (.int .i64 bt) ∧ w'.cell? ⟨fb, 3, none⟩ = some (.int .i64 lo) ∧ w'.cell? ⟨fb, 4, none⟩ = some (.int .i64 hi) ∧ w'.cell? ⟨fb, 5, none⟩ = some (.int .i64 cn)) (by kernel_rfl) ?_ (fun hHeld => ?_)
            · exact ⟨y0, y1, y2, y3, y4, y5⟩
            refine wpAnyH_take (i := 0) (oi := { dst := some 26, op := Op.move (Operand.tmp 8), type := 23, pos := "bytes.go:119", after := #[], guard := none }) (v := ?vc1_0) rfl (by kernel_rfl) (by kernel_rfl) (by kernel_rfl) (fun _ _ _ h => h) (Or.inl ⟨by rfl, ?hc1_0⟩) (by assumption) ?rc1_0
            case hc1_0 => (intro w0 hSw; (try dsimp only at hSw); go_simp; try (with_reducible rfl))
            simp only [Act.put, List.setIfInBounds_toArray, List.set_cons_zero, List.set_cons_succ]
            refine wpAnyH_take (i := 1) (oi := { dst := some 27, op := Op.nilCheck (Operand.tmp 26), type := 0, pos := "bytes.go:119", after := #[{ on := 0, ground := Ground.data }], guard := none }) (v := ?vc1_1) rfl (by kernel_rfl) (by kernel_rfl) (by kernel_rfl) (fun _ _ _ h => h) (Or.inl ⟨by rfl, ?hc1_1⟩) (by assumption) ?rc1_1
            case hc1_1 => (intro w0 hSw; (try dsimp only at hSw); go_simp; try (with_reducible rfl))
            simp only [Act.put, List.setIfInBounds_toArray, List.set_cons_zero, List.set_cons_succ]
            refine wpAnyH_take (i := 2) (oi := { dst := some 28, op := Op.fieldAddr 54 (Operand.tmp 27) 0, type := 0, pos := "bytes.go:119", after := #[{ on := 1, ground := Ground.data }], guard := none }) (v := ?vc1_2) rfl (by kernel_rfl) (by kernel_rfl) (by kernel_rfl) (fun _ _ _ h => h) (Or.inl ⟨by rfl, ?hc1_2⟩) (by assumption) ?rc1_2
            case hc1_2 => (intro w0 hSw; (try dsimp only at hSw); go_simp; try (with_reducible rfl))
            simp only [Act.put, List.setIfInBounds_toArray, List.set_cons_zero, List.set_cons_succ]
            refine wpAnyH_take (i := 3) (oi := { dst := some 29, op := Op.load 31 (Operand.tmp 28), type := 31, pos := "bytes.go:119", after := #[{ on := 2, ground := Ground.data }], guard := none }) (v := ?vc1_3) rfl (by kernel_rfl) (by kernel_rfl) (by kernel_rfl) (fun _ _ _ h => h) (Or.inl ⟨by rfl, ?hc1_3⟩) (by assumption) ?rc1_3
            case hc1_3 => (intro w0 hSw; (try dsimp only at hSw); go_simp; try (with_reducible rfl))
            simp only [Act.put, List.setIfInBounds_toArray, List.set_cons_zero, List.set_cons_succ]
            refine wpAnyH_ready (rs := [4]) (by kernel_rfl) (by simp) ?_
            refine AllReadyH.cons rfl (fun K hK => ?_) AllReadyH.nil
            go_simp
            go_wp2_with (first | (go_at_call 35; refine (hch _).mono ?_; clear hch; rintro r w5 ⟨rfl, b5⟩; have z0 := cell_lat b5 y0; have z1 := cell_lat b5 y1; have z2 := cell_lat b5 y2; have z3 := cell_lat b5 y3; have z4 := cell_lat b5 y4; have z5 := cell_lat b5 y5) | (go_at_call 23; refine (hcb _ ((b5.block fb (World.block_lt_of_cell? _ _ y0)).trans hF)).mono ?_; clear hcb; rintro r w6 ⟨rfl, rfl⟩))
            refine hK.out _ _ ?_ (fun hHeld => ?_)
            · first | exact ⟨z0, z1, z2, z3, z4, z5⟩
            clear hK K
            refine wpAnyH_take (i := 5) (oi := { dst := some 31, op := Op.binOp BinOp.neq 24 (Operand.tmp 30) (Operand.const (Value.int IntKind.i64 0)) 24, type := 4, pos := "bytes.go:119", after := #[{ on := 4, ground := Ground.data }], guard := none }) (v := ?vc1_5) rfl (by kernel_rfl) (by kernel_rfl) (by kernel_rfl) (fun _ _ _ h => h) (Or.inl ⟨by rfl, ?hc1_5⟩) (by assumption) ?rc1_5
            case hc1_5 => (intro w0 hSw; (try dsimp only at hSw); go_simp; try (with_reducible rfl))
            simp only [Act.put, List.setIfInBounds_toArray, List.set_cons_zero, List.set_cons_succ]
            refine wpAnyH_take (i := 6) (oi := { dst := some 32, op := Op.move (Operand.tmp 31), type := 4, pos := "bytes.go:119", after := #[{ on := 5, ground := Ground.data }, { on := 4, ground := Ground.chain }], guard := none }) (v := ?vc1_6) rfl (by kernel_rfl) (by kernel_rfl) (by kernel_rfl) (fun _ _ _ h => h) (Or.inl ⟨by rfl, ?hc1_6⟩) (by assumption) ?rc1_6
            case hc1_6 => (intro w0 hSw; (try dsimp only at hSw); go_simp; try (with_reducible rfl))
            simp only [Act.put, List.setIfInBounds_toArray, List.set_cons_zero, List.set_cons_succ]
            refine wpAnyH_take (i := 7) (oi := { dst := some 33, op := Op.move (Operand.tmp 8), type := 23, pos := "bytes.go:119", after := #[{ on := 6, ground := Ground.guard }], guard := some (6, false) }) (v := ?vc1_7) rfl (by kernel_rfl) (by kernel_rfl) (by kernel_rfl) (fun _ _ _ h => h) (Or.inl ⟨by rfl, ?hc1_7⟩) (by assumption) ?rc1_7
            case hc1_7 => (intro w0 hSw; (try dsimp only at hSw); go_simp; try (with_reducible rfl))
            simp only [Act.put, List.setIfInBounds_toArray, List.set_cons_zero, List.set_cons_succ]
            refine wpAnyH_take (i := 8) (oi := { dst := some 34, op := Op.nilCheck (Operand.tmp 33), type := 0, pos := "bytes.go:119", after := #[{ on := 7, ground := Ground.data }, { on := 6, ground := Ground.guard }], guard := some (6, false) }) (v := ?vc1_8) rfl (by kernel_rfl) (by kernel_rfl) (by kernel_rfl) (fun _ _ _ h => h) (Or.inl ⟨by rfl, ?hc1_8⟩) (by assumption) ?rc1_8
            case hc1_8 => (intro w0 hSw; (try dsimp only at hSw); go_simp; try (with_reducible rfl))
            simp only [Act.put, List.setIfInBounds_toArray, List.set_cons_zero, List.set_cons_succ]
            refine wpAnyH_take (i := 9) (oi := { dst := some 35, op := Op.fieldAddr 54 (Operand.tmp 34) 0, type := 0, pos := "bytes.go:119", after := #[{ on := 8, ground := Ground.data }, { on := 6, ground := Ground.guard }], guard := some (6, false) }) (v := ?vc1_9) rfl (by kernel_rfl) (by kernel_rfl) (by kernel_rfl) (fun _ _ _ h => h) (Or.inl ⟨by rfl, ?hc1_9⟩) (by assumption) ?rc1_9
            case hc1_9 => (intro w0 hSw; (try dsimp only at hSw); go_simp; try (with_reducible rfl))
            simp only [Act.put, List.setIfInBounds_toArray, List.set_cons_zero, List.set_cons_succ]
            refine wpAnyH_take (i := 10) (oi := { dst := some 36, op := Op.fieldAddr 31 (Operand.tmp 35) 5, type := 0, pos := "bytes.go:119", after := #[{ on := 9, ground := Ground.data }, { on := 6, ground := Ground.guard }], guard := some (6, false) }) (v := ?vc1_10) rfl (by kernel_rfl) (by kernel_rfl) (by kernel_rfl) (fun _ _ _ h => h) (Or.inl ⟨by rfl, ?hc1_10⟩) (by assumption) ?rc1_10
            case hc1_10 => (intro w0 hSw; (try dsimp only at hSw); go_simp; try (with_reducible rfl))
            simp only [Act.put, List.setIfInBounds_toArray, List.set_cons_zero, List.set_cons_succ]
            refine wpAnyH_take (i := 11) (oi := { dst := some 37, op := Op.load 3 (Operand.tmp 36), type := 3, pos := "bytes.go:119", after := #[{ on := 10, ground := Ground.data }, { on := 6, ground := Ground.guard }], guard := some (6, false) }) (v := ?vc1_11) rfl (by kernel_rfl) (by kernel_rfl) (by kernel_rfl) (fun _ _ _ h => h) (Or.inl ⟨by rfl, ?hc1_11⟩) (by assumption) ?rc1_11
            case hc1_11 => (intro w0 hSw; (try dsimp only at hSw); go_simp; try (with_reducible rfl))
            simp only [Act.put, List.setIfInBounds_toArray, List.set_cons_zero, List.set_cons_succ]
            refine wpAnyH_take (i := 12) (oi := { dst := some 38, op := Op.binOp BinOp.lss 3 (Operand.tmp 37) (Operand.const (Value.int IntKind.i64 0)) 3, type := 4, pos := "bytes.go:119", after := #[{ on := 11, ground := Ground.data }, { on := 6, ground := Ground.guard }], guard := some (6, false) }) (v := ?vc1_12) rfl (by kernel_rfl) (by kernel_rfl) (by kernel_rfl) (fun _ _ _ h => h) (Or.inl ⟨by rfl, ?hc1_12⟩) (by assumption) ?rc1_12
            case hc1_12 => (intro w0 hSw; (try dsimp only at hSw); go_simp; try (with_reducible rfl))
            simp only [Act.put, List.setIfInBounds_toArray, List.set_cons_zero, List.set_cons_succ]
            refine wpAnyH_take (i := 13) (oi := { dst := some 39, op := Op.pick (Operand.tmp 32) (Operand.const (Value.bool true)) (Operand.tmp 38), type := 4, pos := "bytes.go:119", after := #[{ on := 6, ground := Ground.data }, { on := 12, ground := Ground.data }], guard := none }) (v := ?vc1_13) rfl (by kernel_rfl) (by kernel_rfl) (by kernel_rfl) (fun _ _ _ h => h) (Or.inl ⟨by rfl, ?hc1_13⟩) (by assumption) ?rc1_13
            case hc1_13 => (intro w0 hSw; (try dsimp only at hSw); go_simp; try (with_reducible rfl))
            simp only [Act.put, List.setIfInBounds_toArray, List.set_cons_zero, List.set_cons_succ]
            refine wpAnyH_take (i := 14) (oi := { dst := some 40, op := Op.move (Operand.tmp 39), type := 4, pos := "bytes.go:119", after := #[{ on := 13, ground := Ground.data }, { on := 6, ground := Ground.chain }], guard := none }) (v := ?vc1_14) rfl (by kernel_rfl) (by kernel_rfl) (by kernel_rfl) (fun _ _ _ h => h) (Or.inl ⟨by rfl, ?hc1_14⟩) (by assumption) ?rc1_14
            case hc1_14 => (intro w0 hSw; (try dsimp only at hSw); go_simp; try (with_reducible rfl))
            simp only [Act.put, List.setIfInBounds_toArray, List.set_cons_zero, List.set_cons_succ]
            refine wpAnyH_take (i := 15) (oi := { dst := some 41, op := Op.move (Operand.tmp 8), type := 23, pos := "bytes.go:119", after := #[{ on := 14, ground := Ground.guard }], guard := some (14, false) }) (v := ?vc1_15) rfl (by kernel_rfl) (by kernel_rfl) (by kernel_rfl) (fun _ _ _ h => h) (Or.inl ⟨by rfl, ?hc1_15⟩) (by assumption) ?rc1_15
            case hc1_15 => (intro w0 hSw; (try dsimp only at hSw); go_simp; try (with_reducible rfl))
            simp only [Act.put, List.setIfInBounds_toArray, List.set_cons_zero, List.set_cons_succ]
            refine wpAnyH_take (i := 16) (oi := { dst := some 42, op := Op.nilCheck (Operand.tmp 41), type := 0, pos := "bytes.go:119", after := #[{ on := 15, ground := Ground.data }, { on := 14, ground := Ground.guard }], guard := some (14, false) }) (v := ?vc1_16) rfl (by kernel_rfl) (by kernel_rfl) (by kernel_rfl) (fun _ _ _ h => h) (Or.inl ⟨by rfl, ?hc1_16⟩) (by assumption) ?rc1_16
            case hc1_16 => (intro w0 hSw; (try dsimp only at hSw); go_simp; try (with_reducible rfl))
            simp only [Act.put, List.setIfInBounds_toArray, List.set_cons_zero, List.set_cons_succ]
            refine wpAnyH_take (i := 17) (oi := { dst := some 43, op := Op.fieldAddr 54 (Operand.tmp 42) 0, type := 0, pos := "bytes.go:119", after := #[{ on := 16, ground := Ground.data }, { on := 14, ground := Ground.guard }], guard := some (14, false) }) (v := ?vc1_17) rfl (by kernel_rfl) (by kernel_rfl) (by kernel_rfl) (fun _ _ _ h => h) (Or.inl ⟨by rfl, ?hc1_17⟩) (by assumption) ?rc1_17
            case hc1_17 => (intro w0 hSw; (try dsimp only at hSw); go_simp; try (with_reducible rfl))
            simp only [Act.put, List.setIfInBounds_toArray, List.set_cons_zero, List.set_cons_succ]
            refine wpAnyH_take (i := 18) (oi := { dst := some 44, op := Op.fieldAddr 31 (Operand.tmp 43) 5, type := 0, pos := "bytes.go:119", after := #[{ on := 17, ground := Ground.data }, { on := 14, ground := Ground.guard }], guard := some (14, false) }) (v := ?vc1_18) rfl (by kernel_rfl) (by kernel_rfl) (by kernel_rfl) (fun _ _ _ h => h) (Or.inl ⟨by rfl, ?hc1_18⟩) (by assumption) ?rc1_18
            case hc1_18 => (intro w0 hSw; (try dsimp only at hSw); go_simp; try (with_reducible rfl))
            simp only [Act.put, List.setIfInBounds_toArray, List.set_cons_zero, List.set_cons_succ]
            refine wpAnyH_take (i := 19) (oi := { dst := some 45, op := Op.load 3 (Operand.tmp 44), type := 3, pos := "bytes.go:119", after := #[{ on := 18, ground := Ground.data }, { on := 14, ground := Ground.guard }], guard := some (14, false) }) (v := ?vc1_19) rfl (by kernel_rfl) (by kernel_rfl) (by kernel_rfl) (fun _ _ _ h => h) (Or.inl ⟨by rfl, ?hc1_19⟩) (by assumption) ?rc1_19
            case hc1_19 => (intro w0 hSw; (try dsimp only at hSw); go_simp; try (with_reducible rfl))
            simp only [Act.put, List.setIfInBounds_toArray, List.set_cons_zero, List.set_cons_succ]
            refine wpAnyH_take (i := 20) (oi := { dst := some 46, op := Op.move (Operand.tmp 0), type := 9, pos := "bytes.go:119", after := #[{ on := 14, ground := Ground.guard }], guard := some (14, false) }) (v := ?vc1_20) rfl (by kernel_rfl) (by kernel_rfl) (by kernel_rfl) (fun _ _ _ h => h) (Or.inl ⟨by rfl, ?hc1_20⟩) (by assumption) ?rc1_20
            case hc1_20 => (intro w0 hSw; (try dsimp only at hSw); go_simp; try (with_reducible rfl))
            simp only [Act.put, List.setIfInBounds_toArray, List.set_cons_zero, List.set_cons_succ]
            refine wpAnyH_take (i := 21) (oi := { dst := some 47, op := Op.call { callee := Callee.builtin Builtin.len, args := #[Operand.tmp 46], argTypes := #[9] }, type := 3, pos := "bytes.go:119", after := #[{ on := 20, ground := Ground.data }, { on := 14, ground := Ground.guard }], guard := some (14, false) }) (v := ?vc1_21) rfl (by kernel_rfl) (by kernel_rfl) (by kernel_rfl) (fun _ _ _ h => h) (Or.inl ⟨by rfl, ?hc1_21⟩) (by assumption) ?rc1_21
            case hc1_21 => (intro w0 hSw; (try dsimp only at hSw); go_simp; try (with_reducible rfl))
            simp only [Act.put, List.setIfInBounds_toArray, List.set_cons_zero, List.set_cons_succ]
            refine wpAnyH_take (i := 22) (oi := { dst := some 48, op := Op.move (Operand.tmp 8), type := 23, pos := "bytes.go:119", after := #[{ on := 14, ground := Ground.guard }], guard := some (14, false) }) (v := ?vc1_22) rfl (by kernel_rfl) (by kernel_rfl) (by kernel_rfl) (fun _ _ _ h => h) (Or.inl ⟨by rfl, ?hc1_22⟩) (by assumption) ?rc1_22
            case hc1_22 => (intro w0 hSw; (try dsimp only at hSw); go_simp; try (with_reducible rfl))
            simp only [Act.put, List.setIfInBounds_toArray, List.set_cons_zero, List.set_cons_succ]
            refine wpAnyH_ready (rs := [23]) (by kernel_rfl) (by simp) ?_
            refine AllReadyH.cons rfl (fun K hK => ?_) AllReadyH.nil
            go_simp
            go_wp2_with (first | (go_at_call 35; refine (hch _).mono ?_; clear hch; rintro r w5 ⟨rfl, b5⟩; have z0 := cell_lat b5 y0; have z1 := cell_lat b5 y1; have z2 := cell_lat b5 y2; have z3 := cell_lat b5 y3; have z4 := cell_lat b5 y4; have z5 := cell_lat b5 y5) | (go_at_call 23; refine (hcb _ ((b5.block fb (World.block_lt_of_cell? _ _ y0)).trans hF)).mono ?_; clear hcb; rintro r w6 ⟨rfl, rfl⟩))
            refine hK.out _ _ ?_ (fun hHeld => ?_)
            · first | exact ⟨z0, z1, z2, z3, z4, z5⟩
            clear hK K
            refine wpAnyH_take (i := 24) (oi := { dst := some 50, op := Op.binOp BinOp.add 3 (Operand.tmp 49) (Operand.const (Value.int IntKind.i64 7)) 3, type := 3, pos := "bytes.go:119", after := #[{ on := 23, ground := Ground.data }, { on := 14, ground := Ground.guard }], guard := some (14, false) }) (v := ?vc1_24) rfl (by kernel_rfl) (by kernel_rfl) (by kernel_rfl) (fun _ _ _ h => h) (Or.inl ⟨by rfl, ?hc1_24⟩) (by assumption) ?rc1_24
            case hc1_24 => (intro w0 hSw; (try dsimp only at hSw); go_simp; try (with_reducible rfl))
            simp only [Act.put, List.setIfInBounds_toArray, List.set_cons_zero, List.set_cons_succ]
            refine wpAnyH_take (i := 25) (oi := { dst := some 51, op := Op.binOp BinOp.quo 3 (Operand.tmp 47) (Operand.tmp 50) 3, type := 3, pos := "bytes.go:119", after := #[{ on := 21, ground := Ground.data }, { on := 24, ground := Ground.data }, { on := 14, ground := Ground.guard }], guard := some (14, false) }) (v := ?vc1_25) rfl (by kernel_rfl) (by kernel_rfl) (by kernel_rfl) (fun _ _ _ h => h) (Or.inl ⟨by rfl, ?hc1_25⟩) (by assumption) ?rc1_25
            case hc1_25 => (intro w0 hSw; (try dsimp only at hSw); go_simp; try (with_reducible rfl))
            simp only [Act.put, List.setIfInBounds_toArray, List.set_cons_zero, List.set_cons_succ]
            refine wpAnyH_take (i := 26) (oi := { dst := some 52, op := Op.binOp BinOp.gtr 3 (Operand.tmp 45) (Operand.tmp 51) 3, type := 4, pos := "bytes.go:119", after := #[{ on := 19, ground := Ground.data }, { on := 25, ground := Ground.data }, { on := 14, ground := Ground.guard }], guard := some (14, false) }) (v := ?vc1_26) rfl (by kernel_rfl) (by kernel_rfl) (by kernel_rfl) (fun _ _ _ h => h) (Or.inl ⟨by rfl, ?hc1_26⟩) (by assumption) ?rc1_26
            case hc1_26 => (intro w0 hSw; (try dsimp only at hSw); go_simp; try (with_reducible rfl))
            simp only [Act.put, List.setIfInBounds_toArray, List.set_cons_zero, List.set_cons_succ]
            refine wpAnyH_take (i := 27) (oi := { dst := some 53, op := Op.pick (Operand.tmp 40) (Operand.const (Value.bool true)) (Operand.tmp 52), type := 4, pos := "bytes.go:119", after := #[{ on := 14, ground := Ground.data }, { on := 26, ground := Ground.data }], guard := none }) (v := ?vc1_27) rfl (by kernel_rfl) (by kernel_rfl) (by kernel_rfl) (fun _ _ _ h => h) (Or.inl ⟨by rfl, ?hc1_27⟩) (by assumption) ?rc1_27
            case hc1_27 => (intro w0 hSw; (try dsimp only at hSw); go_simp; try (with_reducible rfl))
            simp only [Act.put, List.setIfInBounds_toArray, List.set_cons_zero, List.set_cons_succ]
            refine wpAnyH_done (by kernel_rfl) ?_ _
            have bV : Below w.heap.size w w6 := chain b13 (below_d b5) (Nat.le_refl _)
            have F5 : FA w6 fb ⟨wd, t, bt, lo, hi, cn⟩ [] [] (.slice none 0 0) (.slice none 0 0) 0 := ⟨(b5.block fb (World.block_lt_of_cell? _ _ y0)).trans hF, ⟨rfl, .inl ⟨rfl, rfl⟩⟩, ⟨rfl, .inl ⟨rfl, rfl⟩⟩⟩
            clear y0 y1 y2 y3 y4 y5 z0 z1 z2 z3 z4 z5 hF b13 b5
            go_wp2_with fail
            go_loopw [4, 5, 6, 7] (fun _ _ av _ wr => ∃ (a : Nat) (pre : List (List UInt8)) (bv : Value), av = .int .i64 a ∧ a ≤ b.size ∧ pre ++ blks b a = blks b q ∧ (pre.map (·.length + 14)).sum + q = a ∧ FA wr fb ⟨wd, t, bt, lo, hi, cn⟩ pre [] bv (.slice none 0 0) 0 ∧ (∀ k, bv.ownBlock = some k → w.heap.size ≤ k) ∧ Below w.heap.size w wr) (fun _ _ av _ _ => b.size + 1 - (intOf av).toNat)
            case atStart => exact ⟨q, [], .slice none 0 0, rfl, hnx.2.1, rfl, by simp, F5, (fun k h => by cases h), bV⟩
            case round =>
              obtain ⟨a, pre, bv, rfl, ha, hpr, hsum, hF, hbv, hbw⟩ := hrel
              obtain ⟨⟨k, p, q2, e⟩, hR⟩ : ∃ R, psA b a = R := ⟨_, rfl⟩
              obtain ⟨ht2, hg2⟩ := HT.out.1.blk HT.out.2 hbw
              have c1 := parse_nat b a k p q2 e wr ht2 hg2 hb' ha hR
              clear ht2 hg2 F5 bV
              by_cases hy : e = 0 ∧ k = 5
              · obtain ⟨rfl, rfl⟩ := hy
                have hn2 := psA_next (b := b) (a := a) (by rw [hR])
                have hb2 := blks_yes (b := b) (a := a) (by rw [hR]; exact ⟨rfl, rfl⟩)
                rw [hR] at hn2 hb2
                dsimp only at hn2 hb2
                rw [hb2] at hpr
                have hpl : pre.length * 14 + q ≤ a := by
                  have : pre.length * 14 ≤ (pre.map (·.length + 14)).sum := by
                    clear hsum hpr hF
                    induction pre with
                    | nil => simp
                    | cons x l ih => simp only [List.length_cons, List.map_cons, List.sum_cons]; omega
                  omega
                have HH := Hid.mk (And.intro hpr (And.intro hsum (And.intro hF (And.intro hbv hbw))))
                have hF' := hF
                clear hpr hsum hF hbv hbw hb2 hR
                obtain ⟨P2, hP2⟩ : ∃ P2 : ByteArray, P2 = ⟨p.toArray⟩ := ⟨_, rfl⟩
                rw [← hP2] at c1
                go_wp2_with fail
                refine c1.mono ?_
                clear c1
                rintro r w7 ⟨rfl, b7⟩
                have F7 := hF'.below b7
                clear hF'
                obtain ⟨ba, bc, rfl, -⟩ := slice_form F7.row
                obtain ⟨v8, w8, hap, ho8, st8, loc8⟩ := str_app w7 pre _ F7.row p (by omega)
                rw [show sv p = .string P2 by rw [hP2]] at hap
                have hb8 : w8.heap[fb]? = _ := (st8.block fb F7.lt (fun h => F7.row_ne h rfl)).trans F7.box
                obtain ⟨-, x6, -⟩ := fl9 F7.box
                obtain ⟨-, z6, -, -, zf⟩ := fl9 hb8
                have z6f := zf 6
                have hfz : fb < w7.heap.size := F7.lt
                have HF := Hid.mk (And.intro F7 (And.intro ho8 (And.intro st8 (And.intro loc8 (And.intro hb8 b7)))))
                obtain ⟨va, vc, hv8, -⟩ := slice_form ho8
                rw [hv8] at hap
                have HV8 := Hid.mk hv8
                clear F7 ho8 st8 loc8 hb8 b7 zf hv8 hP2
                go_wp2_with (at_builtin; refine wpList_append_eq rfl _ _ _ _ rfl _ _ _ _ rfl rfl hap ?_; clear hap)
                obtain ⟨F7, ho8, st8, loc8, hb8, b7⟩ := HF.out
                obtain ⟨hpr, hsum, hF, hbv, hbw⟩ := HH.out
                rw [show Value.slice va (pre.length + 1) vc = v8 by rw [HV8.out, List.length_append]; rfl]
                have hne : ∀ k, v8.ownBlock = some k → k ≠ fb := fun k hk e => by
                  obtain ⟨c, hc⟩ := row_block ho8 hk
                  rw [e, hb8] at hc; simp at hc
                have stF : Stay (fun k => k = fb) w8 (w8.setCell ⟨fb, 6, none⟩ v8) := stay1 _ _ _ _ _ (.refl _ _)
                refine ⟨⟨q2, pre ++ [p], v8, rfl, hn2.2.1, by rw [List.append_assoc]; exact hpr, by simp only [List.map_append, List.sum_append, List.map_cons, List.map_nil, List.sum_cons, List.sum_nil]; omega, ⟨fl_set6 hb8 v8, row_kept ho8 stF (fun k hk e => hne k hk e), ⟨rfl, .inl ⟨rfl, rfl⟩⟩⟩, fun k hk => ?_, ?_⟩, by simp only [intOf]; omega⟩
                · rcases loc8 k hk with h | h
                  · exact hbv k h
                  · exact Nat.le_trans (Nat.le_trans hbw.size b7.size) h
                · have b8 : Below w.heap.size w7 w8 := st8.toBelow (fun k hk e => by have := hbv k e; omega) (Nat.le_trans hbw.size b7.size)
                  exact (((hbw.trans (b7.mono hbw.size)).trans b8).setCell (p := ⟨fb, 6, none⟩) hfw _)
              · have hb2 := blks_no (b := b) (a := a) (by rw [hR]; exact hy)
                rw [hb2, List.append_nil] at hpr
                subst hpr
                have hfin : ∀ w7, Below wr.heap.size wr w7 → RdO b w (.returned (.tuple #[Pt fb, .bool true])) w7 := fun w7 b7 => RdO.yes HE.out (chain hbw b7 (Nat.le_refl _)) hfw (hF.below b7) hbv
                replace hfin := Hid.mk hfin
                clear hF hbv hbw hb2 hR hsum
                by_cases h0 : e = 0
                · have hk5 : ((k : Int) != 5) = true := by
                    have : ¬ k = 5 := fun h => hy ⟨h0, h⟩
                    simp; omega
                  subst h0
                  clear hy
                  go_wp2_with (go_at_call 33; refine c1.mono ?_; rintro r w7 ⟨rfl, b7⟩; clear c1)
                  go_ret2
                  exact hfin.out _ b7
                · have h0' : (e != 0) = true := by simpa using h0
                  clear hy h0
                  go_wp2_with (go_at_call 33; refine c1.mono ?_; rintro r w7 ⟨rfl, b7⟩; clear c1)
                  go_ret2
                  exact hfin.out _ b7
          · have hE : rdA b = none := by rw [HE1.out, if_neg (fun h => hq h.2.2)]
            have hq1 : decide (QQ < cn) = true := decide_eq_true (by omega)
            have hc1 : decide (cn < 0) = false := decide_eq_false (by omega)
            clear HE1 hH hq hc0 hCB hCB1 k1 hw hQb hCB2
            refine wp_region_held_drew (S := fun w' => w'.cell? ⟨fb, 0, none⟩ = some (.int .i64 wd) ∧ w'.cell? ⟨fb, 1, none⟩ = some (.int .i64 t) ∧ w'.cell? ⟨fb, 2, none⟩ = some (.int .i64 bt) ∧ w'.cell? ⟨fb, 3, none⟩ = some (.int .i64 lo) ∧ w'.cell? ⟨fb, 4, none⟩ = some (.int .i64 hi) ∧ w'.cell? ⟨fb, 5, none⟩ = some (.int .i64 cn)) (by kernel_rfl) ?_ (fun hHeld => ?_)
            · exact ⟨y0, y1, y2, y3, y4, y5⟩
            refine wpAnyH_take (i := 0) (oi := { dst := some 26, op := Op.move (Operand.tmp 8), type := 23, pos := "bytes.go:119", after := #[], guard := none }) (v := ?vc2_0) rfl (by kernel_rfl) (by kernel_rfl) (by kernel_rfl) (fun _ _ _ h => h) (Or.inl ⟨by rfl, ?hc2_0⟩) (by assumption) ?rc2_0
            case hc2_0 => (intro w0 hSw; (try dsimp only at hSw); go_simp; try (with_reducible rfl))
            simp only [Act.put, List.setIfInBounds_toArray, List.set_cons_zero, List.set_cons_succ]
            refine wpAnyH_take (i := 1) (oi := { dst := some 27, op := Op.nilCheck (Operand.tmp 26), type := 0, pos := "bytes.go:119", after := #[{ on := 0, ground := Ground.data }], guard := none }) (v := ?vc2_1) rfl (by kernel_rfl) (by kernel_rfl) (by kernel_rfl) (fun _ _ _ h => h) (Or.inl ⟨by rfl, ?hc2_1⟩) (by assumption) ?rc2_1
            case hc2_1 => (intro w0 hSw; (try dsimp only at hSw); go_simp; try (with_reducible rfl))
            simp only [Act.put, List.setIfInBounds_toArray, List.set_cons_zero, List.set_cons_succ]
            refine wpAnyH_take (i := 2) (oi := { dst := some 28, op := Op.fieldAddr 54 (Operand.tmp 27) 0, type := 0, pos := "bytes.go:119", after := #[{ on := 1, ground := Ground.data }], guard := none }) (v := ?vc2_2) rfl (by kernel_rfl) (by kernel_rfl) (by kernel_rfl) (fun _ _ _ h => h) (Or.inl ⟨by rfl, ?hc2_2⟩) (by assumption) ?rc2_2
            case hc2_2 => (intro w0 hSw; (try dsimp only at hSw); go_simp; try (with_reducible rfl))
            simp only [Act.put, List.setIfInBounds_toArray, List.set_cons_zero, List.set_cons_succ]
            refine wpAnyH_take (i := 3) (oi := { dst := some 29, op := Op.load 31 (Operand.tmp 28), type := 31, pos := "bytes.go:119", after := #[{ on := 2, ground := Ground.data }], guard := none }) (v := ?vc2_3) rfl (by kernel_rfl) (by kernel_rfl) (by kernel_rfl) (fun _ _ _ h => h) (Or.inl ⟨by rfl, ?hc2_3⟩) (by assumption) ?rc2_3
            case hc2_3 => (intro w0 hSw; (try dsimp only at hSw); go_simp; try (with_reducible rfl))
            simp only [Act.put, List.setIfInBounds_toArray, List.set_cons_zero, List.set_cons_succ]
            refine wpAnyH_ready (rs := [4]) (by kernel_rfl) (by simp) ?_
            refine AllReadyH.cons rfl (fun K hK => ?_) AllReadyH.nil
            go_simp
            go_wp2_with (first | (go_at_call 35; refine (hch _).mono ?_; clear hch; rintro r w5 ⟨rfl, b5⟩; have z0 := cell_lat b5 y0; have z1 := cell_lat b5 y1; have z2 := cell_lat b5 y2; have z3 := cell_lat b5 y3; have z4 := cell_lat b5 y4; have z5 := cell_lat b5 y5) | (go_at_call 23; refine (hcb _ ((b5.block fb (World.block_lt_of_cell? _ _ y0)).trans hF)).mono ?_; clear hcb; rintro r w6 ⟨rfl, rfl⟩))
            refine hK.out _ _ ?_ (fun hHeld => ?_)
            · first | exact ⟨z0, z1, z2, z3, z4, z5⟩
            clear hK K
            refine wpAnyH_take (i := 5) (oi := { dst := some 31, op := Op.binOp BinOp.neq 24 (Operand.tmp 30) (Operand.const (Value.int IntKind.i64 0)) 24, type := 4, pos := "bytes.go:119", after := #[{ on := 4, ground := Ground.data }], guard := none }) (v := ?vc2_5) rfl (by kernel_rfl) (by kernel_rfl) (by kernel_rfl) (fun _ _ _ h => h) (Or.inl ⟨by rfl, ?hc2_5⟩) (by assumption) ?rc2_5
            case hc2_5 => (intro w0 hSw; (try dsimp only at hSw); go_simp; try (with_reducible rfl))
            simp only [Act.put, List.setIfInBounds_toArray, List.set_cons_zero, List.set_cons_succ]
            refine wpAnyH_take (i := 6) (oi := { dst := some 32, op := Op.move (Operand.tmp 31), type := 4, pos := "bytes.go:119", after := #[{ on := 5, ground := Ground.data }, { on := 4, ground := Ground.chain }], guard := none }) (v := ?vc2_6) rfl (by kernel_rfl) (by kernel_rfl) (by kernel_rfl) (fun _ _ _ h => h) (Or.inl ⟨by rfl, ?hc2_6⟩) (by assumption) ?rc2_6
            case hc2_6 => (intro w0 hSw; (try dsimp only at hSw); go_simp; try (with_reducible rfl))
            simp only [Act.put, List.setIfInBounds_toArray, List.set_cons_zero, List.set_cons_succ]
            refine wpAnyH_take (i := 7) (oi := { dst := some 33, op := Op.move (Operand.tmp 8), type := 23, pos := "bytes.go:119", after := #[{ on := 6, ground := Ground.guard }], guard := some (6, false) }) (v := ?vc2_7) rfl (by kernel_rfl) (by kernel_rfl) (by kernel_rfl) (fun _ _ _ h => h) (Or.inl ⟨by rfl, ?hc2_7⟩) (by assumption) ?rc2_7
            case hc2_7 => (intro w0 hSw; (try dsimp only at hSw); go_simp; try (with_reducible rfl))
            simp only [Act.put, List.setIfInBounds_toArray, List.set_cons_zero, List.set_cons_succ]
            refine wpAnyH_take (i := 8) (oi := { dst := some 34, op := Op.nilCheck (Operand.tmp 33), type := 0, pos := "bytes.go:119", after := #[{ on := 7, ground := Ground.data }, { on := 6, ground := Ground.guard }], guard := some (6, false) }) (v := ?vc2_8) rfl (by kernel_rfl) (by kernel_rfl) (by kernel_rfl) (fun _ _ _ h => h) (Or.inl ⟨by rfl, ?hc2_8⟩) (by assumption) ?rc2_8
            case hc2_8 => (intro w0 hSw; (try dsimp only at hSw); go_simp; try (with_reducible rfl))
            simp only [Act.put, List.setIfInBounds_toArray, List.set_cons_zero, List.set_cons_succ]
            refine wpAnyH_take (i := 9) (oi := { dst := some 35, op := Op.fieldAddr 54 (Operand.tmp 34) 0, type := 0, pos := "bytes.go:119", after := #[{ on := 8, ground := Ground.data }, { on := 6, ground := Ground.guard }], guard := some (6, false) }) (v := ?vc2_9) rfl (by kernel_rfl) (by kernel_rfl) (by kernel_rfl) (fun _ _ _ h => h) (Or.inl ⟨by rfl, ?hc2_9⟩) (by assumption) ?rc2_9
            case hc2_9 => (intro w0 hSw; (try dsimp only at hSw); go_simp; try (with_reducible rfl))
            simp only [Act.put, List.setIfInBounds_toArray, List.set_cons_zero, List.set_cons_succ]
            refine wpAnyH_take (i := 10) (oi := { dst := some 36, op := Op.fieldAddr 31 (Operand.tmp 35) 5, type := 0, pos := "bytes.go:119", after := #[{ on := 9, ground := Ground.data }, { on := 6, ground := Ground.guard }], guard := some (6, false) }) (v := ?vc2_10) rfl (by kernel_rfl) (by kernel_rfl) (by kernel_rfl) (fun _ _ _ h => h) (Or.inl ⟨by rfl, ?hc2_10⟩) (by assumption) ?rc2_10
            case hc2_10 => (intro w0 hSw; (try dsimp only at hSw); go_simp; try (with_reducible rfl))
            simp only [Act.put, List.setIfInBounds_toArray, List.set_cons_zero, List.set_cons_succ]
            refine wpAnyH_take (i := 11) (oi := { dst := some 37, op := Op.load 3 (Operand.tmp 36), type := 3, pos := "bytes.go:119", after := #[{ on := 10, ground := Ground.data }, { on := 6, ground := Ground.guard }], guard := some (6, false) }) (v := ?vc2_11) rfl (by kernel_rfl) (by kernel_rfl) (by kernel_rfl) (fun _ _ _ h => h) (Or.inl ⟨by rfl, ?hc2_11⟩) (by assumption) ?rc2_11
            case hc2_11 => (intro w0 hSw; (try dsimp only at hSw); go_simp; try (with_reducible rfl))
            simp only [Act.put, List.setIfInBounds_toArray, List.set_cons_zero, List.set_cons_succ]
            refine wpAnyH_take (i := 12) (oi := { dst := some 38, op := Op.binOp BinOp.lss 3 (Operand.tmp 37) (Operand.const (Value.int IntKind.i64 0)) 3, type := 4, pos := "bytes.go:119", after := #[{ on := 11, ground := Ground.data }, { on := 6, ground := Ground.guard }], guard := some (6, false) }) (v := ?vc2_12) rfl (by kernel_rfl) (by kernel_rfl) (by kernel_rfl) (fun _ _ _ h => h) (Or.inl ⟨by rfl, ?hc2_12⟩) (by assumption) ?rc2_12
            case hc2_12 => (intro w0 hSw; (try dsimp only at hSw); go_simp; try (with_reducible rfl))
            simp only [Act.put, List.setIfInBounds_toArray, List.set_cons_zero, List.set_cons_succ]
            refine wpAnyH_take (i := 13) (oi := { dst := some 39, op := Op.pick (Operand.tmp 32) (Operand.const (Value.bool true)) (Operand.tmp 38), type := 4, pos := "bytes.go:119", after := #[{ on := 6, ground := Ground.data }, { on := 12, ground := Ground.data }], guard := none }) (v := ?vc2_13) rfl (by kernel_rfl) (by kernel_rfl) (by kernel_rfl) (fun _ _ _ h => h) (Or.inl ⟨by rfl, ?hc2_13⟩) (by assumption) ?rc2_13
            case hc2_13 => (intro w0 hSw; (try dsimp only at hSw); go_simp; try (with_reducible rfl))
            simp only [Act.put, List.setIfInBounds_toArray, List.set_cons_zero, List.set_cons_succ]
            refine wpAnyH_take (i := 14) (oi := { dst := some 40, op := Op.move (Operand.tmp 39), type := 4, pos := "bytes.go:119", after := #[{ on := 13, ground := Ground.data }, { on := 6, ground := Ground.chain }], guard := none }) (v := ?vc2_14) rfl (by kernel_rfl) (by kernel_rfl) (by kernel_rfl) (fun _ _ _ h => h) (Or.inl ⟨by rfl, ?hc2_14⟩) (by assumption) ?rc2_14
            case hc2_14 => (intro w0 hSw; (try dsimp only at hSw); go_simp; try (with_reducible rfl))
            simp only [Act.put, List.setIfInBounds_toArray, List.set_cons_zero, List.set_cons_succ]
            refine wpAnyH_take (i := 15) (oi := { dst := some 41, op := Op.move (Operand.tmp 8), type := 23, pos := "bytes.go:119", after := #[{ on := 14, ground := Ground.guard }], guard := some (14, false) }) (v := ?vc2_15) rfl (by kernel_rfl) (by kernel_rfl) (by kernel_rfl) (fun _ _ _ h => h) (Or.inl ⟨by rfl, ?hc2_15⟩) (by assumption) ?rc2_15
            case hc2_15 => (intro w0 hSw; (try dsimp only at hSw); go_simp; try (with_reducible rfl))
            simp only [Act.put, List.setIfInBounds_toArray, List.set_cons_zero, List.set_cons_succ]
            refine wpAnyH_take (i := 16) (oi := { dst := some 42, op := Op.nilCheck (Operand.tmp 41), type := 0, pos := "bytes.go:119", after := #[{ on := 15, ground := Ground.data }, { on := 14, ground := Ground.guard }], guard := some (14, false) }) (v := ?vc2_16) rfl (by kernel_rfl) (by kernel_rfl) (by kernel_rfl) (fun _ _ _ h => h) (Or.inl ⟨by rfl, ?hc2_16⟩) (by assumption) ?rc2_16
            case hc2_16 => (intro w0 hSw; (try dsimp only at hSw); go_simp; try (with_reducible rfl))
            simp only [Act.put, List.setIfInBounds_toArray, List.set_cons_zero, List.set_cons_succ]
            refine wpAnyH_take (i := 17) (oi := { dst := some 43, op := Op.fieldAddr 54 (Operand.tmp 42) 0, type := 0, pos := "bytes.go:119", after := #[{ on := 16, ground := Ground.data }, { on := 14, ground := Ground.guard }], guard := some (14, false) }) (v := ?vc2_17) rfl (by kernel_rfl) (by kernel_rfl) (by kernel_rfl) (fun _ _ _ h => h) (Or.inl ⟨by rfl, ?hc2_17⟩) (by assumption) ?rc2_17
            case hc2_17 => (intro w0 hSw; (try dsimp only at hSw); go_simp; try (with_reducible rfl))
            simp only [Act.put, List.setIfInBounds_toArray, List.set_cons_zero, List.set_cons_succ]
            refine wpAnyH_take (i := 18) (oi := { dst := some 44, op := Op.fieldAddr 31 (Operand.tmp 43) 5, type := 0, pos := "bytes.go:119", after := #[{ on := 17, ground := Ground.data }, { on := 14, ground := Ground.guard }], guard := some (14, false) }) (v := ?vc2_18) rfl (by kernel_rfl) (by kernel_rfl) (by kernel_rfl) (fun _ _ _ h => h) (Or.inl ⟨by rfl, ?hc2_18⟩) (by assumption) ?rc2_18
            case hc2_18 => (intro w0 hSw; (try dsimp only at hSw); go_simp; try (with_reducible rfl))
            simp only [Act.put, List.setIfInBounds_toArray, List.set_cons_zero, List.set_cons_succ]
            refine wpAnyH_take (i := 19) (oi := { dst := some 45, op := Op.load 3 (Operand.tmp 44), type := 3, pos := "bytes.go:119", after := #[{ on := 18, ground := Ground.data }, { on := 14, ground := Ground.guard }], guard := some (14, false) }) (v := ?vc2_19) rfl (by kernel_rfl) (by kernel_rfl) (by kernel_rfl) (fun _ _ _ h => h) (Or.inl ⟨by rfl, ?hc2_19⟩) (by assumption) ?rc2_19
            case hc2_19 => (intro w0 hSw; (try dsimp only at hSw); go_simp; try (with_reducible rfl))
            simp only [Act.put, List.setIfInBounds_toArray, List.set_cons_zero, List.set_cons_succ]
            refine wpAnyH_take (i := 20) (oi := { dst := some 46, op := Op.move (Operand.tmp 0), type := 9, pos := "bytes.go:119", after := #[{ on := 14, ground := Ground.guard }], guard := some (14, false) }) (v := ?vc2_20) rfl (by kernel_rfl) (by kernel_rfl) (by kernel_rfl) (fun _ _ _ h => h) (Or.inl ⟨by rfl, ?hc2_20⟩) (by assumption) ?rc2_20
            case hc2_20 => (intro w0 hSw; (try dsimp only at hSw); go_simp; try (with_reducible rfl))
            simp only [Act.put, List.setIfInBounds_toArray, List.set_cons_zero, List.set_cons_succ]
            refine wpAnyH_take (i := 21) (oi := { dst := some 47, op := Op.call { callee := Callee.builtin Builtin.len, args := #[Operand.tmp 46], argTypes := #[9] }, type := 3, pos := "bytes.go:119", after := #[{ on := 20, ground := Ground.data }, { on := 14, ground := Ground.guard }], guard := some (14, false) }) (v := ?vc2_21) rfl (by kernel_rfl) (by kernel_rfl) (by kernel_rfl) (fun _ _ _ h => h) (Or.inl ⟨by rfl, ?hc2_21⟩) (by assumption) ?rc2_21
            case hc2_21 => (intro w0 hSw; (try dsimp only at hSw); go_simp; try (with_reducible rfl))
            simp only [Act.put, List.setIfInBounds_toArray, List.set_cons_zero, List.set_cons_succ]
            refine wpAnyH_take (i := 22) (oi := { dst := some 48, op := Op.move (Operand.tmp 8), type := 23, pos := "bytes.go:119", after := #[{ on := 14, ground := Ground.guard }], guard := some (14, false) }) (v := ?vc2_22) rfl (by kernel_rfl) (by kernel_rfl) (by kernel_rfl) (fun _ _ _ h => h) (Or.inl ⟨by rfl, ?hc2_22⟩) (by assumption) ?rc2_22
            case hc2_22 => (intro w0 hSw; (try dsimp only at hSw); go_simp; try (with_reducible rfl))
            simp only [Act.put, List.setIfInBounds_toArray, List.set_cons_zero, List.set_cons_succ]
            refine wpAnyH_ready (rs := [23]) (by kernel_rfl) (by simp) ?_
            refine AllReadyH.cons rfl (fun K hK => ?_) AllReadyH.nil
            go_simp
            go_wp2_with (first | (go_at_call 35; refine (hch _).mono ?_; clear hch; rintro r w5 ⟨rfl, b5⟩; have z0 := cell_lat b5 y0; have z1 := cell_lat b5 y1; have z2 := cell_lat b5 y2; have z3 := cell_lat b5 y3; have z4 := cell_lat b5 y4; have z5 := cell_lat b5 y5) | (go_at_call 23; refine (hcb _ ((b5.block fb (World.block_lt_of_cell? _ _ y0)).trans hF)).mono ?_; clear hcb; rintro r w6 ⟨rfl, rfl⟩))
            refine hK.out _ _ ?_ (fun hHeld => ?_)
            · first | exact ⟨z0, z1, z2, z3, z4, z5⟩
            clear hK K
            refine wpAnyH_take (i := 24) (oi := { dst := some 50, op := Op.binOp BinOp.add 3 (Operand.tmp 49) (Operand.const (Value.int IntKind.i64 7)) 3, type := 3, pos := "bytes.go:119", after := #[{ on := 23, ground := Ground.data }, { on := 14, ground := Ground.guard }], guard := some (14, false) }) (v := ?vc2_24) rfl (by kernel_rfl) (by kernel_rfl) (by kernel_rfl) (fun _ _ _ h => h) (Or.inl ⟨by rfl, ?hc2_24⟩) (by assumption) ?rc2_24
            case hc2_24 => (intro w0 hSw; (try dsimp only at hSw); go_simp; try (with_reducible rfl))
            simp only [Act.put, List.setIfInBounds_toArray, List.set_cons_zero, List.set_cons_succ]
            refine wpAnyH_take (i := 25) (oi := { dst := some 51, op := Op.binOp BinOp.quo 3 (Operand.tmp 47) (Operand.tmp 50) 3, type := 3, pos := "bytes.go:119", after := #[{ on := 21, ground := Ground.data }, { on := 24, ground := Ground.data }, { on := 14, ground := Ground.guard }], guard := some (14, false) }) (v := ?vc2_25) rfl (by kernel_rfl) (by kernel_rfl) (by kernel_rfl) (fun _ _ _ h => h) (Or.inl ⟨by rfl, ?hc2_25⟩) (by assumption) ?rc2_25
            case hc2_25 => (intro w0 hSw; (try dsimp only at hSw); go_simp; try (with_reducible rfl))
            simp only [Act.put, List.setIfInBounds_toArray, List.set_cons_zero, List.set_cons_succ]
            refine wpAnyH_take (i := 26) (oi := { dst := some 52, op := Op.binOp BinOp.gtr 3 (Operand.tmp 45) (Operand.tmp 51) 3, type := 4, pos := "bytes.go:119", after := #[{ on := 19, ground := Ground.data }, { on := 25, ground := Ground.data }, { on := 14, ground := Ground.guard }], guard := some (14, false) }) (v := ?vc2_26) rfl (by kernel_rfl) (by kernel_rfl) (by kernel_rfl) (fun _ _ _ h => h) (Or.inl ⟨by rfl, ?hc2_26⟩) (by assumption) ?rc2_26
            case hc2_26 => (intro w0 hSw; (try dsimp only at hSw); go_simp; try (with_reducible rfl))
            simp only [Act.put, List.setIfInBounds_toArray, List.set_cons_zero, List.set_cons_succ]
            refine wpAnyH_take (i := 27) (oi := { dst := some 53, op := Op.pick (Operand.tmp 40) (Operand.const (Value.bool true)) (Operand.tmp 52), type := 4, pos := "bytes.go:119", after := #[{ on := 14, ground := Ground.data }, { on := 26, ground := Ground.data }], guard := none }) (v := ?vc2_27) rfl (by kernel_rfl) (by kernel_rfl) (by kernel_rfl) (fun _ _ _ h => h) (Or.inl ⟨by rfl, ?hc2_27⟩) (by assumption) ?rc2_27
            case hc2_27 => (intro w0 hSw; (try dsimp only at hSw); go_simp; try (with_reducible rfl))
            simp only [Act.put, List.setIfInBounds_toArray, List.set_cons_zero, List.set_cons_succ]
            refine wpAnyH_done (by kernel_rfl) ?_ _
            go_wp2
            go_ret2
            exact RdO.no hE (chain b13 (below_d b5) (Nat.le_refl _))
        · have hE : rdA b = none := by rw [HE1.out, if_neg (fun h => hc0 h.2.1)]
          have hc1 : decide (cn < 0) = true := decide_eq_true (by omega)
          clear HE1 hH hc0 hcb hCB hCB1 k1
          refine wp_region_held_drew (S := fun w' => w'.cell? ⟨fb, 0, none⟩ = some (.int .i64 wd) ∧ w'.cell? ⟨fb, 1, none⟩ = some (.int .i64 t) ∧ w'.cell? ⟨fb, 2, none⟩ = some (.int .i64 bt) ∧ w'.cell? ⟨fb, 3, none⟩ = some (.int .i64 lo) ∧ w'.cell? ⟨fb, 4, none⟩ = some (.int .i64 hi) ∧ w'.cell? ⟨fb, 5, none⟩ = some (.int .i64 cn)) (by kernel_rfl) ?_ (fun hHeld => ?_)
          · exact ⟨y0, y1, y2, y3, y4, y5⟩
          refine wpAnyH_take (i := 0) (oi := { dst := some 26, op := Op.move (Operand.tmp 8), type := 23, pos := "bytes.go:119", after := #[], guard := none }) (v := ?vb0) rfl (by kernel_rfl) (by kernel_rfl) (by kernel_rfl) (fun _ _ _ h => h) (Or.inl ⟨by rfl, ?hb0⟩) (by assumption) ?rb0
          case hb0 => (intro w0 hSw; (try dsimp only at hSw); go_simp; try (with_reducible rfl))
          simp only [Act.put, List.setIfInBounds_toArray, List.set_cons_zero, List.set_cons_succ]
          refine wpAnyH_take (i := 1) (oi := { dst := some 27, op := Op.nilCheck (Operand.tmp 26), type := 0, pos := "bytes.go:119", after := #[{ on := 0, ground := Ground.data }], guard := none }) (v := ?vb1) rfl (by kernel_rfl) (by kernel_rfl) (by kernel_rfl) (fun _ _ _ h => h) (Or.inl ⟨by rfl, ?hb1⟩) (by assumption) ?rb1
          case hb1 => (intro w0 hSw; (try dsimp only at hSw); go_simp; try (with_reducible rfl))
          simp only [Act.put, List.setIfInBounds_toArray, List.set_cons_zero, List.set_cons_succ]
          refine wpAnyH_take (i := 2) (oi := { dst := some 28, op := Op.fieldAddr 54 (Operand.tmp 27) 0, type := 0, pos := "bytes.go:119", after := #[{ on := 1, ground := Ground.data }], guard := none }) (v := ?vb2) rfl (by kernel_rfl) (by kernel_rfl) (by kernel_rfl) (fun _ _ _ h => h) (Or.inl ⟨by rfl, ?hb2⟩) (by assumption) ?rb2
          case hb2 => (intro w0 hSw; (try dsimp only at hSw); go_simp; try (with_reducible rfl))
          simp only [Act.put, List.setIfInBounds_toArray, List.set_cons_zero, List.set_cons_succ]
          refine wpAnyH_take (i := 3) (oi := { dst := some 29, op := Op.load 31 (Operand.tmp 28), type := 31, pos := "bytes.go:119", after := #[{ on := 2, ground := Ground.data }], guard := none }) (v := ?vb3) rfl (by kernel_rfl) (by kernel_rfl) (by kernel_rfl) (fun _ _ _ h => h) (Or.inl ⟨by rfl, ?hb3⟩) (by assumption) ?rb3
          case hb3 => (intro w0 hSw; (try dsimp only at hSw); go_simp; try (with_reducible rfl))
          simp only [Act.put, List.setIfInBounds_toArray, List.set_cons_zero, List.set_cons_succ]
          refine wpAnyH_ready (rs := [4]) (by kernel_rfl) (by simp) ?_
          refine AllReadyH.cons rfl (fun K hK => ?_) AllReadyH.nil
          go_simp
          go_wp2_with (first | (go_at_call 35; refine (hch _).mono ?_; clear hch; rintro r w5 ⟨rfl, b5⟩; have z0 := cell_lat b5 y0; have z1 := cell_lat b5 y1; have z2 := cell_lat b5 y2; have z3 := cell_lat b5 y3; have z4 := cell_lat b5 y4; have z5 := cell_lat b5 y5) | (go_at_call 23; refine (hcb _ ((b5.block fb (World.block_lt_of_cell? _ _ y0)).trans hF)).mono ?_; clear hcb; rintro r w6 ⟨rfl, rfl⟩))
          refine hK.out _ _ ?_ (fun hHeld => ?_)
          · first | exact ⟨z0, z1, z2, z3, z4, z5⟩
          clear hK K
          refine wpAnyH_take (i := 5) (oi := { dst := some 31, op := Op.binOp BinOp.neq 24 (Operand.tmp 30) (Operand.const (Value.int IntKind.i64 0)) 24, type := 4, pos := "bytes.go:119", after := #[{ on := 4, ground := Ground.data }], guard := none }) (v := ?vb5) rfl (by kernel_rfl) (by kernel_rfl) (by kernel_rfl) (fun _ _ _ h => h) (Or.inl ⟨by rfl, ?hb5⟩) (by assumption) ?rb5
          case hb5 => (intro w0 hSw; (try dsimp only at hSw); go_simp; try (with_reducible rfl))
          simp only [Act.put, List.setIfInBounds_toArray, List.set_cons_zero, List.set_cons_succ]
          refine wpAnyH_take (i := 6) (oi := { dst := some 32, op := Op.move (Operand.tmp 31), type := 4, pos := "bytes.go:119", after := #[{ on := 5, ground := Ground.data }, { on := 4, ground := Ground.chain }], guard := none }) (v := ?vb6) rfl (by kernel_rfl) (by kernel_rfl) (by kernel_rfl) (fun _ _ _ h => h) (Or.inl ⟨by rfl, ?hb6⟩) (by assumption) ?rb6
          case hb6 => (intro w0 hSw; (try dsimp only at hSw); go_simp; try (with_reducible rfl))
          simp only [Act.put, List.setIfInBounds_toArray, List.set_cons_zero, List.set_cons_succ]
          refine wpAnyH_take (i := 7) (oi := { dst := some 33, op := Op.move (Operand.tmp 8), type := 23, pos := "bytes.go:119", after := #[{ on := 6, ground := Ground.guard }], guard := some (6, false) }) (v := ?vb7) rfl (by kernel_rfl) (by kernel_rfl) (by kernel_rfl) (fun _ _ _ h => h) (Or.inl ⟨by rfl, ?hb7⟩) (by assumption) ?rb7
          case hb7 => (intro w0 hSw; (try dsimp only at hSw); go_simp; try (with_reducible rfl))
          simp only [Act.put, List.setIfInBounds_toArray, List.set_cons_zero, List.set_cons_succ]
          refine wpAnyH_take (i := 8) (oi := { dst := some 34, op := Op.nilCheck (Operand.tmp 33), type := 0, pos := "bytes.go:119", after := #[{ on := 7, ground := Ground.data }, { on := 6, ground := Ground.guard }], guard := some (6, false) }) (v := ?vb8) rfl (by kernel_rfl) (by kernel_rfl) (by kernel_rfl) (fun _ _ _ h => h) (Or.inl ⟨by rfl, ?hb8⟩) (by assumption) ?rb8
          case hb8 => (intro w0 hSw; (try dsimp only at hSw); go_simp; try (with_reducible rfl))
          simp only [Act.put, List.setIfInBounds_toArray, List.set_cons_zero, List.set_cons_succ]
          refine wpAnyH_take (i := 9) (oi := { dst := some 35, op := Op.fieldAddr 54 (Operand.tmp 34) 0, type := 0, pos := "bytes.go:119", after := #[{ on := 8, ground := Ground.data }, { on := 6, ground := Ground.guard }], guard := some (6, false) }) (v := ?vb9) rfl (by kernel_rfl) (by kernel_rfl) (by kernel_rfl) (fun _ _ _ h => h) (Or.inl ⟨by rfl, ?hb9⟩) (by assumption) ?rb9
          case hb9 => (intro w0 hSw; (try dsimp only at hSw); go_simp; try (with_reducible rfl))
          simp only [Act.put, List.setIfInBounds_toArray, List.set_cons_zero, List.set_cons_succ]
          refine wpAnyH_take (i := 10) (oi := { dst := some 36, op := Op.fieldAddr 31 (Operand.tmp 35) 5, type := 0, pos := "bytes.go:119", after := #[{ on := 9, ground := Ground.data }, { on := 6, ground := Ground.guard }], guard := some (6, false) }) (v := ?vb10) rfl (by kernel_rfl) (by kernel_rfl) (by kernel_rfl) (fun _ _ _ h => h) (Or.inl ⟨by rfl, ?hb10⟩) (by assumption) ?rb10
          case hb10 => (intro w0 hSw; (try dsimp only at hSw); go_simp; try (with_reducible rfl))
          simp only [Act.put, List.setIfInBounds_toArray, List.set_cons_zero, List.set_cons_succ]
          refine wpAnyH_take (i := 11) (oi := { dst := some 37, op := Op.load 3 (Operand.tmp 36), type := 3, pos := "bytes.go:119", after := #[{ on := 10, ground := Ground.data }, { on := 6, ground := Ground.guard }], guard := some (6, false) }) (v := ?vb11) rfl (by kernel_rfl) (by kernel_rfl) (by kernel_rfl) (fun _ _ _ h => h) (Or.inl ⟨by rfl, ?hb11⟩) (by assumption) ?rb11
          case hb11 => (intro w0 hSw; (try dsimp only at hSw); go_simp; try (with_reducible rfl))
          simp only [Act.put, List.setIfInBounds_toArray, List.set_cons_zero, List.set_cons_succ]
          refine wpAnyH_take (i := 12) (oi := { dst := some 38, op := Op.binOp BinOp.lss 3 (Operand.tmp 37) (Operand.const (Value.int IntKind.i64 0)) 3, type := 4, pos := "bytes.go:119", after := #[{ on := 11, ground := Ground.data }, { on := 6, ground := Ground.guard }], guard := some (6, false) }) (v := ?vb12) rfl (by kernel_rfl) (by kernel_rfl) (by kernel_rfl) (fun _ _ _ h => h) (Or.inl ⟨by rfl, ?hb12⟩) (by assumption) ?rb12
          case hb12 => (intro w0 hSw; (try dsimp only at hSw); go_simp; try (with_reducible rfl))
          simp only [Act.put, List.setIfInBounds_toArray, List.set_cons_zero, List.set_cons_succ]
          refine wpAnyH_take (i := 13) (oi := { dst := some 39, op := Op.pick (Operand.tmp 32) (Operand.const (Value.bool true)) (Operand.tmp 38), type := 4, pos := "bytes.go:119", after := #[{ on := 6, ground := Ground.data }, { on := 12, ground := Ground.data }], guard := none }) (v := ?vb13) rfl (by kernel_rfl) (by kernel_rfl) (by kernel_rfl) (fun _ _ _ h => h) (Or.inl ⟨by rfl, ?hb13⟩) (by assumption) ?rb13
          case hb13 => (intro w0 hSw; (try dsimp only at hSw); go_simp; try (with_reducible rfl))
          simp only [Act.put, List.setIfInBounds_toArray, List.set_cons_zero, List.set_cons_succ]
          refine wpAnyH_take (i := 14) (oi := { dst := some 40, op := Op.move (Operand.tmp 39), type := 4, pos := "bytes.go:119", after := #[{ on := 13, ground := Ground.data }, { on := 6, ground := Ground.chain }], guard := none }) (v := ?vb14) rfl (by kernel_rfl) (by kernel_rfl) (by kernel_rfl) (fun _ _ _ h => h) (Or.inl ⟨by rfl, ?hb14⟩) (by assumption) ?rb14
          case hb14 => (intro w0 hSw; (try dsimp only at hSw); go_simp; try (with_reducible rfl))
          simp only [Act.put, List.setIfInBounds_toArray, List.set_cons_zero, List.set_cons_succ]
          refine wpAnyH_take (i := 15) (oi := { dst := some 41, op := Op.move (Operand.tmp 8), type := 23, pos := "bytes.go:119", after := #[{ on := 14, ground := Ground.guard }], guard := some (14, false) }) rfl (by kernel_rfl) (by kernel_rfl) (by kernel_rfl) (fun _ _ _ h => h) (Or.inr ⟨by rfl, rfl⟩) (by assumption) ?_
          simp only [Act.put, List.setIfInBounds_toArray, List.set_cons_zero, List.set_cons_succ]
          refine wpAnyH_take (i := 16) (oi := { dst := some 42, op := Op.nilCheck (Operand.tmp 41), type := 0, pos := "bytes.go:119", after := #[{ on := 15, ground := Ground.data }, { on := 14, ground := Ground.guard }], guard := some (14, false) }) rfl (by kernel_rfl) (by kernel_rfl) (by kernel_rfl) (fun _ _ _ h => h) (Or.inr ⟨by rfl, rfl⟩) (by assumption) ?_
          simp only [Act.put, List.setIfInBounds_toArray, List.set_cons_zero, List.set_cons_succ]
          refine wpAnyH_take (i := 17) (oi := { dst := some 43, op := Op.fieldAddr 54 (Operand.tmp 42) 0, type := 0, pos := "bytes.go:119", after := #[{ on := 16, ground := Ground.data }, { on := 14, ground := Ground.guard }], guard := some (14, false) }) rfl (by kernel_rfl) (by kernel_rfl) (by kernel_rfl) (fun _ _ _ h => h) (Or.inr ⟨by rfl, rfl⟩) (by assumption) ?_
          simp only [Act.put, List.setIfInBounds_toArray, List.set_cons_zero, List.set_cons_succ]
          refine wpAnyH_take (i := 18) (oi := { dst := some 44, op := Op.fieldAddr 31 (Operand.tmp 43) 5, type := 0, pos := "bytes.go:119", after := #[{ on := 17, ground := Ground.data }, { on := 14, ground := Ground.guard }], guard := some (14, false) }) rfl (by kernel_rfl) (by kernel_rfl) (by kernel_rfl) (fun _ _ _ h => h) (Or.inr ⟨by rfl, rfl⟩) (by assumption) ?_
          simp only [Act.put, List.setIfInBounds_toArray, List.set_cons_zero, List.set_cons_succ]
          refine wpAnyH_take (i := 19) (oi := { dst := some 45, op := Op.load 3 (Operand.tmp 44), type := 3, pos := "bytes.go:119", after := #[{ on := 18, ground := Ground.data }, { on := 14, ground := Ground.guard }], guard := some (14, false) }) rfl (by kernel_rfl) (by kernel_rfl) (by kernel_rfl) (fun _ _ _ h => h) (Or.inr ⟨by rfl, rfl⟩) (by assumption) ?_
          simp only [Act.put, List.setIfInBounds_toArray, List.set_cons_zero, List.set_cons_succ]
          refine wpAnyH_take (i := 20) (oi := { dst := some 46, op := Op.move (Operand.tmp 0), type := 9, pos := "bytes.go:119", after := #[{ on := 14, ground := Ground.guard }], guard := some (14, false) }) rfl (by kernel_rfl) (by kernel_rfl) (by kernel_rfl) (fun _ _ _ h => h) (Or.inr ⟨by rfl, rfl⟩) (by assumption) ?_
          simp only [Act.put, List.setIfInBounds_toArray, List.set_cons_zero, List.set_cons_succ]
          refine wpAnyH_take (i := 21) (oi := { dst := some 47, op := Op.call { callee := Callee.builtin Builtin.len, args := #[Operand.tmp 46], argTypes := #[9] }, type := 3, pos := "bytes.go:119", after := #[{ on := 20, ground := Ground.data }, { on := 14, ground := Ground.guard }], guard := some (14, false) }) rfl (by kernel_rfl) (by kernel_rfl) (by kernel_rfl) (fun _ _ _ h => h) (Or.inr ⟨by rfl, rfl⟩) (by assumption) ?_
          simp only [Act.put, List.setIfInBounds_toArray, List.set_cons_zero, List.set_cons_succ]
          refine wpAnyH_take (i := 22) (oi := { dst := some 48, op := Op.move (Operand.tmp 8), type := 23, pos := "bytes.go:119", after := #[{ on := 14, ground := Ground.guard }], guard := some (14, false) }) rfl (by kernel_rfl) (by kernel_rfl) (by kernel_rfl) (fun _ _ _ h => h) (Or.inr ⟨by rfl, rfl⟩) (by assumption) ?_
          simp only [Act.put, List.setIfInBounds_toArray, List.set_cons_zero, List.set_cons_succ]
          refine wpAnyH_take (i := 23) (oi := { dst := some 49, op := Op.call { callee := Callee.value (Operand.func 23), args := #[Operand.tmp 48], argTypes := #[23] }, type := 3, pos := "bytes.go:119", after := #[{ on := 22, ground := Ground.data }, { on := 14, ground := Ground.chain }, { on := 14, ground := Ground.guard }], guard := some (14, false) }) rfl (by kernel_rfl) (by kernel_rfl) (by kernel_rfl) (fun _ _ _ h => h) (Or.inr ⟨by rfl, rfl⟩) (by assumption) ?_
          simp only [Act.put, List.setIfInBounds_toArray, List.set_cons_zero, List.set_cons_succ]
          refine wpAnyH_take (i := 24) (oi := { dst := some 50, op := Op.binOp BinOp.add 3 (Operand.tmp 49) (Operand.const (Value.int IntKind.i64 7)) 3, type := 3, pos := "bytes.go:119", after := #[{ on := 23, ground := Ground.data }, { on := 14, ground := Ground.guard }], guard := some (14, false) }) rfl (by kernel_rfl) (by kernel_rfl) (by kernel_rfl) (fun _ _ _ h => h) (Or.inr ⟨by rfl, rfl⟩) (by assumption) ?_
          simp only [Act.put, List.setIfInBounds_toArray, List.set_cons_zero, List.set_cons_succ]
          refine wpAnyH_take (i := 25) (oi := { dst := some 51, op := Op.binOp BinOp.quo 3 (Operand.tmp 47) (Operand.tmp 50) 3, type := 3, pos := "bytes.go:119", after := #[{ on := 21, ground := Ground.data }, { on := 24, ground := Ground.data }, { on := 14, ground := Ground.guard }], guard := some (14, false) }) rfl (by kernel_rfl) (by kernel_rfl) (by kernel_rfl) (fun _ _ _ h => h) (Or.inr ⟨by rfl, rfl⟩) (by assumption) ?_
          simp only [Act.put, List.setIfInBounds_toArray, List.set_cons_zero, List.set_cons_succ]
          refine wpAnyH_take (i := 26) (oi := { dst := some 52, op := Op.binOp BinOp.gtr 3 (Operand.tmp 45) (Operand.tmp 51) 3, type := 4, pos := "bytes.go:119", after := #[{ on := 19, ground := Ground.data }, { on := 25, ground := Ground.data }, { on := 14, ground := Ground.guard }], guard := some (14, false) }) rfl (by kernel_rfl) (by kernel_rfl) (by kernel_rfl) (fun _ _ _ h => h) (Or.inr ⟨by rfl, rfl⟩) (by assumption) ?_
          simp only [Act.put, List.setIfInBounds_toArray, List.set_cons_zero, List.set_cons_succ]
          refine wpAnyH_take (i := 27) (oi := { dst := some 53, op := Op.pick (Operand.tmp 40) (Operand.const (Value.bool true)) (Operand.tmp 52), type := 4, pos := "bytes.go:119", after := #[{ on := 14, ground := Ground.data }, { on := 26, ground := Ground.data }], guard := none }) (v := ?vb27) rfl (by kernel_rfl) (by kernel_rfl) (by kernel_rfl) (fun _ _ _ h => h) (Or.inl ⟨by rfl, ?hb27⟩) (by assumption) ?rb27
          case hb27 => (intro w0 hSw; (try dsimp only at hSw); go_simp; try (with_reducible rfl))
          simp only [Act.put, List.setIfInBounds_toArray, List.set_cons_zero, List.set_cons_succ]
          refine wpAnyH_done (by kernel_rfl) ?_ _
          go_wp2
          go_ret2
          exact RdO.no hE (chain b13 (below_d b5) (Nat.le_refl _))
      · have h1 : (hdE ⟨wd, t, bt, lo, hi, cn⟩ != 0) = true := by simpa using hH
        have hE : rdA b = none := by rw [HE1.out, if_neg (fun h => hH h.1)]
        generalize hdE ⟨wd, t, bt, lo, hi, cn⟩ = E at *
        clear HE1 hH
        refine wp_region_held_drew (S := fun w' => w'.cell? ⟨fb, 0, none⟩ = some (.int .i64 wd) ∧ w'.cell? ⟨fb, 1, none⟩ = some (.int .i64 t) ∧ w'.cell? ⟨fb, 2, none⟩ = some (.int .i64 bt) ∧ w'.cell? ⟨fb, 3, none⟩ = some (.int .i64 lo) ∧ w'.cell? ⟨fb, 4, none⟩ = some (.int .i64 hi) ∧ w'.cell? ⟨fb, 5, none⟩ = some (.int .i64 cn)) (by kernel_rfl) ?_ (fun hHeld => ?_)
        · exact ⟨y0, y1, y2, y3, y4, y5⟩
        refine wpAnyH_take (i := 0) (oi := { dst := some 26, op := Op.move (Operand.tmp 8), type := 23, pos := "bytes.go:119", after := #[], guard := none }) (v := ?va0) rfl (by kernel_rfl) (by kernel_rfl) (by kernel_rfl) (fun _ _ _ h => h) (Or.inl ⟨by rfl, ?ha0⟩) (by assumption) ?ra0
        case ha0 => (intro w0 hSw; (try dsimp only at hSw); go_simp; try (with_reducible rfl))
        simp only [Act.put, List.setIfInBounds_toArray, List.set_cons_zero, List.set_cons_succ]
        refine wpAnyH_take (i := 1) (oi := { dst := some 27, op := Op.nilCheck (Operand.tmp 26), type := 0, pos := "bytes.go:119", after := #[{ on := 0, ground := Ground.data }], guard := none }) (v := ?va1) rfl (by kernel_rfl) (by kernel_rfl) (by kernel_rfl) (fun _ _ _ h => h) (Or.inl ⟨by rfl, ?ha1⟩) (by assumption) ?ra1
        case ha1 => (intro w0 hSw; (try dsimp only at hSw); go_simp; try (with_reducible rfl))
        simp only [Act.put, List.setIfInBounds_toArray, List.set_cons_zero, List.set_cons_succ]
        refine wpAnyH_take (i := 2) (oi := { dst := some 28, op := Op.fieldAddr 54 (Operand.tmp 27) 0, type := 0, pos := "bytes.go:119", after := #[{ on := 1, ground := Ground.data }], guard := none }) (v := ?va2) rfl (by kernel_rfl) (by kernel_rfl) (by kernel_rfl) (fun _ _ _ h => h) (Or.inl ⟨by rfl, ?ha2⟩) (by assumption) ?ra2
        case ha2 => (intro w0 hSw; (try dsimp only at hSw); go_simp; try (with_reducible rfl))
        simp only [Act.put, List.setIfInBounds_toArray, List.set_cons_zero, List.set_cons_succ]
        refine wpAnyH_take (i := 3) (oi := { dst := some 29, op := Op.load 31 (Operand.tmp 28), type := 31, pos := "bytes.go:119", after := #[{ on := 2, ground := Ground.data }], guard := none }) (v := ?va3) rfl (by kernel_rfl) (by kernel_rfl) (by kernel_rfl) (fun _ _ _ h => h) (Or.inl ⟨by rfl, ?ha3⟩) (by assumption) ?ra3
        case ha3 => (intro w0 hSw; (try dsimp only at hSw); go_simp; try (with_reducible rfl))
        simp only [Act.put, List.setIfInBounds_toArray, List.set_cons_zero, List.set_cons_succ]
        refine wpAnyH_ready (rs := [4]) (by kernel_rfl) (by simp) ?_
        refine AllReadyH.cons rfl (fun K hK => ?_) AllReadyH.nil
        go_simp
        go_wp2_with (first | (go_at_call 35; refine (hch _).mono ?_; clear hch; rintro r w5 ⟨rfl, b5⟩; have z0 := cell_lat b5 y0; have z1 := cell_lat b5 y1; have z2 := cell_lat b5 y2; have z3 := cell_lat b5 y3; have z4 := cell_lat b5 y4; have z5 := cell_lat b5 y5) | (go_at_call 23; refine (hcb _ ((b5.block fb (World.block_lt_of_cell? _ _ y0)).trans hF)).mono ?_; clear hcb; rintro r w6 ⟨rfl, rfl⟩))
        refine hK.out _ _ ?_ (fun hHeld => ?_)
        · first | exact ⟨z0, z1, z2, z3, z4, z5⟩
        clear hK K
        refine wpAnyH_take (i := 5) (oi := { dst := some 31, op := Op.binOp BinOp.neq 24 (Operand.tmp 30) (Operand.const (Value.int IntKind.i64 0)) 24, type := 4, pos := "bytes.go:119", after := #[{ on := 4, ground := Ground.data }], guard := none }) (v := ?va5) rfl (by kernel_rfl) (by kernel_rfl) (by kernel_rfl) (fun _ _ _ h => h) (Or.inl ⟨by rfl, ?ha5⟩) (by assumption) ?ra5
        case ha5 => (intro w0 hSw; (try dsimp only at hSw); go_simp; try (with_reducible rfl))
        simp only [Act.put, List.setIfInBounds_toArray, List.set_cons_zero, List.set_cons_succ]
        refine wpAnyH_take (i := 6) (oi := { dst := some 32, op := Op.move (Operand.tmp 31), type := 4, pos := "bytes.go:119", after := #[{ on := 5, ground := Ground.data }, { on := 4, ground := Ground.chain }], guard := none }) (v := ?va6) rfl (by kernel_rfl) (by kernel_rfl) (by kernel_rfl) (fun _ _ _ h => h) (Or.inl ⟨by rfl, ?ha6⟩) (by assumption) ?ra6
        case ha6 => (intro w0 hSw; (try dsimp only at hSw); go_simp; try (with_reducible rfl))
        simp only [Act.put, List.setIfInBounds_toArray, List.set_cons_zero, List.set_cons_succ]
        refine wpAnyH_take (i := 7) (oi := { dst := some 33, op := Op.move (Operand.tmp 8), type := 23, pos := "bytes.go:119", after := #[{ on := 6, ground := Ground.guard }], guard := some (6, false) }) rfl (by kernel_rfl) (by kernel_rfl) (by kernel_rfl) (fun _ _ _ h => h) (Or.inr ⟨by rfl, rfl⟩) (by assumption) ?_
        simp only [Act.put, List.setIfInBounds_toArray, List.set_cons_zero, List.set_cons_succ]
        refine wpAnyH_take (i := 8) (oi := { dst := some 34, op := Op.nilCheck (Operand.tmp 33), type := 0, pos := "bytes.go:119", after := #[{ on := 7, ground := Ground.data }, { on := 6, ground := Ground.guard }], guard := some (6, false) }) rfl (by kernel_rfl) (by kernel_rfl) (by kernel_rfl) (fun _ _ _ h => h) (Or.inr ⟨by rfl, rfl⟩) (by assumption) ?_
        simp only [Act.put, List.setIfInBounds_toArray, List.set_cons_zero, List.set_cons_succ]
        refine wpAnyH_take (i := 9) (oi := { dst := some 35, op := Op.fieldAddr 54 (Operand.tmp 34) 0, type := 0, pos := "bytes.go:119", after := #[{ on := 8, ground := Ground.data }, { on := 6, ground := Ground.guard }], guard := some (6, false) }) rfl (by kernel_rfl) (by kernel_rfl) (by kernel_rfl) (fun _ _ _ h => h) (Or.inr ⟨by rfl, rfl⟩) (by assumption) ?_
        simp only [Act.put, List.setIfInBounds_toArray, List.set_cons_zero, List.set_cons_succ]
        refine wpAnyH_take (i := 10) (oi := { dst := some 36, op := Op.fieldAddr 31 (Operand.tmp 35) 5, type := 0, pos := "bytes.go:119", after := #[{ on := 9, ground := Ground.data }, { on := 6, ground := Ground.guard }], guard := some (6, false) }) rfl (by kernel_rfl) (by kernel_rfl) (by kernel_rfl) (fun _ _ _ h => h) (Or.inr ⟨by rfl, rfl⟩) (by assumption) ?_
        simp only [Act.put, List.setIfInBounds_toArray, List.set_cons_zero, List.set_cons_succ]
        refine wpAnyH_take (i := 11) (oi := { dst := some 37, op := Op.load 3 (Operand.tmp 36), type := 3, pos := "bytes.go:119", after := #[{ on := 10, ground := Ground.data }, { on := 6, ground := Ground.guard }], guard := some (6, false) }) rfl (by kernel_rfl) (by kernel_rfl) (by kernel_rfl) (fun _ _ _ h => h) (Or.inr ⟨by rfl, rfl⟩) (by assumption) ?_
        simp only [Act.put, List.setIfInBounds_toArray, List.set_cons_zero, List.set_cons_succ]
        refine wpAnyH_take (i := 12) (oi := { dst := some 38, op := Op.binOp BinOp.lss 3 (Operand.tmp 37) (Operand.const (Value.int IntKind.i64 0)) 3, type := 4, pos := "bytes.go:119", after := #[{ on := 11, ground := Ground.data }, { on := 6, ground := Ground.guard }], guard := some (6, false) }) rfl (by kernel_rfl) (by kernel_rfl) (by kernel_rfl) (fun _ _ _ h => h) (Or.inr ⟨by rfl, rfl⟩) (by assumption) ?_
        simp only [Act.put, List.setIfInBounds_toArray, List.set_cons_zero, List.set_cons_succ]
        refine wpAnyH_take (i := 13) (oi := { dst := some 39, op := Op.pick (Operand.tmp 32) (Operand.const (Value.bool true)) (Operand.tmp 38), type := 4, pos := "bytes.go:119", after := #[{ on := 6, ground := Ground.data }, { on := 12, ground := Ground.data }], guard := none }) (v := ?va13) rfl (by kernel_rfl) (by kernel_rfl) (by kernel_rfl) (fun _ _ _ h => h) (Or.inl ⟨by rfl, ?ha13⟩) (by assumption) ?ra13
        case ha13 => (intro w0 hSw; (try dsimp only at hSw); go_simp; try (with_reducible rfl))
        simp only [Act.put, List.setIfInBounds_toArray, List.set_cons_zero, List.set_cons_succ]
        refine wpAnyH_take (i := 14) (oi := { dst := some 40, op := Op.move (Operand.tmp 39), type := 4, pos := "bytes.go:119", after := #[{ on := 13, ground := Ground.data }, { on := 6, ground := Ground.chain }], guard := none }) (v := ?va14) rfl (by kernel_rfl) (by kernel_rfl) (by kernel_rfl) (fun _ _ _ h => h) (Or.inl ⟨by rfl, ?ha14⟩) (by assumption) ?ra14
        case ha14 => (intro w0 hSw; (try dsimp only at hSw); go_simp; try (with_reducible rfl))
        simp only [Act.put, List.setIfInBounds_toArray, List.set_cons_zero, List.set_cons_succ]
        refine wpAnyH_take (i := 15) (oi := { dst := some 41, op := Op.move (Operand.tmp 8), type := 23, pos := "bytes.go:119", after := #[{ on := 14, ground := Ground.guard }], guard := some (14, false) }) rfl (by kernel_rfl) (by kernel_rfl) (by kernel_rfl) (fun _ _ _ h => h) (Or.inr ⟨by rfl, rfl⟩) (by assumption) ?_
        simp only [Act.put, List.setIfInBounds_toArray, List.set_cons_zero, List.set_cons_succ]
        refine wpAnyH_take (i := 16) (oi := { dst := some 42, op := Op.nilCheck (Operand.tmp 41), type := 0, pos := "bytes.go:119", after := #[{ on := 15, ground := Ground.data }, { on := 14, ground := Ground.guard }], guard := some (14, false) }) rfl (by kernel_rfl) (by kernel_rfl) (by kernel_rfl) (fun _ _ _ h => h) (Or.inr ⟨by rfl, rfl⟩) (by assumption) ?_
        simp only [Act.put, List.setIfInBounds_toArray, List.set_cons_zero, List.set_cons_succ]
        refine wpAnyH_take (i := 17) (oi := { dst := some 43, op := Op.fieldAddr 54 (Operand.tmp 42) 0, type := 0, pos := "bytes.go:119", after := #[{ on := 16, ground := Ground.data }, { on := 14, ground := Ground.guard }], guard := some (14, false) }) rfl (by kernel_rfl) (by kernel_rfl) (by kernel_rfl) (fun _ _ _ h => h) (Or.inr ⟨by rfl, rfl⟩) (by assumption) ?_
        simp only [Act.put, List.setIfInBounds_toArray, List.set_cons_zero, List.set_cons_succ]
        refine wpAnyH_take (i := 18) (oi := { dst := some 44, op := Op.fieldAddr 31 (Operand.tmp 43) 5, type := 0, pos := "bytes.go:119", after := #[{ on := 17, ground := Ground.data }, { on := 14, ground := Ground.guard }], guard := some (14, false) }) rfl (by kernel_rfl) (by kernel_rfl) (by kernel_rfl) (fun _ _ _ h => h) (Or.inr ⟨by rfl, rfl⟩) (by assumption) ?_
        simp only [Act.put, List.setIfInBounds_toArray, List.set_cons_zero, List.set_cons_succ]
        refine wpAnyH_take (i := 19) (oi := { dst := some 45, op := Op.load 3 (Operand.tmp 44), type := 3, pos := "bytes.go:119", after := #[{ on := 18, ground := Ground.data }, { on := 14, ground := Ground.guard }], guard := some (14, false) }) rfl (by kernel_rfl) (by kernel_rfl) (by kernel_rfl) (fun _ _ _ h => h) (Or.inr ⟨by rfl, rfl⟩) (by assumption) ?_
        simp only [Act.put, List.setIfInBounds_toArray, List.set_cons_zero, List.set_cons_succ]
        refine wpAnyH_take (i := 20) (oi := { dst := some 46, op := Op.move (Operand.tmp 0), type := 9, pos := "bytes.go:119", after := #[{ on := 14, ground := Ground.guard }], guard := some (14, false) }) rfl (by kernel_rfl) (by kernel_rfl) (by kernel_rfl) (fun _ _ _ h => h) (Or.inr ⟨by rfl, rfl⟩) (by assumption) ?_
        simp only [Act.put, List.setIfInBounds_toArray, List.set_cons_zero, List.set_cons_succ]
        refine wpAnyH_take (i := 21) (oi := { dst := some 47, op := Op.call { callee := Callee.builtin Builtin.len, args := #[Operand.tmp 46], argTypes := #[9] }, type := 3, pos := "bytes.go:119", after := #[{ on := 20, ground := Ground.data }, { on := 14, ground := Ground.guard }], guard := some (14, false) }) rfl (by kernel_rfl) (by kernel_rfl) (by kernel_rfl) (fun _ _ _ h => h) (Or.inr ⟨by rfl, rfl⟩) (by assumption) ?_
        simp only [Act.put, List.setIfInBounds_toArray, List.set_cons_zero, List.set_cons_succ]
        refine wpAnyH_take (i := 22) (oi := { dst := some 48, op := Op.move (Operand.tmp 8), type := 23, pos := "bytes.go:119", after := #[{ on := 14, ground := Ground.guard }], guard := some (14, false) }) rfl (by kernel_rfl) (by kernel_rfl) (by kernel_rfl) (fun _ _ _ h => h) (Or.inr ⟨by rfl, rfl⟩) (by assumption) ?_
        simp only [Act.put, List.setIfInBounds_toArray, List.set_cons_zero, List.set_cons_succ]
        refine wpAnyH_take (i := 23) (oi := { dst := some 49, op := Op.call { callee := Callee.value (Operand.func 23), args := #[Operand.tmp 48], argTypes := #[23] }, type := 3, pos := "bytes.go:119", after := #[{ on := 22, ground := Ground.data }, { on := 14, ground := Ground.chain }, { on := 14, ground := Ground.guard }], guard := some (14, false) }) rfl (by kernel_rfl) (by kernel_rfl) (by kernel_rfl) (fun _ _ _ h => h) (Or.inr ⟨by rfl, rfl⟩) (by assumption) ?_
        simp only [Act.put, List.setIfInBounds_toArray, List.set_cons_zero, List.set_cons_succ]
        refine wpAnyH_take (i := 24) (oi := { dst := some 50, op := Op.binOp BinOp.add 3 (Operand.tmp 49) (Operand.const (Value.int IntKind.i64 7)) 3, type := 3, pos := "bytes.go:119", after := #[{ on := 23, ground := Ground.data }, { on := 14, ground := Ground.guard }], guard := some (14, false) }) rfl (by kernel_rfl) (by kernel_rfl) (by kernel_rfl) (fun _ _ _ h => h) (Or.inr ⟨by rfl, rfl⟩) (by assumption) ?_
        simp only [Act.put, List.setIfInBounds_toArray, List.set_cons_zero, List.set_cons_succ]
        refine wpAnyH_take (i := 25) (oi := { dst := some 51, op := Op.binOp BinOp.quo 3 (Operand.tmp 47) (Operand.tmp 50) 3, type := 3, pos := "bytes.go:119", after := #[{ on := 21, ground := Ground.data }, { on := 24, ground := Ground.data }, { on := 14, ground := Ground.guard }], guard := some (14, false) }) rfl (by kernel_rfl) (by kernel_rfl) (by kernel_rfl) (fun _ _ _ h => h) (Or.inr ⟨by rfl, rfl⟩) (by assumption) ?_
        simp only [Act.put, List.setIfInBounds_toArray, List.set_cons_zero, List.set_cons_succ]
        refine wpAnyH_take (i := 26) (oi := { dst := some 52, op := Op.binOp BinOp.gtr 3 (Operand.tmp 45) (Operand.tmp 51) 3, type := 4, pos := "bytes.go:119", after := #[{ on := 19, ground := Ground.data }, { on := 25, ground := Ground.data }, { on := 14, ground := Ground.guard }], guard := some (14, false) }) rfl (by kernel_rfl) (by kernel_rfl) (by kernel_rfl) (fun _ _ _ h => h) (Or.inr ⟨by rfl, rfl⟩) (by assumption) ?_
        simp only [Act.put, List.setIfInBounds_toArray, List.set_cons_zero, List.set_cons_succ]
        refine wpAnyH_take (i := 27) (oi := { dst := some 53, op := Op.pick (Operand.tmp 40) (Operand.const (Value.bool true)) (Operand.tmp 52), type := 4, pos := "bytes.go:119", after := #[{ on := 14, ground := Ground.data }, { on := 26, ground := Ground.data }], guard := none }) (v := ?va27) rfl (by kernel_rfl) (by kernel_rfl) (by kernel_rfl) (fun _ _ _ h => h) (Or.inl ⟨by rfl, ?ha27⟩) (by assumption) ?ra27
        case ha27 => (intro w0 hSw; (try dsimp only at hSw); go_simp; try (with_reducible rfl))
        simp only [Act.put, List.setIfInBounds_toArray, List.set_cons_zero, List.set_cons_succ]
        refine wpAnyH_done (by kernel_rfl) ?_ _
        go_wp2
        go_ret2
        exact RdO.no hE (chain b13 (below_d b5) (Nat.le_refl _))
    · have hE : rdA b = none := by
        unfold rdA
        rw [hR]
        dsimp only
        rw [if_neg (fun h => hk h.2)]
      have hk4 : ((k : Int) != 4) = true := by simp; omega
      clear hR hk
      go_enter Tryz.func20, Tryz.ntmps20
      go_wp2_with (go_at_call 33; refine c1.mono ?_; rintro e w1 ⟨rfl, b1⟩; clear c1)
      go_ret2
      exact RdO.no hE b1
  · have hE : rdA b = none := by
      unfold rdA
      rw [hR]
      dsimp only
      rw [if_neg (fun h => he h.1)]
    have hne : (e != 0) = true := by simpa using he
    clear hR he
    go_enter Tryz.func20, Tryz.ntmps20
    go_wp2_with (go_at_call 33; refine c1.mono ?_; rintro e w1 ⟨rfl, b1⟩; clear c1)
    go_ret2
    exact RdO.no hE b1
end Go.Proofs.YtjdpolhjbkpnlaaGreatDoor
