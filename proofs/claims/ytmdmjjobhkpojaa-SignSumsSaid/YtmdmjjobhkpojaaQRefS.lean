/-
  DERIVED. sign: the document's own Sums, for every signer and vector.
-/
import Derived.Test.YtmdmjjobhkpojaaQRef0
set_option linter.unusedVariables false
set_option linter.unusedSimpArgs false
namespace Go.Proofs.Ytmdmjjobhkpojaa
open Go.RowKit Go.Shelf Go.Proofs.BitMath Go.Proofs.FloatMath
/-- The same world. -/
def SameW (w w' : World) : Prop := w = w'
/-- While a sum is made: its box lies behind what was there. -/
structure InB (wa : World) (p : Zp) (W : World) : Prop where
  bel : Below wa.heap.size wa W
  box : W.heap[wa.heap.size]? = some (.cells #[.int .i64 p.1, .int .i64 p.2] 30 (0, 0))
theorem InB.start (wa : World) : InB wa (0, 0) (wa.alloc (.cells #[.int .i64 0, .int .i64 0] 30)) := ⟨(Below.refl _ wa).alloc (Nat.le_refl _) _, heap_alloc_last wa _⟩
theorem InB.lt {wa W : World} {p : Zp} (h : InB wa p W) : wa.heap.size < W.heap.size := (Array.getElem?_eq_some_iff.1 h.box).1
theorem InB.later {wa W W' : World} {p : Zp} (h : InB wa p W) (b : Below W.heap.size W W') : InB wa p W' := ⟨h.bel.trans (b.mono h.bel.size), (b.block _ h.lt).trans h.box⟩
theorem InB.cells {wa W : World} {p : Zp} (h : InB wa p W) : W.cell? ⟨wa.heap.size, 0, none⟩ = some (.int .i64 p.1) ∧ W.cell? ⟨wa.heap.size, 1, none⟩ = some (.int .i64 p.2) ∧ ∀ j, W.frozen? ⟨wa.heap.size, j, none⟩ = false :=
  ⟨by rw [cell_of_row _ _ 0 _ _ (0, 0) h.box]; rfl, by rw [cell_of_row _ _ 1 _ _ (0, 0) h.box]; rfl, fun j => frozen_of_row _ _ _ _ _ h.box⟩
theorem InB.set {wa W : World} {p : Zp} (h : InB wa p W) (a b : Int) : InB wa (a, b) ((W.setCell ⟨wa.heap.size, 0, none⟩ (.int .i64 a)).setCell ⟨wa.heap.size, 1, none⟩ (.int .i64 b)) := by
  refine ⟨(h.bel.setCell (p := ⟨wa.heap.size, 0, none⟩) (Nat.le_refl _) _).setCell (p := ⟨wa.heap.size, 1, none⟩) (Nat.le_refl _) _, ?_⟩
  have e1 := heap_setCell_same W wa.heap.size 0 _ _ (.int .i64 a) h.box
  have e2 := heap_setCell_same (W.setCell ⟨wa.heap.size, 0, none⟩ (.int .i64 a)) wa.heap.size 1 _ _ (.int .i64 b) e1
  rw [e2]; rfl
theorem InB.other {wa W : World} {p : Zp} (h : InB wa p W) (bp : Nat) (hb : wa.heap.size < bp) (a b : Value) : InB wa p ((W.setCell ⟨bp, 0, none⟩ a).setCell ⟨bp, 1, none⟩ b) :=
  ⟨(h.bel.setCell (p := ⟨bp, 0, none⟩) (Nat.le_of_lt hb) _).setCell (p := ⟨bp, 1, none⟩) (Nat.le_of_lt hb) _, (heap_setCell_other _ _ _ _ (fun e => by simp at e; omega)).trans ((heap_setCell_other _ _ _ _ (fun e => by simp at e; omega)).trans h.box)⟩
theorem take_map_succ (wd : Nat) (sd : Int) (v : List Zp) (j : Nat) (hj : j < wd / 2) : (sumsL wd sd v).take (j + 1) = (sumsL wd sd v).take j ++ [sumZ sd j v v.length] := by
  rw [List.take_succ_eq_append_getElem (by rw [sumsL_len]; exact hj), sumsL_at]
set_option maxRecDepth 100000 in
set_option maxHeartbeats 8000000 in
theorem rsums_any (b wd dm : Nat) (sd : Int) (la : Option Addr) (c : Nat) (v : List Zp) (w : World) (hs : SgAt w b wd dm sd) (hd : 0 < dm) (hd2 : dm ≤ 1024) (hw : 2 ≤ wd) (hw2 : wd ≤ 1024) (hv : zE.At w la v) (R : Ending → World → Prop)
    (h0 : ckE dm v ≠ 0 → ∀ w', Below w.heap.size w w' → R (.returned (.tuple #[.slice none 0 0, .int .i64 (ckE dm v)])) w')
    (h1 : ckE dm v = 0 → ∀ o w', GroZ w (sumsL wd sd v) o w' → R (.returned (.tuple #[o, .int .i64 0])) w') :
    Calls Try.prog 17 #[Pt b, .slice la v.length c] w R := by
  have s1 := hs.c1
  by_cases hl : v.length = dm
  · subst hl
    have hn : v ≠ [] := fun e => by subst e; simp at hd
    obtain ⟨g, off, rfl, hr⟩ := hv.at' hn
    have hgl : g < w.heap.size := World.block_lt_of_cell? w _ (z_cells hr 0 hd).1
    have HR := Hid.mk hr
    have HS := Hid.mk hs
    have H0 := Hid.mk h0
    have H1 := Hid.mk h1
    obtain ⟨m, em⟩ : ∃ m, wd / 2 = m := ⟨_, rfl⟩
    have eI : (wd : Int) / 2 = (m : Int) := by omega
    have hm5 : m ≤ 512 := by omega
    have EM := Hid.mk em
    obtain ⟨n, en⟩ : ∃ n, v.length = n := ⟨_, rfl⟩
    have hn2 : ((n : Int) != n) = false := by simp
    have EN := Hid.mk en
    rw [en] at s1 hd hd2 ⊢
    have HD := Hid.mk (And.intro hd hd2)
    clear hs hv hr hn en hd hd2 h0 h1 em hw hw2
    go_enter Try.func17, Try.ntmps17
    go_wp2
    go_loopw [6, 7, 8] (fun f _ _ wr => ∃ (i : Nat), i ≤ n ∧ f = .int .i64 i ∧ (v.take i).all okP = true ∧ SameW w wr) (fun f _ _ _ => n - (intOf f).toNat)
    case atStart => exact ⟨0, Nat.zero_le _, rfl, by simp, (rfl : w = w)⟩
    case round =>
      obtain ⟨i, hi, rfl, ha, hww⟩ := hrel
      obtain rfl : w = wr := hww
      have HA := Hid.mk ha
      clear ha
      by_cases hlt : i < n
      · have hlt' : (i : Int) < (n : Int) := by omega
        have hlv : i < v.length := by rw [EN.out]; exact hlt
        obtain ⟨c0, c1⟩ := z_cells HR.out i hlv
        obtain ⟨p, ep⟩ : ∃ p, v[i] = p := ⟨_, rfl⟩
        rw [ep] at c0 c1
        have EP := Hid.mk ep
        have hi2 : i < 1024 := by have := HD.out; omega
        have k1 := rfits_any p.1
        have k2 := rfits_any p.2
        clear ep s1
        cases b1 : isBd p.1
        · rw [b1] at k1
          have hno : Hid (ckE n v = 191) := by
            show _ = _
            unfold ckE
            rw [if_pos EN.out, if_neg]
            intro hc
            have := List.all_eq_true.1 hc p (by rw [← EP.out]; exact List.getElem_mem _)
            rw [okP_no1 b1] at this; cases this
          go_wp2_with (go_at_call 28; first | (refine (k1 _).mono ?_; rintro e w' ⟨rfl, rfl⟩; clear k1) | (refine (k2 _).mono ?_; rintro e w' ⟨rfl, rfl⟩; clear k2))
          have := H0.out (by rw [EN.out, hno.out]; decide) _ (Below.refl _ _)
          rw [EN.out, hno.out] at this
          exact this
        · cases b2 : isBd p.2
          · rw [b1] at k1
            rw [b2] at k2
            have hno : Hid (ckE n v = 191) := by
              show _ = _
              unfold ckE
              rw [if_pos EN.out, if_neg]
              intro hc
              have := List.all_eq_true.1 hc p (by rw [← EP.out]; exact List.getElem_mem _)
              rw [okP_no2 b2] at this; cases this
            go_wp2_with (go_at_call 28; first | (refine (k1 _).mono ?_; rintro e w' ⟨rfl, rfl⟩; clear k1) | (refine (k2 _).mono ?_; rintro e w' ⟨rfl, rfl⟩; clear k2))
            have := H0.out (by rw [EN.out, hno.out]; decide) _ (Below.refl _ _)
            rw [EN.out, hno.out] at this
            exact this
          · rw [b1] at k1
            rw [b2] at k2
            go_wp2_with (go_at_call 28; first | (refine (k1 _).mono ?_; rintro e w' ⟨rfl, rfl⟩; clear k1) | (refine (k2 _).mono ?_; rintro e w' ⟨rfl, rfl⟩; clear k2))
            go_roundw
            case rel => exact ⟨i + 1, hlt, by go_num, all_take_succ hlv HA.out (by rw [EP.out]; simp [okP, b1, b2]), by unfold SameW; rfl⟩
            case measure => simp [intOf]; omega
      · have e : i = n := by omega
        have hlt' : ¬ (i : Int) < (n : Int) := by omega
        have HA2 : Hid (v.all okP = true) := by
          have := HA.out
          rw [List.take_of_length_le (by rw [EN.out]; omega)] at this
          exact this
        have HK : Hid (ckE n v = 0) := by show _ = _; unfold ckE; rw [if_pos EN.out, if_pos HA2.out]
        clear e HA s1 H0
        go_wp2
        go_loopw [9, 10, 12] (fun o f _ wr => ∃ (jj : Nat), jj ≤ m ∧ f = .int .i64 jj ∧ GroZ w ((sumsL wd sd v).take jj) o wr) (fun _ f _ _ => m - (intOf f).toNat)
        case atStart => exact ⟨0, Nat.zero_le _, rfl, by simpa using GroZ.start w⟩
        case round =>
          obtain ⟨jj, hj, rfl, hG⟩ := hrel
          have s0 := (HS.out.below hG.bel).c0
          by_cases hjt : jj < m
          · have hj' : (jj : Int) < (m : Int) := by omega
            obtain ⟨wa, rfl⟩ : ∃ wa, wa = wr := ⟨_, rfl⟩
            have HG := Hid.mk hG
            clear hG
            go_wp2
            clear s0
            go_loopw [12] (fun f wi => ∃ (k : Nat), k ≤ n ∧ f = .int .i64 k ∧ InB wa (sumZ sd jj v k) wi) (fun f _ => n - (intOf f).toNat)
            case atStart => exact ⟨0, Nat.zero_le _, rfl, InB.start wa⟩
            case round =>
              obtain ⟨k, hk, rfl, hI⟩ := hrel
              by_cases hkt : k < n
              · have hk' : (k : Int) < (n : Int) := by omega
                have hlv : k < v.length := by rw [EN.out]; exact hkt
                have hk5 : k < 1024 := by have := HD.out.2; omega
                have hj5 : jj ≤ 512 := by omega
                have BW := HG.out.bel.trans (hI.bel.mono HG.out.bel.size)
                obtain ⟨q0, q1⟩ := z_cells HR.out k hlv
                have y0 := cell_lat BW q0
                have y1 := cell_lat BW q1
                have y2 := (HS.out.below BW).c2
                have hpb := okP_bd (List.all_eq_true.1 HA2.out _ (List.getElem_mem hlv))
                have hsb := sumZ_bd (sd := sd) (jj := jj) HA2.out (k + 1)
                have hcm : sumZ sd jj v (k + 1) = addZ (sumZ sd jj v k) (cm v[k] (uq sd (1024 * (jj : Int) + k + 1))) := by simp only [sumZ, getD_at hlv]
                obtain ⟨p, ep⟩ : ∃ p, v[k] = p := ⟨_, rfl⟩
                rw [ep] at y0 y1 hpb hcm
                obtain ⟨s, es⟩ : ∃ s, sumZ sd jj v k = s := ⟨_, rfl⟩
                rw [es] at hcm hI
                rw [hcm] at hsb
                have hp1 := hpb.1
                have hp2 := hpb.2
                have HCM := Hid.mk hcm
                have HSB := Hid.mk hsb
                have HI := Hid.mk hI
                clear q0 q1 ep es hcm hsb hpb hI BW
                go_wp2
                refine wp_region_held_drew (S := fun w' => w'.cell? ⟨g, off + k * 2, none⟩ = some (.int .i64 p.1) ∧ w'.cell? ⟨g, off + k * 2 + 1, none⟩ = some (.int .i64 p.2) ∧ w'.cell? ⟨b, 2, none⟩ = some (.int .u64 sd)) (by kernel_rfl) ?_ (fun hHeld => ?_)
                · exact ⟨y0, y1, y2⟩
                refine wpAnyH_take (i := 0) (oi := { dst := some 61, op := Op.move (Operand.tmp 1), type := 23, pos := "kindredref19.go:78", after := #[], guard := none }) (v := ?vu0) rfl (by kernel_rfl) (by kernel_rfl) (by kernel_rfl) (fun _ _ _ h => h) (Or.inl ⟨by rfl, ?hu0⟩) (by assumption) ?ru0
                case hu0 => (intro w0 hSw; (try dsimp only at hSw); go_simp; try (with_reducible rfl))
                simp only [Act.put, List.setIfInBounds_toArray, List.set_cons_zero, List.set_cons_succ]
                refine wpAnyH_take (i := 1) (oi := { dst := some 62, op := Op.move (Operand.tmp 12), type := 3, pos := "kindredref19.go:78", after := #[], guard := none }) (v := ?vu1) rfl (by kernel_rfl) (by kernel_rfl) (by kernel_rfl) (fun _ _ _ h => h) (Or.inl ⟨by rfl, ?hu1⟩) (by assumption) ?ru1
                case hu1 => (intro w0 hSw; (try dsimp only at hSw); go_simp; try (with_reducible rfl))
                simp only [Act.put, List.setIfInBounds_toArray, List.set_cons_zero, List.set_cons_succ]
                refine wpAnyH_take (i := 2) (oi := { dst := some 63, op := Op.indexAddr 23 (Operand.tmp 61) (Operand.tmp 62), type := 0, pos := "kindredref19.go:78", after := #[{ on := 0, ground := Ground.data }, { on := 1, ground := Ground.data }], guard := none }) (v := ?vu2) rfl (by kernel_rfl) (by kernel_rfl) (by kernel_rfl) (fun _ _ _ h => h) (Or.inl ⟨by rfl, ?hu2⟩) (by assumption) ?ru2
                case hu2 => (intro w0 hSw; (try dsimp only at hSw); go_simp; try (with_reducible rfl))
                simp only [Act.put, List.setIfInBounds_toArray, List.set_cons_zero, List.set_cons_succ]
                refine wpAnyH_take (i := 3) (oi := { dst := some 64, op := Op.load 30 (Operand.tmp 63), type := 30, pos := "kindredref19.go:78", after := #[{ on := 2, ground := Ground.data }], guard := none }) (v := ?vu3) rfl (by kernel_rfl) (by kernel_rfl) (by kernel_rfl) (fun _ _ _ h => h) (Or.inl ⟨by rfl, ?hu3⟩) (by assumption) ?ru3
                case hu3 => (intro w0 hSw; (try dsimp only at hSw); go_simp; try (with_reducible rfl))
                simp only [Act.put, List.setIfInBounds_toArray, List.set_cons_zero, List.set_cons_succ]
                refine wpAnyH_take (i := 4) (oi := { dst := some 65, op := Op.move (Operand.tmp 0), type := 40, pos := "kindredref19.go:78", after := #[], guard := none }) (v := ?vu4) rfl (by kernel_rfl) (by kernel_rfl) (by kernel_rfl) (fun _ _ _ h => h) (Or.inl ⟨by rfl, ?hu4⟩) (by assumption) ?ru4
                case hu4 => (intro w0 hSw; (try dsimp only at hSw); go_simp; try (with_reducible rfl))
                simp only [Act.put, List.setIfInBounds_toArray, List.set_cons_zero, List.set_cons_succ]
                refine wpAnyH_take (i := 5) (oi := { dst := some 66, op := Op.nilCheck (Operand.tmp 65), type := 0, pos := "kindredref19.go:78", after := #[{ on := 4, ground := Ground.data }], guard := none }) (v := ?vu5) rfl (by kernel_rfl) (by kernel_rfl) (by kernel_rfl) (fun _ _ _ h => h) (Or.inl ⟨by rfl, ?hu5⟩) (by assumption) ?ru5
                case hu5 => (intro w0 hSw; (try dsimp only at hSw); go_simp; try (with_reducible rfl))
                simp only [Act.put, List.setIfInBounds_toArray, List.set_cons_zero, List.set_cons_succ]
                refine wpAnyH_take (i := 6) (oi := { dst := some 67, op := Op.fieldAddr 63 (Operand.tmp 66) 2, type := 0, pos := "kindredref19.go:78", after := #[{ on := 5, ground := Ground.data }], guard := none }) (v := ?vu6) rfl (by kernel_rfl) (by kernel_rfl) (by kernel_rfl) (fun _ _ _ h => h) (Or.inl ⟨by rfl, ?hu6⟩) (by assumption) ?ru6
                case hu6 => (intro w0 hSw; (try dsimp only at hSw); go_simp; try (with_reducible rfl))
                simp only [Act.put, List.setIfInBounds_toArray, List.set_cons_zero, List.set_cons_succ]
                refine wpAnyH_take (i := 7) (oi := { dst := some 68, op := Op.load 22 (Operand.tmp 67), type := 22, pos := "kindredref19.go:78", after := #[{ on := 6, ground := Ground.data }], guard := none }) (v := ?vu7) rfl (by kernel_rfl) (by kernel_rfl) (by kernel_rfl) (fun _ _ _ h => h) (Or.inl ⟨by rfl, ?hu7⟩) (by assumption) ?ru7
                case hu7 => (intro w0 hSw; (try dsimp only at hSw); go_simp; try (with_reducible rfl))
                simp only [Act.put, List.setIfInBounds_toArray, List.set_cons_zero, List.set_cons_succ]
                refine wpAnyH_take (i := 8) (oi := { dst := some 69, op := Op.move (Operand.tmp 10), type := 3, pos := "kindredref19.go:78", after := #[], guard := none }) (v := ?vu8) rfl (by kernel_rfl) (by kernel_rfl) (by kernel_rfl) (fun _ _ _ h => h) (Or.inl ⟨by rfl, ?hu8⟩) (by assumption) ?ru8
                case hu8 => (intro w0 hSw; (try dsimp only at hSw); go_simp; try (with_reducible rfl))
                simp only [Act.put, List.setIfInBounds_toArray, List.set_cons_zero, List.set_cons_succ]
                refine wpAnyH_take (i := 9) (oi := { dst := some 70, op := Op.move (Operand.tmp 12), type := 3, pos := "kindredref19.go:78", after := #[], guard := none }) (v := ?vu9) rfl (by kernel_rfl) (by kernel_rfl) (by kernel_rfl) (fun _ _ _ h => h) (Or.inl ⟨by rfl, ?hu9⟩) (by assumption) ?ru9
                case hu9 => (intro w0 hSw; (try dsimp only at hSw); go_simp; try (with_reducible rfl))
                simp only [Act.put, List.setIfInBounds_toArray, List.set_cons_zero, List.set_cons_succ]
                refine wpAnyH_ready (rs := [10, 12]) (by kernel_rfl) (by simp) ?_
                refine AllReadyH.cons rfl (fun K0 hK0 => ?_) (AllReadyH.cons rfl (fun K0 hK0 => ?_) AllReadyH.nil)
                · go_simp
                  go_at_call 30
                  refine (runit_any _ _ _ _ hj5 hk5).mono ?_
                  rintro e w5 ⟨rfl, rfl⟩
                  refine hK0.out _ _ ?_ (fun hHeld => ?_)
                  · exact ⟨y0, y1, y2⟩
                  clear hK0 K0
                  obtain ⟨u, eu⟩ : ∃ u, uq sd (1024 * (jj : Int) + k + 1) = u := ⟨_, rfl⟩
                  rw [eu]
                  have EU := Hid.mk eu
                  clear eu
                  refine wpAnyH_ready (rs := [11, 12]) (by kernel_rfl) (by simp) ?_
                  refine AllReadyH.cons rfl (fun K0 hK0 => ?_) (AllReadyH.cons rfl (fun K0 hK0 => ?_) AllReadyH.nil)
                  · go_simp
                    go_at_call 29
                    refine (rtimes_any p u _ hp1 hp2).mono ?_
                    rintro e w6 ⟨rfl, b6⟩
                    have b6' : Below wr.heap.size wr w6 := ⟨b6.os, b6.tape, b6.output, b6.size, b6.block⟩
                    refine hK0.out _ _ ?_ (fun hHeld => ?_)
                    · exact ⟨cell_lat b6' y0, cell_lat b6' y1, cell_lat b6' y2⟩
                    clear hK0 K0
                    refine wpAnyH_ready (rs := [12]) (by kernel_rfl) (by simp) ?_
                    refine AllReadyH.cons rfl (fun K0 hK0 => ?_) AllReadyH.nil
                    go_simp
                    refine hK0.out _ _ ?_ (fun hHeld => ?_)
                    · exact ⟨cell_lat ((Below.refl _ w6).alloc (Nat.le_refl _) _) (cell_lat b6' y0), cell_lat ((Below.refl _ w6).alloc (Nat.le_refl _) _) (cell_lat b6' y1), cell_lat ((Below.refl _ w6).alloc (Nat.le_refl _) _) (cell_lat b6' y2)⟩
                    clear hK0 K0
                    refine wpAnyH_ready (rs := [13]) (by kernel_rfl) (by simp) ?_
                    refine AllReadyH.cons rfl (fun K0 hK0 => ?_) AllReadyH.nil
                    go_simp
                    refine hK0.out _ _ ?_ (fun hHeld => ?_)
                    · exact ⟨cell_lat ((Below.refl _ w6).alloc (Nat.le_refl _) _) (cell_lat b6' y0), cell_lat ((Below.refl _ w6).alloc (Nat.le_refl _) _) (cell_lat b6' y1), cell_lat ((Below.refl _ w6).alloc (Nat.le_refl _) _) (cell_lat b6' y2)⟩
                    clear hK0 K0
                    refine wpAnyH_done (by kernel_rfl) ?_ _
                    have hI6 := (HI.out.later b6').later ((Below.refl _ w6).alloc (Nat.le_refl _) (.cells #[.int .i64 (cm p u).1, .int .i64 (cm p u).2] 30))
                    clear b6 b6' hHeld y0 y1 y2
                    obtain ⟨z0, z1, zf⟩ := hI6.cells
                    have zf0 := zf 0
                    have zf1 := zf 1
                    have hI7 := hI6.set (s.1 + (cm p u).1) (s.2 + (cm p u).2)
                    have hcm2 := HCM.out
                    rw [EU.out] at hcm2
                    have hs2 := HSB.out
                    rw [EU.out] at hs2
                    obtain ⟨tt, ett⟩ : ∃ t, cm p u = t := ⟨_, rfl⟩
                    rw [ett] at z0 z1 zf0 zf1 hI7 hcm2 hs2 ⊢
                    have hkk : (k + 1) * 1048576 ≤ 1024 * 1048576 := Nat.mul_le_mul_right _ (by omega)
                    simp only [addZ] at hcm2 hs2
                    have a1 : IntKind.i64.wrap (s.1 + tt.1) = s.1 + tt.1 := i64_sg _ (by have := hs2.1; simp only [] at this; omega) (by have := hs2.1; simp only [] at this; omega)
                    have a2 : IntKind.i64.wrap (s.2 + tt.2) = s.2 + tt.2 := i64_sg _ (by have := hs2.2; simp only [] at this; omega) (by have := hs2.2; simp only [] at this; omega)
                    have HC2 := Hid.mk hcm2
                    have HI7 := Hid.mk hI7
                    clear hcm2 hI7 hI6 zf hs2 hkk ett
                    go_wp2
                    go_roundw
                    case rel => exact ⟨k + 1, hkt, by go_num, by rw [HC2.out]; exact HI7.out⟩
                    case measure => simp [intOf]; omega
                  · have bA0 : Below wr.heap.size wr (wr.alloc (.cells #[.int .i64 0, .int .i64 0] 30)) := (Below.refl _ wr).alloc (Nat.le_refl _) _
                    have yA0 := cell_lat bA0 y0
                    have yA1 := cell_lat bA0 y1
                    have yA2 := cell_lat bA0 y2
                    go_simp
                    refine hK0.out _ _ ?_ (fun hHeld => ?_)
                    · exact ⟨yA0, yA1, yA2⟩
                    clear hK0 K0
                    refine wpAnyH_ready (rs := [11]) (by kernel_rfl) (by simp) ?_
                    refine AllReadyH.cons rfl (fun K0 hK0 => ?_) AllReadyH.nil
                    go_simp
                    go_at_call 29
                    refine (rtimes_any p u _ hp1 hp2).mono ?_
                    rintro e w6 ⟨rfl, b6⟩
                    have b6' : Below (wr.alloc (.cells #[.int .i64 0, .int .i64 0] 30)).heap.size (wr.alloc (.cells #[.int .i64 0, .int .i64 0] 30)) w6 := ⟨b6.os, b6.tape, b6.output, b6.size, b6.block⟩
                    refine hK0.out _ _ ?_ (fun hHeld => ?_)
                    · exact ⟨cell_lat b6' yA0, cell_lat b6' yA1, cell_lat b6' yA2⟩
                    clear hK0 K0
                    have hgw : g < wr.heap.size := World.block_lt_of_cell? wr _ y0
                    have hbw : b < wr.heap.size := World.block_lt_of_cell? wr _ y2
                    have hbx : w6.heap[wr.heap.size]? = some (.cells #[.int .i64 0, .int .i64 0] 30 (0, 0)) := (b6'.block _ (by simp)).trans (heap_alloc_last wr _)
                    have x0 : w6.cell? ⟨wr.heap.size, 0, none⟩ = some (.int .i64 0) := by rw [cell_of_row _ _ 0 _ _ (0, 0) hbx]; rfl
                    have x1 : w6.cell? ⟨wr.heap.size, 1, none⟩ = some (.int .i64 0) := by rw [cell_of_row _ _ 1 _ _ (0, 0) hbx]; rfl
                    have xf0 : w6.frozen? ⟨wr.heap.size, 0, none⟩ = false := frozen_of_row _ _ _ _ _ hbx
                    have xf1 : w6.frozen? ⟨wr.heap.size, 1, none⟩ = false := frozen_of_row _ _ _ _ _ hbx
                    have hlw := HI.out.lt
                    refine wpAnyH_ready (rs := [13]) (by kernel_rfl) (by simp) ?_
                    refine AllReadyH.cons rfl (fun K0 hK0 => ?_) AllReadyH.nil
                    go_simp
                    refine hK0.out _ _ ?_ (fun hHeld => ?_)
                    · exact ⟨(World.cell?_setCell_other _ _ _ _ (addr_ne (by simp; omega))).trans ((World.cell?_setCell_other _ _ _ _ (addr_ne (by simp; omega))).trans (cell_lat b6' yA0)), (World.cell?_setCell_other _ _ _ _ (addr_ne (by simp; omega))).trans ((World.cell?_setCell_other _ _ _ _ (addr_ne (by simp; omega))).trans (cell_lat b6' yA1)), (World.cell?_setCell_other _ _ _ _ (addr_ne (by simp; omega))).trans ((World.cell?_setCell_other _ _ _ _ (addr_ne (by simp; omega))).trans (cell_lat b6' yA2))⟩
                    clear hK0 K0
                    refine wpAnyH_done (by kernel_rfl) ?_ _
                    have hI6 := ((HI.out.later bA0).later b6').other wr.heap.size hlw (.int .i64 (cm p u).1) (.int .i64 (cm p u).2)
                    have hne : wa.heap.size ≠ wr.heap.size := by omega
                    clear b6 b6' bA0 hHeld y0 y1 y2 yA0 yA1 yA2 hgw hbw hbx
                    obtain ⟨z0, z1, zf⟩ := hI6.cells
                    have zf0 := zf 0
                    have zf1 := zf 1
                    have hI7 := hI6.set (s.1 + (cm p u).1) (s.2 + (cm p u).2)
                    have hcm2 := HCM.out
                    rw [EU.out] at hcm2
                    have hs2 := HSB.out
                    rw [EU.out] at hs2
                    obtain ⟨tt, ett⟩ : ∃ t, cm p u = t := ⟨_, rfl⟩
                    rw [ett] at z0 z1 zf0 zf1 hI7 hcm2 hs2 ⊢
                    have hkk : (k + 1) * 1048576 ≤ 1024 * 1048576 := Nat.mul_le_mul_right _ (by omega)
                    simp only [addZ] at hcm2 hs2
                    have a1 : IntKind.i64.wrap (s.1 + tt.1) = s.1 + tt.1 := i64_sg _ (by have := hs2.1; simp only [] at this; omega) (by have := hs2.1; simp only [] at this; omega)
                    have a2 : IntKind.i64.wrap (s.2 + tt.2) = s.2 + tt.2 := i64_sg _ (by have := hs2.2; simp only [] at this; omega) (by have := hs2.2; simp only [] at this; omega)
                    have HC2 := Hid.mk hcm2
                    have HI7 := Hid.mk hI7
                    clear hcm2 hI7 hI6 zf hs2 hkk ett
                    go_wp2
                    go_roundw
                    case rel => exact ⟨k + 1, hkt, by go_num, by rw [HC2.out]; exact HI7.out⟩
                    case measure => simp [intOf]; omega
                · have bA0 : Below wr.heap.size wr (wr.alloc (.cells #[.int .i64 0, .int .i64 0] 30)) := (Below.refl _ wr).alloc (Nat.le_refl _) _
                  have yA0 := cell_lat bA0 y0
                  have yA1 := cell_lat bA0 y1
                  have yA2 := cell_lat bA0 y2
                  go_simp
                  refine hK0.out _ _ ?_ (fun hHeld => ?_)
                  · exact ⟨yA0, yA1, yA2⟩
                  clear hK0 K0
                  refine wpAnyH_ready (rs := [10]) (by kernel_rfl) (by simp) ?_
                  refine AllReadyH.cons rfl (fun K0 hK0 => ?_) AllReadyH.nil
                  go_simp
                  go_at_call 30
                  refine (runit_any _ _ _ _ hj5 hk5).mono ?_
                  rintro e w5 ⟨rfl, rfl⟩
                  refine hK0.out _ _ ?_ (fun hHeld => ?_)
                  · exact ⟨yA0, yA1, yA2⟩
                  clear hK0 K0
                  obtain ⟨u, eu⟩ : ∃ u, uq sd (1024 * (jj : Int) + k + 1) = u := ⟨_, rfl⟩
                  rw [eu]
                  have EU := Hid.mk eu
                  clear eu
                  refine wpAnyH_ready (rs := [11]) (by kernel_rfl) (by simp) ?_
                  refine AllReadyH.cons rfl (fun K0 hK0 => ?_) AllReadyH.nil
                  go_simp
                  go_at_call 29
                  refine (rtimes_any p u _ hp1 hp2).mono ?_
                  rintro e w6 ⟨rfl, b6⟩
                  have b6' : Below (wr.alloc (.cells #[.int .i64 0, .int .i64 0] 30)).heap.size (wr.alloc (.cells #[.int .i64 0, .int .i64 0] 30)) w6 := ⟨b6.os, b6.tape, b6.output, b6.size, b6.block⟩
                  refine hK0.out _ _ ?_ (fun hHeld => ?_)
                  · exact ⟨cell_lat b6' yA0, cell_lat b6' yA1, cell_lat b6' yA2⟩
                  clear hK0 K0
                  have hgw : g < wr.heap.size := World.block_lt_of_cell? wr _ y0
                  have hbw : b < wr.heap.size := World.block_lt_of_cell? wr _ y2
                  have hbx : w6.heap[wr.heap.size]? = some (.cells #[.int .i64 0, .int .i64 0] 30 (0, 0)) := (b6'.block _ (by simp)).trans (heap_alloc_last wr _)
                  have x0 : w6.cell? ⟨wr.heap.size, 0, none⟩ = some (.int .i64 0) := by rw [cell_of_row _ _ 0 _ _ (0, 0) hbx]; rfl
                  have x1 : w6.cell? ⟨wr.heap.size, 1, none⟩ = some (.int .i64 0) := by rw [cell_of_row _ _ 1 _ _ (0, 0) hbx]; rfl
                  have xf0 : w6.frozen? ⟨wr.heap.size, 0, none⟩ = false := frozen_of_row _ _ _ _ _ hbx
                  have xf1 : w6.frozen? ⟨wr.heap.size, 1, none⟩ = false := frozen_of_row _ _ _ _ _ hbx
                  have hlw := HI.out.lt
                  refine wpAnyH_ready (rs := [13]) (by kernel_rfl) (by simp) ?_
                  refine AllReadyH.cons rfl (fun K0 hK0 => ?_) AllReadyH.nil
                  go_simp
                  refine hK0.out _ _ ?_ (fun hHeld => ?_)
                  · exact ⟨(World.cell?_setCell_other _ _ _ _ (addr_ne (by simp; omega))).trans ((World.cell?_setCell_other _ _ _ _ (addr_ne (by simp; omega))).trans (cell_lat b6' yA0)), (World.cell?_setCell_other _ _ _ _ (addr_ne (by simp; omega))).trans ((World.cell?_setCell_other _ _ _ _ (addr_ne (by simp; omega))).trans (cell_lat b6' yA1)), (World.cell?_setCell_other _ _ _ _ (addr_ne (by simp; omega))).trans ((World.cell?_setCell_other _ _ _ _ (addr_ne (by simp; omega))).trans (cell_lat b6' yA2))⟩
                  clear hK0 K0
                  refine wpAnyH_done (by kernel_rfl) ?_ _
                  have hI6 := ((HI.out.later bA0).later b6').other wr.heap.size hlw (.int .i64 (cm p u).1) (.int .i64 (cm p u).2)
                  have hne : wa.heap.size ≠ wr.heap.size := by omega
                  clear b6 b6' bA0 hHeld y0 y1 y2 yA0 yA1 yA2 hgw hbw hbx
                  obtain ⟨z0, z1, zf⟩ := hI6.cells
                  have zf0 := zf 0
                  have zf1 := zf 1
                  have hI7 := hI6.set (s.1 + (cm p u).1) (s.2 + (cm p u).2)
                  have hcm2 := HCM.out
                  rw [EU.out] at hcm2
                  have hs2 := HSB.out
                  rw [EU.out] at hs2
                  obtain ⟨tt, ett⟩ : ∃ t, cm p u = t := ⟨_, rfl⟩
                  rw [ett] at z0 z1 zf0 zf1 hI7 hcm2 hs2 ⊢
                  have hkk : (k + 1) * 1048576 ≤ 1024 * 1048576 := Nat.mul_le_mul_right _ (by omega)
                  simp only [addZ] at hcm2 hs2
                  have a1 : IntKind.i64.wrap (s.1 + tt.1) = s.1 + tt.1 := i64_sg _ (by have := hs2.1; simp only [] at this; omega) (by have := hs2.1; simp only [] at this; omega)
                  have a2 : IntKind.i64.wrap (s.2 + tt.2) = s.2 + tt.2 := i64_sg _ (by have := hs2.2; simp only [] at this; omega) (by have := hs2.2; simp only [] at this; omega)
                  have HC2 := Hid.mk hcm2
                  have HI7 := Hid.mk hI7
                  clear hcm2 hI7 hI6 zf hs2 hkk ett
                  go_wp2
                  go_roundw
                  case rel => exact ⟨k + 1, hkt, by go_num, by rw [HC2.out]; exact HI7.out⟩
                  case measure => simp [intOf]; omega
              · have e3 : k = n := by omega
                have hk' : ¬ (k : Int) < (n : Int) := by omega
                rw [e3] at hI
                obtain ⟨z0, z1, -⟩ := hI.cells
                have hG2 := HG.out.later hI.bel
                obtain ⟨o', W', hap, hG3⟩ := hG2.push (by rw [List.length_take]; omega) (sumZ sd jj v n)
                have hts := take_map_succ wd sd v jj (by rw [EM.out]; exact hjt)
                rw [EN.out] at hts
                rw [← hts] at hG3
                have HG3 := Hid.mk hG3
                obtain ⟨sn, esn⟩ : ∃ s, sumZ sd jj v n = s := ⟨_, rfl⟩
                rw [esn] at z0 z1 hap
                clear e3 hI hG2 hG3 hts esn
                go_wp2_with (at_builtin; refine wpList_append_eq rfl _ _ _ _ rfl _ _ _ _ rfl rfl hap ?_; clear hap)
                go_roundw
                case rel => exact ⟨jj + 1, hjt, by go_num, HG3.out⟩
                case measure => simp [intOf]; omega
          · have e2 : jj = m := by omega
            have hj' : ¬ (jj : Int) < (m : Int) := by omega
            rw [e2, List.take_of_length_le (by rw [sumsL_len, EM.out]; exact Nat.le_refl _)] at hG
            have HG := Hid.mk hG
            clear e2 hG
            go_wp2
            exact H1.out (by rw [EN.out]; exact HK.out) _ _ HG.out
  · have HE : Hid (ckE dm v = 190) := by show ckE dm v = 190; unfold ckE; rw [if_neg hl]
    obtain ⟨n, en⟩ : ∃ n, v.length = n := ⟨_, rfl⟩
    rw [en] at hl ⊢
    have d1 : ((n : Int) != dm) = true := by simp; omega
    have H0 := Hid.mk h0
    clear en hv hl hs h0 h1
    go_enter Try.func17, Try.ntmps17
    go_wp2
    have := H0.out (by rw [HE.out]; decide) _ (Below.refl _ _)
    rw [HE.out] at this
    exact this
end Go.Proofs.Ytmdmjjobhkpojaa
