/-
  DERIVED. BLawBk, BOpen, BackRowB, as one text.
-/
import Derived.Test.YtcjjchdpcagemaaDoorBkB
import Derived.Deep.RegionHeldLaw
import Derived.Deep.RegionHeld
import Derived.Deep.Slices
import Derived.WideShapes
import Derived.ChangeShapes
import Derived.Test.YtcjjchdpcagemaaDoorSTable
import Derived.ChangeMaps5
import Derived.ChangeSlices
import Derived.Deep.DeepHandedRow
import Derived.JoinedCond
set_option linter.unusedVariables false
set_option linter.unusedSimpArgs false
namespace Go.Proofs.YtcjjchdpcagemaaDoor
open Go.RowKit Go.Proofs.SealMath
set_option maxRecDepth 100000 in
set_option maxHeartbeats 1000000 in
theorem fhead_any (fb : Nat) (h : Hd) (bv iv : Value) (rd : Nat) (w : World) (hb : w.heap[fb]? = some (.cells (flV h bv iv rd) 64 (0, 0))) :
    Calls Tryd.prog 11 #[Pt fb] w fun r w' => r = .returned (.agg #[.int .i64 h.w, .int .i64 h.t, .int .i64 h.b, .int .i64 h.lo, .int .i64 h.hi, .int .i64 h.n]) ∧ Below w.heap.size w w' := by
  obtain ⟨⟨y0, y1, y2, y3, y4, y5⟩, -⟩ := fl9 hb
  have hz : fb < w.heap.size := World.block_lt_of_cell? w _ y0
  clear hb
  go_enter Tryd.func11, Tryd.ntmps11
  go_wp2
  refine bodyPost_ret (v := .agg #[.int .i64 h.w, .int .i64 h.t, .int .i64 h.b, .int .i64 h.lo, .int .i64 h.hi, .int .i64 h.n]) (by simp [results, Tryd.results11, go_sem]; try rfl) rfl ?_
  exact ⟨rfl, (Below.refl _ w).alloc (Nat.le_refl _) _⟩
/-- All entries of a file that was opened. -/
theorem all_open (fb : Nat) (h : Hd) (b : ByteArray) (bl : List (List UInt8)) (ix : List En) (bv iv : Value) (rd : Nat) (w : World) (H : FA w fb h bl ix bv iv rd) (e : opA b = some (h, bl)) (hb : b.size ≤ 1099511627776) :
    Calls Tryd.prog 13 #[Pt fb] w fun r w' => ∃ la cap, r = .returned (.slice la (alA (cbH h) bl).length cap) ∧ (alA (cbH h) bl).length ≤ cap ∧ LAt w' la (alA (cbH h) bl) ∧ Below w.heap.size w w' := by
  obtain ⟨r1, r2, -⟩ := opA_some e
  obtain ⟨q1, q2, q3, q4⟩ := rdA_some r1
  have hw := isW_bd (hdE0 q1).1
  have hn : h.n ≤ (b.size : Int) := Int.le_trans q3 (Int.ediv_le_self _ (by omega))
  refine (all_any fb h bl ix bv iv rd w H hw ⟨q2, by omega⟩ (by omega)).mono ?_
  rintro r w' ⟨v, rfl, hr, -, hb'⟩
  obtain ⟨la, cap, rfl, hc, hL⟩ := lat_row hr
  exact ⟨la, cap, rfl, hc, hL, hb'⟩
set_option maxHeartbeats 8000000 in
set_option maxRecDepth 100000 in
theorem law_back (h : Hd) (l : List En) (la : Option Addr) (cap : Nat) (b : ByteArray) (w : World) (ht : Tab w) (hg : 0 < w.heap.size) (hl : LAt w la l) (hcap : l.length ≤ cap) (hb : b.size ≤ 1099511627776) :
    Calls Tryd.prog 4 #[.agg (hdC h).toArray, .slice la l.length cap, .string b] w fun r w' => r = .returned (.bool true) ∧ Below w.heap.size w w' := by
  obtain ⟨W, hW⟩ : ∃ W, W = w.alloc (.cells (hdC h).toArray 23) := ⟨_, rfl⟩
  have bW : Below w.heap.size w W := by rw [hW]; exact (Below.refl _ w).alloc (Nat.le_refl _) _
  have hH : W.heap[w.heap.size]? = some (.cells (hdC h).toArray 23 (0, 0)) := by rw [hW]; exact heap_alloc_last w _
  obtain ⟨htW, hgW⟩ := ht.blk hg bW
  have hbg := begun6_any W htW hgW
  have HL := Hid.mk (And.intro ht (And.intro hg (And.intro hl (And.intro hcap hb))))
  obtain ⟨n, hn⟩ : ∃ n, n = l.length := ⟨_, rfl⟩
  rw [← hn]
  have HN := Hid.mk hn
  clear ht hg hl hcap hb htW hgW hn
  obtain ⟨wd, t, bt, lo, hi, cn⟩ := h
  simp only [hdC] at hW hH ⊢
  have HW := Hid.mk hW
  clear hW
  go_enter Tryd.func4, Tryd.ntmps4
  go_wp2_with fail
  rw [← HW.out]
  refine hbg.mono ?_
  clear hbg
  rintro r w1 ⟨rfl, b1⟩
  have hH1 : w1.heap[w.heap.size]? = _ := (b1.block _ (Array.getElem?_eq_some_iff.1 hH).1).trans hH
  have bw1 := chain bW b1 (Nat.le_refl _)
  obtain ⟨ht1, hg1⟩ := HL.out.1.blk HL.out.2.1 bw1
  have hbd := build_any ⟨wd, t, bt, lo, hi, cn⟩ l la cap w1 ht1 (HL.out.2.2.1.below bw1) HL.out.2.2.2.1
  simp only [hdC] at hbd
  rw [← HN.out] at hbd
  have S1 := SAt.new w [] 23
  have x0 : w1.cell? ⟨w.heap.size, 0, none⟩ = some (.int .i64 wd) := by rw [cell_of_row _ _ 0 _ _ (0, 0) hH1]; rfl
  have x1 : w1.cell? ⟨w.heap.size, 1, none⟩ = some (.int .i64 t) := by rw [cell_of_row _ _ 1 _ _ (0, 0) hH1]; rfl
  have x2 : w1.cell? ⟨w.heap.size, 2, none⟩ = some (.int .i64 bt) := by rw [cell_of_row _ _ 2 _ _ (0, 0) hH1]; rfl
  have x3 : w1.cell? ⟨w.heap.size, 3, none⟩ = some (.int .i64 lo) := by rw [cell_of_row _ _ 3 _ _ (0, 0) hH1]; rfl
  have x4 : w1.cell? ⟨w.heap.size, 4, none⟩ = some (.int .i64 hi) := by rw [cell_of_row _ _ 4 _ _ (0, 0) hH1]; rfl
  have x5 : w1.cell? ⟨w.heap.size, 5, none⟩ = some (.int .i64 cn) := by rw [cell_of_row _ _ 5 _ _ (0, 0) hH1]; rfl
  have H1 := Hid.mk (And.intro hH1 bw1)
  clear hH1 bw1 ht1 hg1 b1 bW hH S1 HW
  by_cases hE : bdE ⟨wd, t, bt, lo, hi, cn⟩ l = 0
  · have hT2 : bdT ⟨wd, t, bt, lo, hi, cn⟩ l = fileT ⟨wd, t, bt, lo, hi, cn⟩ l := by unfold bdT; rw [if_pos hE]
    rw [hE, hT2] at hbd
    have HE := Hid.mk hE
    clear hE hT2
    go_wp2_with fail
    refine hbd.mono ?_
    clear hbd
    rintro r w2 ⟨rfl, b2⟩
    have bw2 := chain H1.out.2 b2 (Nat.le_refl _)
    obtain ⟨ht2, hg2⟩ := HL.out.1.blk HL.out.2.1 bw2
    have hop := open_built ⟨wd, t, bt, lo, hi, cn⟩ l w2 ht2 hg2 HE.out (file_len _ _ HE.out)
    clear ht2 hg2
    go_wp2_with fail
    refine hop.mono ?_
    clear hop
    rintro r w3 ⟨b3, fb, bv, iv, bl, ix, rfl, hfw, hF, -, -, P, hsm⟩
    have bw3 := chain bw2 b3 (Nat.le_refl _)
    have b13 := chain b2 b3 (Nat.le_refl _)
    have hH3 : w3.heap[w.heap.size]? = _ := (b13.block _ (Array.getElem?_eq_some_iff.1 H1.out.1).1).trans H1.out.1
    have hlt : w.heap.size < fb := by
      have h1 := (Array.getElem?_eq_some_iff.1 H1.out.1).1
      have h2 := b2.size
      omega
    have st4 : Stay (fun k => k = w.heap.size) w3 (w3.setCell ⟨w.heap.size, 5, none⟩ (.int .i64 n)) := stay1 _ _ _ _ _ (.refl _ _)
    have hH4 : (w3.setCell ⟨w.heap.size, 5, none⟩ (.int .i64 n)).heap[w.heap.size]? = some (.cells #[.int .i64 wd, .int .i64 t, .int .i64 bt, .int .i64 lo, .int .i64 hi, .int .i64 n] 23 (0, 0)) := by rw [heap_setCell_same w3 _ 5 _ _ _ hH3]; rfl
    have F4 : FA (w3.setCell ⟨w.heap.size, 5, none⟩ (.int .i64 n)) fb { (⟨wd, t, bt, lo, hi, cn⟩ : Hd) with n := l.length } bl ix bv iv 0 := hF.kept st4 (by omega) (fun k hk e => by
      obtain ⟨c, hc⟩ := row_block hF.row hk
      rw [e, hH3] at hc; simp at hc) (fun k hk e => by
      obtain ⟨c, hc⟩ := row_block hF.idx hk
      rw [e, hH3] at hc; simp at hc)
    have bw4 : Below w.heap.size w (w3.setCell ⟨w.heap.size, 5, none⟩ (.int .i64 n)) := bw3.setCell (p := ⟨w.heap.size, 5, none⟩) (Nat.le_refl _) _
    have z5 : w3.cell? ⟨w.heap.size, 5, none⟩ = some (.int .i64 cn) := by rw [cell_of_row _ _ 5 _ _ (0, 0) hH3]; rfl
    have zf : w3.frozen? ⟨w.heap.size, 5, none⟩ = false := frozen_of_row _ _ _ _ _ hH3
    obtain ⟨V, hV⟩ : ∃ V, V = w3.setCell ⟨w.heap.size, 5, none⟩ (.int .i64 n) := ⟨_, rfl⟩
    rw [← hV] at hH4 F4 bw4
    have y0 : V.drew.cell? ⟨w.heap.size, 0, none⟩ = some (.int .i64 wd) := by rw [cell_of_row V.drew _ 0 _ _ (0, 0) hH4]; rfl
    have y1 : V.drew.cell? ⟨w.heap.size, 1, none⟩ = some (.int .i64 t) := by rw [cell_of_row V.drew _ 1 _ _ (0, 0) hH4]; rfl
    have y2 : V.drew.cell? ⟨w.heap.size, 2, none⟩ = some (.int .i64 bt) := by rw [cell_of_row V.drew _ 2 _ _ (0, 0) hH4]; rfl
    have y3 : V.drew.cell? ⟨w.heap.size, 3, none⟩ = some (.int .i64 lo) := by rw [cell_of_row V.drew _ 3 _ _ (0, 0) hH4]; rfl
    have y4 : V.drew.cell? ⟨w.heap.size, 4, none⟩ = some (.int .i64 hi) := by rw [cell_of_row V.drew _ 4 _ _ (0, 0) hH4]; rfl
    have y5 : V.drew.cell? ⟨w.heap.size, 5, none⟩ = some (.int .i64 n) := by rw [cell_of_row V.drew _ 5 _ _ (0, 0) hH4]; rfl
    have F4d := F4.below (b_drew V)
    have hhd := fhead_any fb _ bv iv 0 V.drew F4d.box
    dsimp only at hhd
    rw [← HN.out] at hhd
    have hok := bdE_ok HE.out
    have hw := isW_bd (hdE0 hok.1).1
    have hall := fun W (b5 : Below V.drew.heap.size V.drew W) => all_any fb _ bl ix bv iv 0 W (F4d.below b5) hw ⟨by show (0 : Int) ≤ (l.length : Int); omega, by have := hok.2.1; show (l.length : Int) ≤ 1099511627776; omega⟩ (Nat.le_trans hsm (file_len _ _ HE.out))
    rw [show cbH { (⟨wd, t, bt, lo, hi, cn⟩ : Hd) with n := (l.length : Int) } = cbH ⟨wd, t, bt, lo, hi, cn⟩ from rfl, P.al] at hall
    have hsame := fun W la2 ca2 (L2 : LAt W la2 l) (b5 : Below V.drew.heap.size V.drew W) => same6_any l la2 la ca2 cap W L2 (HL.out.2.2.1.below (chain (chain bw4 (b_drew V) (Nat.le_refl _)) b5 (Nat.le_refl _))) (by have := hok.2.1; omega)
    rw [← HN.out] at hsame
    have hHH := Hid.mk (And.intro bw4 hV)
    clear hF P hsm hok hw F4 F4d hH3 hH4 st4 b3 b2 b13 bw2 bw3 bw4 x0 x1 x2 x3 x4 x5 hfw H1
    go_wp2_with fail
    rw [← hV]
    clear hV z5 zf
    refine wp_region_held_drew (S := fun w' => w'.cell? ⟨w.heap.size, 0, none⟩ = some (.int .i64 wd) ∧ w'.cell? ⟨w.heap.size, 1, none⟩ = some (.int .i64 t) ∧ w'.cell? ⟨w.heap.size, 2, none⟩ = some (.int .i64 bt) ∧ w'.cell? ⟨w.heap.size, 3, none⟩ = some (.int .i64 lo) ∧ w'.cell? ⟨w.heap.size, 4, none⟩ = some (.int .i64 hi) ∧ w'.cell? ⟨w.heap.size, 5, none⟩ = some (.int .i64 n)) (by kernel_rfl) ?_ (fun hHeld => ?_)
    · exact ⟨y0, y1, y2, y3, y4, y5⟩
    refine wpAnyH_take (i := 0) (oi := { dst := some 39, op := Op.move (Operand.tmp 10), type := 30, pos := "plain.go:46", after := #[], guard := none }) (v := ?vr0) rfl (by kernel_rfl) (by kernel_rfl) (by kernel_rfl) (fun _ _ _ h => h) (Or.inl ⟨by rfl, ?hr0⟩) (by assumption) ?rr0
    case hr0 => (intro w0 hSw; (try dsimp only at hSw); go_simp; try (with_reducible rfl))
    simp only [Act.put, List.setIfInBounds_toArray, List.set_cons_zero, List.set_cons_succ]
    refine wpAnyH_take (i := 2) (oi := { dst := some 41, op := Op.load 23 (Operand.tmp 3), type := 23, pos := "plain.go:46", after := #[], guard := none }) (v := ?vr2) rfl (by kernel_rfl) (by kernel_rfl) (by kernel_rfl) (fun _ _ _ h => h) (Or.inl ⟨by rfl, ?hr2⟩) (by assumption) ?rr2
    case hr2 => (intro w0 hSw; (try dsimp only at hSw); go_simp; try (with_reducible rfl))
    simp only [Act.put, List.setIfInBounds_toArray, List.set_cons_zero, List.set_cons_succ]
    refine wpAnyH_ready (rs := [1]) (by kernel_rfl) (by simp) ?_
    refine AllReadyH.cons rfl (fun K hK => ?_) AllReadyH.nil
    go_simp
    go_wp2_with (first | (go_at_call 11; refine hhd.mono ?_; clear hhd; rintro r w4 ⟨rfl, b4⟩; have bb4 : Below V.drew.heap.size V.drew w4 := b4) | (go_at_call 13; refine (hall w4 bb4).mono ?_; clear hall; rintro r w5 ⟨v5, rfl, rw5, -, b5⟩; have bb5 := chain bb4 b5 (Nat.le_refl _); obtain ⟨la5, ca5, rfl, hc5, LA5⟩ := lat_row rw5; rw [← HN.out]) | (go_at_call 12; refine (hsame w5 la5 ca5 LA5 bb5).mono ?_; clear hsame; rintro r w6 ⟨rfl, d6⟩; have bb6 := chain bb5 (d6.below w5.heap.size) (Nat.le_refl _)))
    refine hK.out _ _ ?_ (fun hHeld => ?_)
    · first | exact ⟨cell_lat bb6 y0, cell_lat bb6 y1, cell_lat bb6 y2, cell_lat bb6 y3, cell_lat bb6 y4, cell_lat bb6 y5⟩ | exact ⟨cell_lat bb5 y0, cell_lat bb5 y1, cell_lat bb5 y2, cell_lat bb5 y3, cell_lat bb5 y4, cell_lat bb5 y5⟩ | exact ⟨cell_lat bb4 y0, cell_lat bb4 y1, cell_lat bb4 y2, cell_lat bb4 y3, cell_lat bb4 y4, cell_lat bb4 y5⟩
    clear hK K
    refine wpAnyH_take (i := 3) (oi := { dst := some 42, op := Op.binOp BinOp.neq 23 (Operand.tmp 40) (Operand.tmp 41) 23, type := 4, pos := "plain.go:46", after := #[{ on := 1, ground := Ground.data }, { on := 2, ground := Ground.data }], guard := none }) (v := ?vr3) rfl (by kernel_rfl) (by kernel_rfl) (by kernel_rfl) (fun _ _ _ h => h) (Or.inl ⟨by rfl, ?hr3⟩) (by assumption) ?rr3
    case hr3 => (intro w0 hSw; (try dsimp only at hSw); go_simp; try (with_reducible rfl))
    simp only [Act.put, List.setIfInBounds_toArray, List.set_cons_zero, List.set_cons_succ]
    refine wpAnyH_take (i := 4) (oi := { dst := some 43, op := Op.move (Operand.tmp 42), type := 4, pos := "plain.go:46", after := #[{ on := 3, ground := Ground.data }, { on := 1, ground := Ground.chain }], guard := none }) (v := ?vr4) rfl (by kernel_rfl) (by kernel_rfl) (by kernel_rfl) (fun _ _ _ h => h) (Or.inl ⟨by rfl, ?hr4⟩) (by assumption) ?rr4
    case hr4 => (intro w0 hSw; (try dsimp only at hSw); go_simp; try (with_reducible rfl))
    simp only [Act.put, List.setIfInBounds_toArray, List.set_cons_zero, List.set_cons_succ]
    refine wpAnyH_take (i := 5) (oi := { dst := some 44, op := Op.move (Operand.tmp 10), type := 30, pos := "plain.go:46", after := #[{ on := 4, ground := Ground.guard }], guard := some (4, false) }) (v := ?vr5) rfl (by kernel_rfl) (by kernel_rfl) (by kernel_rfl) (fun _ _ _ h => h) (Or.inl ⟨by rfl, ?hr5⟩) (by assumption) ?rr5
    case hr5 => (intro w0 hSw; (try dsimp only at hSw); go_simp; try (with_reducible rfl))
    simp only [Act.put, List.setIfInBounds_toArray, List.set_cons_zero, List.set_cons_succ]
    refine wpAnyH_take (i := 7) (oi := { dst := some 46, op := Op.move (Operand.tmp 1), type := 24, pos := "plain.go:46", after := #[{ on := 4, ground := Ground.guard }], guard := some (4, false) }) (v := ?vr7) rfl (by kernel_rfl) (by kernel_rfl) (by kernel_rfl) (fun _ _ _ h => h) (Or.inl ⟨by rfl, ?hr7⟩) (by assumption) ?rr7
    case hr7 => (intro w0 hSw; (try dsimp only at hSw); go_simp; try (with_reducible rfl))
    simp only [Act.put, List.setIfInBounds_toArray, List.set_cons_zero, List.set_cons_succ]
    refine wpAnyH_ready (rs := [6]) (by kernel_rfl) (by simp) ?_
    refine AllReadyH.cons rfl (fun K hK => ?_) AllReadyH.nil
    go_simp
    go_wp2_with (first | (go_at_call 11; refine hhd.mono ?_; clear hhd; rintro r w4 ⟨rfl, b4⟩; have bb4 : Below V.drew.heap.size V.drew w4 := b4) | (go_at_call 13; refine (hall w4 bb4).mono ?_; clear hall; rintro r w5 ⟨v5, rfl, rw5, -, b5⟩; have bb5 := chain bb4 b5 (Nat.le_refl _); obtain ⟨la5, ca5, rfl, hc5, LA5⟩ := lat_row rw5; rw [← HN.out]) | (go_at_call 12; refine (hsame w5 la5 ca5 LA5 bb5).mono ?_; clear hsame; rintro r w6 ⟨rfl, d6⟩; have bb6 := chain bb5 (d6.below w5.heap.size) (Nat.le_refl _)))
    refine hK.out _ _ ?_ (fun hHeld => ?_)
    · first | exact ⟨cell_lat bb6 y0, cell_lat bb6 y1, cell_lat bb6 y2, cell_lat bb6 y3, cell_lat bb6 y4, cell_lat bb6 y5⟩ | exact ⟨cell_lat bb5 y0, cell_lat bb5 y1, cell_lat bb5 y2, cell_lat bb5 y3, cell_lat bb5 y4, cell_lat bb5 y5⟩ | exact ⟨cell_lat bb4 y0, cell_lat bb4 y1, cell_lat bb4 y2, cell_lat bb4 y3, cell_lat bb4 y4, cell_lat bb4 y5⟩
    clear hK K
    refine wpAnyH_ready (rs := [8]) (by kernel_rfl) (by simp) ?_
    refine AllReadyH.cons rfl (fun K hK => ?_) AllReadyH.nil
    go_simp
    go_wp2_with (first | (go_at_call 11; refine hhd.mono ?_; clear hhd; rintro r w4 ⟨rfl, b4⟩; have bb4 : Below V.drew.heap.size V.drew w4 := b4) | (go_at_call 13; refine (hall w4 bb4).mono ?_; clear hall; rintro r w5 ⟨v5, rfl, rw5, -, b5⟩; have bb5 := chain bb4 b5 (Nat.le_refl _); obtain ⟨la5, ca5, rfl, hc5, LA5⟩ := lat_row rw5; rw [← HN.out]) | (go_at_call 12; refine (hsame w5 la5 ca5 LA5 bb5).mono ?_; clear hsame; rintro r w6 ⟨rfl, d6⟩; have bb6 := chain bb5 (d6.below w5.heap.size) (Nat.le_refl _)))
    refine hK.out _ _ ?_ (fun hHeld => ?_)
    · first | exact ⟨cell_lat bb6 y0, cell_lat bb6 y1, cell_lat bb6 y2, cell_lat bb6 y3, cell_lat bb6 y4, cell_lat bb6 y5⟩ | exact ⟨cell_lat bb5 y0, cell_lat bb5 y1, cell_lat bb5 y2, cell_lat bb5 y3, cell_lat bb5 y4, cell_lat bb5 y5⟩ | exact ⟨cell_lat bb4 y0, cell_lat bb4 y1, cell_lat bb4 y2, cell_lat bb4 y3, cell_lat bb4 y4, cell_lat bb4 y5⟩
    clear hK K
    refine wpAnyH_take (i := 9) (oi := { dst := some 48, op := Op.unOp UnOp.not 4 (Operand.tmp 47), type := 4, pos := "plain.go:46", after := #[{ on := 8, ground := Ground.data }, { on := 4, ground := Ground.guard }], guard := some (4, false) }) (v := ?vr9) rfl (by kernel_rfl) (by kernel_rfl) (by kernel_rfl) (fun _ _ _ h => h) (Or.inl ⟨by rfl, ?hr9⟩) (by assumption) ?rr9
    case hr9 => (intro w0 hSw; (try dsimp only at hSw); go_simp; try (with_reducible rfl))
    simp only [Act.put, List.setIfInBounds_toArray, List.set_cons_zero, List.set_cons_succ]
    refine wpAnyH_take (i := 10) (oi := { dst := some 49, op := Op.pick (Operand.tmp 43) (Operand.const (Value.bool true)) (Operand.tmp 48), type := 4, pos := "plain.go:46", after := #[{ on := 4, ground := Ground.data }, { on := 9, ground := Ground.data }], guard := none }) (v := ?vr10) rfl (by kernel_rfl) (by kernel_rfl) (by kernel_rfl) (fun _ _ _ h => h) (Or.inl ⟨by rfl, ?hr10⟩) (by assumption) ?rr10
    case hr10 => (intro w0 hSw; (try dsimp only at hSw); go_simp; try (with_reducible rfl))
    simp only [Act.put, List.setIfInBounds_toArray, List.set_cons_zero, List.set_cons_succ]
    refine wpAnyH_done (by kernel_rfl) ?_ _
    have bT := (chain (chain hHH.out.1 (b_drew V) (Nat.le_refl _)) bb6 (Nat.le_refl _))
    obtain ⟨htT, hgT⟩ := HL.out.1.blk HL.out.2.1 bT
    have hop := open_any b w6 htT hgT HL.out.2.2.2.2
    clear htT hgT
    go_wp2_with fail
    refine hop.mono ?_
    clear hop
    rintro r w7 ⟨b7, hR7⟩
    have bw7 := chain bT b7 (Nat.le_refl _)
    clear b7 bT
    cases hO : opA b with
    | none =>
      rw [hO] at hR7
      simp only [] at hR7
      subst hR7
      clear hO
      go_wp2
      go_ret
      exact ⟨rfl, bw7⟩
    | some x =>
      obtain ⟨h7, bl7⟩ := x
      rw [hO] at hR7
      simp only [] at hR7
      obtain ⟨fb7, bv7, iv7, rfl, hf7, F7, -, -⟩ := hR7
      obtain ⟨-, hz, hfT⟩ := opA_some hO
      have hhd := fhead_any fb7 h7 bv7 iv7 0 w7 F7.box
      have hall := fun W (b8 : Below w7.heap.size w7 W) => all_open fb7 h7 b bl7 _ bv7 iv7 0 W (F7.below b8) hO HL.out.2.2.2.2
      obtain ⟨AE, hAE⟩ : ∃ AE, AE = alA (cbH h7) bl7 := ⟨_, rfl⟩
      rw [← hAE] at hall hz hfT
      have hbT : (⟨(bdT h7 AE).toArray⟩ : ByteArray) = b := by
        apply ba_ext
        unfold bdT
        rw [if_pos hz]
        exact hfT
      have HZ := Hid.mk (And.intro hz hbT)
      clear hO hz hfT hbT hAE F7
      obtain ⟨wd7, t7, bt7, lo7, hi7, cn7⟩ := h7
      go_wp2_with fail
      refine hhd.mono ?_
      clear hhd
      rintro r w8 ⟨rfl, b8⟩
      go_wp2_with fail
      refine (hall w8 b8).mono ?_
      clear hall
      rintro r w9 ⟨la9, cap9, rfl, hc9, L9, b9⟩
      have bw9 := chain (chain bw7 b8 (Nat.le_refl _)) b9 (Nat.le_refl _)
      obtain ⟨ht9, hg9⟩ := HL.out.1.blk HL.out.2.1 bw9
      have hb9 := build_any ⟨wd7, t7, bt7, lo7, hi7, cn7⟩ AE la9 cap9 w9 ht9 L9 hc9
      rw [HZ.out.1, HZ.out.2] at hb9
      simp only [hdC] at hb9
      clear ht9 hg9 L9 hc9 b8 b9 bw7 hf7
      have hself : (b.toList == b.toList) = true := by simp
      go_wp2_with (go_at_call 9; refine hb9.mono ?_; clear hb9; rintro r w10 ⟨rfl, b10⟩)
      go_ret
      exact ⟨rfl, chain bw9 b10 (Nat.le_refl _)⟩
  · have hne : (bdE ⟨wd, t, bt, lo, hi, cn⟩ l == 0) = false := beq_false_of_ne hE
    generalize bdE ⟨wd, t, bt, lo, hi, cn⟩ l = E at *
    clear hE
    go_wp2_with (go_at_call 9; refine hbd.mono ?_; clear hbd; rintro r w2 ⟨rfl, b2⟩)
    have bT := (chain H1.out.2 b2 (Nat.le_refl _))
    obtain ⟨htT, hgT⟩ := HL.out.1.blk HL.out.2.1 bT
    have hop := open_any b w2 htT hgT HL.out.2.2.2.2
    clear htT hgT
    go_wp2_with fail
    refine hop.mono ?_
    clear hop
    rintro r w7 ⟨b7, hR7⟩
    have bw7 := chain bT b7 (Nat.le_refl _)
    clear b7 bT
    cases hO : opA b with
    | none =>
      rw [hO] at hR7
      simp only [] at hR7
      subst hR7
      clear hO
      go_wp2
      go_ret
      exact ⟨rfl, bw7⟩
    | some x =>
      obtain ⟨h7, bl7⟩ := x
      rw [hO] at hR7
      simp only [] at hR7
      obtain ⟨fb7, bv7, iv7, rfl, hf7, F7, -, -⟩ := hR7
      obtain ⟨-, hz, hfT⟩ := opA_some hO
      have hhd := fhead_any fb7 h7 bv7 iv7 0 w7 F7.box
      have hall := fun W (b8 : Below w7.heap.size w7 W) => all_open fb7 h7 b bl7 _ bv7 iv7 0 W (F7.below b8) hO HL.out.2.2.2.2
      obtain ⟨AE, hAE⟩ : ∃ AE, AE = alA (cbH h7) bl7 := ⟨_, rfl⟩
      rw [← hAE] at hall hz hfT
      have hbT : (⟨(bdT h7 AE).toArray⟩ : ByteArray) = b := by
        apply ba_ext
        unfold bdT
        rw [if_pos hz]
        exact hfT
      have HZ := Hid.mk (And.intro hz hbT)
      clear hO hz hfT hbT hAE F7
      obtain ⟨wd7, t7, bt7, lo7, hi7, cn7⟩ := h7
      go_wp2_with fail
      refine hhd.mono ?_
      clear hhd
      rintro r w8 ⟨rfl, b8⟩
      go_wp2_with fail
      refine (hall w8 b8).mono ?_
      clear hall
      rintro r w9 ⟨la9, cap9, rfl, hc9, L9, b9⟩
      have bw9 := chain (chain bw7 b8 (Nat.le_refl _)) b9 (Nat.le_refl _)
      obtain ⟨ht9, hg9⟩ := HL.out.1.blk HL.out.2.1 bw9
      have hb9 := build_any ⟨wd7, t7, bt7, lo7, hi7, cn7⟩ AE la9 cap9 w9 ht9 L9 hc9
      rw [HZ.out.1, HZ.out.2] at hb9
      simp only [hdC] at hb9
      clear ht9 hg9 L9 hc9 b8 b9 bw7 hf7
      have hself : (b.toList == b.toList) = true := by simp
      go_wp2_with (go_at_call 9; refine hb9.mono ?_; clear hb9; rintro r w10 ⟨rfl, b10⟩)
      go_ret
      exact ⟨rfl, chain bw9 b10 (Nat.le_refl _)⟩
end Go.Proofs.YtcjjchdpcagemaaDoor
set_option linter.unusedVariables false
set_option linter.unusedSimpArgs false
namespace Go.Proofs.YtcjjchdpcagemaaDoor
open Go.RowKit Go.ChangeShapes Go.WideShapes Go.Deep
theorem add_plain (b off j : Nat) : (⟨b, off, none⟩ : Addr).add j = ⟨b, off + j, none⟩ := by unfold Addr.add; split <;> simp_all
theorem cellsEn : Tryd.prog.cellsOf 40 = 5 := by kernel_rfl
theorem bytesEn : Tryd.prog.bytesOf 40 = 48 := by kernel_rfl
theorem cells3 : Tryd.prog.cellsOf 3 = 1 := by kernel_rfl
theorem cells4 : Tryd.prog.cellsOf 4 = 1 := by kernel_rfl
theorem cells9 : Tryd.prog.cellsOf 9 = 1 := by kernel_rfl
theorem laidOut : laidOutB Tryd.prog = true := by kernel_rfl
set_option maxRecDepth 100000 in
/-- What an entry reads as. -/
theorem en_trod {H : Type} {enc : TypeId × Value → H} {W : World} {base : Nat} {spare : Nat → Bool} {held : Bool} {fuel : Nat} {cs : List Value} {x : DataW H × List MemPlace}
    (h : DataW.trod enc Tryd.prog W base spare held fuel 40 cs = some x) : ∃ e : En, cs = enC e := by
  obtain ⟨xs, k, hk, hxy, hlen, hxl, hf⟩ := DataW.trod_struct Tryd.underlying40 h
  rw [cellsEn] at hlen
  match xs, hxl, cs, hlen with
  | [y0, y1, y2, y3, y4], _, [v0, v1, v2, v3, v4], _ =>
    have g0 := hf 0 _ rfl
    have g1 := hf 1 _ rfl
    have g2 := hf 2 _ rfl
    have g3 := hf 3 _ rfl
    have g4 := hf 4 _ rfl
    simp [cells3] at g0 g2 g3
    simp [cells9] at g1
    simp [cells4] at g4
    obtain ⟨z0, hz0, _⟩ := DataW.trod_int Tryd.underlying3 g0
    obtain ⟨z1, hz1, _⟩ := DataW.trod_string Tryd.underlying9 g1
    obtain ⟨z2, hz2, _⟩ := DataW.trod_int Tryd.underlying3 g2
    obtain ⟨z3, hz3, _⟩ := DataW.trod_int Tryd.underlying3 g3
    obtain ⟨z4, hz4, _⟩ := DataW.trod_bool Tryd.underlying4 g4
    simp at hz0 hz1 hz2 hz3 hz4
    subst hz0 hz1 hz2 hz3 hz4
    exact ⟨⟨z0, z1, z2, z3, z4⟩, rfl⟩
set_option maxRecDepth 100000 in
theorem open_en {H : Type} {enc : TypeId × Value → H} {W : World} {base b0 : Nat} {r : Reach} {spare : Nat → Bool} {held : Bool} {v : Value} {d : DataW H} {ps : List MemPlace}
    (hv : Value.okWide Tryd.prog W r b0 40 v) (h : DataW.Trod enc Tryd.prog W base spare held 40 v d ps) : ∃ e : En, v = .agg (enC e).toArray := by
  obtain ⟨cs, rfl, hsz⟩ := okWide_struct Tryd.underlying40 hv
  obtain ⟨fuel, hf⟩ := h
  obtain ⟨e, he⟩ := en_trod hf
  refine ⟨e, ?_⟩
  have : cs.toList = enC e := by simpa [Value.cells] using he
  rw [← this]
theorem flat_to {W : World} {b off : Nat} {l : List En} (h : ∀ i (hi : i < l.length) j v, (enC l[i])[j]? = some v → W.cell? ⟨b, off + (i * 5 + j), none⟩ = some v) : RowAt W b off (l.flatMap enC) := fun j x hx => by
  have hj : j < l.length * 5 := by rw [← flat_len5]; exact (List.getElem?_eq_some_iff.1 hx).1
  have hi : j / 5 < l.length := by omega
  have hr : j % 5 < 5 := by omega
  have e : j / 5 * 5 + j % 5 = j := by omega
  have h1 := flat_at enC 5 enC_len l (j / 5) (j % 5) hi hr
  rw [e, hx] at h1
  have h2 := h (j / 5) hi (j % 5) x h1.symm
  rw [e] at h2
  exact h2
set_option maxRecDepth 100000 in
/-- What a list of entries reads as. -/
theorem open_ens {H : Type} {enc : TypeId × Value → H} {W : World} {base : Nat} {spare : Nat → Bool} {held : Bool} {fuel : Nat} {a0 : Option Addr} {len cap : Nat} {d : DataW H} {ps : List MemPlace}
    (h : DataW.trod enc Tryd.prog W base spare held fuel 24 [.slice a0 len cap] = some (d, ps)) :
    (a0 = none ∧ len = 0) ∨ ((∃ l : List En, l.length = len ∧ LAt W a0 l) ∧ ∃ elems sp, d = .slice elems sp ∧ elems.length = len) := by
  rcases open_slice Tryd.underlying24 h with ⟨hcs, _⟩ | ⟨a, len', cap', m, n, D, Pl, hcs, _, _, _, hm, hx, hel⟩
  · simp at hcs; exact .inl ⟨hcs.1, hcs.2.1⟩
  · right
    simp at hcs
    obtain ⟨rfl, rfl, rfl⟩ := hcs
    have hlm : len ≤ m := by rw [hm]; split <;> omega
    simp only [Prod.mk.injEq] at hx
    obtain ⟨hd, hps⟩ := hx
    refine ⟨?_, _, _, hd, by simp⟩
    have each : ∀ i, i < len → ∃ e : En, ∀ j v, (enC e)[j]? = some v → W.cell? ((a.add (i * 5)).add j) = some v := by
      intro i hi
      obtain ⟨cs', h1, h2⟩ := hel i (by omega)
      rw [cellsEn] at h1
      obtain ⟨_, hlen, hcell⟩ := World.cells?_some h1
      obtain ⟨e, rfl⟩ := en_trod h2
      refine ⟨e, fun j v hv => ?_⟩
      have hj : j < 5 := by have := (List.getElem?_eq_some_iff.1 hv).1; simpa [enC] using this
      rw [hcell j hj, hv]
    haveI : Inhabited En := ⟨e0⟩
    obtain ⟨F, hF⟩ := choose_lt each
    refine ⟨(List.range len).map F, by simp, ⟨fun hne => ?_⟩⟩
    have hl0 : 0 < len := by
      rcases Nat.eq_zero_or_pos len with h0 | h0
      · subst h0; simp at hne
      · exact h0
    obtain ⟨b, off, spot⟩ := a
    have hsp : spot = none := by
      have := World.cell?_spot (hF 0 hl0 0 _ rfl)
      simpa [Addr.add] using this
    subst hsp
    refine ⟨b, off, rfl, flat_to fun i hi j v hv => ?_⟩
    have hi' : i < len := by simpa using hi
    have h1 := hF i hi' j v (by simpa using hv)
    rw [add_plain, add_plain, Nat.add_assoc] at h1
    exact h1
theorem open_enc {H : Type} {enc : TypeId × Value → H} {W : World} {base : Nat} {spare : Nat → Bool} {held : Bool} {fuel : Nat} {a0 : Option Addr} {len cap : Nat} {x : DataW H × List MemPlace}
    (h : DataW.trod enc Tryd.prog W base spare held fuel 24 [.slice a0 len cap] = some x) : len ≤ cap := by
  rcases open_slice Tryd.underlying24 h with ⟨hcs, _⟩ | ⟨a, len', cap', m, n, D, Pl, hcs, _, hl, _⟩
  · simp at hcs; omega
  · simp at hcs
    obtain ⟨-, rfl, rfl⟩ := hcs
    exact hl
theorem cellsHd : Tryd.prog.cellsOf 23 = 6 := by kernel_rfl
set_option maxRecDepth 100000 in
/-- What a head reads as. -/
theorem open_hd {H : Type} {enc : TypeId × Value → H} {W : World} {base b0 : Nat} {r : Reach} {spare : Nat → Bool} {held : Bool} {v : Value} {d : DataW H} {ps : List MemPlace}
    (hv : Value.okWide Tryd.prog W r b0 23 v) (h : DataW.Trod enc Tryd.prog W base spare held 23 v d ps) : ∃ e : Hd, v = .agg (hdC e).toArray := by
  obtain ⟨cs, rfl, hsz⟩ := okWide_struct Tryd.underlying23 hv
  obtain ⟨fuel, hf⟩ := h
  obtain ⟨xs, k, hk, hxy, hlen, hxl, hf⟩ := DataW.trod_struct Tryd.underlying23 hf
  rw [cellsHd] at hlen
  have hcs : (Value.agg cs).cells.toList = cs.toList := rfl
  rw [hcs] at hlen hf
  obtain ⟨cs⟩ := cs
  dsimp only at hlen hf ⊢
  match xs, hxl, cs, hlen with
  | [y0, y1, y2, y3, y4, y5], _, [v0, v1, v2, v3, v4, v5], _ =>
    have g0 := hf 0 _ rfl
    have g1 := hf 1 _ rfl
    have g2 := hf 2 _ rfl
    have g3 := hf 3 _ rfl
    have g4 := hf 4 _ rfl
    have g5 := hf 5 _ rfl
    simp [cells3] at g0 g1 g2 g3 g4 g5
    obtain ⟨z0, hz0, _⟩ := DataW.trod_int Tryd.underlying3 g0
    obtain ⟨z1, hz1, _⟩ := DataW.trod_int Tryd.underlying3 g1
    obtain ⟨z2, hz2, _⟩ := DataW.trod_int Tryd.underlying3 g2
    obtain ⟨z3, hz3, _⟩ := DataW.trod_int Tryd.underlying3 g3
    obtain ⟨z4, hz4, _⟩ := DataW.trod_int Tryd.underlying3 g4
    obtain ⟨z5, hz5, _⟩ := DataW.trod_int Tryd.underlying3 g5
    simp at hz0 hz1 hz2 hz3 hz4 hz5
    subst hz0 hz1 hz2 hz3 hz4 hz5
    exact ⟨⟨z0, z1, z2, z3, z4, z5⟩, rfl⟩
end Go.Proofs.YtcjjchdpcagemaaDoor
set_option linter.unusedVariables false
set_option linter.unusedSimpArgs false
namespace Go.Proofs.YtcjjchdpcagemaaDoor
open Go.ChangeMaps (open_string shut_string)
open Go.ChangeShapes Go.WideShapes Go.ChangeAt Go.WideMaps Go.WideElems Go.RowKit Go.Proofs.SealMath
theorem back_small {H : Type} {d0 d1 : DataW H} {b : ByteArray} (hk : Rows.uptoSmall H [d0, d1, .lit (.string b.data.toList)] = true) : b.size ≤ 1048576 := by
  have h : Rows.uptoBulkAll [d0, d1, DataW.lit (H := H) (.string b.data.toList)] ≤ 1048576 := of_decide_eq_true hk
  simp only [Rows.uptoBulkAll, Rows.uptoBulk] at h
  have e : b.data.toList.length = b.size := Array.length_toList
  omega
theorem back_reads (os : Os) {H : Type} (enc : TypeId × Value → H) : ∃ places, DataW.whole enc Tryd.prog ((World.doorLaid Tryd.prog 4000 os).forCall (fun _ _ => 0) ⟨#[], #[.agg #[.int .i64 0, .int .i64 0, .int .i64 0, .int .i64 0, .int .i64 0, .int .i64 0], .slice none 0 0, .string ⟨#[]⟩], []⟩).memory Tryd.f4.params.toList Rows.blockBackSpec.vars false #[Value.agg #[.int .i64 0, .int .i64 0, .int .i64 0, .int .i64 0, .int .i64 0, .int .i64 0], .slice none 0 0, .string ⟨#[]⟩].toList 8 = some ([.agg [.lit (.int .i64 0), .lit (.int .i64 0), .lit (.int .i64 0), .lit (.int .i64 0), .lit (.int .i64 0), .lit (.int .i64 0)], .nil, .lit (.string [])], [], places) :=
  ⟨[], by kernel_rfl⟩
set_option maxRecDepth 100000 in
theorem back_lifted (os : Os) (started : os.Started) (H : Type) (enc : TypeId × Value → H) (F : Stop.Interp) :
    ReturnsInHanded {} Tryd.checked os 4 .any ((Rows.OpenSpec.upto Rows.blockBackSpec).preRow enc Tryd.prog Tryd.f4 Rows.blockBackUptoRow.domain false Rows.blockBackUptoRow.laid) (((Rows.OpenSpec.upto Rows.blockBackSpec).at F).post enc Tryd.prog Tryd.f4 false true false false) := by
  obtain ⟨places, hx⟩ := back_reads os enc
  refine returnsInHanded_of_row (C := Tryd.checked) (s := Rows.OpenSpec.upto Rows.blockBackSpec) own started (by kernel_rfl) Tryd.func4
    (witness_row_at (enc := enc) (C := Tryd.checked) false (World.doorLaid Tryd.prog 4000 os) #[.agg #[.int .i64 0, .int .i64 0, .int .i64 0, .int .i64 0, .int .i64 0, .int .i64 0], .slice none 0 0, .string ⟨#[]⟩] rfl (by kernel_rfl) (by kernel_rfl) (by kernel_rfl)
      (OpenSpec.preRow_of_cond 8 hx (by kernel_rfl) (fun k hk => by cases hk; kernel_rfl) (by kernel_rfl) (laidMet_of_run' 8 (by kernel_rfl) (by kernel_rfl)))) ?_
  intro W base args ds gs before hval0 hW0 _ hcond _ hL0 _ _
  have hL : laidMetH Tryd.prog lst W := hL0
  have hW : DataW.Whole enc Tryd.prog Tryd.f4.params.toList Rows.blockBackSpec.vars false W args.toList ds gs before := hW0
  have hk : Rows.uptoSmall H (ds ++ gs) = true := hcond _ rfl
  show Calls Tryd.prog 4 args W _
  have hval : ∀ (j : Nat) t v, Tryd.f4.params[j]? = some t → args[j]? = some v → Value.okWide Tryd.prog W .any base t v := hval0
  clear hval0 hW0 hL0 hcond
  have hW' := hW
  obtain ⟨p, q, hA0, hV, rfl, hfz, hnd⟩ := hW
  have hA : DataW.TrodAll enc Tryd.prog W 0 (fun _ => true) true Tryd.f4.params.toList args.toList ds p := hA0
  rw [Tryd.params4] at hA hval
  obtain ⟨v0, v1, v2, d0, d1, d2, p0, p1, p2, rfl, rfl, rfl, h0, h1, h2⟩ := trodAll_three hA
  obtain ⟨rfl, rfl⟩ := trodVars_none hV
  have h0k := h0
  obtain ⟨h, rfl⟩ := open_hd (hval 0 23 v0 rfl rfl) h0
  obtain ⟨a1, len1, cap1, rfl⟩ := okWide_slice Tryd.underlying24 (hval 1 24 v1 rfl rfl)
  have h1k := h1
  obtain ⟨fuel1, hf1⟩ := h1
  obtain ⟨b, rfl, rfl, rfl, hb⟩ := open_string Tryd.underlying9 (hval 2 9 v2 rfl rfl) h2
  clear hA0
  simp only [List.append_nil, List.nil_append] at hW' hk
  have hsm := back_small hk
  have hlt0 : ∀ x ∈ p0, x.block < W.heap.size := fun x hx => hW'.lt x (by simp [hx])
  have hlt1 : ∀ x ∈ p1, x.block < W.heap.size := fun x hx => hW'.lt x (by simp [hx])
  have e1 : Rows.blockBackSpec.fn H ([d0, d1, .lit (.string b.data.toList)] ++ []) = { results := [.lit (.bool true)], args := [d0, d1, .lit (.string b.data.toList)] } := by simp [Rows.blockBackSpec]
  have fin : ∀ (e : Ending) (W' : World), (e = .returned (.bool true) ∧ Below W.heap.size W W') → ∃ v, e = .returned v ∧ ((Rows.OpenSpec.upto Rows.blockBackSpec).at F).post enc Tryd.prog Tryd.f4 false true false false W #[.agg (hdC h).toArray, .slice a1 len1 cap1, .string b] v W' := by
    rintro e W' ⟨rfl, hbl⟩
    refine ⟨_, rfl, _, _, _, [], p0 ++ p1, [], hW', ?_, ?_, ?_, hbl.frame _, fun h => by cases h⟩
    · exact (show _ from by rw [show ((Rows.OpenSpec.upto Rows.blockBackSpec).at F).fn = Rows.blockBackSpec.fn from rfl, e1]; exact trodAll_mk1 (shut_bool Tryd.underlying4 true))
    · exact (show _ from by rw [show ((Rows.OpenSpec.upto Rows.blockBackSpec).at F).fn = Rows.blockBackSpec.fn from rfl, e1]; have h5 := trodAll_mk3 (Below.trod laidOut (by kernel_rfl) (of_decide_eq_true (by kernel_rfl)) h0k hbl hlt0) (Below.trod laidOut (by kernel_rfl) (of_decide_eq_true (by kernel_rfl)) h1k hbl hlt1) (shut_string Tryd.underlying9 hb); simp only [List.append_nil] at h5; exact h5)
    · exact (show _ from by rw [show ((Rows.OpenSpec.upto Rows.blockBackSpec).at F).fn = Rows.blockBackSpec.fn from rfl, e1]; rfl)
  have ht := tab_of hL
  have hg0 := tab_pos ht
  have hf1' : DataW.trod enc Tryd.prog W 0 (fun _ => true) true fuel1 24 [.slice a1 len1 cap1] = some (d1, p1) := by simpa [Value.cells] using hf1
  have hcap := open_enc hf1'
  rcases open_ens hf1' with ⟨rfl, rfl⟩ | ⟨⟨l, hl, hLl⟩, -⟩
  · exact (law_back h [] none cap1 b W ht hg0 ⟨fun h => absurd rfl h⟩ (Nat.zero_le _) (by omega)).mono fin
  · subst hl
    exact (law_back h l a1 cap1 b W ht hg0 hLl hcap (by omega)).mono fin
theorem back_row : Rows.BlockBackUptoSaid :=
  OpenClaim.holds_of_cond 4 Tryd.f4 rfl rfl rfl rfl rfl rfl rfl ⟨rfl, rfl, rfl, rfl, rfl⟩ rfl rfl rfl rfl rfl (by kernel_rfl) Tryd.func4 (by kernel_rfl)
    (of_decide_eq_true (by kernel_rfl)) (by unfold Func.isWrapper; first | (rw [if_pos (by decide +kernel)]; kernel_rfl) | (rw [if_neg (by decide +kernel)]; exact ⟨rfl, rfl⟩))
    (fun os started H enc _ F => by rw [OpenClaim.pre_eq_preRow]; exact back_lifted os started H enc F)
theorem back_plain (f : FuncId) (fn : Func) (hf : Tryd.pinned.checked.prog.funcNamed "kindred/kindredlaw6.BlockBack" = some f) (hfn : Tryd.pinned.checked.prog.funcs[f]? = some fn) :
    false = Tryd.pinned.checked.prog.looks [] ∧ ∀ (j : Nat) t, fn.params[j]? = some t → Tryd.pinned.checked.prog.wantsStandIn t = false := by
  obtain rfl : f = 4 := Option.some.inj ((show Tryd.prog.funcNamed "kindred/kindredlaw6.BlockBack" = some 4 by kernel_rfl).symm.trans hf) |>.symm
  obtain rfl : fn = Tryd.f4 := (Option.some.inj (Tryd.func4.symm.trans hfn)).symm
  refine ⟨by kernel_rfl, fun j t ht => ?_⟩
  rw [Tryd.params4] at ht
  have hm : t ∈ [23, 24, 9] := by simpa using Array.mem_of_getElem? ht
  have hall : ([23, 24, 9].all fun u => !Tryd.prog.wantsStandIn u) = true := by kernel_rfl
  exact (show Tryd.prog.wantsStandIn t = false by simpa using List.all_eq_true.1 hall t hm)
theorem back_holds : Rows.BlockBackUptoCardSaid :=
  Claim7.holds_tied_plain_at .later [] _ _ _ _ back_row (fun _ h => by cases h) (by kernel_rfl) (fun _ h => by cases h) blockBackUpto_row_tie rfl ⟨rfl, rfl⟩ (by kernel_rfl) rfl back_plain (by kernel_rfl)
#print axioms back_holds
end Go.Proofs.YtcjjchdpcagemaaDoor
