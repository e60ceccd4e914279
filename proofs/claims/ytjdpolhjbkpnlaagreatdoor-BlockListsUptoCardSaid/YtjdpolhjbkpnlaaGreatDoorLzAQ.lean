/-
  DERIVED. BOpenF, BFirst, BRangeS, as one text.
-/
import Derived.Test.YtjdpolhjbkpnlaaGreatDoorLzAP
import Derived.Test.YtjdpolhjbkpnlaaGreatDoorLzAI
import Derived.Test.YtjdpolhjbkpnlaaGreatDoorLzAG
import Derived.Test.YtjdpolhjbkpnlaaGreatDoorLzAN
import Derived.Shelf.Abstract
import Derived.Test.YtjdpolhjbkpnlaaGreatDoorLzAD
set_option linter.unusedVariables false
set_option linter.unusedSimpArgs false
namespace Go.Proofs.YtjdpolhjbkpnlaaGreatDoor
open Go.RowKit Go.Shelf Go.Proofs.SealMath
attribute [local go_sem] Oper.semAt_some
/-- The first entry of each block. -/
def ixL (cb : Nat) (bl : List (List UInt8)) : List En := bl.map fun p => eE (eaA ⟨p.toArray⟩ 0 cb)
/-- What Open is to tell. -/
def OpO (b : ByteArray) (w : World) (r : Ending) (w' : World) : Prop := Below w.heap.size w w' ∧ match opA b with
  | none => r = .returned (.tuple #[.pointer none, .int .i64 80])
  | some (h, bl) => ∃ fb bv iv, r = .returned (.tuple #[Pt fb, .int .i64 0]) ∧ w.heap.size ≤ fb ∧ FA w' fb h bl (ixL (cbH h) bl) bv iv 0 ∧ (∀ k, bv.ownBlock = some k → w.heap.size ≤ k) ∧ ∀ k, iv.ownBlock = some k → w.heap.size ≤ k
theorem OpO.no {b : ByteArray} {w w' : World} (h : opA b = none) (hb : Below w.heap.size w w') : OpO b w (.returned (.tuple #[.pointer none, .int .i64 80])) w' := ⟨hb, by rw [h]⟩
theorem OpO.yes {b : ByteArray} {w w' : World} {h : Hd} {bl : List (List UInt8)} {fb : Nat} {bv iv : Value} (e : opA b = some (h, bl)) (hb : Below w.heap.size w w') (hf : w.heap.size ≤ fb) (hF : FA w' fb h bl (ixL (cbH h) bl) bv iv 0) (hv : ∀ k, bv.ownBlock = some k → w.heap.size ≤ k) (hi : ∀ k, iv.ownBlock = some k → w.heap.size ≤ k) : OpO b w (.returned (.tuple #[Pt fb, .int .i64 0])) w' := ⟨hb, by rw [e]; exact ⟨fb, bv, iv, rfl, hf, hF, hv, hi⟩⟩
theorem lat_row {W : World} {v : Value} {l : List En} (h : W.ownsRow 0 38 5 v l.length (l.flatMap enC)) : ∃ la cap, v = .slice la l.length cap ∧ l.length ≤ cap ∧ LAt W la l := by
  obtain ⟨la, cap, rfl, hc⟩ := slice_form h
  refine ⟨la, cap, rfl, hc, ⟨fun hn => ?_⟩⟩
  rcases h.2 with ⟨e, -⟩ | ⟨g, cp, cur, e, -⟩
  · injection e with e1 e2; exact absurd (List.eq_nil_of_length_eq_zero e2) hn
  · injection e with e1 e2
    subst e1
    refine ⟨g, 0, rfl, fun j x hx => ?_⟩
    have := World.ownsRow.cells h (g := g) rfl j x hx
    rw [show (⟨g, 0, none⟩ : Addr).add j = ⟨g, 0 + j, none⟩ by unfold Addr.add; split <;> simp_all] at this
    exact this
set_option maxHeartbeats 8000000 in
set_option maxRecDepth 100000 in
theorem open_any (b : ByteArray) (w : World) (ht : Tab w) (hg : 0 < w.heap.size) (hb : b.size ≤ 1099511627776) :
    Calls Tryz.prog 5 #[.string b] w (OpO b w) := by
  have c1 := read_any b w ht hg hb
  refine (callsIn_wide (n := 9)).1 ?_
  refine callsIn_of_wp Tryz.func5 rfl trivial ?_ rfl
  simp only [Tryz.ntmps5, List.size_toArray, List.length_cons, List.length_nil, Nat.reduceAdd, Nat.reduceSub, Array.replicate_succ, Array.replicate_zero, List.push_toArray, List.append_toArray, List.nil_append, List.cons_append]
  gi_wp2_with fail
  refine ⟨trivial, (callsIn_wide.2 c1).mono ?_⟩
  clear c1
  rintro r w1 ⟨b1, hR⟩
  cases hrd : rdA b with
  | none =>
    rw [hrd] at hR
    simp only [] at hR
    subst hR
    have hE : opA b = none := by unfold opA; rw [hrd]
    gi_wp2
    go_ret2
    exact OpO.no hE b1
  | some x =>
    obtain ⟨h, bl⟩ := x
    rw [hrd] at hR
    simp only [] at hR
    obtain ⟨fb, bv, rfl, hfw, hF, hbv⟩ := hR
    obtain ⟨r1, r2, r3, r4⟩ := rdA_some hrd
    obtain ⟨k1, -⟩ := hdE0 r1
    have hw := isW_bd k1
    have hn3 : h.n ≤ (b.size : Int) := Int.le_trans r3 (Int.ediv_le_self _ (by omega))
    have eO : opA b = if bdE h (alA (cbH h) bl) = 0 ∧ bdT h (alA (cbH h) bl) = b.data.toList then some (h, bl) else none := by unfold opA; rw [hrd]
    have F1 := hF.below (b_drew w1)
    have hall := all_any fb h bl [] bv (.slice none 0 0) 0 w1.drew F1 hw ⟨r2, by omega⟩ (by omega)
    obtain ⟨⟨y0, y1, y2, y3, y4, y5⟩, -⟩ := fl9 F1.box
    have HF := Hid.mk (And.intro F1 (And.intro hbv (And.intro hw (Nat.le_trans r4 hb))))
    have HT := Hid.mk (And.intro ht hg)
    have HO := Hid.mk eO
    have b1d : Below w.heap.size w w1.drew := b1.drew
    clear hrd hF hbv r1 r2 r3 r4 k1 hn3 eO F1 ht hg hb b1
    obtain ⟨AE, hAE⟩ : ∃ AE, AE = alA (cbH h) bl := ⟨_, rfl⟩
    rw [← hAE] at hall HO
    have HAE := Hid.mk hAE
    clear hAE hw
    obtain ⟨wd, t, bt, lo, hi, cn⟩ := h
    dsimp only at y0 y1 y2 y3 y4 y5
    gi_wp2_with fail
    refine region_held mixed 12 rfl (S := fun w' => w'.cell? ⟨fb, 0, none⟩ = some (.int .i64 wd) ∧ w'.cell? ⟨fb, 1, none⟩ = some (.int .i64 t) ∧ w'.cell? ⟨fb, 2, none⟩ = some (.int .i64 bt) ∧ w'.cell? ⟨fb, 3, none⟩ = some (.int .i64 lo) ∧ w'.cell? ⟨fb, 4, none⟩ = some (.int .i64 hi) ∧ w'.cell? ⟨fb, 5, none⟩ = some (.int .i64 cn)) ?_
    refine AnyS.take (i := 0) (v := ?vo0) (by kernel_rfl) rfl (by kernel_rfl) (by kernel_rfl) (by kernel_rfl) (fun _ _ _ h => h) ⟨Or.inl ⟨by rfl, fun w' hS => ?yo0⟩, fun _ => rfl⟩ ⟨y0, y1, y2, y3, y4, y5⟩ ?_
    case yo0 => go_simp; rfl
    refine AnyS.take (i := 1) (v := ?vo1) (by kernel_rfl) rfl (by kernel_rfl) (by kernel_rfl) (by kernel_rfl) (fun _ _ _ h => h) ⟨Or.inl ⟨by rfl, fun w' hS => ?yo1⟩, fun _ => rfl⟩ ⟨y0, y1, y2, y3, y4, y5⟩ ?_
    case yo1 => go_simp; rfl
    refine AnyS.take (i := 2) (v := ?vo2) (by kernel_rfl) rfl (by kernel_rfl) (by kernel_rfl) (by kernel_rfl) (fun _ _ _ h => h) ⟨Or.inl ⟨by rfl, fun w' hS => ?yo2⟩, fun _ => rfl⟩ ⟨y0, y1, y2, y3, y4, y5⟩ ?_
    case yo2 => go_simp; rfl
    refine AnyS.take (i := 3) (v := ?vo3) (by kernel_rfl) rfl (by kernel_rfl) (by kernel_rfl) (by kernel_rfl) (fun _ _ _ h => h) ⟨Or.inl ⟨by rfl, fun w' hS => ?yo3⟩, fun _ => rfl⟩ ⟨y0, y1, y2, y3, y4, y5⟩ ?_
    case yo3 => obtain ⟨g0, g1, g2, g3, g4, g5⟩ := hS; go_simp; rfl
    refine AnyS.take (i := 4) (v := ?vo4) (by kernel_rfl) rfl (by kernel_rfl) (by kernel_rfl) (by kernel_rfl) (fun _ _ _ h => h) ⟨Or.inl ⟨by rfl, fun w' hS => ?yo4⟩, fun _ => rfl⟩ ⟨y0, y1, y2, y3, y4, y5⟩ ?_
    case yo4 => go_simp; rfl
    refine AnyS.one (i := 5) (by kernel_rfl) (wpOpIn_step rfl (fun K hK => ?_))
    go_simp
    refine ⟨trivial, (callsIn_wide.2 hall).mono ?_⟩
    clear hall
    rintro r w3 ⟨v, rfl, rw3, lc3, b3⟩
    have S3 : w3.cell? ⟨fb, 0, none⟩ = some (.int .i64 wd) ∧ w3.cell? ⟨fb, 1, none⟩ = some (.int .i64 t) ∧ w3.cell? ⟨fb, 2, none⟩ = some (.int .i64 bt) ∧ w3.cell? ⟨fb, 3, none⟩ = some (.int .i64 lo) ∧ w3.cell? ⟨fb, 4, none⟩ = some (.int .i64 hi) ∧ w3.cell? ⟨fb, 5, none⟩ = some (.int .i64 cn) := ⟨cell_lat b3 y0, cell_lat b3 y1, cell_lat b3 y2, cell_lat b3 y3, cell_lat b3 y4, cell_lat b3 y5⟩
    have bw3 := chain b1d b3 (Nat.le_refl _)
    obtain ⟨la, cap, rfl, hcap, hLA⟩ := lat_row rw3
    obtain ⟨ht3, hg3⟩ := HT.out.1.blk HT.out.2 bw3
    have hbd := build_any ⟨wd, t, bt, lo, hi, cn⟩ AE la cap w3 ht3 hLA hcap
    simp only [hdC] at hbd
    obtain ⟨BE, hBE⟩ : ∃ BE, BE = bdE ⟨wd, t, bt, lo, hi, cn⟩ AE := ⟨_, rfl⟩
    obtain ⟨BT, hBT⟩ : ∃ BT : ByteArray, BT = ⟨(bdT ⟨wd, t, bt, lo, hi, cn⟩ AE).toArray⟩ := ⟨_, rfl⟩
    have hBT2 : bdT ⟨wd, t, bt, lo, hi, cn⟩ AE = BT.data.toList := by rw [hBT]
    rw [← hBE, ← hBT] at hbd
    rw [← hBE, hBT2] at HO
    clear hBE hBT hBT2
    refine hK _ _ ⟨S3, ?_⟩
    clear hK K
    refine AnyS.one (i := 6) (by kernel_rfl) (wpOpIn_step rfl (fun K hK => ?_))
    go_simp
    refine ⟨trivial, (callsIn_wide.2 hbd).mono ?_⟩
    clear hbd
    rintro r w4 ⟨rfl, b4⟩
    have S4 : w4.cell? ⟨fb, 0, none⟩ = some (.int .i64 wd) ∧ w4.cell? ⟨fb, 1, none⟩ = some (.int .i64 t) ∧ w4.cell? ⟨fb, 2, none⟩ = some (.int .i64 bt) ∧ w4.cell? ⟨fb, 3, none⟩ = some (.int .i64 lo) ∧ w4.cell? ⟨fb, 4, none⟩ = some (.int .i64 hi) ∧ w4.cell? ⟨fb, 5, none⟩ = some (.int .i64 cn) := ⟨cell_lat b4 S3.1, cell_lat b4 S3.2.1, cell_lat b4 S3.2.2.1, cell_lat b4 S3.2.2.2.1, cell_lat b4 S3.2.2.2.2.1, cell_lat b4 S3.2.2.2.2.2⟩
    refine hK _ _ ⟨S4, ?_⟩
    clear hK K
    refine AnyS.take (i := 7) (v := ?vo7) (by kernel_rfl) rfl (by kernel_rfl) (by kernel_rfl) (by kernel_rfl) (fun _ _ _ h => h) ⟨Or.inl ⟨by rfl, fun w' hS => ?yo7⟩, fun _ => rfl⟩ S4 ?_
    case yo7 => go_simp; rfl
    refine AnyS.take (i := 8) (v := ?vo8) (by kernel_rfl) rfl (by kernel_rfl) (by kernel_rfl) (by kernel_rfl) (fun _ _ _ h => h) ⟨Or.inl ⟨by rfl, fun w' hS => ?yo8⟩, fun _ => rfl⟩ S4 ?_
    case yo8 => go_simp; rfl
    refine AnyS.take (i := 9) (v := ?vo9) (by kernel_rfl) rfl (by kernel_rfl) (by kernel_rfl) (by kernel_rfl) (fun _ _ _ h => h) ⟨Or.inl ⟨by rfl, fun w' hS => ?yo9⟩, fun _ => rfl⟩ S4 ?_
    case yo9 => go_simp; rfl
    refine AnyS.take (i := 10) (v := ?vo10) (by kernel_rfl) rfl (by kernel_rfl) (by kernel_rfl) (by kernel_rfl) (fun _ _ _ h => h) ⟨Or.inl ⟨by rfl, fun w' hS => ?yo10⟩, fun _ => rfl⟩ S4 ?_
    case yo10 => go_simp; rfl
    refine AnyS.take (i := 11) (v := ?vo11) (by kernel_rfl) rfl (by kernel_rfl) (by kernel_rfl) (by kernel_rfl) (fun _ _ _ h => h) ⟨Or.inl ⟨by rfl, fun w' hS => ?yo11⟩, fun _ => rfl⟩ S4 ?_
    case yo11 => go_simp; rfl
    refine AnyS.done (by kernel_rfl) ?_
    have bw4 := chain bw3 b4 (Nat.le_refl _)
    have F4 := (HF.out.1.below b3).below b4
    clear S3 S4 y0 y1 y2 y3 y4 y5 rw3 lc3 b3 b4 hLA ht3 hg3 b1d bw3
    by_cases hE0 : BE = 0
    · subst hE0
      by_cases hTb : BT = b
      · have hE : opA b = some (⟨wd, t, bt, lo, hi, cn⟩, bl) := by rw [HO.out, if_pos ⟨rfl, by rw [hTb]⟩]
        have HE := Hid.mk hE
        subst hTb
        obtain ⟨-, y6, -⟩ := fl9 F4.box
        obtain ⟨ba, bc, rfl, hbc⟩ := slice_form F4.row
        have hself : (BT.toList == BT.toList) = true := by simp
        clear hE HO
        obtain ⟨hbv, hw, hsum⟩ := HF.out.2
        try dsimp only at hw
        obtain ⟨CB, hCB⟩ : ∃ CB, CB = cbH ⟨wd, t, bt, lo, hi, cn⟩ := ⟨_, rfl⟩
        have hCB2 : CB ≤ 128 := by rw [hCB]; unfold cbH; dsimp only; omega
        have hcb := fun iv W hbx => codeBytes_any fb ⟨wd, t, bt, lo, hi, cn⟩ (.slice ba bl.length bc) iv 0 W hbx hw
        rw [← hCB] at hcb
        have HCB := Hid.mk hCB
        clear hCB hw hself
        gi_wp2_with fail
        gi_loopw [42] (fun u wr => ∃ (i : Nat) (iv : Value), u = .int .i64 i ∧ i ≤ bl.length ∧ FA wr fb ⟨wd, t, bt, lo, hi, cn⟩ bl (ixL CB (bl.take i)) (.slice ba bl.length bc) iv 0 ∧ (∀ k, iv.ownBlock = some k → w.heap.size ≤ k) ∧ Below w.heap.size w wr) (fun u _ => bl.length - (intOf u).toNat)
        case atStart => exact ⟨0, .slice none 0 0, rfl, Nat.zero_le _, F4, (fun k h => by cases h), bw4⟩
        case round =>
          obtain ⟨i, iv, rfl, hi, hFA, hiv, hbw⟩ := hrel
          clear F4 y6 bw4
          by_cases hlt : i < bl.length
          · have i1 : (i : Int) < (bl.length : Int) := by omega
            obtain ⟨g, hg⟩ : ∃ g, ba = some ⟨g, 0, none⟩ := by
              rcases hFA.row.2 with ⟨e, -⟩ | ⟨g, cap, cur, e, -⟩
              · injection e with e1 e2; omega
              · injection e with e1 e2; exact ⟨g, e1⟩
            subst hg
            have xb := World.ownsRow.cells hFA.row (g := g) rfl i (sv bl[i]) (by simp [hlt])
            rw [show (⟨g, 0, none⟩ : Addr).add i = ⟨g, i, none⟩ by unfold Addr.add; split <;> simp_all] at xb
            obtain ⟨X, hX⟩ : ∃ X : ByteArray, X = ⟨bl[i].toArray⟩ := ⟨_, rfl⟩
            rw [show sv bl[i] = .string X by rw [hX]] at xb
            have cb1 := hcb iv wr hFA.box
            have hXl : X.size < 1152921504606846976 := by
              have h1 : bl[i].length + 14 ≤ (bl.map (·.length + 14)).sum := by
                have h2 := congrArg (fun l => (l.map (·.length + 14)).sum) (List.take_append_drop (i + 1) bl)
                rw [List.take_add_one, List.getElem?_eq_getElem hlt] at h2
                simp only [List.map_append, List.sum_append] at h2
                simp at h2
                omega
              rw [hX, ba_len]; omega
            have HX := Hid.mk hX
            have HA := Hid.mk (And.intro hFA (And.intro hiv hbw))
            clear hX hFA hiv hbw hcb
            gi_wp2_with fail
            refine ⟨trivial, (callsIn_wide.2 cb1).mono ?_⟩
            rintro r w5 ⟨rfl, rfl⟩
            clear cb1
            gi_wp2_with fail
            have hea := entryAt_any X 0 CB w5 hXl (Nat.zero_le _) hCB2
            rw [show ((0 : Nat) : Int) = 0 from rfl] at hea
            refine ⟨trivial, (callsIn_wide.2 hea).mono ?_⟩
            clear hea
            rintro r w6 ⟨rfl, b6⟩
            obtain ⟨E0, hE0⟩ : ∃ E0, E0 = eE (eaA X 0 CB) := ⟨_, rfl⟩
            have HE0 := Hid.mk hE0
            clear hE0
            gi_wp2_with fail
            rw [← HE0.out]
            obtain ⟨Y, hY⟩ : ∃ Y, Y = w6.alloc (.cells (enV E0) 38) := ⟨_, rfl⟩
            obtain ⟨be, hbe⟩ : ∃ be, be = w6.heap.size := ⟨_, rfl⟩
            have bY : Below w6.heap.size w6 Y := by rw [hY]; exact (Below.refl _ w6).alloc (Nat.le_refl _) _
            have hEb : Y.heap[be]? = some (.cells (enV E0) 38 (0, 0)) := by rw [hY, hbe]; exact heap_alloc_last w6 _
            rw [← hbe, ← hY]
            obtain ⟨hFA, hiv, hbw⟩ := HA.out
            have bYd : Below w5.heap.size w5 Y.drew := (chain b6 bY (Nat.le_refl _)).drew
            have FY := hFA.below bYd
            obtain ⟨x0, x1, x2, x3, x4⟩ := en5 hEb
            obtain ⟨ia, ic, hivf, -⟩ := slice_form FY.idx
            obtain ⟨ni, hni⟩ : ∃ ni, ni = (ixL CB (bl.take i)).length := ⟨_, rfl⟩
            rw [← hni] at hivf
            obtain ⟨-, -, x7, -⟩ := fl9 FY.box
            have hlen : (ixL CB (bl.take i)).length ≤ i := by unfold ixL; simp; omega
            have hbl := len_sum bl
            obtain ⟨v7, W7, hap, ho7, st7, loc7⟩ := en_app Y.drew _ _ FY.idx E0 (by omega)
            have hb7 : W7.heap[fb]? = _ := (st7.block fb FY.lt (fun e => FY.idx_ne e rfl)).trans FY.box
            have hbe7 : ¬ iv.ownBlock = some be := fun e => by
              have := row_lt hFA.idx e
              have := b6.size
              omega
            have hE7 : W7.heap[be]? = _ := (st7.block be (by rw [hbe]; show w6.heap.size < Y.heap.size; rw [hY]; simp) hbe7).trans hEb
            obtain ⟨-, -, q7, -, qf⟩ := fl9 hb7
            have qf7 := qf 7
            have p5 := en5 hE7
            rw [hivf] at x7 hap q7
            have T0 : Y.drew.cell? ⟨fb, 7, none⟩ = some (.slice ia ni ic) ∧ Y.drew.cell? ⟨be, 0, none⟩ = some (.int .i64 E0.v) ∧ Y.drew.cell? ⟨be, 1, none⟩ = some (.string E0.c) ∧ Y.drew.cell? ⟨be, 2, none⟩ = some (.int .i64 E0.i) ∧ Y.drew.cell? ⟨be, 3, none⟩ = some (.int .i64 E0.s) ∧ Y.drew.cell? ⟨be, 4, none⟩ = some (.bool E0.d) := ⟨x7, x0, x1, x2, x3, x4⟩
            have T2 : W7.cell? ⟨fb, 7, none⟩ = some (.slice ia ni ic) ∧ W7.cell? ⟨be, 0, none⟩ = some (.int .i64 E0.v) ∧ W7.cell? ⟨be, 1, none⟩ = some (.string E0.c) ∧ W7.cell? ⟨be, 2, none⟩ = some (.int .i64 E0.i) ∧ W7.cell? ⟨be, 3, none⟩ = some (.int .i64 E0.s) ∧ W7.cell? ⟨be, 4, none⟩ = some (.bool E0.d) := ⟨q7, p5⟩
            obtain ⟨ja, jc, hv7, -⟩ := slice_form ho7
            obtain ⟨m7, hm7⟩ : ∃ m7, m7 = (ixL CB (bl.take i) ++ [E0]).length := ⟨_, rfl⟩
            rw [← hm7] at hv7
            rw [hv7] at hap
            have hbl40 : bl.length ≤ 1099511627776 := by omega
            have HY := Hid.mk (And.intro FY (And.intro hiv (And.intro hbw (And.intro bYd (And.intro ho7 (And.intro st7 (And.intro loc7 (And.intro hb7 hv7))))))))
            clear FY hiv hbw bYd ho7 st7 loc7 hb7 hv7 hm7 hni hivf hFA x0 x1 x2 x3 x4 x7 q7 qf p5 hE7 hbe7 hEb bY b6 hlen hbl hY hbe xb
            refine region_late mixed 11 rfl (L := [10]) (S := fun w' => w'.cell? ⟨fb, 7, none⟩ = some (.slice ia ni ic) ∧ w'.cell? ⟨be, 0, none⟩ = some (.int .i64 E0.v) ∧ w'.cell? ⟨be, 1, none⟩ = some (.string E0.c) ∧ w'.cell? ⟨be, 2, none⟩ = some (.int .i64 E0.i) ∧ w'.cell? ⟨be, 3, none⟩ = some (.int .i64 E0.s) ∧ w'.cell? ⟨be, 4, none⟩ = some (.bool E0.d)) ?_
            refine AnyL.take (i := 0) (v := ?vp0) (by kernel_rfl) rfl (by kernel_rfl) (by kernel_rfl) (by kernel_rfl) (by kernel_rfl) (fun _ _ _ h => h) ⟨Or.inl ⟨by rfl, fun w' hS => ?yp0⟩, fun _ => rfl⟩ T0 ?_
            case yp0 => go_simp; rfl
            refine AnyL.take (i := 1) (v := ?vp1) (by kernel_rfl) rfl (by kernel_rfl) (by kernel_rfl) (by kernel_rfl) (by kernel_rfl) (fun _ _ _ h => h) ⟨Or.inl ⟨by rfl, fun w' hS => ?yp1⟩, fun _ => rfl⟩ T0 ?_
            case yp1 => go_simp; rfl
            refine AnyL.take (i := 2) (v := ?vp2) (by kernel_rfl) rfl (by kernel_rfl) (by kernel_rfl) (by kernel_rfl) (by kernel_rfl) (fun _ _ _ h => h) ⟨Or.inl ⟨by rfl, fun w' hS => ?yp2⟩, fun _ => rfl⟩ T0 ?_
            case yp2 => go_simp; rfl
            refine AnyL.take (i := 3) (v := ?vp3) (by kernel_rfl) rfl (by kernel_rfl) (by kernel_rfl) (by kernel_rfl) (by kernel_rfl) (fun _ _ _ h => h) ⟨Or.inl ⟨by rfl, fun w' hS => ?yp3⟩, fun _ => rfl⟩ T0 ?_
            case yp3 => go_simp; rfl
            refine AnyL.take (i := 4) (v := ?vp4) (by kernel_rfl) rfl (by kernel_rfl) (by kernel_rfl) (by kernel_rfl) (by kernel_rfl) (fun _ _ _ h => h) ⟨Or.inl ⟨by rfl, fun w' hS => ?yp4⟩, fun _ => rfl⟩ T0 ?_
            case yp4 => have g0 := hS.1; clear hS; go_simp; rfl
            refine AnyL.take (i := 5) (v := ?vp5) (by kernel_rfl) rfl (by kernel_rfl) (by kernel_rfl) (by kernel_rfl) (by kernel_rfl) (fun _ _ _ h => h) ⟨Or.inl ⟨by rfl, fun w' hS => ?yp5⟩, fun _ => rfl⟩ T0 ?_
            case yp5 => obtain ⟨-, g0, g1, g2, g3, g4⟩ := hS; go_simp; rfl
            refine AnyL.one (i := 6) (by kernel_rfl) (wpOpIn_step rfl (fun K hK => ?_))
            go_simp
            have bA : Below Y.drew.heap.size Y.drew (Y.drew.alloc (.cells (enV E0) 38)) := (Below.refl _ _).alloc (Nat.le_refl _) _
            have T1 : (Y.drew.alloc (.cells (enV E0) 38)).cell? ⟨fb, 7, none⟩ = some (.slice ia ni ic) ∧ (Y.drew.alloc (.cells (enV E0) 38)).cell? ⟨be, 0, none⟩ = some (.int .i64 E0.v) ∧ (Y.drew.alloc (.cells (enV E0) 38)).cell? ⟨be, 1, none⟩ = some (.string E0.c) ∧ (Y.drew.alloc (.cells (enV E0) 38)).cell? ⟨be, 2, none⟩ = some (.int .i64 E0.i) ∧ (Y.drew.alloc (.cells (enV E0) 38)).cell? ⟨be, 3, none⟩ = some (.int .i64 E0.s) ∧ (Y.drew.alloc (.cells (enV E0) 38)).cell? ⟨be, 4, none⟩ = some (.bool E0.d) := ⟨cell_lat bA T0.1, cell_lat bA T0.2.1, cell_lat bA T0.2.2.1, cell_lat bA T0.2.2.2.1, cell_lat bA T0.2.2.2.2.1, cell_lat bA T0.2.2.2.2.2⟩
            refine hK _ _ ⟨fun _ => T1, ?_⟩
            clear hK K
            refine AnyL.one (i := 7) (by kernel_rfl) (wpOpIn_step rfl (fun K hK => ?_))
            refine stepIn_append_eq rfl _ _ _ _ rfl _ _ _ _ rfl rfl hap ?_
            refine hK _ _ ⟨fun _ => T2, ?_⟩
            clear hK K hap T1 bA
            refine AnyL.one (i := 8) (by kernel_rfl) (wpOpIn_step rfl (fun K hK => ?_))
            go_simp
            refine hK _ _ ⟨fun _ => T2, ?_⟩
            clear hK K
            refine AnyL.one (i := 9) (by kernel_rfl) (wpOpIn_step rfl (fun K hK => ?_))
            go_simp
            refine hK _ _ ⟨fun _ => T2, ?_⟩
            clear hK K
            refine AnyL.one (i := 10) (by kernel_rfl) (wpOpIn_step rfl (fun K hK => ?_))
            go_simp
            refine hK _ _ ⟨fun h => absurd (by simp) h, ?_⟩
            clear hK K
            refine AnyL.done (by kernel_rfl) ?_
            gi_wp2
            obtain ⟨FY, hiv, hbw, bYd, ho7, st7, loc7, hb7, hv7⟩ := HY.out
            rw [← hv7]
            have hix : ixL CB (bl.take (i + 1)) = ixL CB (bl.take i) ++ [E0] := by
              rw [List.take_add_one, List.getElem?_eq_getElem hlt, HE0.out, HX.out]
              unfold ixL
              rw [List.map_append]
              rfl
            have stF : Stay (fun k => k = fb) W7 (W7.setCell ⟨fb, 7, none⟩ v7) := stay1 _ _ _ _ _ (.refl _ _)
            have hr7 := row_kept FY.row st7 (fun k hk e => FY.apart hk e)
            have hsz : w.heap.size ≤ Y.drew.heap.size := Nat.le_trans hbw.size bYd.size
            have hr8 : (W7.setCell ⟨fb, 7, none⟩ v7).ownsRow 0 38 5 v7 (ixL CB (bl.take (i + 1))).length ((ixL CB (bl.take (i + 1))).flatMap enC) := by
              rw [hix]
              exact row_kept ho7 stF (fun k hk e => by
                obtain ⟨c, hc⟩ := row_block ho7 hk
                rw [e, hb7] at hc; simp at hc)
            refine ⟨⟨i + 1, v7, ival (by omega), hlt, ⟨fl_set7 hb7 v7, row_kept hr7 stF (fun k hk e => FY.row_ne hk e), hr8⟩, fun k hk => ?_, ?_⟩, by simp only [intOf]; omega⟩
            · rcases loc7 k hk with h | h
              · exact hiv k h
              · exact Nat.le_trans hsz h
            · exact (((hbw.trans (bYd.mono hbw.size)).trans (st7.toBelow (fun k hk e => by have := hiv k e; omega) hsz)).setCell (p := ⟨fb, 7, none⟩) hfw _)
          · have i1 : ¬ (i : Int) < (bl.length : Int) := by omega
            have e1 : bl.take i = bl := List.take_of_length_le (by omega)
            rw [e1, HCB.out] at hFA
            have fin := Hid.mk (OpO.yes HE.out hbw hfw hFA hbv hiv)
            clear hFA hiv hbw e1
            gi_wp2
            go_ret2
            exact fin.out
      · have hE : opA b = none := by rw [HO.out, if_neg (fun h => hTb (ba_ext h.2))]
        have hne : (BT.toList == b.toList) = false := by
          apply beq_false_of_ne
          intro e
          rw [toL, toL] at e
          exact hTb (ba_ext e)
        clear HO hTb F4
        gi_wp2
        go_ret2
        exact OpO.no hE bw4
    · have hE : opA b = none := by rw [HO.out, if_neg (fun h => hE0 h.1)]
      have hne : (BE != 0) = true := by simpa using hE0
      clear HO hE0 F4
      gi_wp2
      go_ret2
      exact OpO.no hE bw4
end Go.Proofs.YtjdpolhjbkpnlaaGreatDoor
set_option linter.unusedVariables false
set_option linter.unusedSimpArgs false
namespace Go.Proofs.YtjdpolhjbkpnlaaGreatDoor
open Go.RowKit Go.Shelf Go.Proofs.SealMath
/-- A file's index, and the boxes of the file and of a place. -/
structure PB (W : World) (Bf Bp fb : Nat) (iv : Value) (ix : List En) (p : En) : Prop where
  f : W.cell? ⟨Bf, 0, none⟩ = some (Pt fb)
  pl : W.cell? ⟨Bp, 0, none⟩ = some (.int .i64 p.v) ∧ W.cell? ⟨Bp, 1, none⟩ = some (.string p.c) ∧ W.cell? ⟨Bp, 2, none⟩ = some (.int .i64 p.i) ∧ W.cell? ⟨Bp, 3, none⟩ = some (.int .i64 p.s) ∧ W.cell? ⟨Bp, 4, none⟩ = some (.bool p.d)
  ixc : W.cell? ⟨fb, 7, none⟩ = some iv
  row : W.ownsRow 0 38 5 iv ix.length (ix.flatMap enC)
theorem PB.below {W W' : World} {Bf Bp fb : Nat} {iv : Value} {ix : List En} {p : En} (h : PB W Bf Bp fb iv ix p) (b : Below W.heap.size W W') : PB W' Bf Bp fb iv ix p :=
  ⟨cell_lat b h.f, ⟨cell_lat b h.pl.1, cell_lat b h.pl.2.1, cell_lat b h.pl.2.2.1, cell_lat b h.pl.2.2.2.1, cell_lat b h.pl.2.2.2.2⟩, cell_lat b h.ixc, row_kept (F := fun _ => False) h.row (.below b) (fun _ _ e => e)⟩
set_option maxHeartbeats 4000000 in
set_option maxRecDepth 100000 in
theorem behind_any (Bf Bp fb : Nat) (iv : Value) (ix : List En) (p : En) (i : Nat) (w : World) (H : PB w Bf Bp fb iv ix p) (hi : i < ix.length) (hn : ix.length ≤ 1099511627776) :
    Calls Tryz.prog 89 #[.int .i64 i, Pt Bf, Pt Bp] w fun r w' => r = .returned (.bool (decide (0 < cpE ix[i] p))) ∧ Below w.heap.size w w' := by
  obtain ⟨ia, ic, rfl, hic⟩ := slice_form H.row
  obtain ⟨g, hg⟩ : ∃ g, ia = some ⟨g, 0, none⟩ := by
    rcases H.row.2 with ⟨e, -⟩ | ⟨g, cap, cur, e, -⟩
    · injection e with e1 e2; omega
    · injection e with e1 e2; exact ⟨g, e1⟩
  subst hg
  obtain ⟨la, cap, e, -, hLA⟩ := lat_row H.row
  injection e with e1 e2 e3
  obtain ⟨g', off, e4, hra⟩ := hLA.at' (fun h => by rw [h] at hi; simp at hi)
  rw [← e1] at e4
  injection e4 with e4
  injection e4 with e5 e6
  subst e5
  subst e6
  obtain ⟨x0, x1, x2, x3, x4⟩ := row_en hra rfl i hi
  rw [Nat.zero_add] at x0 x1 x2 x3 x4
  obtain ⟨yf, ⟨p0, p1, p2, p3, p4⟩, y7, -⟩ := H
  have hcm := compare_any ix[i] p
  obtain ⟨n, hn'⟩ : ∃ n, n = ix.length := ⟨_, rfl⟩
  rw [← hn'] at y7 hi hn
  obtain ⟨e, he⟩ : ∃ e, e = ix[i] := ⟨_, rfl⟩
  rw [← he] at x0 x1 x2 x3 x4 hcm ⊢
  simp only [enC] at hcm
  have i1 : (i : Int) < (n : Int) := by omega
  have hfz : fb < w.heap.size := World.block_lt_of_cell? w _ y7
  have hgz : g < w.heap.size := World.block_lt_of_cell? w _ x0
  obtain ⟨Z, hZ⟩ : ∃ Z, Z = cpE e p := ⟨_, rfl⟩
  rw [← hZ] at hcm ⊢
  clear he hn' hZ hra hLA e1 e2 e3 hic
  go_enter Tryz.func89, Tryz.ntmps89
  go_wp2_with fail
  refine wp_region_held_drew (S := fun w' => w'.cell? ⟨Bf, 0, none⟩ = some (Pt fb) ∧ w'.cell? ⟨fb, 7, none⟩ = some (.slice (some ⟨g, 0, none⟩) n ic) ∧ (w'.cell? ⟨g, i * 5, none⟩ = some (.int .i64 e.v) ∧ w'.cell? ⟨g, i * 5 + 1, none⟩ = some (.string e.c) ∧ w'.cell? ⟨g, i * 5 + 2, none⟩ = some (.int .i64 e.i) ∧ w'.cell? ⟨g, i * 5 + 3, none⟩ = some (.int .i64 e.s) ∧ w'.cell? ⟨g, i * 5 + 4, none⟩ = some (.bool e.d)) ∧ w'.cell? ⟨Bp, 0, none⟩ = some (.int .i64 p.v) ∧ w'.cell? ⟨Bp, 1, none⟩ = some (.string p.c) ∧ w'.cell? ⟨Bp, 2, none⟩ = some (.int .i64 p.i) ∧ w'.cell? ⟨Bp, 3, none⟩ = some (.int .i64 p.s) ∧ w'.cell? ⟨Bp, 4, none⟩ = some (.bool p.d)) (by kernel_rfl) ?_ (fun hHeld => ?_)
  · exact ⟨yf, y7, ⟨x0, x1, x2, x3, x4⟩, p0, p1, p2, p3, p4⟩
  refine wpAnyH_take (i := 0) (oi := { dst := some 5, op := Op.load 23 (Operand.tmp 1), type := 23, pos := "block.go:148", after := #[], guard := none }) (v := ?vf0) rfl (by kernel_rfl) (by kernel_rfl) (by kernel_rfl) (fun _ _ _ h => h) (Or.inl ⟨by rfl, ?hf0⟩) (by assumption) ?rf0
  case hf0 => (intro w0 hSw; (try dsimp only at hSw); go_simp; try (with_reducible rfl))
  simp only [Act.put, List.setIfInBounds_toArray, List.set_cons_zero, List.set_cons_succ]
  refine wpAnyH_take (i := 1) (oi := { dst := some 6, op := Op.nilCheck (Operand.tmp 5), type := 0, pos := "block.go:148", after := #[{ on := 0, ground := Ground.data }], guard := none }) (v := ?vf1) rfl (by kernel_rfl) (by kernel_rfl) (by kernel_rfl) (fun _ _ _ h => h) (Or.inl ⟨by rfl, ?hf1⟩) (by assumption) ?rf1
  case hf1 => (intro w0 hSw; (try dsimp only at hSw); go_simp; try (with_reducible rfl))
  simp only [Act.put, List.setIfInBounds_toArray, List.set_cons_zero, List.set_cons_succ]
  refine wpAnyH_take (i := 2) (oi := { dst := some 7, op := Op.fieldAddr 54 (Operand.tmp 6) 2, type := 0, pos := "block.go:148", after := #[{ on := 1, ground := Ground.data }], guard := none }) (v := ?vf2) rfl (by kernel_rfl) (by kernel_rfl) (by kernel_rfl) (fun _ _ _ h => h) (Or.inl ⟨by rfl, ?hf2⟩) (by assumption) ?rf2
  case hf2 => (intro w0 hSw; (try dsimp only at hSw); go_simp; try (with_reducible rfl))
  simp only [Act.put, List.setIfInBounds_toArray, List.set_cons_zero, List.set_cons_succ]
  refine wpAnyH_take (i := 3) (oi := { dst := some 8, op := Op.load 34 (Operand.tmp 7), type := 34, pos := "block.go:148", after := #[{ on := 2, ground := Ground.data }], guard := none }) (v := ?vf3) rfl (by kernel_rfl) (by kernel_rfl) (by kernel_rfl) (fun _ _ _ h => h) (Or.inl ⟨by rfl, ?hf3⟩) (by assumption) ?rf3
  case hf3 => (intro w0 hSw; (try dsimp only at hSw); go_simp; try (with_reducible rfl))
  simp only [Act.put, List.setIfInBounds_toArray, List.set_cons_zero, List.set_cons_succ]
  refine wpAnyH_take (i := 4) (oi := { dst := some 9, op := Op.move (Operand.tmp 0), type := 3, pos := "block.go:148", after := #[], guard := none }) (v := ?vf4) rfl (by kernel_rfl) (by kernel_rfl) (by kernel_rfl) (fun _ _ _ h => h) (Or.inl ⟨by rfl, ?hf4⟩) (by assumption) ?rf4
  case hf4 => (intro w0 hSw; (try dsimp only at hSw); go_simp; try (with_reducible rfl))
  simp only [Act.put, List.setIfInBounds_toArray, List.set_cons_zero, List.set_cons_succ]
  refine wpAnyH_take (i := 5) (oi := { dst := some 10, op := Op.indexAddr 34 (Operand.tmp 8) (Operand.tmp 9), type := 0, pos := "block.go:148", after := #[{ on := 3, ground := Ground.data }, { on := 4, ground := Ground.data }], guard := none }) (v := ?vf5) rfl (by kernel_rfl) (by kernel_rfl) (by kernel_rfl) (fun _ _ _ h => h) (Or.inl ⟨by rfl, ?hf5⟩) (by assumption) ?rf5
  case hf5 => (intro w0 hSw; (try dsimp only at hSw); go_simp; try (with_reducible rfl))
  simp only [Act.put, List.setIfInBounds_toArray, List.set_cons_zero, List.set_cons_succ]
  refine wpAnyH_take (i := 6) (oi := { dst := some 11, op := Op.load 38 (Operand.tmp 10), type := 38, pos := "block.go:148", after := #[{ on := 5, ground := Ground.data }], guard := none }) (v := ?vf6) rfl (by kernel_rfl) (by kernel_rfl) (by kernel_rfl) (fun _ _ _ h => h) (Or.inl ⟨by rfl, ?hf6⟩) (by assumption) ?rf6
  case hf6 => (intro w0 hSw; (try dsimp only at hSw); go_simp; try (with_reducible rfl))
  simp only [Act.put, List.setIfInBounds_toArray, List.set_cons_zero, List.set_cons_succ]
  refine wpAnyH_take (i := 7) (oi := { dst := some 12, op := Op.load 38 (Operand.tmp 2), type := 38, pos := "block.go:148", after := #[], guard := none }) (v := ?vf7) rfl (by kernel_rfl) (by kernel_rfl) (by kernel_rfl) (fun _ _ _ h => h) (Or.inl ⟨by rfl, ?hf7⟩) (by assumption) ?rf7
  case hf7 => (intro w0 hSw; (try dsimp only at hSw); go_simp; try (with_reducible rfl))
  simp only [Act.put, List.setIfInBounds_toArray, List.set_cons_zero, List.set_cons_succ]
  refine wpAnyH_ready (rs := [8]) (by kernel_rfl) (by simp) ?_
  refine AllReadyH.cons rfl (fun K hK => ?_) AllReadyH.nil
  go_simp
  go_wp2_with (go_at_call 30; refine (hcm _).mono ?_; clear hcm; rintro r w5 ⟨rfl, b5⟩; have bb : Below w.heap.size w w5 := below_d b5)
  refine hK.out _ _ ?_ (fun hHeld => ?_)
  · exact ⟨cell_lat bb yf, cell_lat bb y7, ⟨cell_lat bb x0, cell_lat bb x1, cell_lat bb x2, cell_lat bb x3, cell_lat bb x4⟩, cell_lat bb p0, cell_lat bb p1, cell_lat bb p2, cell_lat bb p3, cell_lat bb p4⟩
  clear hK K
  refine wpAnyH_take (i := 9) (oi := { dst := some 14, op := Op.binOp BinOp.gtr 3 (Operand.tmp 13) (Operand.const (Value.int IntKind.i64 0)) 3, type := 4, pos := "block.go:148", after := #[{ on := 8, ground := Ground.data }], guard := none }) (v := ?vf9) rfl (by kernel_rfl) (by kernel_rfl) (by kernel_rfl) (fun _ _ _ h => h) (Or.inl ⟨by rfl, ?hf9⟩) (by assumption) ?rf9
  case hf9 => (intro w0 hSw; (try dsimp only at hSw); go_simp; try (with_reducible rfl))
  simp only [Act.put, List.setIfInBounds_toArray, List.set_cons_zero, List.set_cons_succ]
  refine wpAnyH_take (i := 10) (oi := { dst := some 4, op := Op.assign (Operand.tmp 14), type := 4, pos := "block.go:148", after := #[{ on := 9, ground := Ground.data }, { on := 8, ground := Ground.chain }, { on := 0, ground := Ground.phase }, { on := 1, ground := Ground.phase }, { on := 2, ground := Ground.phase }, { on := 3, ground := Ground.phase }, { on := 4, ground := Ground.phase }, { on := 5, ground := Ground.phase }, { on := 6, ground := Ground.phase }, { on := 7, ground := Ground.phase }, { on := 8, ground := Ground.phase }, { on := 9, ground := Ground.phase }], guard := none }) (v := ?vf10) rfl (by kernel_rfl) (by kernel_rfl) (by kernel_rfl) (fun _ _ _ h => h) (Or.inl ⟨by rfl, ?hf10⟩) (by assumption) ?rf10
  case hf10 => (intro w0 hSw; (try dsimp only at hSw); go_simp; try (with_reducible rfl))
  simp only [Act.put, List.setIfInBounds_toArray, List.set_cons_zero, List.set_cons_succ]
  refine wpAnyH_done (by kernel_rfl) ?_ _
  go_wp2
  go_ret
  exact ⟨rfl, bb⟩
/-- Where a search stands. -/
structure SrI (ix : List En) (p : En) (i j : Nat) : Prop where
  lo : ∀ (hh : i - 1 < ix.length), 0 < i → ¬ 0 < cpE ix[i - 1] p
  hi : ∀ (hh : j < ix.length), 0 < cpE ix[j] p
set_option maxHeartbeats 4000000 in
set_option maxRecDepth 100000 in
theorem search_any (Bf Bp fb : Nat) (iv : Value) (ix : List En) (p : En) (w : World) (H : PB w Bf Bp fb iv ix p) (hn : ix.length ≤ 1099511627776) (hu : Up ix) :
    Calls Tryz.prog 88 #[.int .i64 ix.length, .func (.func 89) #[] #[Pt Bf, Pt Bp]] w fun r w' => r = .returned (.int .i64 (rF ix p : Nat)) ∧ Below w.heap.size w w' := by
  have HH := Hid.mk (And.intro H hu)
  clear H hu
  go_enter Tryz.func88, Tryz.ntmps88
  go_wp2
  go_loopw [5, 6] (fun u5 u6 wr => ∃ i j : Nat, u5 = .int .i64 i ∧ u6 = .int .i64 j ∧ i ≤ j ∧ j ≤ ix.length ∧ SrI ix p i j ∧ Below w.heap.size w wr) (fun u5 u6 _ => (intOf u6).toNat - (intOf u5).toNat)
  case atStart => exact ⟨0, ix.length, rfl, rfl, Nat.zero_le _, Nat.le_refl _, ⟨fun _ h => by omega, fun h => absurd h (Nat.lt_irrefl _)⟩, Below.refl _ _⟩
  case round =>
    obtain ⟨i, j, rfl, rfl, hij, hj, HI, hb⟩ := hrel
    by_cases hlt : i < j
    · obtain ⟨m, hm⟩ : ∃ m, m = (i + j) / 2 := ⟨_, rfl⟩
      have hm1 : i ≤ m := by omega
      have hm2 : m < j := by omega
      have hml : m < ix.length := by omega
      have hc := behind_any Bf Bp fb iv ix p m wr (HH.out.1.below hb) hml hn
      have l1 : (i : Int) < (j : Int) := by omega
      have hq1 : ((i : Int) + (j : Int)) / 2 = (m : Int) := by omega
      have hq2 : (i + j) / 2 = m := hm.symm
      have HM := Hid.mk hm
      clear hm
      cases hd : decide (0 < cpE ix[m] p) with
      | true =>
        rw [hd] at hc
        have HD := Hid.mk hd
        clear hd
        go_wp2_with (go_at_call 89; refine hc.mono ?_; clear hc; rintro r w5 ⟨rfl, b5⟩)
        exact ⟨⟨i, m, rfl, rfl, hm1, by omega, ⟨HI.lo, fun _ => of_decide_eq_true HD.out⟩, chain hb b5 (Nat.le_refl _)⟩, by simp only [intOf]; omega⟩
      | false =>
        rw [hd] at hc
        have HD := Hid.mk hd
        clear hd
        go_wp2_with (go_at_call 89; refine hc.mono ?_; clear hc; rintro r w5 ⟨rfl, b5⟩)
        exact ⟨⟨m + 1, j, rfl, rfl, by omega, hj, ⟨fun _ _ => of_decide_eq_false HD.out, HI.hi⟩, chain hb b5 (Nat.le_refl _)⟩, by simp only [intOf]; omega⟩
    · have e : i = j := by omega
      subst e
      have hr := rF_at HH.out.2 p i hj HI.lo HI.hi
      have HR := Hid.mk hr
      clear hr
      go_wp2
      go_ret
      rw [HR.out]
      exact ⟨rfl, hb⟩
set_option maxHeartbeats 4000000 in
set_option maxRecDepth 100000 in
theorem firstBlock_any (fb : Nat) (iv : Value) (ix : List En) (p : En) (w : World) (y7 : w.cell? ⟨fb, 7, none⟩ = some iv) (hrow : w.ownsRow 0 38 5 iv ix.length (ix.flatMap enC)) (hn : ix.length ≤ 1099511627776) (hu : Up ix) :
    Calls Tryz.prog 55 #[Pt fb, .agg (enV p)] w fun r w' => r = .returned (.int .i64 ((rF ix p - 1 : Nat) : Int)) ∧ Below w.heap.size w w' := by
  obtain ⟨W, hW⟩ : ∃ W, W = (w.alloc (.cells #[Pt fb] 23)).alloc (.cells (enV p) 38) := ⟨_, rfl⟩
  have bW : Below w.heap.size w W := by rw [hW]; exact ((Below.refl _ w).alloc (Nat.le_refl _) _).alloc (by simp) _
  have h1 : W.heap[w.heap.size]? = some (.cells #[Pt fb] 23 (0, 0)) := by
    have h1 := heap_alloc_last w (.cells #[Pt fb] 23)
    have h2 : Below (w.alloc (.cells #[Pt fb] 23)).heap.size (w.alloc (.cells #[Pt fb] 23)) W := by rw [hW]; exact (Below.refl _ _).alloc (Nat.le_refl _) _
    exact (h2.block _ (by simp)).trans h1
  have h2 : W.heap[w.heap.size + 1]? = some (.cells (enV p) 38 (0, 0)) := by
    have h1 := heap_alloc_last (w.alloc (.cells #[Pt fb] 23)) (.cells (enV p) 38)
    rw [World.size_alloc] at h1
    rw [hW]; exact h1
  have PB0 : PB W w.heap.size (w.heap.size + 1) fb iv ix p := ⟨boxc (A := W) h1 rfl, en5 h2, cell_lat bW y7, row_kept (F := fun _ => False) hrow (.below bW) (fun _ _ e => e)⟩
  have hs := search_any w.heap.size (w.heap.size + 1) fb iv ix p W PB0 hn hu
  have hr := rF_le ix p
  obtain ⟨q, hq⟩ : ∃ q, q = rF ix p := ⟨_, rfl⟩
  rw [← hq] at hs hr ⊢
  obtain ⟨ia, ic, rfl, -⟩ := slice_form hrow
  obtain ⟨n, hn'⟩ : ∃ n, n = ix.length := ⟨_, rfl⟩
  rw [← hn'] at hs hr y7 hn
  have y0 := PB0.f
  have y7' := cell_lat bW y7
  have hmf : ∀ (fn : Fn) (first cap : Array Value) (w : World), (Instr.makeFunc fn first cap).run Tryz.prog w = .ok (.func fn first cap) w := fun _ _ _ _ => rfl
  have HW := Hid.mk hW
  clear hW h1 h2 PB0 hrow hn' hq
  go_enter Tryz.func55, Tryz.ntmps55
  have hfz : fb < w.heap.size := World.block_lt_of_cell? w _ y7
  go_wp2_with (go_at_call 88; rw [← HW.out]; refine hs.mono ?_; clear hs; rintro r w5 ⟨rfl, b5⟩)
  go_ret
  exact ⟨ret_int (by omega), chain bW b5 (Nat.le_refl _)⟩
end Go.Proofs.YtjdpolhjbkpnlaaGreatDoor
set_option linter.unusedVariables false
namespace Go.Proofs.YtjdpolhjbkpnlaaGreatDoor
open Go.RowKit Go.Shelf
section
variable {F : Fence} {n : Nat} {P : Program} {α σ : Type}
/-- The iterator's word: whatever J the caller keeps, if J abides what the iterator does by itself. -/
def SeqS (F : Fence) (n : Nat) (P : Program) (g : Nat) (lb : Array Value) (encs : α → Array Value) (Nx : List α → σ → α → Prop) (Tr : σ → World → σ → World → Prop) (Kp : σ → World → World → Prop) (S Sp : List α → σ → Prop) (s0 : σ) (w : World) : Prop :=
  ∀ (l : Nat) (J Jx : List α → σ → World → Prop) (W : World), Below w.heap.size w W →
    (∀ p s A s' B, J p s A → Tr s A s' B → J p s' B) → (∀ p s A s' B, Jx p s A → Tr s A s' B → Jx p s' B) →
    (∀ p x s A, J p s A → Nx p s x → YieldAt F (n - 1) P l (encs x) A fun e B => (e = .returned (.bool true) ∧ J (p ++ [x]) s B ∧ Kp s A B) ∨ (e = .returned (.bool false) ∧ Jx (p ++ [x]) s B ∧ Kp s A B)) →
    J [] s0 W →
    CallsIn F n P g (#[.func (.yield l) #[] #[]] ++ lb) W fun e B => (∃ v, e = .returned v) ∧ ((∃ p s, S p s ∧ J p s B) ∨ (∃ p s, Sp p s ∧ Jx p s B))
theorem wpIn_rangeFunc_sS {g : Operand} {ps : Array Tmp} {assign body : Code} {Q : Exit → Act → World → Prop} {a : Act} {w : World}
    (hro : F.round = none) (h1 : 1 ≤ n) {gf : Nat} {lb : Array Value} (hg : a.eval g = .func (.func gf) #[] lb) (hFg : F.fn gf) (eg : ∀ args w, (callFunc gf args).run P w = .ok (.enter gf args) w)
    {encs : α → Array Value} {Nx : List α → σ → α → Prop} {Tr : σ → World → σ → World → Prop} {Kp : σ → World → World → Prop} {S Sp : List α → σ → Prop} {s0 : σ}
    (hseq : SeqS F (n - 1) P gf lb encs Nx Tr Kp S Sp s0 w)
    (hTr : ∀ s A s' B, Tr s A s' B → KeepsOthers A B)
    (hKt : ∀ {s A B C}, Kp s A B → Kp s B C → Kp s A C) (hKb : ∀ (s : σ) (A : World) (l : Nat) (o o' : Obj), w.heap.size ≤ l → A.heap[l]? = some o → o.isCells = false → o.isWalk = false → Kp s A (A.putObj l o'))
    (hps : ∀ x, (encs x).size = ps.size)
    (I : List α → σ → World → Prop) (Ix : Code → List α → σ → World → Prop)
    (hIt : ∀ p s A s' B, I p s A → Tr s A s' B → I p s' B) (hIxt : ∀ c p s A s' B, Ix c p s A → Tr s A s' B → Ix c p s' B)
    (hI : OwnFrom w.heap.size (fun (z : List α × σ) A => I z.1 z.2 A)) (hIx : ∀ c, OwnFrom w.heap.size (fun (z : List α × σ) A => Ix c z.1 z.2 A))
    (h0 : I [] s0 w) (Ax : α → Act → World → Prop) (hAx : ∀ x a', OwnFrom w.heap.size (fun (_ : Unit) A => Ax x a' A))
    (hassign : ∀ (l : Nat) (p : List α) (x : α) (s : σ) (A : World) (K : Act → World → Prop), I p s A → Nx p s x → (∀ a' B, KeepsFrom w.heap.size A B → Kp s A B → I p s B → Ax x a' B → K a' B) →
      assign.wpIn (F.inRound l) (n - 1 - 1) P (Exit.then K (fun _ _ _ => False)) { tmps := (ps.zip (encs x)).foldl (fun t (p, v) => t.setIfInBounds p v) a.tmps, defers := [] } A)
    (hbody : ∀ (l : Nat) (p : List α) (x : α) (s : σ) (a' : Act) (A : World), w.heap.size ≤ l → (∃ r, A.heap[l]? = some (.loop r)) → I p s A → Ax x a' A → Nx p s x → body.wpIn (F.inRound l) (n - 1 - 1) P (stPost w.heap.size Kp I Ix (p ++ [x]) s A) a' A)
    (hdone : ∀ (D : Nat) (p : List α) (s : σ) (A : World), w.heap.size ≤ D → S p s → I p s A → A.heap[D]? = some (.deferred (some [])) → Q .normal { a with defers := { target := .collected D, args := #[] } :: a.defers } A)
    (hstop : ∀ (D : Nat) (c : Code) (p : List α) (s : σ) (A : World), w.heap.size ≤ D → Sp p s → Ix c p s A → A.heap[D]? = some (.deferred (some [])) → c.wpIn F n P Q { a with defers := { target := .collected D, args := #[] } :: a.defers } A) :
    (Code.rangeFunc g ps assign body).wpIn F n P Q a w := by
  refine wpIn_rangeFunc fun fn hfn => ?_
  rw [hro]
  obtain ⟨rec, hrec⟩ : ∃ rec : LoopState → Option Code → Loop, rec = fun st pe => { state := st, pending := pe, fn, tmps := a.tmps, params := ps, assign, body, defers := w.heap.size } := ⟨_, rfl⟩
  obtain ⟨V, hV⟩ : ∃ V, V = (w.alloc (.deferred (some []))).alloc (.loop (rec .ready none)) := ⟨_, rfl⟩
  obtain ⟨lp, hlp⟩ : ∃ lp, lp = w.heap.size + 1 := ⟨_, rfl⟩
  have vl : V.heap[lp]? = some (.loop (rec .ready none)) := by
    have h := World.alloc_heap_new (w.alloc (.deferred (some []))) (.loop (rec .ready none))
    rw [World.size_alloc] at h
    rw [hV, hlp]; exact h
  have vd : V.heap[w.heap.size]? = some (.deferred (some [])) := by
    rw [hV]; exact (Below.heap_alloc _ _ _ (by simp)).trans (World.alloc_heap_new w _)
  have vb : Below w.heap.size w V := by rw [hV]; exact ((Below.refl _ w).alloc (Nat.le_refl _) _).alloc (by simp) _
  have v0 : I [] s0 V := by rw [hV]; exact hI.alloc (s := ([], s0)) _ (hI.alloc (s := ([], s0)) _ h0)
  refine ⟨lp, [{ target := .collected w.heap.size, args := #[] }], V, { target := .fn (.func gf) lb, args := #[.func (.yield lp) #[] #[]] }, V, gf, #[.func (.yield lp) #[] #[]] ++ lb, V, ?_, ?_, ?_, ?_, fun _ => h1, ?_⟩
  · rw [hV, hlp, hrec]; exact run_enterLoop_outer _ _ _ _ _
  · simp only [resolve, hg]; simp [go_sem]
  · intro f' hf'; simp [Target.leads] at hf'; subst hf'; exact hFg
  · simp [invoke, go_sem, eg]
  · refine (hseq lp (fun p s A => I p s A ∧ A.heap[lp]? = some (.loop (rec .ready none)) ∧ A.heap[w.heap.size]? = some (.deferred (some [])))
      (fun p s A => ∃ c, Ix c p s A ∧ A.heap[lp]? = some (.loop (rec .done (some c))) ∧ A.heap[w.heap.size]? = some (.deferred (some []))) V vb
      (fun p s A s' B h ht => ⟨hIt p s A s' B h.1 ht, (hTr _ _ _ _ ht).same _ _ h.2.1 rfl, (hTr _ _ _ _ ht).same _ _ h.2.2 rfl⟩)
      (fun p s A s' B h ht => by obtain ⟨c, hc, hl, hd⟩ := h; exact ⟨c, hIxt c p s A s' B hc ht, (hTr _ _ _ _ ht).same _ _ hl rfl, (hTr _ _ _ _ ht).same _ _ hd rfl⟩)
      ?_ ⟨v0, vl, vd⟩).mono ?_
    · rintro p x s A ⟨hi, hl, hd⟩ hx
      have hy := run_yield (P := P) (args := encs x) hl (by rw [hrec]; exact hps x)
      rw [hrec] at hy
      refine ⟨fn, _, assign, body, hy, roundIn_of_wpIn hfn (hassign _ p x s A _ hi hx fun a' B kf kp hib hax => ?_)⟩
      clear hy
      have bl := kf.same _ _ (by omega) hl rfl
      have bd := kf.same _ _ (Nat.le_refl _) hd rfl
      have blt : lp < B.heap.size := (Array.getElem?_eq_some_iff.1 bl).1
      refine ⟨_, run_beginRound bl (by rw [hrec]), ?_⟩
      have cl : (B.putObj lp (.loop { rec .ready none with state := .busy })).heap[lp]? = some (.loop { rec .ready none with state := .busy }) := World.putObj_heap_same blt
      have cd : (B.putObj lp (.loop { rec .ready none with state := .busy })).heap[w.heap.size]? = some (.deferred (some [])) := (World.putObj_heap_other (by omega)).trans bd
      have ck : Kp s B (B.putObj lp (.loop { rec .ready none with state := .busy })) := hKb _ _ _ _ _ (by omega) bl rfl rfl
      refine wpIn_mono (hbody _ p x s a' _ (by omega) ⟨_, cl⟩ (hI.putObj (s := (p, s)) _ hib (by omega) bl rfl) ((hAx x a').putObj (s := ()) _ hax (by omega) bl rfl) hx) ?_
      have fin : ∀ (jump : Option Code) (C : World), KeepsFrom w.heap.size (B.putObj lp (.loop { rec .ready none with state := .busy })) C →
          (Instr.endRound lp jump).run P C = .ok (.bool jump.isNone) (C.putObj lp (.loop (rec (if jump.isNone then .ready else .done) jump))) ∧
          C.heap[lp]? = some (.loop { rec .ready none with state := .busy }) ∧
          (C.putObj lp (.loop (rec (if jump.isNone then .ready else .done) jump))).heap[lp]? = some (.loop (rec (if jump.isNone then .ready else .done) jump)) ∧
          (C.putObj lp (.loop (rec (if jump.isNone then .ready else .done) jump))).heap[w.heap.size]? = some (.deferred (some [])) := fun jump C kc => by
        have l3 := kc.same _ _ (by omega) cl rfl
        have r3 := run_endRound (P := P) jump l3
        rw [hrec] at r3 ⊢
        exact ⟨r3, by rw [hrec] at l3; exact l3, World.putObj_heap_same (Array.getElem?_eq_some_iff.1 l3).1, (World.putObj_heap_other (by omega)).trans (kc.same _ _ (Nat.le_refl _) cd rfl)⟩
      rintro e a3 C hp
      cases e with
      | normal =>
        obtain ⟨k3, kp3, i3⟩ := hp
        obtain ⟨hr, l3, l4, d4⟩ := fin none C k3
        exact ⟨_, _, hr, .inl ⟨rfl, ⟨hI.putObj (s := (p ++ [x], s)) _ i3 (by omega) l3 rfl, l4, d4⟩, hKt kp (hKt (hKt ck kp3) (hKb _ _ _ _ _ (by omega) l3 rfl rfl))⟩⟩
      | ret =>
        obtain ⟨k3, kp3, i3⟩ := hp
        obtain ⟨hr, l3, l4, d4⟩ := fin (some .ret) C k3
        exact ⟨_, _, hr, .inr ⟨rfl, ⟨.ret, (hIx _).putObj (s := (p ++ [x], s)) _ i3 (by omega) l3 rfl, l4, d4⟩, hKt kp (hKt (hKt ck kp3) (hKb _ _ _ _ _ (by omega) l3 rfl rfl))⟩⟩
      | exit id =>
        obtain ⟨k3, kp3, i3⟩ := hp
        obtain ⟨hr, l3, l4, d4⟩ := fin (some (.exit id)) C k3
        exact ⟨_, _, hr, .inr ⟨rfl, ⟨.exit id, (hIx _).putObj (s := (p ++ [x], s)) _ i3 (by omega) l3 rfl, l4, d4⟩, hKt kp (hKt (hKt ck kp3) (hKb _ _ _ _ _ (by omega) l3 rfl rfl))⟩⟩
      | goto t =>
        obtain ⟨k3, kp3, i3⟩ := hp
        obtain ⟨hr, l3, l4, d4⟩ := fin (some (.goto t)) C k3
        exact ⟨_, _, hr, .inr ⟨rfl, ⟨.goto t, (hIx _).putObj (s := (p ++ [x], s)) _ i3 (by omega) l3 rfl, l4, d4⟩, hKt kp (hKt (hKt ck kp3) (hKb _ _ _ _ _ (by omega) l3 rfl rfl))⟩⟩
      | panic ch => exact hp.elim
      | outgrown => exact hp.elim
    · rintro e C ⟨⟨v, rfl⟩, (⟨p, s, hS, hi, hl, hd⟩ | ⟨p, s, hSp, c, hi, hl, hd⟩)⟩
      · exact ⟨none, _, by have := run_endLoop (P := P) hl (by rw [hrec]; simp); rw [hrec] at this; exact this, hdone _ p s _ (Nat.le_refl _) hS (hI.putObj (s := (p, s)) _ hi (by omega) hl rfl) ((World.putObj_heap_other (by omega)).trans hd)⟩
      · exact ⟨some c, _, by have := run_endLoop (P := P) hl (by rw [hrec]; simp); rw [hrec] at this; exact this, hstop _ c p s _ (Nat.le_refl _) hSp ((hIx c).putObj (s := (p, s)) _ hi (by omega) hl rfl) ((World.putObj_heap_other (by omega)).trans hd)⟩
end
end Go.Proofs.YtjdpolhjbkpnlaaGreatDoor
