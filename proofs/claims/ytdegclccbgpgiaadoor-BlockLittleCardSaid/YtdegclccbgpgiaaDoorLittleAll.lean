/-
  DERIVED. BLitW, LittleRow, as one text.
-/
import Derived.Test.YtdegclccbgpgiaaDoorBkC
import Derived.Test.YtdegclccbgpgiaaDoorSTable
import Derived.ChangeMaps5
set_option linter.unusedVariables false
set_option linter.unusedSimpArgs false
namespace Go.Proofs.YtdegclccbgpgiaaDoor
open Go.RowKit Go.Proofs.SealMath
/-- What stands while the values are asked for. -/
def LitI (w w1 : World) (fb : Nat) (h : Hd) (bl : List (List UInt8)) (ix : List En) (bv iv : Value) (n : Nat) (u : Value) (wr : World) : Prop :=
  ∃ (i rd : Nat), u = .int .i64 i ∧ i ≤ n ∧ rd ≤ i * 131072 ∧ FA wr fb h bl ix bv iv rd ∧ Below w.heap.size w wr ∧ Below w1.heap.size w1 wr
theorem lit_nums {rd t nL l : Nat} (ht : t ≤ nL + 2) (hl : l ≠ 0 → 1 ≤ t) (hr : rd + t ≤ 4611686018427387904) (hn : nL ≤ 4611686018427387904) :
    ∃ (R0 R1 N2 D : Int), R0 = (rd : Int) ∧ R1 = ((rd + t : Nat) : Int) ∧ IntKind.i64.wrap (R1 - R0) = D ∧ IntKind.i64.wrap ((nL : Int) + 2) = N2 ∧ decide (R1 < R0) = false ∧ decide (N2 < D) = false ∧ (l ≠ 0 → (R1 == R0) = false) ∧ wrap64 (R1 - R0) = D ∧ wrap64 ((nL : Int) + 2) = N2 := by
  refine ⟨_, _, (nL : Int) + 2, (t : Int), rfl, rfl, ?_, ?_, by simp; omega, by simp; omega, fun h => ?_, ?_, ?_⟩
  · rw [show ((rd + t : Nat) : Int) - (rd : Int) = (t : Int) by omega]; exact i64_in _ (by omega) (by omega)
  · exact i64_in _ (by omega) (by omega)
  · have := hl h
    exact beq_false_of_ne (by omega)
  · unfold wrap64; omega
  · unfold wrap64; omega
theorem wrap_up (i : Nat) (h : i < 17592186044416) : wrap64 ((i : Int) + 1) = (i : Int) + 1 := by unfold wrap64; omega
set_option maxHeartbeats 8000000 in
set_option maxRecDepth 100000 in
theorem law_little (h : Hd) (l : List En) (la : Option Addr) (cap : Nat) (vs : List Int) (va : Option Addr) (vc : Nat) (p : En) (w : World) (ht : Tab w) (hg : 0 < w.heap.size) (hl : LAt w la l) (hcap : l.length ≤ cap) (hv : IAt w va vs) (hvl : vs.length ≤ 17592186044416) :
    Calls Tryd.prog 6 #[.agg (hdC h).toArray, .slice la l.length cap, .slice va vs.length vc, .agg (enC p).toArray] w fun r w' => r = .returned (.bool true) ∧ Below w.heap.size w w' := by
  obtain ⟨W, hW⟩ : ∃ W, W = (w.alloc (.cells (hdC h).toArray 23)).alloc (.cells (enC p).toArray 40) := ⟨_, rfl⟩
  have bW : Below w.heap.size w W := by rw [hW]; exact ((Below.refl _ w).alloc (Nat.le_refl _) _).alloc (by simp) _
  have hH : W.heap[w.heap.size]? = some (.cells (hdC h).toArray 23 (0, 0)) := by
    rw [hW]
    have h1 := heap_alloc_last w (.cells (hdC h).toArray 23)
    exact (Below.heap_alloc (w.alloc (.cells (hdC h).toArray 23)) (.cells (enC p).toArray 40) _ (Array.getElem?_eq_some_iff.1 h1).1).trans h1
  have hP : W.heap[w.heap.size + 1]? = some (.cells (enC p).toArray 40 (0, 0)) := by
    rw [hW]
    have h1 := heap_alloc_last (w.alloc (.cells (hdC h).toArray 23)) (.cells (enC p).toArray 40)
    simpa using h1
  obtain ⟨htW, hgW⟩ := ht.blk hg bW
  have hbg := begun6_any W htW hgW
  have HL := Hid.mk (And.intro ht (And.intro hg (And.intro hl (And.intro hcap (And.intro hv hvl)))))
  obtain ⟨n, hn⟩ : ∃ n, n = l.length := ⟨_, rfl⟩
  obtain ⟨m, hm⟩ : ∃ m, m = vs.length := ⟨_, rfl⟩
  rw [← hn, ← hm]
  have HN := Hid.mk (And.intro hn hm)
  clear ht hg hl hcap hv hvl htW hgW hn hm
  obtain ⟨wd, t, bt, lo, hi, cn⟩ := h
  obtain ⟨pv, pc, pi, ps, pd⟩ := p
  simp only [hdC, enC] at hW hH hP ⊢
  have HW := Hid.mk hW
  clear hW
  go_enter Tryd.func6, Tryd.ntmps6
  go_wp2_with fail
  rw [← HW.out]
  refine hbg.mono ?_
  clear hbg
  rintro r w1 ⟨rfl, b1⟩
  have hH1 : w1.heap[w.heap.size]? = _ := (b1.block _ (Array.getElem?_eq_some_iff.1 hH).1).trans hH
  have hP1 : w1.heap[w.heap.size + 1]? = _ := (b1.block _ (Array.getElem?_eq_some_iff.1 hP).1).trans hP
  have bw1 := chain bW b1 (Nat.le_refl _)
  obtain ⟨ht1, hg1⟩ := HL.out.1.blk HL.out.2.1 bw1
  have hbd := build_any ⟨wd, t, bt, lo, hi, cn⟩ l la cap w1 ht1 (HL.out.2.2.1.below bw1) HL.out.2.2.2.1
  simp only [hdC] at hbd
  rw [← HN.out.1] at hbd
  have x0 : w1.cell? ⟨w.heap.size, 0, none⟩ = some (.int .i64 wd) := by rw [cell_of_row _ _ 0 _ _ (0, 0) hH1]; rfl
  have x1 : w1.cell? ⟨w.heap.size, 1, none⟩ = some (.int .i64 t) := by rw [cell_of_row _ _ 1 _ _ (0, 0) hH1]; rfl
  have x2 : w1.cell? ⟨w.heap.size, 2, none⟩ = some (.int .i64 bt) := by rw [cell_of_row _ _ 2 _ _ (0, 0) hH1]; rfl
  have x3 : w1.cell? ⟨w.heap.size, 3, none⟩ = some (.int .i64 lo) := by rw [cell_of_row _ _ 3 _ _ (0, 0) hH1]; rfl
  have x4 : w1.cell? ⟨w.heap.size, 4, none⟩ = some (.int .i64 hi) := by rw [cell_of_row _ _ 4 _ _ (0, 0) hH1]; rfl
  have x5 : w1.cell? ⟨w.heap.size, 5, none⟩ = some (.int .i64 cn) := by rw [cell_of_row _ _ 5 _ _ (0, 0) hH1]; rfl
  have H1 := Hid.mk (And.intro hP1 bw1)
  clear hH1 hP1 bw1 ht1 hg1 b1 bW hH hP HW
  by_cases hE : bdE ⟨wd, t, bt, lo, hi, cn⟩ l = 0
  · have hT2 : bdT ⟨wd, t, bt, lo, hi, cn⟩ l = fileT ⟨wd, t, bt, lo, hi, cn⟩ l := by unfold bdT; rw [if_pos hE]
    rw [hE, hT2] at hbd
    have HE := Hid.mk hE
    clear hE hT2
    go_wp2_with fail
    refine hbd.mono ?_
    clear hbd
    rintro r w2 ⟨rfl, b2⟩
    have bw2 := chain H1.out.2 b2 (Nat.le_refl _)
    obtain ⟨ht2, hg2⟩ := HL.out.1.blk HL.out.2.1 bw2
    have hop := open_few ⟨wd, t, bt, lo, hi, cn⟩ l w2 ht2 hg2 HE.out
    clear ht2 hg2
    go_wp2_with fail
    refine hop.mono ?_
    clear hop
    rintro r w3 ⟨b3, fb, bv, iv, bl, ix, rfl, hfw, hF, P, hsm, hfew⟩
    have bw3 := chain bw2 b3 (Nat.le_refl _)
    have hfb : w.heap.size + 2 ≤ fb ∧ w1.heap.size ≤ fb := by
      have h1 := (Array.getElem?_eq_some_iff.1 H1.out.1).1
      have h2 := b2.size
      omega
    have hok := bdE_ok HE.out
    have hwd := isW_bd (hdE0 hok.1).1
    have H3 := Hid.mk (And.intro P (And.intro hsm (And.intro hfew (And.intro hfb (And.intro hok.2.1 hwd)))))
    have HF := Hid.mk (And.intro hF (And.intro bw3 (chain b2 b3 (Nat.le_refl _))))
    clear hfw hF P hsm hfew hfb hok hwd bw2 bw3 b2 b3 x0 x1 x2 x3 x4 x5
    go_wp2
    go_loopw [14, 15, 16, 17] (fun u _ _ _ wr => LitI w w1 fb { (⟨wd, t, bt, lo, hi, cn⟩ : Hd) with n := l.length } bl ix bv iv m u wr) (fun u _ _ _ _ => m - (intOf u).toNat)
    case atStart => exact ⟨0, 0, rfl, Nat.zero_le _, Nat.zero_le _, HF.out.1, HF.out.2.1, HF.out.2.2⟩
    case round =>
      obtain ⟨i, rd, rfl, hi', hrd, hF, hb, hb1⟩ := hrel
      obtain ⟨R0, hR0⟩ : ∃ R0 : Int, R0 = (rd : Int) := ⟨_, rfl⟩
      have hr1 := reads_any fb _ bv iv rd wr hF.box
      rw [← hR0] at hr1
      by_cases hlt : i < m
      · as_aux_lemma =>
        have hiv : i < vs.length := by have := HN.out.2; omega
        have hq : vs[i]? = some vs[i] := List.getElem?_eq_getElem hiv
        obtain ⟨g, off, e, hc⟩ := HL.out.2.2.2.2.1 i _ hq
        generalize vs[i] = q at hc
        have hcr := cell_lat hb hc
        have hva := Hid.mk e
        have i1 : (i : Int) < (m : Int) := by omega
        have i2 : 0 ≤ (i : Int) := by omega
        have hrb : rd + bl.length ≤ 4611686018427387904 := by have := HL.out.2.2.2.2.2; have := H3.out.2.2.1; omega
        have HR := Hid.mk (And.intro hR0 (And.intro hrd (And.intro hb (And.intro hb1 (And.intro hF hrb)))))
        rw [e]
        clear hq hiv hc e hR0 hrd hb hb1 hF hrb hi'
        go_wp2_with fail
        refine hr1.mono ?_
        clear hr1
        rintro r w4 ⟨rfl, b4⟩
        have hc4 := cell_lat b4 hcr
        have hf := find_any fb _ bl ix bv iv rd q w4 (HR.out.2.2.2.2.1.below b4) H3.out.2.2.2.2.2 H3.out.2.1 H3.out.1.len H3.out.1.upix HR.out.2.2.2.2.2
        clear hcr
        go_wp2_with fail
        refine hf.mono ?_
        clear hf
        rintro r w5 ⟨v5, t5, L5, rfl, hO, hrow, hfr, hF5, st5⟩
        obtain ⟨la5, ca5, rfl, hc5, LA5⟩ := lat_row hrow
        have hlit := H3.out.1.little hO
        have ht5 := FndO_le hO
        have hL5 := H3.out.1.find (fun e he => (bdE_ok HE.out).2.2.2 e he |>.i.1) hO
        have hK5 : L5.length ≤ 2097152 := by
          have h1 : (hitV q l).length ≤ l.length := by unfold hitV; exact List.length_filter_le _ _
          have h2 := H3.out.2.2.2.2.1
          rw [hL5]; omega
        have hle : t5 ≤ bl.length := Nat.le_trans ht5 (by rw [List.length_drop]; omega)
        have hr2 := reads_any fb _ bv iv (rd + t5) w5 hF5.box
        obtain ⟨R0', R1, N2, D, e0, e1, e2, e3, e4, e5, e6, e2', e3'⟩ := lit_nums (rd := rd) (t := t5) (nL := L5.length) (l := n) hlit.1 (fun hn0 => hlit.2 (fun hnil => hn0 (by rw [HN.out.1, hnil]; rfl))) (by have := HR.out.2.2.2.2.2; omega) (by omega)
        have e7 : R0' = R0 := e0.trans HR.out.1.symm
        subst e7
        rw [← e1] at hr2
        obtain ⟨K, hK⟩ : ∃ K, K = L5.length := ⟨_, rfl⟩
        rw [← hK] at e3 e3' ⊢
        have bw4 := chain HR.out.2.2.1 b4 (Nat.le_refl _)
        have bv4 := chain HR.out.2.2.2.1 b4 (Nat.le_refl _)
        have bw5 := bw4.trans (st5.toBelow (fun k hk e => by have := H3.out.2.2.2.1.1; omega) bw4.size)
        have bv5 := bv4.trans (st5.toBelow (fun k hk e => by have := H3.out.2.2.2.1.2; omega) bv4.size)
        have HS := Hid.mk (And.intro bw5 (And.intro bv5 (And.intro hF5 (And.intro hle e1))))
        clear hrow hO hlit ht5 hL5 hK5 hle hK bw4 bv4 bw5 bv5 hF5 st5 hfr hc5 LA5 e0 e1 b4 hc4
        go_wp2_with fail
        refine hr2.mono ?_
        clear hr2
        rintro r w6 ⟨rfl, b6⟩
        have fin : LitI w w1 fb { (⟨wd, t, bt, lo, hi, cn⟩ : Hd) with n := l.length } bl ix bv iv m (.int .i64 ((i : Int) + 1)) w6 := ⟨i + 1, rd + t5, rfl, hlt, by have := HS.out.2.2.2.1; have := H3.out.2.2.1; have := HR.out.2.1; omega, HS.out.2.2.1.below b6, chain HS.out.1 b6 (Nat.le_refl _), chain HS.out.2.1 b6 (Nat.le_refl _)⟩
        have HX := Hid.mk fin
        clear fin b6
        have hwu := wrap_up i (by have := HN.out.2; have := HL.out.2.2.2.2.2; omega)
        have hend : m - (intOf (.int .i64 ((i : Int) + 1))).toNat < m - (intOf (.int .i64 (i : Int))).toNat := by simp only [intOf]; omega
        by_cases hn0 : n = 0
        · have d1 : decide (0 < (n : Int)) = false := by simp [hn0]
          have d2 : decide (0 < n) = false := by simp [hn0]
          clear hn0 e6
          go_wp2
          rw [hwu]
          exact ⟨HX.out, hend⟩
        · have d1 : decide (0 < (n : Int)) = true := by simp; omega
          have d2 : decide (0 < n) = true := by simp; omega
          have e6' := e6 hn0
          clear hn0 e6
          go_wp2
          rw [hwu]
          exact ⟨HX.out, hend⟩
      · as_aux_lemma =>
        have hPr : wr.heap[w.heap.size + 1]? = _ := (hb1.block _ (Array.getElem?_eq_some_iff.1 H1.out.1).1).trans H1.out.1
        have HR := Hid.mk (And.intro hF (And.intro hb (And.intro hPr hR0)))
        clear hF hb hb1 hPr hrd hR0 hi'
        have hm0 : ¬ (i : Int) < (m : Int) := by omega
        go_wp2_with fail
        refine hr1.mono ?_
        clear hr1
        rintro r w4 ⟨rfl, b4⟩
        have hP4 : w4.heap[w.heap.size + 1]? = _ := (b4.block _ (Array.getElem?_eq_some_iff.1 HR.out.2.2.1).1).trans HR.out.2.2.1
        have q0 : w4.cell? ⟨w.heap.size + 1, 0, none⟩ = some (.int .i64 pv) := by rw [cell_of_row _ _ 0 _ _ (0, 0) hP4]; rfl
        have q1 : w4.cell? ⟨w.heap.size + 1, 1, none⟩ = some (.string pc) := by rw [cell_of_row _ _ 1 _ _ (0, 0) hP4]; rfl
        have q2 : w4.cell? ⟨w.heap.size + 1, 2, none⟩ = some (.int .i64 pi) := by rw [cell_of_row _ _ 2 _ _ (0, 0) hP4]; rfl
        have q3 : w4.cell? ⟨w.heap.size + 1, 3, none⟩ = some (.int .i64 ps) := by rw [cell_of_row _ _ 3 _ _ (0, 0) hP4]; rfl
        have q4 : w4.cell? ⟨w.heap.size + 1, 4, none⟩ = some (.bool pd) := by rw [cell_of_row _ _ 4 _ _ (0, 0) hP4]; rfl
        have hfr := from_none fb ⟨pv, pc, pi, ps, pd⟩ 0 w4 (by omega)
        simp only [enV] at hfr
        clear hP4
        go_wp2_with fail
        refine hfr.mono ?_
        clear hfr
        rintro r w5 ⟨rfl, b5⟩
        clear q0 q1 q2 q3 q4
        have b45 := chain b4 b5 (Nat.le_refl _)
        have F5 := HR.out.1.below b45
        have hall := all_any fb _ bl ix bv iv rd w5 F5 H3.out.2.2.2.2.2 ⟨by show (0 : Int) ≤ (l.length : Int); omega, by have := H3.out.2.2.2.2.1; show (l.length : Int) ≤ 1099511627776; omega⟩ H3.out.2.1
        rw [show cbH { (⟨wd, t, bt, lo, hi, cn⟩ : Hd) with n := (l.length : Int) } = cbH ⟨wd, t, bt, lo, hi, cn⟩ from rfl, H3.out.1.al] at hall
        rw [← HN.out.1] at hall
        go_wp2_with fail
        refine hall.mono ?_
        clear hall
        rintro r w6 ⟨v6, rfl, hrow6, -, b6⟩
        obtain ⟨la6, ca6, rfl, -⟩ := slice_form hrow6
        clear hrow6
        have b46 := chain b45 b6 (Nat.le_refl _)
        have F6 := HR.out.1.below b46
        have hhd := fhead_any fb _ bv iv rd w6 F6.box
        dsimp only at hhd
        rw [← HN.out.1] at hhd
        clear b4 b5 b6 b45 F5
        go_wp2_with fail
        refine hhd.mono ?_
        clear hhd
        rintro r w7 ⟨rfl, b7⟩
        have b47 := chain b46 b7 (Nat.le_refl _)
        have F7 := HR.out.1.below b47
        have hr3 := reads_any fb _ bv iv rd w7 F7.box
        rw [← HR.out.2.2.2] at hr3
        clear b46 b7 F6
        have hfl : ∀ W : World, (Instr.field 23 (.agg #[.int .i64 wd, .int .i64 t, .int .i64 bt, .int .i64 lo, .int .i64 hi, .int .i64 (n : Int)]) 5).run Tryd.prog W = .ok (.int .i64 (n : Int)) W := fun W => by kernel_rfl
        go_wp2_with (go_at_call 17; refine hr3.mono ?_; clear hr3; rintro r w8 ⟨rfl, b8⟩)
        go_ret
        exact ⟨rfl, chain (chain HR.out.2.1 b47 (Nat.le_refl _)) b8 (Nat.le_refl _)⟩
  · have hne : (bdE ⟨wd, t, bt, lo, hi, cn⟩ l == 0) = false := beq_false_of_ne hE
    have hT2 : bdT ⟨wd, t, bt, lo, hi, cn⟩ l = [] := by unfold bdT; rw [if_neg hE]
    rw [hT2] at hbd
    generalize bdE ⟨wd, t, bt, lo, hi, cn⟩ l = E at *
    clear hE hT2
    go_wp2_with (go_at_call 9; refine hbd.mono ?_; clear hbd; rintro r w2 ⟨rfl, b2⟩)
    go_ret
    exact ⟨rfl, chain H1.out.2 b2 (Nat.le_refl _)⟩
end Go.Proofs.YtdegclccbgpgiaaDoor
set_option linter.unusedSimpArgs false
set_option linter.unusedVariables false
namespace Go.Proofs.YtdegclccbgpgiaaDoor
open Go.ChangeMaps (open_string shut_string)
open Go.ChangeShapes Go.WideShapes Go.ChangeAt Go.WideMaps Go.WideElems Go.RowKit Go.Proofs.SealMath
set_option maxRecDepth 100000 in
theorem little_lifted (os : Os) (started : os.Started) (H : Type) (enc : TypeId × Value → H) :
    ReturnsInHanded {} Tryd.checked os 6 .any (fun w args => (Rows.blockLittleSpec.pre enc Tryd.prog Tryd.f6 [] false w args ∧ laidMetH Tryd.prog lst w) ∧ sizedMet enc Tryd.prog Tryd.f6 (OpenSpec.ofChange Rows.blockLittleSpec) false w args)
      (Rows.blockLittleSpec.post enc Tryd.prog Tryd.f6 false true false false) := by
  refine returnsInHanded_of_change_and (C := Tryd.checked) (X := fun w _ => laidMetH Tryd.prog lst w) (fun _ _ _ hh h => h.of_heap hh) own started (by kernel_rfl) Tryd.func6
    (ChangeSpec.witness_shaped (enc := enc) (C := Tryd.checked) (os := os) (X := fun w _ => laidMetH Tryd.prog lst w) false (World.doorLaid Tryd.prog 4000 os) #[.agg #[.int .i64 0, .int .i64 0, .int .i64 0, .int .i64 0, .int .i64 0, .int .i64 0], .slice none 0 0, .slice none 0 0, .agg #[.int .i64 0, .string ⟨#[]⟩, .int .i64 0, .int .i64 0, .bool false]] 8 rfl (World.shaped_of_RefB (by kernel_rfl) (by kernel_rfl)) (by kernel_rfl) (by kernel_rfl) (by kernel_rfl) (door_met os _)) ?_
  intro W base args ds gs before hval0 hW _ hsz0 hL _
  have hsz : (DataW.weightsEach Tryd.prog (Tryd.f6.params.toList ++ Rows.blockLittleSpec.plain.varTypes Tryd.prog) (ds ++ gs)).all (· ≤ reachBytes) = true := hsz0
  clear hsz0
  have hval : ∀ (j : Nat) t v, Tryd.f6.params[j]? = some t → args[j]? = some v → Value.okWide Tryd.prog W .any base t v := hval0
  have hW' := hW
  obtain ⟨p, q, hA0, hV, rfl, hfz, hnd⟩ := hW
  have hA : DataW.TrodAll enc Tryd.prog W 0 (fun _ => true) true Tryd.f6.params.toList args.toList ds p := hA0
  rw [Tryd.params6] at hA hval hsz
  obtain ⟨v0, v1, v2, v3, d0, d1, d2, d3, p0, p1, p2, p3, rfl, rfl, rfl, h0, h1, h2, h3⟩ := trodAll_four hA
  obtain ⟨rfl, rfl⟩ := trodVars_none hV
  have h0k := h0
  obtain ⟨h, rfl⟩ := open_hd (hval 0 23 v0 rfl rfl) h0
  obtain ⟨a0, len, cap, rfl⟩ := okWide_slice Tryd.underlying24 (hval 1 24 v1 rfl rfl)
  have h1k := h1
  obtain ⟨fuel, hf⟩ := h1
  obtain ⟨a2, len2, cap2, rfl⟩ := okWide_slice Tryd.underlying38 (hval 2 38 v2 rfl rfl)
  have h2k := h2
  obtain ⟨fuel2, hf2⟩ := h2
  have hs2 : ∀ n ∈ d2.weights Tryd.prog 38, n ≤ reachBytes := fun n hn => by simpa using List.all_eq_true.1 hsz n (DataW.weights_mem_each (j := 2) (t := 38) rfl rfl n hn)
  obtain ⟨vs, hl2, hL2, hB2⟩ := open_ints2 (by simpa [Value.cells] using hf2) hs2
  subst hl2
  have h3k := h3
  obtain ⟨p, rfl⟩ := open_en (hval 3 40 v3 rfl rfl) h3
  clear hA0 hval0
  simp only [List.append_nil, List.nil_append] at hW'
  have hlt0 : ∀ x ∈ p0, x.block < W.heap.size := fun x hx => hW'.lt x (by simp [hx])
  have hlt1 : ∀ x ∈ p1, x.block < W.heap.size := fun x hx => hW'.lt x (by simp [hx])
  have hlt2 : ∀ x ∈ p2, x.block < W.heap.size := fun x hx => hW'.lt x (by simp [hx])
  have hlt3 : ∀ x ∈ p3, x.block < W.heap.size := fun x hx => hW'.lt x (by simp [hx])
  have ht := tab_of hL
  have hg0 := tab_pos ht
  have e1 : Rows.blockLittleSpec.fn H ([d0, d1, d2, d3] ++ []) = { results := [.lit (.bool true)], args := [d0, d1, d2, d3] } := by simp [Rows.blockLittleSpec]
  have fin : ∀ (e : Ending) (W' : World), (e = .returned (.bool true) ∧ Below W.heap.size W W') → ∃ v, e = .returned v ∧ Rows.blockLittleSpec.post enc Tryd.prog Tryd.f6 false true false false W #[.agg (hdC h).toArray, .slice a0 len cap, .slice a2 vs.length cap2, .agg (enC p).toArray] v W' := by
    rintro e W' ⟨rfl, hbl⟩
    refine ⟨_, rfl, _, _, _, [], p0 ++ (p1 ++ (p2 ++ p3)), [], hW', ?_, ?_, ?_, hbl.frame _, fun h => by cases h⟩
    · rw [e1]; exact trodAll_mk1 (shut_bool Tryd.underlying4 true)
    · rw [e1]; have h5 := trodAll_mk4 (Below.trod laidOut (by kernel_rfl) (of_decide_eq_true (by kernel_rfl)) h0k hbl hlt0) (Below.trod laidOut (by kernel_rfl) (of_decide_eq_true (by kernel_rfl)) h1k hbl hlt1) (Below.trod laidOut (by kernel_rfl) (of_decide_eq_true (by kernel_rfl)) h2k hbl hlt2) (Below.trod laidOut (by kernel_rfl) (of_decide_eq_true (by kernel_rfl)) h3k hbl hlt3); (try simp only [List.append_nil, List.nil_append] at h5); exact h5
    · rw [e1]; rfl
  have hcap := open_enc (show DataW.trod enc Tryd.prog W 0 (fun _ => true) true fuel 24 [.slice a0 len cap] = some (d1, p1) by simpa [Value.cells] using hf)
  rcases open_ens (by simpa [Value.cells] using hf) with ⟨rfl, rfl⟩ | ⟨⟨l, hl, hLl⟩, -⟩
  · exact (law_little h [] none cap vs a2 cap2 p W ht hg0 ⟨fun h => absurd rfl h⟩ (Nat.zero_le _) hL2 hB2).mono fin
  · subst hl
    exact (law_little h l a0 cap vs a2 cap2 p W ht hg0 hLl hcap hL2 hB2).mono fin

theorem little_row : Rows.BlockLittleSaid :=
  OpenClaim.holds_of_wide 6 Tryd.f6 rfl rfl rfl rfl rfl rfl rfl ⟨rfl, rfl, rfl, rfl, rfl⟩ rfl rfl rfl rfl rfl (by kernel_rfl) Tryd.func6 (by kernel_rfl)
    (of_decide_eq_true (by kernel_rfl)) (by unfold Func.isWrapper; rw [if_neg (of_decide_eq_false (by kernel_rfl))]; exact ⟨rfl, rfl⟩)
    (fun os started H enc _ => little_lifted os started H enc)
theorem little_holds : Rows.BlockLittleCardSaid :=
  Claim7.holds_tied_plain_at .later [] [.called] true (true, "0abfb72c16ebaf4a0467999375ad9d7ca9872b7158b3469ea3fbf7b9b295d44a") false
    little_row (fun _ h => by cases h) (by kernel_rfl) (fun _ h => by cases h) blockLittle_row_tie rfl ⟨rfl, rfl⟩ (by kernel_rfl) rfl
    (fun f fn hf hfn => by
      obtain rfl : f = 6 := Option.some.inj ((show Tryd.prog.funcNamed "kindred/kindredlaw6.BlockLittle" = some 6 by kernel_rfl).symm.trans hf) |>.symm
      obtain rfl : fn = Tryd.f6 := (Option.some.inj (Tryd.func6.symm.trans hfn)).symm
      exact ⟨by kernel_rfl, fun j t ht => by
        rw [Tryd.params6] at ht
        have hm : t ∈ [23, 24, 38, 40] := by simpa using Array.mem_of_getElem? ht
        have hall : ([23, 24, 38, 40].all fun u => !Tryd.prog.wantsStandIn u) = true := by kernel_rfl
        exact (show Tryd.prog.wantsStandIn t = false by simpa using List.all_eq_true.1 hall t hm)⟩)
    (by kernel_rfl)
#print axioms little_holds
end Go.Proofs.YtdegclccbgpgiaaDoor
