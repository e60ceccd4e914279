/-
  DERIVED. A merger's Next.
-/
import Derived.Test.YtbkbnhdeleoibaaMNext0
set_option linter.unusedVariables false
set_option linter.unusedSimpArgs false
namespace Go.Proofs.Ytbkbnhdeleoibaa
open Go.RowKit
set_option maxRecDepth 100000 in
theorem begin_nil {w0 : World} {B m : Nat} {bxs : List Nat} {c2 c3 : Value} {ys : List St} {rs : List (List En)} {W : World} (h : MQ w0 B m bxs (.slice none 0 0) c2 c3 (.slice none 0 0) [] ys [] rs W) :
    Calls Try.prog 28 #[.pointer (some ⟨m, 0, none⟩)] W fun r W' => r = .returned (.tuple #[]) ∧ MQ w0 B m bxs (.slice none 0 0) c2 c3 (.slice none 0 0) [] ys [] rs W' ∧ KeepEn W W' := by
  obtain ⟨av, hm, -, -⟩ := h.hm
  have p0 : W.cell? ⟨m, 0, none⟩ = some (.slice none 0 0) := by
    unfold Mb at hm
    rw [cell_of_row _ _ 0 _ _ (0, 0) hm]; rfl
  have f0 : W.frozen? ⟨m, 0, none⟩ = false := frozen_of_row _ _ _ _ _ hm
  have hq := h.c0set (.slice none 0 0)
  have st0 : Stay (fun k => k = m) W (W.setCell ⟨m, 0, none⟩ (.slice none 0 0)) := stay_one _ _ _ _ _ (.refl _ _)
  have hke : KeepEn W (W.setCell ⟨m, 0, none⟩ (.slice none 0 0)) := KeepEn.stay st0 (fun k c f e hc => by
    have h1 := hm
    unfold Mb at h1
    rw [← e, hc] at h1; simp at h1)
  have HH := Hid.mk (And.intro hq hke)
  clear hq hke st0 hm h
  go_enter Try.func28, Try.ntmps28
  go_wp2
  go_loopw [15] (fun tv wr => tv = .int .i64 0 ∧ wr = W.setCell ⟨m, 0, none⟩ (.slice none 0 0)) (fun _ _ => 0)
  case atStart => exact ⟨rfl, rfl⟩
  case round =>
    obtain ⟨rfl, rfl⟩ := hrel
    go_wp2
    go_end0
    exact ⟨rfl, HH.out⟩
/-- A merger that has refused. -/
structure Ref (w0 : World) (B m : Nat) (c2 : Value) (W : World) : Prop where
  below : Below B w0 W
  mb : Mb W m (.slice none 0 0) (.slice none 0 0) c2 (.int .i64 51)
set_option maxRecDepth 100000 in
theorem refuse_any {w0 : World} {B m : Nat} {bxs : List Nat} {c2 c3 lv : Value} {LL ys P : List St} {rs : List (List En)} {W : World} (h : MQ w0 B m bxs (.slice none 0 0) c2 c3 lv LL ys P rs W) :
    Calls Try.prog 30 #[.pointer (some ⟨m, 0, none⟩), .int .i64 51] W fun r W' => r = .returned (.tuple #[]) ∧ Ref w0 B m c2 W' ∧ KeepEn W W' ∧ Stay (fun k => k = m) W W' := by
  obtain ⟨av, hm, hr, -⟩ := h.hm
  obtain ⟨aa, ac, rfl, -⟩ := slice_form hr.own
  have hmlt : m < W.heap.size := (Array.getElem?_eq_some_iff.1 hm).1
  have p3 : W.cell? ⟨m, 3, none⟩ = some c3 := by
    have h1 := hm
    unfold Mb at h1
    rw [cell_of_row _ _ 3 _ _ (0, 0) h1]; rfl
  have f3 : W.frozen? ⟨m, 3, none⟩ = false := frozen_of_row _ _ _ _ _ hm
  obtain ⟨p1, f1⟩ := hm.cell
  have hm1 : (W.setCell ⟨m, 3, none⟩ (.int .i64 51)).heap[m]? = _ := heap_setCell_same W m 3 _ _ _ hm
  have hm2 : ((W.setCell ⟨m, 3, none⟩ (.int .i64 51)).setCell ⟨m, 1, none⟩ (.slice none 0 0)).heap[m]? = _ := heap_setCell_same _ m 1 _ _ _ hm1
  have st : Stay (fun k => k = m) W ((W.setCell ⟨m, 3, none⟩ (.int .i64 51)).setCell ⟨m, 1, none⟩ (.slice none 0 0)) := stay_one _ _ _ _ _ (stay_one _ _ _ _ _ (.refl _ _))
  have fin : Ref w0 B m c2 ((W.setCell ⟨m, 3, none⟩ (.int .i64 51)).setCell ⟨m, 1, none⟩ (.slice none 0 0)) ∧ KeepEn W ((W.setCell ⟨m, 3, none⟩ (.int .i64 51)).setCell ⟨m, 1, none⟩ (.slice none 0 0)) ∧ Stay (fun k => k = m) W ((W.setCell ⟨m, 3, none⟩ (.int .i64 51)).setCell ⟨m, 1, none⟩ (.slice none 0 0)) :=
    ⟨⟨h.below.trans (st.toBelow (fun k hk e => by have := h.mB; omega) (Nat.le_trans h.mB (Nat.le_of_lt hmlt))), hm2⟩, KeepEn.stay st (fun k c f e hc => by
      have h1 := hm
      unfold Mb at h1
      rw [← e, hc] at h1; simp at h1), st⟩
  replace fin := Hid.mk fin
  clear hm hr hm1 hm2 st h hmlt
  go_enter Try.func30, Try.ntmps30
  go_wp2
  go_end0
  exact ⟨rfl, fin.out⟩
/-- Where Next stands ahead of a round. -/
def RN (w0 : World) (B m : Nat) (bxs : List Nat) (bottom : Bool) (ys0 : List St) (rs0 : List (List En)) (W : World) (wr : World) : Prop :=
  KeepEn W wr ∧ ((∃ ys rs, MQ w0 B m bxs (.slice none 0 0) (.bool bottom) (.int .i64 0) (.slice none 0 0) [] ys [] rs wr ∧ ys.length ≤ 1024 ∧ ∀ r ys2 rs2, NextR bottom ys rs r ys2 rs2 → NextR bottom ys0 rs0 r ys2 rs2) ∨
   (Ref w0 B m (.bool bottom) wr ∧ ∃ ys2 rs2, NextR bottom ys0 rs0 .seq ys2 rs2))
theorem AskedAll.len {P ys ys2 : List St} {rs rs2 : List (List En)} (h : AskedAll P ys ys2 rs rs2) : ys2.length ≤ ys.length + P.length := by
  induction h using AskedAll.ind with
  | nil => simp
  | cons h _ ih =>
    have := h.len
    simp only [List.length_cons]
    omega
/-- What Next comes to. -/
def NextO (w0 : World) (B m : Nat) (bxs : List Nat) (bottom : Bool) (ys : List St) (rs : List (List En)) (W : World) (r : Ending) (W' : World) : Prop :=
  KeepEn W W' ∧ ((∃ ys2 rs2, NextR bottom ys rs .none ys2 rs2 ∧ r = .returned (.tuple #[zeroE, .bool false, .int .i64 0]) ∧ MQ w0 B m bxs (.slice none 0 0) (.bool bottom) (.int .i64 0) (.slice none 0 0) [] ys2 [] rs2 W' ∧ ys2.length ≤ 1024) ∨
    (∃ e ys2 rs2, NextR bottom ys rs (.give e) ys2 rs2 ∧ r = .returned (.tuple #[.agg (enC e).toArray, .bool true, .int .i64 0]) ∧ MQ w0 B m bxs (.slice none 0 0) (.bool bottom) (.int .i64 0) (.slice none 0 0) [] ys2 [] rs2 W' ∧ ys2.length ≤ 1024) ∨
    (∃ ys2 rs2, NextR bottom ys rs .seq ys2 rs2 ∧ r = .returned (.tuple #[zeroE, .bool false, .int .i64 51]) ∧ Ref w0 B m (.bool bottom) W'))
theorem put0_at {X : World} {q : Nat} {cur : En} (h : X.heap[q]? = some (.cells (enC cur).toArray 36 (0, 0))) (e : En) (o : Obj) : ((put0 X q e).alloc o).heap[q]? = some (.cells (enC e).toArray 36 (0, 0)) := by
  have h1 : (X.setCell ⟨q, 0, none⟩ (.int .i64 e.v)).heap[q]? = _ := heap_setCell_same X q 0 _ _ _ h
  have h2 : ((X.setCell ⟨q, 0, none⟩ (.int .i64 e.v)).setCell ⟨q, 1, none⟩ (.string e.c)).heap[q]? = _ := heap_setCell_same _ q 1 _ _ _ h1
  have h3 : (((X.setCell ⟨q, 0, none⟩ (.int .i64 e.v)).setCell ⟨q, 1, none⟩ (.string e.c)).setCell ⟨q, 2, none⟩ (.int .i64 e.i)).heap[q]? = _ := heap_setCell_same _ q 2 _ _ _ h2
  have h4 : ((((X.setCell ⟨q, 0, none⟩ (.int .i64 e.v)).setCell ⟨q, 1, none⟩ (.string e.c)).setCell ⟨q, 2, none⟩ (.int .i64 e.i)).setCell ⟨q, 3, none⟩ (.int .i64 e.s)).heap[q]? = _ := heap_setCell_same _ q 3 _ _ _ h3
  have h5 : (put0 X q e).heap[q]? = _ := heap_setCell_same _ q 4 _ _ _ h4
  exact (((Below.refl _ (put0 X q e)).alloc (Nat.le_refl _) o).block q (Array.getElem?_eq_some_iff.1 h5).1).trans h5
theorem keep0 {W X : World} (hk : KeepEn W X) (e : En) : KeepEn W (put0 X W.heap.size e) := fun k c f hW => by
  have hlt : k < W.heap.size := (Array.getElem?_eq_some_iff.1 hW).1
  have h1 := hk k c f hW
  exact ((put0_stay X W.heap.size e).block k (Array.getElem?_eq_some_iff.1 h1).1 (fun e => by omega)).trans h1
theorem Ref.en {w0 : World} {B m q : Nat} {c2 : Value} {W W' : World} {cur : Array Value} {fr : Nat × Nat} (h : Ref w0 B m c2 W) (s : Stay (fun k => k = q) W W') (hq : W.heap[q]? = some (.cells cur 36 fr)) (hB : B ≤ q) : Ref w0 B m c2 W' := by
  have hmlt : m < W.heap.size := (Array.getElem?_eq_some_iff.1 h.mb).1
  have hqm : m ≠ q := fun e => by
    have h1 := h.mb
    unfold Mb at h1
    rw [e, hq] at h1; simp at h1
  have hqs : q < W.heap.size := (Array.getElem?_eq_some_iff.1 hq).1
  exact ⟨h.below.trans (s.toBelow (fun k hk e => by omega) (by omega)), (s.block m hmlt hqm).trans h.mb⟩
theorem Ref.drew {w0 : World} {B m : Nat} {c2 : Value} {W : World} (h : Ref w0 B m c2 W) : Ref w0 B m c2 W.drew := ⟨h.below.drew, h.mb⟩
theorem meas_ref {w0 : World} {B m : Nat} {bxs : List Nat} {c0 c2 c2' c3 lv : Value} {LL ys P : List St} {rs : List (List En)} {W W' : World} (h : MQ w0 B m bxs c0 c2 c3 lv LL ys P rs W) (r : Ref w0 B m c2' W') (s : Stay (fun k => k = m) W W') : measT m bxs W' ≤ totT ys rs := by
  have h1 := h.meas
  unfold measT at h1 ⊢
  have e1 : lenC W' ⟨m, 1, none⟩ = 0 := by unfold lenC; rw [r.mb.cell.1]
  have e2 : (bxs.map fun b => lenC W' ⟨b, 0, none⟩) = bxs.map fun b => lenC W ⟨b, 0, none⟩ := by
    refine List.map_congr_left fun b hb => ?_
    obtain ⟨i, hi, rfl⟩ := List.getElem_of_mem hb
    have hbi : bxs[i]? = some bxs[i] := List.getElem?_eq_getElem hi
    have hr : rs[i]? = some (rs[i]'(by rw [h.len]; exact hi)) := List.getElem?_eq_getElem _
    have hs := h.src i _ _ hbi hr
    obtain ⟨la, lc, hx, -⟩ := hs.ex
    obtain ⟨av, hm, -⟩ := h.hm
    have hne : bxs[i] ≠ m := fun e => by
      have h2 := hm
      unfold Mb at h2
      rw [← e, hx] at h2; simp at h2
    unfold lenC
    rw [World.cell?_of_block (s.block _ hs.lt hne)]
  rw [e1, e2]
  omega
set_option maxHeartbeats 4000000 in
set_option maxRecDepth 100000 in
theorem next_gen {w0 : World} {B m : Nat} {bxs : List Nat} {bottom : Bool} {Q : List St → List (List En) → Prop} {W : World} (hBW : B ≤ W.heap.size)
    (hb : Calls Try.prog 28 #[.pointer (some ⟨m, 0, none⟩)] (W.alloc (.cells #[.int .i64 0, .string ⟨#[]⟩, .int .i64 0, .int .i64 0, .bool false] 36)) fun r W1 => r = .returned (.tuple #[]) ∧ ∃ ys rs, MQ w0 B m bxs (.slice none 0 0) (.bool bottom) (.int .i64 0) (.slice none 0 0) [] ys [] rs W1 ∧ KeepEn (W.alloc (.cells #[.int .i64 0, .string ⟨#[]⟩, .int .i64 0, .int .i64 0, .bool false] 36)) W1 ∧ ys.length ≤ 1024 ∧ Q ys rs) :
    Calls Try.prog 24 #[.pointer (some ⟨m, 0, none⟩)] W fun r W' => ∃ ys rs, Q ys rs ∧ NextO w0 B m bxs bottom ys rs W r W' := by
  have bA : Below W.heap.size W (W.alloc (.cells #[.int .i64 0, .string ⟨#[]⟩, .int .i64 0, .int .i64 0, .bool false] 36)) := (Below.refl _ W).alloc (Nat.le_refl _) _
  have hR0 := heap_alloc_last W (.cells #[.int .i64 0, .string ⟨#[]⟩, .int .i64 0, .int .i64 0, .bool false] 36)
  have hk0 : KeepEn W (W.alloc (.cells #[.int .i64 0, .string ⟨#[]⟩, .int .i64 0, .int .i64 0, .bool false] 36)) := .below bA
  have HH := Hid.mk (And.intro hk0 (And.intro hR0 hBW))
  have hpn : ∀ (W : World), (binOp BinOp.eql 47 (.pointer (some ⟨m, 0, none⟩)) (.pointer none)).run Try.prog W = .ok (.bool false) W := fun W => by kernel_rfl
  clear hR0 bA hBW hk0
  go_enter Try.func24, Try.ntmps24
  go_wp2_with (go_at_call 28; refine hb.mono ?_; clear hb; rintro r W1 ⟨rfl, ys, rs, hq, hke, hy, hQs⟩; replace hy := Hid.mk hy; replace hQs := Hid.mk hQs)
  have hRN : RN w0 B m bxs bottom ys rs W W1 := ⟨HH.out.1.trans hke, .inl ⟨ys, rs, hq, hy.out, fun _ _ _ h => h⟩⟩
  have hR1 : W1.heap[W.heap.size]? = some (.cells (enC e0).toArray 36 (0, 0)) := hke _ _ _ HH.out.2.1
  have H1 := Hid.mk (And.intro hRN (And.intro hR1 HH.out.2.2))
  clear hRN hR1 hq hke HH
  go_loopw [] (fun wr => RN w0 B m bxs bottom ys rs W wr ∧ KeepEn W1 wr) (fun wr => measT m bxs wr)
  case atStart => exact ⟨H1.out.1, .refl _⟩
  case round =>
    obtain ⟨⟨hk, hcase⟩, hk1⟩ := hrel
    have hRr : wr.heap[W.heap.size]? = some (.cells (enC e0).toArray 36 (0, 0)) := hk1 _ _ _ H1.out.2.1
    rcases hcase with ⟨ysA, rsA, hQ, hyl, hN⟩ | ⟨hRef, ys2, rs2, hseq⟩
    · obtain ⟨av, hm, hr, -⟩ := hQ.hm
      obtain ⟨aa, ac, rfl, -⟩ := slice_form hr.own
      have p1 := hm.cell.1
      have p2 : wr.cell? ⟨m, 2, none⟩ = some (.bool bottom) := by
        have h1 := hm
        unfold Mb at h1
        rw [cell_of_row _ _ 2 _ _ (0, 0) h1]; rfl
      have p3 : wr.cell? ⟨m, 3, none⟩ = some (.int .i64 0) := by
        have h1 := hm
        unfold Mb at h1
        rw [cell_of_row _ _ 3 _ _ (0, 0) h1]; rfl
      cases ysA with
      | nil =>
        obtain ⟨⟨x0, x1, x2, x3, x4⟩, xf⟩ := en_cells hRr
        simp only [e0] at x0 x1 x2 x3 x4
        have f0 := xf 0
        have f1 := xf 1
        have f2 := xf 2
        have f3 := xf 3
        have f4 := xf 4
        clear xf
        have fin : NextO w0 B m bxs bottom ys rs W (.returned (.tuple #[zeroE, .bool false, .int .i64 0])) (put0 wr W.heap.size e0).drew := ⟨(keep0 hk e0).trans (.below (b_drew _)), .inl ⟨[], rsA, hN _ _ _ (.done _), rfl, (hQ.en (put0_stay _ _ _) hRr H1.out.2.2).later (b_drew _), Nat.zero_le _⟩⟩
        replace fin := Hid.mk fin
        have hmw : ¬ m = W.heap.size := fun e => by
          have h1 := hm
          unfold Mb at h1
          rw [e, hRr] at h1; simp [enC] at h1
        clear hQ hN hm hr hRr hk hk1 H1 hyl
        go_wp2
        go_region
        go_wp2
        refine bodyPost_ret (v := .tuple #[zeroE, .bool false, .int .i64 0]) (by simp [results, Try.results24, go_sem, x0, x1, x2, x3, x4]; try rfl) rfl ?_
        exact ⟨ys, rs, hQs.out, fin.out⟩
      | cons y yt =>
        have ht := take_any hQ (by simp) hyl
        have hlen : (0 : Int) < ((y :: yt).length : Nat) := by simp only [List.length_cons]; omega
        obtain ⟨n, hn⟩ : ∃ n, n = (y :: yt).length := ⟨_, rfl⟩
        rw [← hn] at p1 hlen
        have HA := Hid.mk (And.intro hQ (And.intro hN (And.intro hk (And.intro hk1 (And.intro hRr hyl)))))
        clear hQ hN hk hk1 hRr hm hr hn hyl
        go_wp2_with fail
        refine ht.mono ?_
        clear ht
        rintro r W4 ⟨hk4, L, ys', hLP, hT⟩
        have hmz := HA.out.1.meas
        rcases hT with ⟨hd, rfl, lv, hq4⟩ | ⟨hnd, a, L', ysB, rsB, ha, rfl, hp, hpw, hka, hq4⟩
        · have bL : Below W4.heap.size W4 (W4.alloc (.cells (enC e0).toArray 36)) := (Below.refl _ W4).alloc (Nat.le_refl _) _
          have hrf := refuse_any (hq4.later bL)
          simp only [enC, e0] at hrf
          simp only [zeroE]
          have HD := Hid.mk (And.intro hd (And.intro hLP (And.intro hk4 (And.intro (hq4.later bL) bL))))
          clear hd hLP hk4 hq4 bL
          go_wp2_with (go_at_call 30; refine hrf.mono ?_; clear hrf; rintro r W5 ⟨rfl, q1, q2, q3⟩)
          obtain ⟨hd, hLP, hk4, hqL, bL⟩ := HD.out
          have kk : KeepEn wr W5 := hk4.trans ((KeepEn.below bL).trans q2)
          refine ⟨⟨⟨HA.out.2.2.1.trans kk, .inr ⟨q1, _, _, HA.out.2.1 _ _ _ (.dup hLP hd)⟩⟩, HA.out.2.2.2.1.trans kk⟩, ?_⟩
          have := meas_ref hqL q1 q3
          have := hLP.tot rsA
          omega
        · have bL : Below W4.heap.size W4 (W4.alloc (.cells (enC a.e).toArray 36)) := (Below.refl _ W4).alloc (Nat.le_refl _) _
          have hqL := hq4.later bL
          have kk : KeepEn wr (W4.alloc (.cells (enC a.e).toArray 36)) := hk4.trans (.below bL)
          have hRL : (W4.alloc (.cells (enC a.e).toArray 36)).heap[W.heap.size]? = some (.cells (enC e0).toArray 36 (0, 0)) := kk _ _ _ HA.out.2.2.2.2.1
          obtain ⟨avL, hmL, -⟩ := id hqL.hm
          have r2 : (W4.alloc (.cells (enC a.e).toArray 36)).cell? ⟨m, 2, none⟩ = some (.bool bottom) := by
            have h1 := hmL
            unfold Mb at h1
            rw [cell_of_row _ _ 2 _ _ (0, 0) h1]; rfl
          obtain ⟨⟨z0, z1, z2, z3, z4⟩, -⟩ := en_cells (heap_alloc_last W4 (.cells (enC a.e).toArray 36))
          have htot := hka.tot
          have hlp := hLP.tot rsA
          have hlB : ysB.length ≤ 1024 := by
            have h1 := hka.len
            have h2 := hp.length_eq
            have h3 := hLP.perm.length_eq
            have h4 := HA.out.2.2.2.2.2
            rw [List.length_append] at h3
            omega
          cases hd : (a.e.d && bottom) with
          | false =>
            obtain ⟨⟨x0, x1, x2, x3, x4⟩, xf⟩ := en_cells (hk4 _ _ _ HA.out.2.2.2.2.1)
            simp only [e0] at x0 x1 x2 x3 x4
            have f0 := xf 0
            have f1 := xf 1
            have f2 := xf 2
            have f3 := xf 3
            have f4 := xf 4
            have bY : Below (put0 W4 W.heap.size a.e).heap.size (put0 W4 W.heap.size a.e) ((put0 W4 W.heap.size a.e).alloc (.cells (enC a.e).toArray 36)) := (Below.refl _ _).alloc (Nat.le_refl _) _
            have fin : NextO w0 B m bxs bottom ys rs W (.returned (.tuple #[.agg (enC a.e).toArray, .bool true, .int .i64 0])) ((put0 W4 W.heap.size a.e).alloc (.cells (enC a.e).toArray 36)) := ⟨(keep0 (HA.out.2.2.1.trans hk4) a.e).trans (.below bY), .inr (.inl ⟨a.e, ysB, rsB, HA.out.2.1 _ _ _ (.give hLP hnd ha hp hka hd), rfl, (hq4.en (put0_stay _ _ _) (hk4 _ _ _ HA.out.2.2.2.2.1) H1.out.2.2).later bY, hlB⟩)⟩
            unfold put0 at fin
            simp only [enC] at fin
            clear bY
            replace fin := Hid.mk fin
            obtain ⟨av4, hm4, -⟩ := id hq4.hm
            have r4 : W4.cell? ⟨m, 2, none⟩ = some (.bool bottom) := by
              have h1 := hm4
              unfold Mb at h1
              rw [cell_of_row _ _ 2 _ _ (0, 0) h1]; rfl
            have hml4 : m < W4.heap.size := (Array.getElem?_eq_some_iff.1 hm4).1
            clear hm4
            have hlt4 : W.heap.size < W4.heap.size := by
              have := (Array.getElem?_eq_some_iff.1 (hk4 _ _ _ HA.out.2.2.2.2.1)).1
              exact this
            simp only [enC] at r2 z0 z1 z2 z3 z4 x0 x1 x2 x3 x4 f0 f1 f2 f3 f4
            have hYh := Hid.mk (fun (e : En) (o : Obj) => put0_at (hk4 _ _ _ HA.out.2.2.2.2.1) e o)
            clear r2 z0 z1 z2 z3 z4 xf hRL kk hqL bL hk4 hq4 hka hp hpw ha hnd hLP hmL HA hlp htot hlB hmz
            cases hD : a.e.d with
            | false =>
              simp only [enC]
              go_wp2
              rw [hD] at fin
              have hYc := hYh.out ⟨a.e.v, a.e.c, a.e.i, a.e.s, false⟩ (.cells #[.int .i64 a.e.v, .string a.e.c, .int .i64 a.e.i, .int .i64 a.e.s, .bool false] 36)
              obtain ⟨⟨d0, d1, d2, d3, d4⟩, -⟩ := en_cells hYc
              unfold put0 at d0 d1 d2 d3 d4
              dsimp only at d0 d1 d2 d3 d4
              generalize ((((((W4.setCell ⟨W.heap.size, 0, none⟩ (.int .i64 a.e.v)).setCell ⟨W.heap.size, 1, none⟩ (.string a.e.c)).setCell ⟨W.heap.size, 2, none⟩ (.int .i64 a.e.i)).setCell ⟨W.heap.size, 3, none⟩ (.int .i64 a.e.s)).setCell ⟨W.heap.size, 4, none⟩ (.bool false)).alloc (.cells #[.int .i64 a.e.v, .string a.e.c, .int .i64 a.e.i, .int .i64 a.e.s, .bool false] 36)) = Y at *
              clear x0 x1 x2 x3 x4 f0 f1 f2 f3 f4
              refine bodyPost_ret (v := .tuple #[.agg #[.int .i64 a.e.v, .string a.e.c, .int .i64 a.e.i, .int .i64 a.e.s, .bool false], .bool true, .int .i64 0]) (by simp [results, Try.results24, go_sem, d0, d1, d2, d3, d4]; try rfl) rfl ?_
              exact ⟨ys, rs, hQs.out, fin.out⟩
            | true =>
              have hbo : bottom = false := by rw [hD] at hd; simpa using hd
              rw [hbo] at r4
              simp only [enC]
              go_wp2
              rw [hD] at fin
              have hYc := hYh.out ⟨a.e.v, a.e.c, a.e.i, a.e.s, true⟩ (.cells #[.int .i64 a.e.v, .string a.e.c, .int .i64 a.e.i, .int .i64 a.e.s, .bool true] 36)
              obtain ⟨⟨d0, d1, d2, d3, d4⟩, -⟩ := en_cells hYc
              unfold put0 at d0 d1 d2 d3 d4
              dsimp only at d0 d1 d2 d3 d4
              generalize ((((((W4.setCell ⟨W.heap.size, 0, none⟩ (.int .i64 a.e.v)).setCell ⟨W.heap.size, 1, none⟩ (.string a.e.c)).setCell ⟨W.heap.size, 2, none⟩ (.int .i64 a.e.i)).setCell ⟨W.heap.size, 3, none⟩ (.int .i64 a.e.s)).setCell ⟨W.heap.size, 4, none⟩ (.bool true)).alloc (.cells #[.int .i64 a.e.v, .string a.e.c, .int .i64 a.e.i, .int .i64 a.e.s, .bool true] 36)) = Y at *
              clear x0 x1 x2 x3 x4 f0 f1 f2 f3 f4
              refine bodyPost_ret (v := .tuple #[.agg #[.int .i64 a.e.v, .string a.e.c, .int .i64 a.e.i, .int .i64 a.e.s, .bool true], .bool true, .int .i64 0]) (by simp [results, Try.results24, go_sem, d0, d1, d2, d3, d4]; try rfl) rfl ?_
              exact ⟨ys, rs, hQs.out, fin.out⟩
          | true =>
            have hD : a.e.d = true ∧ bottom = true := by simpa using hd
            have fin : (RN w0 B m bxs bottom ys rs W (W4.alloc (.cells (enC a.e).toArray 36)) ∧ KeepEn W1 (W4.alloc (.cells (enC a.e).toArray 36))) ∧ measT m bxs (W4.alloc (.cells (enC a.e).toArray 36)) < measT m bxs wr := by
              refine ⟨⟨⟨HA.out.2.2.1.trans kk, .inl ⟨ysB, rsB, hqL, hlB, fun r1 y1 q1 hn => HA.out.2.1 _ _ _ (.skip hLP hnd ha hp hka hd hn)⟩⟩, HA.out.2.2.2.1.trans kk⟩, ?_⟩
              rw [hqL.meas, htot, hmz]
              exact hlp
            replace fin := Hid.mk fin
            rw [hD.1] at z4
            rw [hD.2] at r2
            simp only [enC] at r2 z0 z1 z2 z3 z4
            clear hRL kk hqL bL hk4 hq4 hka hp hpw ha hnd hLP hmL HA hlp htot hlB hmz hd hD
            simp only [enC]
            go_wp2
            exact fin.out
    · obtain ⟨⟨x0, x1, x2, x3, x4⟩, xf⟩ := en_cells hRr
      simp only [e0] at x0 x1 x2 x3 x4
      have f0 := xf 0
      have f1 := xf 1
      have f2 := xf 2
      have f3 := xf 3
      have f4 := xf 4
      clear xf
      have p1 := hRef.mb.cell.1
      have hmw : ¬ m = W.heap.size := fun e => by
        have h1 := hRef.mb
        unfold Mb at h1
        rw [e, hRr] at h1; simp [enC] at h1
      have p3 : wr.cell? ⟨m, 3, none⟩ = some (.int .i64 51) := by
        have h1 := hRef.mb
        unfold Mb at h1
        rw [cell_of_row _ _ 3 _ _ (0, 0) h1]; rfl
      have fin : NextO w0 B m bxs bottom ys rs W (.returned (.tuple #[zeroE, .bool false, .int .i64 51])) (put0 wr W.heap.size e0).drew := ⟨(keep0 hk e0).trans (.below (b_drew _)), .inr (.inr ⟨ys2, rs2, hseq, rfl, (hRef.en (put0_stay _ _ _) hRr H1.out.2.2).drew⟩)⟩
      replace fin := Hid.mk fin
      clear hRef hRr hk hk1 H1 hseq
      go_wp2
      go_region
      go_wp2
      refine bodyPost_ret (v := .tuple #[zeroE, .bool false, .int .i64 51]) (by simp [results, Try.results24, go_sem, x0, x1, x2, x3, x4]; try rfl) rfl ?_
      exact ⟨ys, rs, hQs.out, fin.out⟩
theorem next_any {w0 : World} {B m : Nat} {bxs : List Nat} {bottom : Bool} {ys : List St} {rs : List (List En)} {W : World} (h : MQ w0 B m bxs (.slice none 0 0) (.bool bottom) (.int .i64 0) (.slice none 0 0) [] ys [] rs W) (hy : ys.length ≤ 1024) :
    Calls Try.prog 24 #[.pointer (some ⟨m, 0, none⟩)] W fun r W' => NextO w0 B m bxs bottom ys rs W r W' := by
  have bA : Below W.heap.size W (W.alloc (.cells #[.int .i64 0, .string ⟨#[]⟩, .int .i64 0, .int .i64 0, .bool false] 36)) := (Below.refl _ W).alloc (Nat.le_refl _) _
  have hBW : B ≤ W.heap.size := by
    obtain ⟨av, hm, -⟩ := h.hm
    have h2 : m < W.heap.size := (Array.getElem?_eq_some_iff.1 hm).1
    have := h.mB
    omega
  refine (next_gen (Q := fun a b => a = ys ∧ b = rs) hBW ((begin_nil (h.later bA)).mono fun r W1 ⟨e, h1, h2⟩ => ⟨e, ys, rs, h1, h2, hy, rfl, rfl⟩)).mono ?_
  rintro r W' ⟨a, b, ⟨rfl, rfl⟩, hO⟩
  exact hO
end Go.Proofs.Ytbkbnhdeleoibaa
