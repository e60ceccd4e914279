/-
  DERIVED. A search, for every tree.
-/
import Derived.Test.YtnnbcdfpbdmgdaaDoorTSea3
set_option linter.unusedVariables false
set_option linter.unusedSimpArgs false
namespace Go.Proofs.YtnnbcdfpbdmgdaaDoor
open Go.RowKit Go.Maps Go.Sort Go.Proofs.BitMath Go.Proofs.TreeMath
theorem Tab.stay {w w' : World} {F : Nat → Prop} (h : Tab w) (s : Stay F w w') (h0 : ¬ F 0) : Tab w' := fun i hi => by
  have hl := World.block_lt_of_cell? w _ (h i hi)
  have := s.block 0 hl h0
  have h2 := h i hi
  unfold World.cell? at h2 ⊢
  rw [this]; exact h2
/-- What a search answers. -/
def SeaO {n : Nat} (B : Nat) (W : World) (t wd k b0 : Nat) (q : Cd n) (T : List (Nd (Cd n))) (bs : List Nat) (ms : List (Option Nat)) (x : Num) (L0 : List St) (r : Ending) (w' : World) : Prop :=
  ∃ v V, r = .returned v ∧ Run T (dqf T q) (bdV T k b0 q) wd L0 [] [] V ∧ SI dC T q (bdV T k b0 q) V [] ∧
    w'.ownsRow B 36 3 v (hitsR (RL q (lvc T V) b0 (bdV T k b0 q V)) (b0 + 1)).length ((hitsR (RL q (lvc T V) b0 (bdV T k b0 q V)) (b0 + 1)).flatMap hV) ∧
    TR w' t wd T bs ms { x with looked := lkN x.looked V.length } ∧ Stay (fun j => j = t ∨ B ≤ j) W w'
theorem lkN_zero {a : Int} (h : (Lit.int .i64 a).wf = true) : lkN a 0 = a := by
  have e1 : IntKind.i64.min = -9223372036854775808 := rfl
  have e2 : IntKind.i64.max = 9223372036854775807 := rfl
  simp [Lit.wf, e1, e2] at h
  unfold lkN
  rw [IntKind.wrap_i64]
  push_cast
  omega
theorem SS.start {n : Nat} {B : Nat} {W w2 : World} {t wd g cb k b0 : Nat} {q : Cd n} {T : List (Nd (Cd n))} {bs : List Nat} {ms : List (Option Nat)} {x : Num} {wv0 : Value} {vs0 : List Value} {o : Obj} (hk1 : 1 ≤ k) (h : TR W t wd T bs ms x) (hT : 0 < T.length) (hf : FB B W g cb k b0 0 (RL q [] b0 b0) vs0) (hB : B ≤ W.heap.size) (htb : ∀ j, TFoot t bs ms j → j < B) (hr : w2.ownsRow B 91 3 wv0 1 (stV bs ⟨0, 0, 0⟩)) (hg : ((W.alloc (.cells #[.pointer (some ⟨g, 0, none⟩)] 77)).alloc o).grownBy w2 none) :
    SS B W w2 t wd g cb W.heap.size k b0 q T bs ms x [⟨0, 0, 0⟩] [] [⟨0, 0, 0⟩] wv0 0 vs0 := by
  have bA : Below W.heap.size W ((W.alloc (.cells #[.pointer (some ⟨g, 0, none⟩)] 77)).alloc o) := ((Below.refl _ W).alloc (Nat.le_refl _) _).alloc (by simp) _
  have s2 : Stay (fun _ => False) ((W.alloc (.cells #[.pointer (some ⟨g, 0, none⟩)] 77)).alloc o) w2 := .grown hg (fun k hk => by cases hk)
  have b2 : Below W.heap.size W w2 := bA.trans (s2.toBelow (fun _ _ hh => hh) bA.size)
  have hl0 : bdV T k b0 q [] = b0 := by
    unfold bdV bdM
    exact lower_few _ _ (by simp [lvc, dqs]; omega)
  refine ⟨?_, ?_, by simpa using hr, ?_, SI.start h.wf q _ hT, .refl _ _, (Stay.below b2)⟩
  · rw [List.length_nil, lkN_zero h.lk]
    exact h.below b2
  · rw [hl0]
    exact (hf.fx.kept (F := fun _ => False) (.below b2) (fun _ _ hh => hh)).fb hf.cnt
  · have h1 : ((W.alloc (.cells #[.pointer (some ⟨g, 0, none⟩)] 77)).alloc o).heap[W.heap.size]? = some (.cells #[.pointer (some ⟨g, 0, none⟩)] 77 (0, 0)) := by
      rw [Below.heap_alloc _ _ _ (by simp)]
      exact Array.getElem?_push_size
    exact (s2.block W.heap.size (by simp; omega) (fun hh => hh)).trans h1
theorem meas_lt {Tn : Nat} {V : List Nat} {s : Nat} {L L2 : List St} {x : St} {a b : Nat} (h1 : a ≤ (Tn - (V ++ [s]).length) * (2 * Tn + 1) + L2.length) (h2 : b = (Tn - V.length) * (2 * Tn + 1) + (L ++ [x]).length) (h3 : (V ++ [s]).length ≤ Tn) (h4 : L2.length ≤ Tn) : a < b := by
  rw [List.length_append, List.length_singleton] at h1 h2 h3
  obtain ⟨A, hA⟩ : ∃ A, Tn - V.length = A + 1 := ⟨Tn - V.length - 1, by omega⟩
  rw [show Tn - (V.length + 1) = A by omega] at h1
  rw [hA, Nat.succ_mul] at h2
  generalize A * (2 * Tn + 1) = Z at *
  omega
/-- At the end. -/
theorem SS.fin {n : Nat} {B : Nat} {W wr w' : World} {t wd g cb bf k b0 : Nat} {q : Cd n} {T : List (Nd (Cd n))} {bs : List Nat} {ms : List (Option Nat)} {x : Num} {L0 : List St} {V : List Nat} {wv : Value} {cnt : Nat} {vs : List Value} (h : SS B W wr t wd g cb bf k b0 q T bs ms x L0 V [] wv cnt vs) (htb : ∀ j, TFoot t bs ms j → j < B) (hB : B ≤ wr.heap.size) {v : Value}
    (hr : w'.ownsRow wr.heap.size 36 3 v (hitsR (RL q (lvc T V) b0 (bdV T k b0 q V)) vs.length).length ((hitsR (RL q (lvc T V) b0 (bdV T k b0 q V)) vs.length).flatMap hV)) (b : Below B wr w') : SeaO B W t wd k b0 q T bs ms x L0 (.returned v) w' := by
  have hvl : vs.length = b0 + 1 := by rw [← h.fb.len, RL_len]
  rw [hvl] at hr
  have st : Stay (fun j => B ≤ j) wr w' := ⟨b.os, b.tape, b.output, b.size, fun i hi hn => b.block i (by omega)⟩
  exact ⟨v, V, rfl, h.run, h.si, own_low hr hB, h.tr.kept st (fun j hj e => by have := htb j hj; omega), h.st.andThen st (fun j _ e => .inr e)⟩
set_option maxHeartbeats 4000000 in
set_option maxRecDepth 100000 in
theorem search_some {n t wd : Nat} {T : List (Nd (Cd n))} {bs : List Nat} {ms : List (Option Nat)} {x : Num} (B g cb k b0 : Nat) (q : Cd n) (vs0 : List Value) (W : World) (h : TR W t wd T bs ms x) (hT : 0 < T.length) (ht : Tab W) (htp : 0 < t) (hB0 : 0 < B) (hB : B ≤ W.heap.size) (htb : ∀ j, TFoot t bs ms j → j < B) (hk1 : 1 ≤ k) (hk2 : k ≤ 9223372036854775807) (hb0 : b0 ≤ 8192)
    (hf : FB B W g cb k b0 0 (RL q [] b0 b0) vs0) (hsm : T.length < 1099511627776) :
    Calls Tryd.prog 40 #[.pointer (some ⟨t, 0, none⟩), .string q.1, .pointer (some ⟨g, 0, none⟩)] W (SeaO B W t wd k b0 q T bs ms x [⟨0, 0, 0⟩]) := by
  obtain ⟨t0, t1, t2, t3, t4, t5⟩ := h.cell
  rw [if_neg (by omega), info_pn] at t1
  obtain ⟨i0, hi, hz0, hz1, hz2⟩ := info_parts infSt
  have htl : t < W.heap.size := h.lt (.inl rfl)
  have HT := Hid.mk (And.intro h (And.intro ht hf))
  clear h ht hf
  go_enter Tryd.func40, Tryd.ntmps40
  go_wp2_with (first
    | (at_builtin; refine wpList_append_own _ rfl _ _ 96 rfl B 91 i0 (.agg #[.pointer none, .int .i64 0, .int .i64 0]) 3 24 Tryd.underlying96 hi hz0 hz1 hz2 rfl (by decide) _ 0 [] rfl ⟨rfl, .inl ⟨rfl, rfl⟩⟩ ⟨W.heap.size + 1, 0, none⟩ 1 1 (stV bs ⟨0, 0, 0⟩) rfl rfl (fun j u hu => ?newc) (stV_one bs _) (by decide) (by decide) (by simp; omega) ?_; rotate_left 1; intro wv0 w2 hr2 hg2 hnil2)
    | go_in)
  case newc =>
    have := cells_newS (W.alloc (.cells #[.pointer (some ⟨g, 0, none⟩)] 77)) bs ⟨0, 0, 0⟩ 91 j u hu
    simpa using this
  have H0 := Hid.mk (SS.start hk1 HT.out.1 hT HT.out.2.2 hB htb (by simpa using hr2) hg2)
  obtain ⟨bf, hbf⟩ : ∃ bf, bf = W.heap.size := ⟨_, rfl⟩
  have hbB : B ≤ bf := by rw [hbf]; exact hB
  rw [← hbf] at H0 ⊢
  clear hbf
  obtain ⟨μ, hμ1, hμ2⟩ := least (fun (a : Value × World) m => ∃ V L cnt vs, SS B W a.2 t wd g cb bf k b0 q T bs ms x [⟨0, 0, 0⟩] V L a.1 cnt vs ∧ m = (T.length - V.length) * (2 * T.length + 1) + L.length)
  have H1 := Hid.mk hμ1
  have H2 := Hid.mk hμ2
  have n8 : n ≤ 128 := by have := isW_bd HT.out.1.wid; have := HT.out.1.eight; omega
  have hwf := HT.out.1.wf
  have HW := Hid.mk hwf
  clear hr2 hg2 hnil2 hμ1 hμ2 hwf t0 t1 t2 t3 t4 t5
  go_loopw [8] (fun wv wr => ∃ V L cnt vs, SS B W wr t wd g cb bf k b0 q T bs ms x [⟨0, 0, 0⟩] V L wv cnt vs) (fun wv wr => μ (wv, wr))
  case atStart => exact ⟨[], [⟨0, 0, 0⟩], 0, vs0, H0.out⟩
  case round =>
    obtain ⟨wz, hwz⟩ : ∃ wz, wz = wr := ⟨_, rfl⟩
    subst hwz
    obtain ⟨V, L, cnt, vs, hss, hm⟩ := H2.out (u8, wz) (by obtain ⟨V, L, cnt, vs, h⟩ := hrel; exact ⟨_, V, L, cnt, vs, h, rfl⟩)
    clear hrel
    dsimp only at hss
    have hVl := hss.si.count
    have hLl := SI.lle hss.si
    have hvl := lvc_len T V
    have hszz := hss.st.size
    rcases List.eq_nil_or_concat L with rfl | ⟨L', s, rfl⟩
    · obtain ⟨g4, c4, rfl⟩ : ∃ g4 c4, u8 = .slice g4 0 c4 := by
        rcases hss.row.2 with ⟨rfl, _⟩ | ⟨g', cap, cur, rfl, _⟩
        · exact ⟨_, _, rfl⟩
        · exact ⟨_, _, rfl⟩
      have hcnt : cnt ≤ 1099511627776 := by
        have := hss.fb.cnt
        rw [RL_sum q (lvc T V) (bdV_le T k b0 q V)] at this
        have h2 := lc_le (dqs q (lvc T V)) (bdV T k b0 q V + 1)
        have h3 : (dqs q (lvc T V)).length = (lvc T V).length := by simp [dqs]
        omega
      have hvsl : vs.length ≤ 8193 := by rw [← hss.fb.len, RL_len]; omega
      have hhits := hits_any B g cb k _ cnt _ vs wz hss.fb (by omega) hcnt hvsl
      have hbx : wz.cell? ⟨bf, 0, none⟩ = some (.pointer (some ⟨g, 0, none⟩)) := by simp [World.cell?, hss.box]
      have HS := Hid.mk hss
      clear hss hm
      go_wp2_with (go_at_call 58; refine hhits.mono ?_; rintro e w' ⟨v, rfl, hr', b'⟩)
      go_ret
      exact HS.out.fin htb (by omega) hr' b'
    · rw [List.concat_eq_append] at *
      obtain ⟨g4, c4, hu8, hcap, x0, x1, x2, hrow'⟩ := row_last3 hss.row
      subst hu8
      have hok := hss.si.ok s (by simp)
      obtain ⟨hse, hsp⟩ := Ok.bd HW.out hok n8
      have hsT := hok.lt
      obtain ⟨nd, hnd⟩ : ∃ nd, T[s.node]? = some nd := ⟨_, List.getElem?_eq_getElem hsT⟩
      obtain ⟨b, m, hbb, hmm, hgd, q0, q1, q2, qf, hbl⟩ := hss.tr.at_ hnd
      have e1 : ptr bs (some s.node) = .pointer (some ⟨b, 0, none⟩) := by rw [info_pn, hgd]
      rw [e1] at x0
      have hlL : L'.length + 1 ≤ T.length := by simpa using hLl
      have wr1 : IntKind.i64.wrap ((((L'.length + 1 : Nat) : Int)) - 1) = (L'.length : Int) := by
        rw [show (((L'.length + 1 : Nat) : Int)) - 1 = (L'.length : Int) by omega]
        exact i64_in _ (by omega) (by omega)
      have hbx : wz.cell? ⟨bf, 0, none⟩ = some (.pointer (some ⟨g, 0, none⟩)) := by simp [World.cell?, hss.box]
      have hbd := hss.fb.fx.cell.2.1
      have hbdl : bdV T k b0 q V ≤ 8192 := Nat.le_trans (bdV_le T k b0 q V) hb0
      obtain ⟨bd, hbdq⟩ : ∃ bd, bd = bdV T k b0 q V := ⟨_, rfl⟩
      rw [← hbdq] at hbd hbdl
      have hmay := fun w h3 h4 => may_any (some ⟨b, 0, none⟩) s.edge s.par bd bf g hse hsp hbdl w h3 h4 s.node
      have HM := Hid.mk hmay
      have HS := Hid.mk (And.intro hss (And.intro hrow' (And.intro hbdq (And.intro hnd (And.intro hbb (And.intro hmm hm))))))
      obtain ⟨y5, tf⟩ : wz.cell? ⟨t, 5, none⟩ = some (.int .i64 (lkN x.looked V.length)) ∧ ∀ k, wz.frozen? ⟨t, k, none⟩ = false := ⟨hss.tr.cell.2.2.2.2.2, hss.tr.frz⟩
      clear hmay hss hrow' hbdq hm hok
      go_wp2_with fail
      have b1 : Below wz.heap.size wz (wz.alloc (.cells #[.pointer (some ⟨b, 0, none⟩), .int .i64 (s.edge : Nat), .int .i64 (s.par : Nat)] 91)) := (Below.refl _ wz).alloc (Nat.le_refl _) _
      have z0 : (wz.alloc (.cells #[.pointer (some ⟨b, 0, none⟩), .int .i64 (s.edge : Nat), .int .i64 (s.par : Nat)] 91)).cell? ⟨wz.heap.size, 0, none⟩ = some (.pointer (some ⟨b, 0, none⟩)) := by go_simp
      refine (HM.out _ (cell_lat b1 hbx) (cell_lat b1 hbd)).mono ?_
      rintro e' w2 ⟨rfl, b2⟩
      have b12 := chain b1 b2 (Nat.le_refl _)
      replace z0 := cell_lat b2 z0
      by_cases hmy : may bd ⟨s.node, s.edge, s.par⟩
      · rw [decide_eq_true hmy]
        have s3 := HS.out.1.take (b := b) (e := s.edge) (p := s.par) HS.out.2.1 htb (by omega) hbB b2
        have y52 := cell_lat b12 y5
        have tf2 : w2.frozen? ⟨t, 5, none⟩ = false := ((HS.out.1.tr.below b12).frz 5)
        have hlk : IntKind.i64.wrap (lkN x.looked V.length + 1) = lkN x.looked (V.length + 1) := lkN_succ _ _
        obtain ⟨w3, hw3⟩ : ∃ w3, w3 = w2.setCell ⟨t, 5, none⟩ (.int .i64 (lkN x.looked (V.length + 1))) := ⟨_, rfl⟩
        rw [← hw3] at s3
        obtain ⟨u3, u0⟩ := s3.c3
        obtain ⟨b', m', hb', hm', -, p0, p1, p2, -, -⟩ := s3.tr.at_ HS.out.2.2.2.1
        rw [HS.out.2.2.2.2.1] at hb'
        cases hb'
        rw [HS.out.2.2.2.2.2.1] at hm'
        cases hm'
        have htab3 : Tab w3 := HT.out.2.1.stay s3.st (by omega)
        have hdist := distance_yes nd.code.1 q.1 w3 (by rw [nd.code.2]; omega) (by rw [nd.code.2, q.2]) htab3
        rw [show wt (xorL nd.code.1.data.toList q.1.data.toList) = dC nd.code q from rfl] at hdist
        have hw3s : w2.heap.size ≤ w3.heap.size := by rw [hw3]; simp
        have HS3 := Hid.mk (And.intro s3 (And.intro u3 (And.intro u0 (And.intro p0 (And.intro p1 p2)))))
        have q02 := cell_lat b12 q0
        have hbt : b ≠ t := (HS.out.1.tr.tn (List.mem_of_getElem? HS.out.2.2.2.2.1)).1
        have hzt : wz.heap.size ≠ t := by omega
        have htz : t ≠ wz.heap.size := by omega
        have htb2 : t ≠ b := fun e => hbt e.symm
        clear s3 b1 b2 x0 x1 x2 q0 q1 q2 qf hbx hbd y5 tf htab3 u3 u0 p0 p1 p2
        go_wp2_with fail
        rw [← hw3]
        refine hdist.mono ?_
        rintro e4 w4 ⟨rfl, d4⟩
        have s4 := HS3.out.1.drewN (d4.below _)
        obtain ⟨z3, z0⟩ := s4.c3
        obtain ⟨b', m', hb', hm', -, z4, p1, p2, -, -⟩ := s4.tr.at_ HS.out.2.2.2.1
        rw [HS.out.2.2.2.2.1] at hb'
        cases hb'
        rw [HS.out.2.2.2.2.2.1] at hm'
        cases hm'
        have hsz4 : wz.heap.size ≤ w4.heap.size := Nat.le_trans b12.size (Nat.le_trans hw3s (d4.below 0).size)
        have hLT : L'.length ≤ T.length := by omega
        cases hlv : nd.live with
        | true =>
          rw [hlv] at p1
          have hadd := fun W' (dW : Drew w4 W') => (s4.drewN (dW.below _)).addc htb (by have := (dW.below 0).size; omega) hb0 hk1 hk2 HS.out.2.2.2.1 HS.out.2.2.2.2.1 (by omega)
          have HADD := Hid.mk hadd
          have HS4 := Hid.mk s4
          clear hadd s4 hdist
          go_wp2_with fail
          refine wp_region_held_drew (S := fun w' => w'.cell? ⟨bf, 0, none⟩ = some (.pointer (some ⟨g, 0, none⟩)) ∧ w'.cell? ⟨wz.heap.size, 0, none⟩ = some (.pointer (some ⟨b, 0, none⟩)) ∧ w'.cell? ⟨b, 0, none⟩ = some (.string nd.code.1)) (by kernel_rfl) ?_ (fun hHeld => ?_)
          · exact ⟨z3, z0, z4⟩
          refine wpAnyH_take (i := 0) (oi := { dst := some 66, op := Op.load 77 (Operand.tmp 5), type := 77, pos := "search.go:37", after := #[], guard := none }) (v := ?va0) rfl (by kernel_rfl) (by kernel_rfl) (by kernel_rfl) (fun _ _ _ h => h) (Or.inl ⟨by rfl, ?ha0⟩) (by assumption) ?ra0
          case ha0 => (intro w0 hSw; (try dsimp only at hSw); go_simp; try (with_reducible rfl))
          simp only [Act.put, List.setIfInBounds_toArray, List.set_cons_zero, List.set_cons_succ]
          refine wpAnyH_take (i := 1) (oi := { dst := some 67, op := Op.move (Operand.tmp 10), type := 3, pos := "search.go:37", after := #[], guard := none }) (v := ?va1) rfl (by kernel_rfl) (by kernel_rfl) (by kernel_rfl) (fun _ _ _ h => h) (Or.inl ⟨by rfl, ?ha1⟩) (by assumption) ?ra1
          case ha1 => (intro w0 hSw; (try dsimp only at hSw); go_simp; try (with_reducible rfl))
          simp only [Act.put, List.setIfInBounds_toArray, List.set_cons_zero, List.set_cons_succ]
          refine wpAnyH_take (i := 2) (oi := { dst := some 68, op := Op.fieldAddr 91 (Operand.tmp 9) 0, type := 0, pos := "search.go:37", after := #[], guard := none }) (v := ?va2) rfl (by kernel_rfl) (by kernel_rfl) (by kernel_rfl) (fun _ _ _ h => h) (Or.inl ⟨by rfl, ?ha2⟩) (by assumption) ?ra2
          case ha2 => (intro w0 hSw; (try dsimp only at hSw); go_simp; try (with_reducible rfl))
          simp only [Act.put, List.setIfInBounds_toArray, List.set_cons_zero, List.set_cons_succ]
          refine wpAnyH_take (i := 3) (oi := { dst := some 69, op := Op.load 62 (Operand.tmp 68), type := 62, pos := "search.go:37", after := #[{ on := 2, ground := Ground.data }], guard := none }) (v := ?va3) rfl (by kernel_rfl) (by kernel_rfl) (by kernel_rfl) (fun _ _ _ h => h) (Or.inl ⟨by rfl, ?ha3⟩) (by assumption) ?ra3
          case ha3 => (intro w0 hSw; (try dsimp only at hSw); go_simp; try (with_reducible rfl))
          simp only [Act.put, List.setIfInBounds_toArray, List.set_cons_zero, List.set_cons_succ]
          refine wpAnyH_take (i := 4) (oi := { dst := some 70, op := Op.nilCheck (Operand.tmp 69), type := 0, pos := "search.go:37", after := #[{ on := 3, ground := Ground.data }], guard := none }) (v := ?va4) rfl (by kernel_rfl) (by kernel_rfl) (by kernel_rfl) (fun _ _ _ h => h) (Or.inl ⟨by rfl, ?ha4⟩) (by assumption) ?ra4
          case ha4 => (intro w0 hSw; (try dsimp only at hSw); go_simp; try (with_reducible rfl))
          simp only [Act.put, List.setIfInBounds_toArray, List.set_cons_zero, List.set_cons_succ]
          refine wpAnyH_take (i := 5) (oi := { dst := some 71, op := Op.fieldAddr 73 (Operand.tmp 70) 0, type := 0, pos := "search.go:37", after := #[{ on := 4, ground := Ground.data }], guard := none }) (v := ?va5) rfl (by kernel_rfl) (by kernel_rfl) (by kernel_rfl) (fun _ _ _ h => h) (Or.inl ⟨by rfl, ?ha5⟩) (by assumption) ?ra5
          case ha5 => (intro w0 hSw; (try dsimp only at hSw); go_simp; try (with_reducible rfl))
          simp only [Act.put, List.setIfInBounds_toArray, List.set_cons_zero, List.set_cons_succ]
          refine wpAnyH_take (i := 6) (oi := { dst := some 72, op := Op.load 9 (Operand.tmp 71), type := 9, pos := "search.go:37", after := #[{ on := 5, ground := Ground.data }], guard := none }) (v := ?va6) rfl (by kernel_rfl) (by kernel_rfl) (by kernel_rfl) (fun _ _ _ h => h) (Or.inl ⟨by rfl, ?ha6⟩) (by assumption) ?ra6
          case ha6 => (intro w0 hSw; (try dsimp only at hSw); go_simp; try (with_reducible rfl))
          simp only [Act.put, List.setIfInBounds_toArray, List.set_cons_zero, List.set_cons_succ]
          refine wpAnyH_ready (rs := [7]) (by kernel_rfl) (by simp) ?_
          refine AllReadyH.cons rfl (fun K hK => ?_) AllReadyH.nil
          go_simp
          go_wp2_with (go_at_call 56; refine (HADD.out _ ⟨1, rfl⟩).mono ?_; rintro e' w5 ⟨rfl, HO⟩; obtain ⟨v3, v0, v4⟩ := HO.out.1)
          refine hK.out _ _ ?_ (fun hHeld => ?_)
          · exact ⟨v3, v0, v4⟩
          clear hK K
          refine wpAnyH_done (by kernel_rfl) ?_ _
          obtain ⟨-, cnt5, vs5, s5⟩ := HO.out
          rw [← lvc_yes HS.out.2.2.2.1 hlv] at s5
          have hsz5 : B ≤ w5.heap.size := Nat.le_trans (by omega) s5.st.size
          have haw := s5.await htb hsz5 hb0 HS.out.2.2.2.1 HS.out.2.2.2.2.1 HS.out.2.2.2.2.2.1 hLT n8
          obtain ⟨y3, y0⟩ := s5.c3
          have HS5 := Hid.mk s5
          have HAW := Hid.mk haw
          clear s5 haw
          go_wp2_with fail
          refine HAW.out.mono ?_
          rintro e6 w6 ⟨v6, rfl, hr6, -, st6⟩
          have hss6 := HS5.out.look HS.out.1 (by rw [← HS.out.2.2.1]; exact hmy) hk1 htb hr6 st6
          have hcnt6 := hss6.si.count
          have hll6 := SI.lle hss6.si
          have hms := H1.out (v6, w6) _ ⟨_, _, _, _, hss6, rfl⟩
          have hmz := HS.out.2.2.2.2.2.2
          have HK := Hid.mk (And.intro hss6 (And.intro hms (And.intro hmz (And.intro hcnt6 hll6))))
          clear hss6 hms hmz hcnt6 hll6 hr6 st6
          go_wp2_with fail
          go_roundw
          case rel => exact ⟨_, _, _, _, HK.out.1⟩
          case measure =>
            show μ (v6, w6) < μ (.slice (some ⟨g4, 0, none⟩) (L'.length + 1) c4, wz)
            exact meas_lt HK.out.2.1 HK.out.2.2.1 HK.out.2.2.2.1 HK.out.2.2.2.2
        | false =>
          rw [hlv] at p1
          have s5 := s4
          rw [← lvc_no HS.out.2.2.2.1 hlv] at s5
          clear s4 hdist
          have hsz5 : B ≤ w4.heap.size := Nat.le_trans (by omega) s5.st.size
          have haw := s5.await htb hsz5 hb0 HS.out.2.2.2.1 HS.out.2.2.2.2.1 HS.out.2.2.2.2.2.1 hLT n8
          obtain ⟨y3, y0⟩ := s5.c3
          have HS5 := Hid.mk s5
          have HAW := Hid.mk haw
          clear s5 haw
          go_wp2_with fail
          refine HAW.out.mono ?_
          rintro e6 w6 ⟨v6, rfl, hr6, -, st6⟩
          have hss6 := HS5.out.look HS.out.1 (by rw [← HS.out.2.2.1]; exact hmy) hk1 htb hr6 st6
          have hcnt6 := hss6.si.count
          have hll6 := SI.lle hss6.si
          have hms := H1.out (v6, w6) _ ⟨_, _, _, _, hss6, rfl⟩
          have hmz := HS.out.2.2.2.2.2.2
          have HK := Hid.mk (And.intro hss6 (And.intro hms (And.intro hmz (And.intro hcnt6 hll6))))
          clear hss6 hms hmz hcnt6 hll6 hr6 st6
          go_wp2_with fail
          go_roundw
          case rel => exact ⟨_, _, _, _, HK.out.1⟩
          case measure =>
            show μ (v6, w6) < μ (.slice (some ⟨g4, 0, none⟩) (L'.length + 1) c4, wz)
            exact meas_lt HK.out.2.1 HK.out.2.2.1 HK.out.2.2.2.1 HK.out.2.2.2.2
      · rw [decide_eq_false hmy]
        have hsk := HS.out.1.skip HS.out.2.1 (by rw [← HS.out.2.2.1]; exact hmy) b12
        have hms := H1.out (.slice (some ⟨g4, 0, none⟩) L'.length c4, w2) _ ⟨_, _, _, _, hsk, rfl⟩
        have hmz := HS.out.2.2.2.2.2.2
        have HK := Hid.mk (And.intro hsk (And.intro hms hmz))
        clear hsk hms hmz HM b1 b2
        go_wp2_with fail
        go_roundw
        case rel => exact ⟨_, _, _, _, HK.out.1⟩
        case measure =>
          show μ (.slice (some ⟨g4, 0, none⟩) L'.length c4, w2) < μ (.slice (some ⟨g4, 0, none⟩) (L'.length + 1) c4, wz)
          have h5 := HK.out.2.1
          have h6 := HK.out.2.2
          rw [List.length_append, List.length_singleton] at h6
          omega
end Go.Proofs.YtnnbcdfpbdmgdaaDoor
