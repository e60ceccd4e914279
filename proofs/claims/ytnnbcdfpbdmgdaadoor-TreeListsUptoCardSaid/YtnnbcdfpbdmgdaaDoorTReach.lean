/-
  DERIVED. A code's way down the tree.
-/
import Derived.Test.YtnnbcdfpbdmgdaaDoorTTree
import Derived.Deep.RegionHeld
import Derived.Handy
set_option linter.unusedVariables false
set_option linter.unusedSimpArgs false
namespace Go.Proofs.YtnnbcdfpbdmgdaaDoor
open Go.RowKit Go.Maps Go.Proofs.BitMath Go.Proofs.TreeMath
/-- Where a code's way ends: the last node, its distance, how many nodes stand on it. -/
def WayO {n : Nat} (T : List (Nd (Cd n))) (bs : List Nat) (c : Cd n) (l : Value) (d k : Nat) : Prop :=
  (T.length = 0 ∧ l = .pointer none ∧ d = 0 ∧ k = 0) ∨ (∃ nd, T[reach dC T c T.length 0]? = some nd ∧ child T (reach dC T c T.length 0) (dC nd.code c) = none ∧ l = ptr bs (some (reach dC T c T.length 0)) ∧ d = dC nd.code c ∧ k = dep T (reach dC T c T.length 0 + 1) (reach dC T c T.length 0))
/-- What stands while the way is gone: o comes next. -/
def RS {n : Nat} (T : List (Nd (Cd n))) (bs : List Nat) (c : Cd n) (o : Option Nat) (l : Value) (d k : Nat) : Prop := match o with
  | none => WayO T bs c l d k
  | some i => i < T.length ∧ (∃ f, T.length - i ≤ f ∧ reach dC T c f i = reach dC T c T.length 0) ∧ k + 1 = dep T (i + 1) i
def measR (bs : List Nat) (v : Value) : Nat := match v with | .pointer (some a) => bs.length - bs.idxOf a.block | _ => 0
theorem measR_ptr {bs : List Nat} (h : bs.Nodup) {i : Nat} (hi : i < bs.length) : measR bs (ptr bs (some i)) = bs.length - i := by
  unfold measR ptr
  simp only [List.getD, List.getElem?_eq_getElem hi, Option.getD_some]
  rw [h.idxOf_getElem]
theorem measR_next {n : Nat} {T : List (Nd (Cd n))} (wf : WF dC T) {bs : List Nat} (h : bs.Nodup) (hl : bs.length = T.length) {i e : Nat} (hi : i < T.length) : measR bs (ptr bs (child T i e)) < measR bs (ptr bs (some i)) := by
  rw [measR_ptr h (by omega)]
  cases hc : child T i e with
  | none => show 0 < _; omega
  | some j =>
    have hj := wf.child_lt hc
    rw [measR_ptr h (by omega)]
    omega
theorem reach_step {n : Nat} {T : List (Nd (Cd n))} {c : Cd n} {i f : Nat} {nd : Nd (Cd n)} (h : T[i]? = some nd) : reach dC T c (f + 1) i = (match child T i (dC nd.code c) with | none => i | some j => reach dC T c f j) := by
  simp only [reach, h]
  cases child T i (dC nd.code c) <;> rfl
/-- A round's end. -/
theorem RS.next {n : Nat} {T : List (Nd (Cd n))} {bs : List Nat} {c : Cd n} (wf : WF dC T) {i : Nat} {l : Value} {d k : Nat} {nd : Nd (Cd n)} (h : RS T bs c (some i) l d k) (hn : T[i]? = some nd) : RS T bs c (child T i (dC nd.code c)) (ptr bs (some i)) (dC nd.code c) (k + 1) := by
  obtain ⟨hi, ⟨f, hf, hr⟩, hk⟩ := h
  cases f with
  | zero => omega
  | succ f =>
    rw [reach_step hn] at hr
    cases hc : child T i (dC nd.code c) with
    | none =>
      rw [hc] at hr
      dsimp only at hr
      refine .inr ⟨nd, ?_, ?_, ?_, rfl, ?_⟩
      · rw [← hr]; exact hn
      · rw [← hr]; exact hc
      · rw [← hr]
      · rw [← hr, ← hk]
    | some j =>
      rw [hc] at hr
      dsimp only at hr
      have hj := wf.child_lt hc
      refine ⟨hj.2, ⟨f, by omega, hr⟩, ?_⟩
      obtain ⟨m, k1, k2, -⟩ := child_some hc
      rw [dep_child wf k1 k2, hk]
theorem RS.start {n : Nat} {T : List (Nd (Cd n))} (wf : WF dC T) (bs : List Nat) (c : Cd n) : RS T bs c (if T.length = 0 then none else some 0) (.pointer none) 0 0 := by
  by_cases h : T.length = 0
  · rw [if_pos h]; exact .inl ⟨h, rfl, rfl, rfl⟩
  · rw [if_neg h]
    refine ⟨by omega, ⟨T.length, by omega, rfl⟩, ?_⟩
    have hT : 0 < T.length := by omega
    have ho := wf.root _ (List.getElem?_eq_getElem hT)
    simp [dep, List.getElem?_eq_getElem hT, ho]
theorem way3 (W : World) (b : Nat) (x y z : Value) {u v t : Value} (h0 : W.cell? ⟨b, 0, none⟩ = some u) (h1 : W.cell? ⟨b, 1, none⟩ = some v) (h2 : W.cell? ⟨b, 2, none⟩ = some t) :
    (((W.setCell ⟨b, 0, none⟩ x).setCell ⟨b, 1, none⟩ y).setCell ⟨b, 2, none⟩ z).cell? ⟨b, 0, none⟩ = some x ∧ (((W.setCell ⟨b, 0, none⟩ x).setCell ⟨b, 1, none⟩ y).setCell ⟨b, 2, none⟩ z).cell? ⟨b, 1, none⟩ = some y ∧ (((W.setCell ⟨b, 0, none⟩ x).setCell ⟨b, 1, none⟩ y).setCell ⟨b, 2, none⟩ z).cell? ⟨b, 2, none⟩ = some z := by
  refine ⟨?_, ?_, ?_⟩ <;> go_simp
/-- A way in its box, and the box of the result. -/
structure WBx (W wr : World) (H0 H1 : Nat) (l : Value) (d k : Nat) : Prop where
  bel : Below W.heap.size W wr
  box : wr.heap[H1]? = some (.cells #[l, .int .i64 d, .int .i64 k] 66 (0, 0))
  res : wr.heap[H0]? = some (.cells #[.pointer none, .int .i64 0, .int .i64 0] 66 (0, 0))
theorem WBx.set {W wr w3 : World} {H0 H1 : Nat} {l : Value} {d k : Nat} (h : WBx W wr H0 H1 l d k) (h0 : W.heap.size ≤ H0) (h1 : H0 < H1) (P : Value) (hd : Drew (wr.setCell ⟨H1, 0, none⟩ P) w3) (d' k' : Nat) (x y : Value) (hx : x = .int .i64 d') (hy : y = .int .i64 k') :
    WBx W ((w3.setCell ⟨H1, 1, none⟩ x).setCell ⟨H1, 2, none⟩ y).drew H0 H1 P d' k' := by
  subst hx hy
  obtain ⟨q, rfl⟩ := hd
  have b1 : (wr.setCell ⟨H1, 0, none⟩ P).heap[H1]? = some (.cells #[P, .int .i64 d, .int .i64 k] 66 (0, 0)) := heap_setCell_same wr H1 0 _ _ _ h.box
  have b1' : ((wr.setCell ⟨H1, 0, none⟩ P).drewN q).heap[H1]? = some (.cells #[P, .int .i64 d, .int .i64 k] 66 (0, 0)) := b1
  have b2 : (((wr.setCell ⟨H1, 0, none⟩ P).drewN q).setCell ⟨H1, 1, none⟩ (.int .i64 d')).heap[H1]? = some (.cells #[P, .int .i64 d', .int .i64 k] 66 (0, 0)) := heap_setCell_same _ H1 1 _ _ _ b1'
  have b3 : ((((wr.setCell ⟨H1, 0, none⟩ P).drewN q).setCell ⟨H1, 1, none⟩ (.int .i64 d')).setCell ⟨H1, 2, none⟩ (.int .i64 k')).heap[H1]? = some (.cells #[P, .int .i64 d', .int .i64 k'] 66 (0, 0)) := heap_setCell_same _ H1 2 _ _ _ b2
  refine ⟨?_, b3, ?_⟩
  · have e1 := (h.bel.setCell (p := ⟨H1, 0, none⟩) (by simp; omega) P)
    have e2 : Below W.heap.size W ((wr.setCell ⟨H1, 0, none⟩ P).drewN q) := ⟨e1.os, e1.tape, e1.output, e1.size, e1.block⟩
    exact ((e2.setCell (p := ⟨H1, 1, none⟩) (by simp; omega) _).setCell (p := ⟨H1, 2, none⟩) (by simp; omega) _).drew
  · have s : Stay (fun k => k = H1) wr ((((wr.setCell ⟨H1, 0, none⟩ P).drewN q).setCell ⟨H1, 1, none⟩ (.int .i64 d')).setCell ⟨H1, 2, none⟩ (.int .i64 k')) := by
      have s1 : Stay (fun k => k = H1) wr (wr.setCell ⟨H1, 0, none⟩ P) := by refine Stay.setCell (Stay.refl _ wr) (p := ⟨H1, 0, none⟩) (fun _ => ?_) _; rfl
      have s2 : Stay (fun k => k = H1) wr ((wr.setCell ⟨H1, 0, none⟩ P).drewN q) := ⟨s1.os, s1.tape, s1.output, s1.size, s1.block⟩
      refine Stay.setCell (Stay.setCell s2 (p := ⟨H1, 1, none⟩) (fun _ => ?_) _) (p := ⟨H1, 2, none⟩) (fun _ => ?_) _ <;> rfl
    exact (s.block H0 (Array.getElem?_eq_some_iff.1 h.res).1 (by omega)).trans h.res
set_option maxHeartbeats 4000000 in
set_option maxRecDepth 100000 in
theorem reach_any {n t wd : Nat} {T : List (Nd (Cd n))} {bs : List Nat} {ms : List (Option Nat)} {x : Num} (c : Cd n) (W : World) (h : TR W t wd T bs ms x) (ht : Tab W) (hW0 : 0 < W.heap.size) :
    Calls Tryd.prog 34 #[.pointer (some ⟨t, 0, none⟩), .string c.1] W (fun r w' => Below W.heap.size W w' ∧ ∃ l d k, r = .returned (.agg #[l, .int .i64 (d : Nat), .int .i64 (k : Nat)]) ∧ WayO T bs c l d k) := by
  obtain ⟨t0, t1, -, -, -, -⟩ := h.cell
  have htl : t < W.heap.size := h.lt (.inl rfl)
  have hn1 : n ≤ 128 := by have := isW_bd h.wid; have := h.eight; omega
  have b0 : WBx W ((W.alloc (.cells #[.pointer none, .int .i64 0, .int .i64 0] 66)).alloc (.cells #[.pointer none, .int .i64 0, .int .i64 0] 66)) W.heap.size (W.heap.size + 1) (.pointer none) 0 0 := by
    have a1 := (Below.refl W.heap.size W).alloc (Nat.le_refl _) (.cells #[.pointer none, .int .i64 0, .int .i64 0] 66)
    have a2 := heap_alloc_new W (.cells #[.pointer none, .int .i64 0, .int .i64 0] 66)
    have a3 := heap_alloc_new (W.alloc (.cells #[.pointer none, .int .i64 0, .int .i64 0] 66)) (.cells #[.pointer none, .int .i64 0, .int .i64 0] 66)
    have a4 := (Below.refl _ (W.alloc (.cells #[.pointer none, .int .i64 0, .int .i64 0] 66))).alloc (Nat.le_refl _) (.cells #[.pointer none, .int .i64 0, .int .i64 0] 66)
    refine ⟨a1.alloc a1.size _, ?_, (a4.block _ (by simp)).trans a2⟩
    have e1 : (W.alloc (.cells #[.pointer none, .int .i64 0, .int .i64 0] 66)).heap.size = W.heap.size + 1 := by simp
    rw [e1] at a3
    exact a3
  have HT := Hid.mk (And.intro h ht)
  have HS := Hid.mk (RS.start h.wf bs c)
  clear h ht
  generalize hroot : ptr bs (if T.length = 0 then none else some 0) = root at *
  have HRT := Hid.mk hroot
  clear hroot
  go_enter Tryd.func34, Tryd.ntmps34
  go_wp2
  generalize hHH : W.heap.size + 1 = H1 at *
  have HHH := Hid.mk hHH
  clear hHH
  go_loopw [6] (fun nv wr => ∃ (o : Option Nat) (l : Value) (d k : Nat), nv = ptr bs o ∧ WBx W wr W.heap.size H1 l d k ∧ Hid (RS T bs c o l d k)) (fun nv _ => measR bs nv)
  case atStart => exact ⟨_, _, 0, 0, HRT.out.symm, b0, HS.out⟩
  case round =>
    obtain ⟨o, l, d, k, rfl, hb, HR⟩ := hrel
    clear b0 HS HRT
    cases o with
    | none =>
      have e1 : ptr bs none = .pointer none := rfl
      rw [e1]
      obtain ⟨q, rfl⟩ : ∃ q, l = .pointer q := by
        rcases HR.out with ⟨-, h, -⟩ | ⟨nd, -, -, h, -⟩
        · exact ⟨_, h⟩
        · exact ⟨_, h⟩
      have hne : W.heap.size ≠ H1 := by have := HHH.out; omega
      have hne' : H1 ≠ W.heap.size := fun e => hne e.symm
      have c0 : wr.cell? ⟨H1, 0, none⟩ = some (.pointer q) := by unfold World.cell?; rw [hb.box]; rfl
      have c1 : wr.cell? ⟨H1, 1, none⟩ = some (.int .i64 d) := by unfold World.cell?; rw [hb.box]; rfl
      have c2 : wr.cell? ⟨H1, 2, none⟩ = some (.int .i64 k) := by unfold World.cell?; rw [hb.box]; rfl
      have r0 : wr.cell? ⟨W.heap.size, 0, none⟩ = some (.pointer none) := by unfold World.cell?; rw [hb.res]; rfl
      have r1 : wr.cell? ⟨W.heap.size, 1, none⟩ = some (.int .i64 0) := by unfold World.cell?; rw [hb.res]; rfl
      have r2 : wr.cell? ⟨W.heap.size, 2, none⟩ = some (.int .i64 0) := by unfold World.cell?; rw [hb.res]; rfl
      have hf0 : ∀ j, wr.frozen? ⟨W.heap.size, j, none⟩ = false := fun j => by unfold World.frozen?; rw [hb.res]; simp
      have HB := Hid.mk hb
      clear hb
      go_wp2
      obtain ⟨f0, f1, f2⟩ := way3 wr W.heap.size (.pointer q) (.int .i64 d) (.int .i64 k) r0 r1 r2
      have bf := ((HB.out.bel.setCell (p := ⟨W.heap.size, 0, none⟩) (by simp) (.pointer q)).setCell (p := ⟨W.heap.size, 1, none⟩) (by simp) (.int .i64 d)).setCell (p := ⟨W.heap.size, 2, none⟩) (by simp) (.int .i64 k)
      refine bodyPost_ret (v := .agg #[.pointer q, .int .i64 d, .int .i64 k]) (by simp [results, Tryd.results34, go_sem, f0, f1, f2]; try rfl) rfl ?_
      exact ⟨bf, _, d, k, rfl, HR.out⟩
    | some i =>
      have hiT : i < T.length := HR.out.1
      have hnd : T[i]? = some T[i] := List.getElem?_eq_getElem hiT
      have hk1 : k + 1 = dep T (i + 1) i := HR.out.2.2
      have hkT : k + 1 ≤ 1099511627776 := by have := HT.out.1.dep i hiT; have := HT.out.1.depT; have := HT.out.1.small; omega
      have trr : TR wr t wd T bs ms x := HT.out.1.kept (F := fun k => W.heap.size ≤ k) ⟨hb.bel.os, hb.bel.tape, hb.bel.output, hb.bel.size, fun k hk hF => hb.bel.block k (by omega)⟩ (fun k hk hF => by have := HT.out.1.lt hk; omega)
      obtain ⟨b, m, hbb, hmm, hgd, q0, q1, q2, -, hbl⟩ := trr.at_ hnd
      have hbW : b < W.heap.size := HT.out.1.lt (.inr (.inl (List.mem_of_getElem? hbb)))
      have htab : Tab wr := HT.out.2.below hb.bel hW0
      have hneb : b ≠ H1 := by have := HHH.out; omega
      have hneb' : H1 ≠ b := fun e => hneb e.symm
      have e1 : ptr bs (some i) = .pointer (some ⟨b, 0, none⟩) := by show Value.pointer (some ⟨bs.getD i 0, 0, none⟩) = _; rw [hgd]
      have tabV : Tab (wr.setCell ⟨H1, 0, none⟩ (.pointer (some ⟨b, 0, none⟩))) := fun i hi => (World.cell?_setCell_other _ _ _ _ (by intro e; have := HHH.out; (simp at e) <;> omega)).trans (htab i hi)
      have hdist := distance_yes (T[i]).code.1 c.1 _ (by rw [(T[i]).code.2]; omega) (by rw [(T[i]).code.2, c.2]) tabV
      have hdc : (wt (xorL (T[i]).code.1.data.toList c.1.data.toList)) = dC (T[i]).code c := rfl
      rw [hdc] at hdist
      have hd8 : dC (T[i]).code c ≤ 8192 := Nat.le_trans (dC_le _ _) (by omega)
      have HX := Hid.mk (RS.next HT.out.1.wf HR.out hnd)
      rw [e1] at HX ⊢
      have HTR := Hid.mk (And.intro trr hmm)
      have hm0 : wr.cell? ⟨H1, 0, none⟩ = some l := by unfold World.cell?; rw [hb.box]; rfl
      have hf0 : ∀ j, wr.frozen? ⟨H1, j, none⟩ = false := fun j => by unfold World.frozen?; rw [hb.box]; simp
      have hkc : wr.cell? ⟨H1, 2, none⟩ = some (.int .i64 k) := by unfold World.cell?; rw [hb.box]; rfl
      have hdc1 : wr.cell? ⟨H1, 1, none⟩ = some (.int .i64 d) := by unfold World.cell?; rw [hb.box]; rfl
      generalize hDD : dC (T[i]).code c = DD at *
      generalize hCC : (T[i]).code.1 = CC at *
      have HE1 := Hid.mk e1
      have HDD := Hid.mk hDD
      have HB := Hid.mk hb
      clear e1 hDD hCC hdc trr hmm htab tabV hb hk1
      go_wp2_with fail
      refine hdist.mono ?_
      rintro r w3 ⟨rfl, hd3⟩
      have hV := HB.out.set (Nat.le_refl _) (by have := HHH.out; omega) (.pointer (some ⟨b, 0, none⟩)) hd3 DD (k + 1) (.int .i64 DD) (.int .i64 ((k : Int) + 1)) rfl (by simp)
      obtain ⟨qq, rfl⟩ := hd3
      have a0 : ((wr.setCell ⟨H1, 0, none⟩ (.pointer (some ⟨b, 0, none⟩))).drewN qq).cell? ⟨H1, 1, none⟩ = some (.int .i64 d) := (World.cell?_setCell_other _ _ _ _ (by simp)).trans hdc1
      have a2 : ((wr.setCell ⟨H1, 0, none⟩ (.pointer (some ⟨b, 0, none⟩))).drewN qq).cell? ⟨H1, 2, none⟩ = some (.int .i64 k) := (World.cell?_setCell_other _ _ _ _ (by simp)).trans hkc
      have a3 : ∀ j, ((wr.setCell ⟨H1, 0, none⟩ (.pointer (some ⟨b, 0, none⟩))).drewN qq).frozen? ⟨H1, j, none⟩ = false := fun j => by
        have b1 : ((wr.setCell ⟨H1, 0, none⟩ (.pointer (some ⟨b, 0, none⟩))).drewN qq).heap[H1]? = some (.cells #[.pointer (some ⟨b, 0, none⟩), .int .i64 d, .int .i64 k] 66 (0, 0)) := heap_setCell_same wr H1 0 _ _ _ HB.out.box
        unfold World.frozen?; rw [b1]; simp
      have a00 : ((wr.setCell ⟨H1, 0, none⟩ (.pointer (some ⟨b, 0, none⟩))).drewN qq).cell? ⟨H1, 0, none⟩ = some (.pointer (some ⟨b, 0, none⟩)) := World.cell?_setCell_same _ _ _ hm0
      have a4 : ((wr.setCell ⟨H1, 0, none⟩ (.pointer (some ⟨b, 0, none⟩))).drewN qq).cell? ⟨b, 2, none⟩ = some (.map m) := (World.cell?_setCell_other _ _ _ _ (by intro e; (simp at e) <;> omega)).trans q2
      generalize hw3 : (wr.setCell ⟨H1, 0, none⟩ (.pointer (some ⟨b, 0, none⟩))).drewN qq = w3 at *
      clear hw3 hdist
      go_wp2_with fail
      obtain ⟨V3, hV3⟩ : ∃ V3, V3 = (w3.setCell ⟨H1, 1, none⟩ (.int .i64 DD)).setCell ⟨H1, 2, none⟩ (.int .i64 ((k : Int) + 1)) := ⟨_, rfl⟩
      have v0 : V3.cell? ⟨H1, 0, none⟩ = some (.pointer (some ⟨b, 0, none⟩)) := by rw [hV3, World.cell?_setCell_other _ _ _ _ (by simp), World.cell?_setCell_other _ _ _ _ (by simp)]; exact a00
      have v1 : V3.cell? ⟨H1, 1, none⟩ = some (.int .i64 DD) := by rw [hV3, World.cell?_setCell_other _ _ _ _ (by simp)]; exact World.cell?_setCell_same _ _ _ a0
      have v2 : V3.cell? ⟨b, 2, none⟩ = some (.map m) := by rw [hV3, World.cell?_setCell_other _ _ _ _ (by intro e; (simp at e) <;> omega), World.cell?_setCell_other _ _ _ _ (by intro e; (simp at e) <;> omega)]; exact a4
      rw [← hV3] at hV ⊢
      have tr3 : TR V3.drew t wd T bs ms x := HT.out.1.kept (F := fun k => W.heap.size ≤ k) ⟨hV.bel.os, hV.bel.tape, hV.bel.output, hV.bel.size, fun k hk hF => hV.bel.block k (by omega)⟩ (fun k hk hF => by have := HT.out.1.lt hk; omega)
      have hlk := tr3.look HTR.out.2 DD hd8
      obtain ⟨res, hres⟩ : ∃ res, res = ptr bs (child T i DD) := ⟨_, rfl⟩
      rw [← hres] at hlk
      have HRS := Hid.mk hres
      have HV := Hid.mk hV
      clear hV3 a0 a00 a2 a3 a4 q0 q1 q2 hV tr3 hres hm0 hf0 hkc hdc1
      refine wp_region_held_drew (S := fun w' => w' = V3.drew) (by kernel_rfl) ?_ (fun hHeld => ?_)
      · rfl
      refine wpAnyH_take (i := 0) (oi := { dst := some 13, op := Op.fieldAddr 66 (Operand.tmp 5) 0, type := 0, pos := "node.go:37", after := #[], guard := none }) (v := ?v0) rfl (by kernel_rfl) (by kernel_rfl) (by kernel_rfl) (fun _ _ _ h => h) (Or.inl ⟨by rfl, ?h0⟩) (by assumption) ?r0
      case h0 => (intro w0 hSw; have hSw' : w0 = V3.drew := hSw; subst hSw'; go_simp; try (with_reducible rfl))
      simp only [Act.put, List.setIfInBounds_toArray, List.set_cons_zero, List.set_cons_succ]
      refine wpAnyH_take (i := 1) (oi := { dst := some 14, op := Op.load 62 (Operand.tmp 13), type := 62, pos := "node.go:37", after := #[{ on := 0, ground := Ground.data }], guard := none }) (v := ?v1) rfl (by kernel_rfl) (by kernel_rfl) (by kernel_rfl) (fun _ _ _ h => h) (Or.inl ⟨by rfl, ?h1⟩) (by assumption) ?r1
      case h1 => (intro w0 hSw; have hSw' : w0 = V3.drew := hSw; subst hSw'; go_simp; try (with_reducible rfl))
      simp only [Act.put, List.setIfInBounds_toArray, List.set_cons_zero, List.set_cons_succ]
      refine wpAnyH_take (i := 2) (oi := { dst := some 15, op := Op.nilCheck (Operand.tmp 14), type := 0, pos := "node.go:37", after := #[{ on := 1, ground := Ground.data }], guard := none }) (v := ?v2) rfl (by kernel_rfl) (by kernel_rfl) (by kernel_rfl) (fun _ _ _ h => h) (Or.inl ⟨by rfl, ?h2⟩) (by assumption) ?r2
      case h2 => (intro w0 hSw; have hSw' : w0 = V3.drew := hSw; subst hSw'; go_simp; try (with_reducible rfl))
      simp only [Act.put, List.setIfInBounds_toArray, List.set_cons_zero, List.set_cons_succ]
      refine wpAnyH_take (i := 3) (oi := { dst := some 16, op := Op.fieldAddr 73 (Operand.tmp 15) 2, type := 0, pos := "node.go:37", after := #[{ on := 2, ground := Ground.data }], guard := none }) (v := ?v3) rfl (by kernel_rfl) (by kernel_rfl) (by kernel_rfl) (fun _ _ _ h => h) (Or.inl ⟨by rfl, ?h3⟩) (by assumption) ?r3
      case h3 => (intro w0 hSw; have hSw' : w0 = V3.drew := hSw; subst hSw'; go_simp; try (with_reducible rfl))
      simp only [Act.put, List.setIfInBounds_toArray, List.set_cons_zero, List.set_cons_succ]
      refine wpAnyH_take (i := 4) (oi := { dst := some 17, op := Op.load 71 (Operand.tmp 16), type := 71, pos := "node.go:37", after := #[{ on := 3, ground := Ground.data }], guard := none }) (v := ?v4) rfl (by kernel_rfl) (by kernel_rfl) (by kernel_rfl) (fun _ _ _ h => h) (Or.inl ⟨by rfl, ?h4⟩) (by assumption) ?r4
      case h4 => (intro w0 hSw; have hSw' : w0 = V3.drew := hSw; subst hSw'; go_simp; try (with_reducible rfl))
      simp only [Act.put, List.setIfInBounds_toArray, List.set_cons_zero, List.set_cons_succ]
      refine wpAnyH_take (i := 5) (oi := { dst := some 18, op := Op.fieldAddr 66 (Operand.tmp 5) 1, type := 0, pos := "node.go:37", after := #[], guard := none }) (v := ?v5) rfl (by kernel_rfl) (by kernel_rfl) (by kernel_rfl) (fun _ _ _ h => h) (Or.inl ⟨by rfl, ?h5⟩) (by assumption) ?r5
      case h5 => (intro w0 hSw; have hSw' : w0 = V3.drew := hSw; subst hSw'; go_simp; try (with_reducible rfl))
      simp only [Act.put, List.setIfInBounds_toArray, List.set_cons_zero, List.set_cons_succ]
      refine wpAnyH_take (i := 6) (oi := { dst := some 19, op := Op.load 3 (Operand.tmp 18), type := 3, pos := "node.go:37", after := #[{ on := 5, ground := Ground.data }], guard := none }) (v := ?v6) rfl (by kernel_rfl) (by kernel_rfl) (by kernel_rfl) (fun _ _ _ h => h) (Or.inl ⟨by rfl, ?h6⟩) (by assumption) ?r6
      case h6 => (intro w0 hSw; have hSw' : w0 = V3.drew := hSw; subst hSw'; go_simp; try (with_reducible rfl))
      simp only [Act.put, List.setIfInBounds_toArray, List.set_cons_zero, List.set_cons_succ]
      refine wpAnyH_take (i := 7) (oi := { dst := some 20, op := Op.lookup 71 (Operand.tmp 17) (Operand.tmp 19) false, type := 62, pos := "node.go:37", after := #[{ on := 4, ground := Ground.data }, { on := 6, ground := Ground.data }], guard := none }) (v := ?v7) rfl (by kernel_rfl) (by kernel_rfl) (by kernel_rfl) (fun _ _ _ h => h) (Or.inl ⟨by rfl, ?h7⟩) (by assumption) ?r7
      case h7 => (intro w0 hSw; have hSw' : w0 = V3.drew := hSw; subst hSw'; go_simp; try (with_reducible rfl))
      simp only [Act.put, List.setIfInBounds_toArray, List.set_cons_zero, List.set_cons_succ]
      refine wpAnyH_take (i := 8) (oi := { dst := some 6, op := Op.assign (Operand.tmp 20), type := 62, pos := "node.go:37", after := #[{ on := 7, ground := Ground.data }, { on := 0, ground := Ground.phase }, { on := 1, ground := Ground.phase }, { on := 2, ground := Ground.phase }, { on := 3, ground := Ground.phase }, { on := 4, ground := Ground.phase }, { on := 5, ground := Ground.phase }, { on := 6, ground := Ground.phase }, { on := 7, ground := Ground.phase }], guard := none }) (v := ?v8) rfl (by kernel_rfl) (by kernel_rfl) (by kernel_rfl) (fun _ _ _ h => h) (Or.inl ⟨by rfl, ?h8⟩) (by assumption) ?r8
      case h8 => (intro w0 hSw; have hSw' : w0 = V3.drew := hSw; subst hSw'; go_simp; try (with_reducible rfl))
      simp only [Act.put, List.setIfInBounds_toArray, List.set_cons_zero, List.set_cons_succ]
      refine wpAnyH_done (by kernel_rfl) ?_ _
      clear hHeld hlk v0 v1 v2
      go_wp2
      refine ⟨⟨_, _, _, _, HRS.out, HV.out, HX.out⟩, ?_⟩
      rw [HRS.out, ← HE1.out]
      exact measR_next HT.out.1.wf HT.out.1.nodup HT.out.1.lb hiT
end Go.Proofs.YtnnbcdfpbdmgdaaDoor
