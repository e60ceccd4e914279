/-
  DERIVED. The law's written.
-/
import Derived.Test.YtbkbnhdeleoibaaLMoved
import Derived.Test.YtbkbnhdeleoibaaLKept
set_option linter.unusedVariables false
set_option linter.unusedSimpArgs false
namespace Go.Proofs.Ytbkbnhdeleoibaa
open Go.RowKit
/-- One hit is written over. -/
theorem TB.set {B : Nat} {W : World} {ov : Value} {ss : List Value} {Q : List (List En)} {t : Nat} (h : TB B W ov ss Q t) {x y b bc : Nat} {q : List En} (hq : Q[x]? = some q) (hy : y < q.length) (hs : ss[x]? = some (.slice (some ⟨b, 0, none⟩) q.length bc)) (e : En) : TB B (put5 W b y e) ov ss (Q.set x (q.set y e)) t := by
  have hx : x < Q.length := (List.getElem?_eq_some_iff.1 hq).1
  have st : Stay (fun k => k = b) W (put5 W b y e) := put5_to (Stay.refl _ W) rfl
  have hov : ov.ownBlock ≠ some b := (h.blk hs rfl).2.2
  refine ⟨by rw [List.length_set]; exact h.len, row_kept h.row st (fun k hk e => hov (e ▸ hk)), fun i r hr => ?_, fun j h1 h2 => ?_, h.onew, h.bnew, h.apart⟩
  · by_cases hi : i = x
    · subst hi
      rw [List.getElem?_set_self hx] at hr
      cases hr
      obtain ⟨b', c', e1, e2⟩ := h.each i q hq
      rw [hs] at e1
      simp only [Option.some.injEq, Value.slice.injEq, Addr.mk.injEq] at e1
      obtain ⟨⟨rfl, -, -⟩, -, rfl⟩ := e1
      refine ⟨b, bc, by rw [List.length_set]; exact hs, ?_⟩
      have h9 := set5 e2 (by simp) y (by simp; omega) e
      rw [List.set_append_left _ _ hy] at h9
      rw [List.length_set]; exact h9
    · rw [List.getElem?_set_ne (fun e => hi e.symm)] at hr
      obtain ⟨b', c', e1, e2⟩ := h.each i r hr
      exact ⟨b', c', e1, row_kept e2 st (fun k hk e => hi (h.apart i x _ _ b e1 hs (by rw [← e]; exact hk) rfl))⟩
  · rw [List.length_set] at h1 h2
    obtain ⟨b', c', e1, e2⟩ := h.tail j h1 h2
    exact ⟨b', c', e1, row_kept e2 st (fun k hk e => by have := h.apart j x _ _ b e1 hs (by rw [← e]; exact hk) rfl; omega)⟩
/-- How far the lists are written over. -/
structure Sh (Q Nw : List (List En)) (x y : Nat) : Prop where
  len : Q.length = Nw.length
  lens : ∀ (i : Nat) (q r : List En), Q[i]? = some q → Nw[i]? = some r → q.length = r.length
  done : ∀ i, i < x → Q[i]? = Nw[i]?
  part : ∀ (q r : List En), Q[x]? = some q → Nw[x]? = some r → q.take y = r.take y
theorem Sh.start {Q Nw : List (List En)} (h1 : Q.length = Nw.length) (h2 : ∀ (i : Nat) (q r : List En), Q[i]? = some q → Nw[i]? = some r → q.length = r.length) : Sh Q Nw 0 0 := ⟨h1, h2, fun i hi => by omega, fun q r _ _ => by simp⟩
theorem Sh.next {Q Nw : List (List En)} {x y : Nat} (h : Sh Q Nw x y) (hy : ∀ q, Q[x]? = some q → q.length ≤ y) : Sh Q Nw (x + 1) 0 := ⟨h.len, h.lens, fun i hi => by
  rcases Nat.lt_or_ge i x with h1 | h1
  · exact h.done i h1
  · obtain rfl : i = x := by omega
    rcases Nat.lt_or_ge i Q.length with h2 | h2
    · have e1 : Q[i]? = some Q[i] := List.getElem?_eq_getElem h2
      have e2 : Nw[i]? = some (Nw[i]'(by rw [← h.len]; exact h2)) := List.getElem?_eq_getElem _
      have e3 := h.part _ _ e1 e2
      have e4 := h.lens i _ _ e1 e2
      have e5 := hy _ e1
      rw [List.take_of_length_le e5, List.take_of_length_le (by omega)] at e3
      rw [e1, e2, e3]
    · rw [List.getElem?_eq_none h2, List.getElem?_eq_none (by rw [← h.len]; exact h2)], fun q r _ _ => by simp⟩
theorem Sh.set {Q Nw : List (List En)} {x y : Nat} (h : Sh Q Nw x y) {q r : List En} (hq : Q[x]? = some q) (hr : Nw[x]? = some r) (hy : y < r.length) : Sh (Q.set x (q.set y r[y])) Nw x (y + 1) := by
  have hx : x < Q.length := (List.getElem?_eq_some_iff.1 hq).1
  have hl := h.lens x q r hq hr
  refine ⟨by rw [List.length_set]; exact h.len, fun i q' r' hq' hr' => ?_, fun i hi => ?_, fun q' r' hq' hr' => ?_⟩
  · by_cases hi : i = x
    · subst hi
      rw [List.getElem?_set_self hx] at hq'
      cases hq'
      rw [hr] at hr'; cases hr'
      rw [List.length_set]; exact hl
    · rw [List.getElem?_set_ne (fun e => hi e.symm)] at hq'
      exact h.lens i q' r' hq' hr'
  · rw [List.getElem?_set_ne (by omega)]; exact h.done i hi
  · rw [List.getElem?_set_self hx] at hq'
    cases hq'
    rw [hr] at hr'; cases hr'
    rw [List.take_succ_eq_append_getElem (by rw [List.length_set]; omega), List.take_succ_eq_append_getElem hy, List.take_set_of_le (Nat.le_refl _), List.getElem_set_self, h.part q r hq hr]
theorem Sh.all {Q Nw : List (List En)} {x y : Nat} (h : Sh Q Nw x y) (hx : Nw.length ≤ x) : Q = Nw := List.ext_getElem? (fun i => by
  rcases Nat.lt_or_ge i x with h1 | h1
  · exact h.done i h1
  · rw [List.getElem?_eq_none (by rw [h.len]; omega), List.getElem?_eq_none (by omega)])
/-- A block of one of the lists. -/
def InS (ss : List Value) (k : Nat) : Prop := ∃ (j : Nat) (s : Value), ss[j]? = some s ∧ s.ownBlock = some k
def RW1 (B : Nat) (w : World) (g c m : Nat) (ss : List Value) (Nw : List (List En)) (n : Nat) (u : Value) (wr : World) : Prop := ∃ (x : Nat) (Q : List (List En)), u = .int .i64 x ∧ x ≤ n ∧ Hid (TB B wr (.slice (some ⟨g, 0, none⟩) m c) ss Q 64 ∧ Sh Q Nw x 0 ∧ Stay (InS ss) w wr)
def RW2 (B : Nat) (w : World) (g c m : Nat) (ss : List Value) (Nw : List (List En)) (x l : Nat) (u : Value) (wr : World) : Prop := ∃ (y : Nat) (Q : List (List En)), u = .int .i64 y ∧ y ≤ l ∧ Hid (TB B wr (.slice (some ⟨g, 0, none⟩) m c) ss Q 64 ∧ Sh Q Nw x y ∧ Stay (InS ss) w wr)
theorem TB.cellAt {B : Nat} {W : World} {g c m : Nat} {ss : List Value} {Q : List (List En)} {t : Nat} (h : TB B W (.slice (some ⟨g, 0, none⟩) m c) ss Q t) {x : Nat} {s : Value} (hs : ss[x]? = some s) : W.cell? ⟨g, x, none⟩ = some s := by
  obtain ⟨a', c', e', -⟩ := slice_form h.row
  simp only [Value.slice.injEq] at e'
  have hrow := h.row
  rw [e'.2.1] at hrow
  have hx := (List.getElem?_eq_some_iff.1 hs).1
  rw [World.ownsRow.cellAt hrow x (by omega), hs]
set_option maxHeartbeats 4000000 in
set_option maxRecDepth 100000 in
theorem written_any (B : Nat) (Q Nw : List (List En)) (n : Nat) (hn : n = Nw.length) (hN : ∀ r ∈ Nw, r.length ≤ 1048576) (hl : n ≤ 1048576) (hQl : Q.length = Nw.length) (hlens : ∀ (i : Nat) (q r : List En), Q[i]? = some q → Nw[i]? = some r → q.length = r.length) (la : Option Addr) (ca g c m : Nat) (ss : List Value) (w : World)
    (hT : TB B w (.slice (some ⟨g, 0, none⟩) m c) ss Q 64) (hLL : ∀ W, Stay (InS ss) w W → LL W la Nw) :
    Calls Try.prog 7 #[.slice (some ⟨g, 0, none⟩) n c, .slice la n ca] w fun e w' => e = .returned (.tuple #[]) ∧ TB B w' (.slice (some ⟨g, 0, none⟩) m c) ss Nw 64 ∧ Stay (InS ss) w w' := by
  have HA := Hid.mk (And.intro hn (And.intro hN hLL))
  have H0 : Hid (TB B w (.slice (some ⟨g, 0, none⟩) m c) ss Q 64 ∧ Sh Q Nw 0 0 ∧ Stay (InS ss) w w) := ⟨hT, Sh.start hQl hlens, Stay.refl _ _⟩
  clear hn hN hQl hlens hT hLL
  go_enter Try.func7, Try.ntmps7
  go_wp2
  go_loopw [4] (fun u wr => RW1 B w g c m ss Nw n u wr) (fun u _ => n - (intOf u).toNat)
  case atStart => exact ⟨0, Q, rfl, Nat.zero_le _, H0⟩
  case round =>
    clear H0
    obtain ⟨x, Q1, rfl, hx, HX⟩ := hrel
    by_cases hxl : x < n
    · have x1 : (x : Int) < (n : Int) := by omega
      have x2 : (0 : Int) ≤ (x : Int) := by omega
      have hwx : IntKind.i64.wrap ((x : Int) + 1) = ((x + 1 : Nat) : Int) := by rw [IntKind.wrap_i64]; omega
      obtain ⟨nw, hnw⟩ : ∃ nw, Nw[x]? = some nw := ⟨_, List.getElem?_eq_getElem (by have := HA.out.1; omega)⟩
      obtain ⟨l, hl'⟩ : ∃ l, l = nw.length := ⟨_, rfl⟩
      have hml : l ≤ 1048576 := by rw [hl']; exact HA.out.2.1 nw (List.mem_of_getElem? hnw)
      have HM := Hid.mk (And.intro hnw hl')
      clear hnw hl'
      obtain ⟨w6, rfl⟩ : ∃ w6, w6 = wr := ⟨_, rfl⟩
      go_wp2
      go_loopw [5] (fun u wr => RW2 B w g c m ss Nw x l u wr) (fun u _ => l - (intOf u).toNat)
      case atStart => exact ⟨0, Q1, rfl, Nat.zero_le _, HX⟩
      case round =>
        clear HX
        obtain ⟨y, Q2, rfl, hy, HY⟩ := hrel
        have hQl := HY.out.2.1.len
        obtain ⟨q, hq⟩ : ∃ q, Q2[x]? = some q := ⟨_, List.getElem?_eq_getElem (by rw [hQl]; exact (List.getElem?_eq_some_iff.1 HM.out.1).1)⟩
        have hqm : q.length = l := (HY.out.2.1.lens x q nw hq HM.out.1).trans HM.out.2.symm
        obtain ⟨b, bc, s1, s2⟩ := HY.out.1.each x q hq
        have y0 := HY.out.1.cellAt s1
        rw [hqm] at y0
        by_cases hyl : y < l
        · have y1 : (y : Int) < (l : Int) := by omega
          have y2 : (0 : Int) ≤ (y : Int) := by omega
          have hwy : IntKind.i64.wrap ((y : Int) + 1) = ((y + 1 : Nat) : Int) := by rw [IntKind.wrap_i64]; omega
          have hyn : y < nw.length := by rw [← HM.out.2]; exact hyl
          obtain ⟨lg, off, a', c', e1, x0, -, hL, -⟩ := (HA.out.2.2 wr HY.out.2.2).at' x nw HM.out.1
          subst e1
          obtain ⟨g2, o2, e2, z0, z1, z2, z3, z4⟩ := hL.hit (W := wr) (fun _ _ => rfl) y hyn
          subst e2
          rw [← HM.out.2] at x0
          obtain ⟨h, hh⟩ : ∃ h, h = nw[y] := ⟨_, rfl⟩
          rw [← hh] at z0 z1 z2 z3 z4
          obtain ⟨b', c'', e3, O0, O1, O2, O3, O4, fz⟩ := HRow.at' s2 y (by simp; omega)
          simp only [Value.slice.injEq, Option.some.injEq, Addr.mk.injEq] at e3
          obtain ⟨⟨rfl, -, -⟩, -, -⟩ := e3
          obtain ⟨p0, o0⟩ : ∃ p, wr.cell? ⟨b, y * 5, none⟩ = some p := ⟨_, O0⟩
          obtain ⟨p1, o1⟩ : ∃ p, wr.cell? ⟨b, y * 5 + 1, none⟩ = some p := ⟨_, O1⟩
          obtain ⟨p2, o2'⟩ : ∃ p, wr.cell? ⟨b, y * 5 + 2, none⟩ = some p := ⟨_, O2⟩
          obtain ⟨p3, o3⟩ : ∃ p, wr.cell? ⟨b, y * 5 + 3, none⟩ = some p := ⟨_, O3⟩
          obtain ⟨p4, o4⟩ : ∃ p, wr.cell? ⟨b, y * 5 + 4, none⟩ = some p := ⟨_, O4⟩
          have f0 := fz (y * 5)
          have f1 := fz (y * 5 + 1)
          have f2 := fz (y * 5 + 2)
          have f3 := fz (y * 5 + 3)
          have f4 := fz (y * 5 + 4)
          have HN : Hid (RW2 B w g c m ss Nw x l (.int .i64 ((y + 1 : Nat) : Int)) (put5 wr.drew b y h)) := by
            refine ⟨y + 1, Q2.set x (q.set y h), rfl, hyl, ?_, ?_, ?_⟩
            · have hTd : TB B wr.drew (.slice (some ⟨g, 0, none⟩) m c) ss Q2 64 := HY.out.1.lat (b_drew wr)
              exact hTd.set hq (by rw [hqm]; exact hyl) s1 h
            · rw [hh]; exact HY.out.2.1.set hq HM.out.1 hyn
            · exact (HY.out.2.2.andThen (Stay.below (F := fun _ => False) (b_drew wr)) (fun _ _ e => e.elim)).andThen (put5_stay wr.drew b y h) (fun k _ e => by
                have e' : k = b := e
                subst e'
                exact ⟨x, _, s1, rfl⟩)
          have hput : put5 wr.drew b y h = ((((wr.drew.setCell ⟨b, y * 5, none⟩ (.int .i64 h.v)).setCell ⟨b, y * 5 + 1, none⟩ (.string h.c)).setCell ⟨b, y * 5 + 2, none⟩ (.int .i64 h.i)).setCell ⟨b, y * 5 + 3, none⟩ (.int .i64 h.s)).setCell ⟨b, y * 5 + 4, none⟩ (.bool h.d) := rfl
          rw [hput] at HN
          clear hput O0 O1 O2 O3 O4 fz hh hL s1 s2 HY hq hqm hQl
          go_wp2
          go_region
          all_goals
            go_wp2
            exact ⟨HN.out, by simp only [intOf]; omega⟩
        · have y1 : ¬ (y : Int) < (l : Int) := by omega
          have HN : Hid (RW1 B w g c m ss Nw n (.int .i64 ((x + 1 : Nat) : Int)) wr) := ⟨x + 1, Q2, rfl, hxl, HY.out.1, HY.out.2.1.next (fun q' hq' => by rw [hq] at hq'; cases hq'; omega), HY.out.2.2⟩
          clear HY hq hqm hQl s1 s2
          go_wp2
          exact ⟨HN.out, by simp only [intOf]; omega⟩
    · have x1 : ¬ (x : Int) < (n : Int) := by omega
      have HE : Hid (TB B wr (.slice (some ⟨g, 0, none⟩) m c) ss Nw 64 ∧ Stay (InS ss) w wr) := by
        have e := HX.out.2.1.all (by have := HA.out.1; omega)
        rw [← e]; exact ⟨HX.out.1, HX.out.2.2⟩
      clear HX
      go_wp2
      go_end0
      exact ⟨rfl, HE.out⟩
end Go.Proofs.Ytbkbnhdeleoibaa
