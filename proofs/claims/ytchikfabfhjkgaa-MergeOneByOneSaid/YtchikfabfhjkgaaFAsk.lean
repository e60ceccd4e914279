/-
  DERIVED. A feed is asked for its next entry.
-/
import Derived.Test.YtchikfabfhjkgaaFSrc
set_option linter.unusedVariables false
set_option linter.unusedSimpArgs false
namespace Go.Proofs.Ytchikfabfhjkgaa.Fd
open Go.RowKit
theorem hm_box {w0 : World} {B m : Nat} {c0 c2 c3 : Value} {ys : List St} {W W' : World} {bx : Nat} {X : List En} {u : Nat} (h : HM m c0 c2 c3 ys W) (hx : FdAt w0 B W bx X u) (s : Stay (fun k => k = bx) W W') : HM m c0 c2 c3 ys W' := by
  obtain ⟨la, cap, h1, -⟩ := hx.ex
  refine h.keep s (fun e => ?_) (fun k cur hc e => ?_) (fun y hy e => ?_)
  · obtain ⟨av, hm, -⟩ := h
    unfold Mb at hm
    rw [e, h1] at hm; simp at hm
  · rw [e, h1] at hc; simp at hc
  · obtain ⟨av, -, hr, -⟩ := h
    have := hr.st y hy
    unfold StAt at this
    rw [e, h1] at this; simp [stC] at this
theorem FdAt.apart {w0 : World} {B : Nat} {W : World} {bx : Nat} {X : List En} {u : Nat} (hx : FdAt w0 B W bx X u) {s : St} (hs : StAt W s) : s.a ≠ bx := fun e => by
  obtain ⟨la, cap, h1, -⟩ := hx.ex
  unfold StAt at hs
  rw [e, h1] at hs; simp [stC] at hs
theorem FdAt.frm {w0 : World} {B m : Nat} {c0 c2 c3 : Value} {ys : List St} {W W' : World} {bx : Nat} {X : List En} {u : Nat} (hx : FdAt w0 B W bx X u) (h : HM m c0 c2 c3 ys W) (f : FrM m W W') : FdAt w0 B W' bx X u := by
  obtain ⟨av, hm, hr, -⟩ := h
  obtain ⟨la, cap, h1, -⟩ := hx.ex
  refine hx.same (f.at' hm bx hx.lt (fun e => ?_) (fun e => ?_))
  · unfold Mb at hm
    rw [← e, h1] at hm; simp at hm
  · obtain ⟨cur, hc⟩ := row_block hr.own e
    rw [h1] at hc; simp at hc
theorem ask_rest {w0 w W3 W : World} {B m bx : Nat} {c0 c2 c3 : Value} {s : St} {ys : List St} {e : En} {X : List En} {u : Nat} (hs3 : StAt W3 s) (st3 : Stay (fun k => k = bx) w W3) (h3 : FdAt w0 B W3 bx X u) (hm3 : HM m c0 c2 c3 ys W3) (hl : ys.length < 4096) (hnot : ∀ y ∈ ys, y.a ≠ s.a) (hsb : s.a ≠ bx) (b : Below W3.heap.size W3 W) :
    Calls Try.prog 59 #[.pointer (some ⟨m, 1, none⟩), .pointer (some ⟨s.a, 0, none⟩)] (put6 W s.a e) fun r w' => r = .returned (.tuple #[]) ∧ FdAt w0 B w' bx X u ∧ HM m c0 c2 c3 (upL ltS (ys ++ [s.upd e]) ys.length) w' ∧ ∃ w2, Stay (fun k => k = bx ∨ k = s.a) w w2 ∧ HM m c0 c2 c3 ys w2 ∧ FrM m w2 w' := by
  have hsW : StAt W s := (b.block s.a (Array.getElem?_eq_some_iff.1 hs3).1).trans hs3
  have hmW := (hm3.below b).stand hsW (put6_stay W s.a e) hnot
  have hxW : FdAt w0 B (put6 W s.a e) bx X u := (h3.below b).same ((put6_stay W s.a e).block bx (h3.below b).lt (fun e' => hsb e'.symm))
  have stW : Stay (fun k => k = bx ∨ k = s.a) w (put6 W s.a e) := ((st3.mono (fun k _ e => .inl e)).trans (.below b)).trans ((put6_stay W s.a e).mono (fun k _ e => .inr e))
  have hadd := add_any m c0 c2 c3 (s.upd e) ys (put6 W s.a e) hmW (put6_at hsW e) hl
  rw [show (s.upd e).a = s.a from rfl] at hadd
  exact hadd.mono fun r w' ⟨e1, h5, f5⟩ => ⟨e1, hxW.frm hmW f5, h5, put6 W s.a e, stW, hmW, f5⟩
/-- A feed's function. -/
abbrev fdV (bx : Nat) : Value := .func (.func 36) #[.pointer (some ⟨bx, 0, none⟩)] #[]
set_option maxHeartbeats 1000000 in
set_option maxRecDepth 100000 in
theorem ask_nil {w0 : World} {B : Nat} (m bx : Nat) (s : St) (X : List En) (u : Nat) (w : World) (hB : Below B w0 w) (hs : StAt w s) (hf : s.f = fdV bx) (h : FdAt w0 B w bx X u) (hu : u < 4611686018427387904) (he : X[u]? = none) :
    Calls Try.prog 52 #[.pointer (some ⟨m, 0, none⟩), .pointer (some ⟨s.a, 0, none⟩)] w fun r w' => r = .returned (.int .i64 0) ∧ FdAt w0 B w' bx X (u + 1) ∧ Stay (fun k => k = bx) w w' := by
  have x0 := hs.cells 0 _ rfl
  rw [hf] at x0
  have hn := fnext_any bx X u w h hB hu
  rw [show fdA X u = .tuple #[zeroE, .bool false, .int .i64 0] by unfold fdA; rw [he]] at hn
  simp only [zeroE] at hn
  clear hs hf h hB hu he
  go_enter Try.func52, Try.ntmps52
  go_wp2_with (go_at_call 36; refine hn.mono ?_; clear hn; rintro r w2 ⟨rfl, h2, s2⟩)
  go_ret
  have b2 : Below w2.heap.size w2 (w2.alloc (.cells #[.int .i64 0, .string ⟨#[]⟩, .int .i64 0, .int .i64 0, .bool false] 23)) := (Below.refl _ w2).alloc (Nat.le_refl _) _
  exact ⟨rfl, h2.below b2, s2.trans (.below b2)⟩
set_option maxHeartbeats 4000000 in
set_option maxRecDepth 100000 in
theorem ask_cons {w0 : World} {B : Nat} (m bx : Nat) (c0 c2 c3 : Value) (s : St) (ys : List St) (e : En) (X : List En) (u : Nat) (w : World) (hB : Below B w0 w) (hs : StAt w s) (hf : s.f = fdV bx) (h : FdAt w0 B w bx X u) (hu : u < 4611686018427387904) (he : X[u]? = some e) (hm : HM m c0 c2 c3 ys w) (hl : ys.length < 4096) (hnot : ∀ y ∈ ys, y.a ≠ s.a) (hlt : s.gv = true → cpE s.e e < 0) :
    Calls Try.prog 52 #[.pointer (some ⟨m, 0, none⟩), .pointer (some ⟨s.a, 0, none⟩)] w fun r w' => r = .returned (.int .i64 0) ∧ FdAt w0 B w' bx X (u + 1) ∧ HM m c0 c2 c3 (upL ltS (ys ++ [s.upd e]) ys.length) w' ∧ ∃ w2, Stay (fun k => k = bx ∨ k = s.a) w w2 ∧ HM m c0 c2 c3 ys w2 ∧ FrM m w2 w' := by
  have x0 := hs.cells 0 _ rfl
  rw [hf] at x0
  have hn := fnext_any bx X u w h hB hu
  rw [show fdA X u = .tuple #[.agg (enC e).toArray, .bool true, .int .i64 0] by unfold fdA; rw [he]] at hn
  simp only [enC] at hn
  go_enter Try.func52, Try.ntmps52
  go_wp2_with (go_at_call 36; refine hn.mono ?_; clear hn; rintro r w2 ⟨rfl, h2, s2⟩)
  have hsb : s.a ≠ bx := h.apart hs
  have hm2 := hm_box hm h s2
  have hs2 : StAt w2 s := (s2.block s.a (Array.getElem?_eq_some_iff.1 hs).1 hsb).trans hs
  have hE := SAt.new w2 (enC e) 23
  have bE : Below w2.heap.size w2 (w2.alloc (.cells (enC e).toArray 23)) := (Below.refl _ w2).alloc (Nat.le_refl _) _
  have hs3 : StAt (w2.alloc (.cells (enC e).toArray 23)) s := (bE.block s.a (Array.getElem?_eq_some_iff.1 hs2).1).trans hs2
  have st3 : Stay (fun k => k = bx) w (w2.alloc (.cells (enC e).toArray 23)) := s2.trans (.below bE)
  have h3 := h2.below bE
  have hm3 := hm2.below bE
  obtain ⟨W3, hW3⟩ : ∃ W3, W3 = w2.alloc (.cells (enC e).toArray 23) := ⟨_, rfl⟩
  rw [← hW3] at hE hs3 st3 h3 hm3
  simp only [enC] at hW3
  rw [← hW3]
  have hlt2 : s.a < w2.heap.size := (Array.getElem?_eq_some_iff.1 hs2).1
  clear hW3 bE h2 s2 hs2 x0
  have y7 := hs3.cells 7 _ rfl
  have hrest := fun W b => ask_rest (W := W) (e := e) hs3 st3 h3 hm3 hl hnot hsb b
  replace hrest := Hid.mk hrest
  obtain ⟨N2, hN2⟩ : ∃ N2, N2 = w2.heap.size := ⟨_, rfl⟩
  rw [← hN2] at hE ⊢
  have z0 := hE 0 _ rfl
  have z1 := hE 1 _ rfl
  have z2 := hE 2 _ rfl
  have z3 := hE 3 _ rfl
  have z4 := hE 4 _ rfl
  have hne : ¬ s.a = N2 := fun h => Nat.ne_of_lt hlt2 (h.trans hN2)
  have hne' : ¬ N2 = s.a := fun h => hne h.symm
  have y2 := hs3.cells 2 _ rfl
  have y3 := hs3.cells 3 _ rfl
  have y4 := hs3.cells 4 _ rfl
  have y5 := hs3.cells 5 _ rfl
  have y6 := hs3.cells 6 _ rfl
  have f2 : W3.frozen? ⟨s.a, 2, none⟩ = false := frozen_of_row _ _ _ _ _ hs3
  have f3 : W3.frozen? ⟨s.a, 3, none⟩ = false := frozen_of_row _ _ _ _ _ hs3
  have f4 : W3.frozen? ⟨s.a, 4, none⟩ = false := frozen_of_row _ _ _ _ _ hs3
  have f5 : W3.frozen? ⟨s.a, 5, none⟩ = false := frozen_of_row _ _ _ _ _ hs3
  have f6 : W3.frozen? ⟨s.a, 6, none⟩ = false := frozen_of_row _ _ _ _ _ hs3
  have f7 : W3.frozen? ⟨s.a, 7, none⟩ = false := frozen_of_row _ _ _ _ _ hs3
  clear he hu hE hs3 st3 h3 hm3 hm hm2 hnot hsb h hs hf hN2 hlt2 hB
  cases hg : s.gv with
  | false =>
    rw [hg] at y7
    have hr := hrest.out W3.drew (b_drew W3)
    unfold put6 at hr
    simp only [drew_set] at hr
    clear hrest hlt hg
    go_region
    go_wp2_with (go_at_call 59; refine hr.mono ?_; clear hr; rintro r w5 ⟨rfl, k1, k2, k3⟩)
    go_ret
    exact ⟨rfl, k1, k2, k3⟩
  | true =>
    rw [hg] at y7
    have hcmp := compare_any s.e e
    have hneg := hlt hg
    obtain ⟨q, hq⟩ : ∃ q, q = cpE s.e e := ⟨_, rfl⟩
    rw [← hq] at hcmp hneg
    simp only [enC] at hcmp
    clear hlt hg hq
    go_region_held (fun w' => Below W3.heap.size W3 w' ∧ w'.cell? ⟨s.a, 7, none⟩ = some (.bool true) ∧ w'.cell? ⟨s.a, 2, none⟩ = some (.int .i64 s.e.v) ∧ w'.cell? ⟨s.a, 3, none⟩ = some (.string s.e.c) ∧ w'.cell? ⟨s.a, 4, none⟩ = some (.int .i64 s.e.i) ∧ w'.cell? ⟨s.a, 5, none⟩ = some (.int .i64 s.e.s) ∧ w'.cell? ⟨s.a, 6, none⟩ = some (.bool s.e.d) ∧ w'.cell? ⟨N2, 0, none⟩ = some (.int .i64 e.v) ∧ w'.cell? ⟨N2, 1, none⟩ = some (.string e.c) ∧ w'.cell? ⟨N2, 2, none⟩ = some (.int .i64 e.i) ∧ w'.cell? ⟨N2, 3, none⟩ = some (.int .i64 e.s) ∧ w'.cell? ⟨N2, 4, none⟩ = some (.bool e.d))
      ((refine (fun hb => ⟨hb, cell_lat hb y7, cell_lat hb y2, cell_lat hb y3, cell_lat hb y4, cell_lat hb y5, cell_lat hb y6, cell_lat hb z0, cell_lat hb z1, cell_lat hb z2, cell_lat hb z3, cell_lat hb z4⟩) ?_; first | exact bb | exact b_drew W3))
      ((go_at_call 9; refine (hcmp _).mono ?_; clear hcmp; rintro r w4 ⟨rfl, b4⟩; have bb : Below W3.heap.size W3 w4 := below_d b4))
    all_goals
      rename_i hHeld
      have hr := hrest.out w4 bb
      unfold put6 at hr
      have g2 : w4.frozen? ⟨s.a, 2, none⟩ = false := froz_lat bb y2 f2
      have g3 : w4.frozen? ⟨s.a, 3, none⟩ = false := froz_lat bb y3 f3
      have g4 : w4.frozen? ⟨s.a, 4, none⟩ = false := froz_lat bb y4 f4
      have g5 : w4.frozen? ⟨s.a, 5, none⟩ = false := froz_lat bb y5 f5
      have g6 : w4.frozen? ⟨s.a, 6, none⟩ = false := froz_lat bb y6 f6
      have g7 : w4.frozen? ⟨s.a, 7, none⟩ = false := froz_lat bb y7 f7
      obtain ⟨-, y7, y2, y3, y4, y5, y6, z0, z1, z2, z3, z4⟩ := hHeld
      clear hrest bb b4
      go_wp2_with (go_at_call 59; refine hr.mono ?_; clear hr; rintro r w5 ⟨rfl, k1, k2, k3⟩)
      go_ret
      exact ⟨rfl, k1, k2, k3⟩
end Go.Proofs.Ytchikfabfhjkgaa.Fd
