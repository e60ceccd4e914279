/-
  DERIVED. Requests that came in, opened.
-/
import Derived.Test.YtjdknijjkjmafaaWAskP
import Derived.Deep.Slices
import Derived.WideShapes
import Derived.ChangeShapes
import Derived.OpenShut
set_option linter.unusedVariables false
set_option linter.unusedSimpArgs false
namespace Go.Proofs.Ytjdknijjkjmafaa
open Go.RowKit Go.ChangeShapes Go.WideShapes Go.Deep
theorem cellsRq : Try.prog.cellsOf 40 = 5 := by kernel_rfl
theorem cells3 : Try.prog.cellsOf 3 = 1 := by kernel_rfl
theorem cells9 : Try.prog.cellsOf 9 = 1 := by kernel_rfl
theorem laidOut : laidOutB Try.prog = true := by kernel_rfl
theorem own : ownKnob Try.prog.godebug = none := by kernel_rfl
set_option maxRecDepth 100000 in
theorem rq_trod {H : Type} {enc : TypeId × Value → H} {W : World} {base : Nat} {spare : Nat → Bool} {held : Bool} {fuel : Nat} {cs : List Value} {x : DataW H × List MemPlace}
    (h : DataW.trod enc Try.prog W base spare held fuel 40 cs = some x) : ∃ q : Rq, cs = (rqV q).toList ∧ RqW q := by
  obtain ⟨xs, k, hk, hxy, hlen, hxl, hf⟩ := DataW.trod_struct Try.underlying40 h
  rw [cellsRq] at hlen
  match xs, hxl, cs, hlen with
  | [y0, y1, y2, y3, y4], _, [v0, v1, v2, v3, v4], _ =>
    have g0 := hf 0 _ rfl
    have g1 := hf 1 _ rfl
    have g2 := hf 2 _ rfl
    have g3 := hf 3 _ rfl
    have g4 := hf 4 _ rfl
    simp [cells3] at g0 g1 g3 g4
    simp [cells9] at g2
    obtain ⟨z0, hz0, _, w0⟩ := DataW.trod_int Try.underlying3 g0
    obtain ⟨z1, hz1, _, w1⟩ := DataW.trod_int Try.underlying3 g1
    obtain ⟨z2, hz2, _⟩ := DataW.trod_string Try.underlying9 g2
    obtain ⟨z3, hz3, _, w3⟩ := DataW.trod_int Try.underlying3 g3
    obtain ⟨z4, hz4, _, w4⟩ := DataW.trod_int Try.underlying3 g4
    have b1 := bounds_i64 w1
    have b3 := bounds_i64 w3
    have b4 := bounds_i64 w4
    simp at hz0 hz1 hz2 hz3 hz4
    subst hz0 hz1 hz2 hz3 hz4
    exact ⟨⟨z0, z1, z2, z3, z4⟩, rfl, b1.2, b3.2, b4.2⟩
set_option maxRecDepth 100000 in
theorem open_rq {H : Type} {enc : TypeId × Value → H} {W : World} {base b0 : Nat} {r : Reach} {spare : Nat → Bool} {held : Bool} {v : Value} {d : DataW H} {ps : List MemPlace}
    (hv : Value.okWide Try.prog W r b0 40 v) (h : DataW.Trod enc Try.prog W base spare held 40 v d ps) : ∃ q : Rq, v = .agg (rqV q) ∧ RqW q := by
  obtain ⟨cs, rfl, hsz⟩ := okWide_struct Try.underlying40 hv
  obtain ⟨fuel, hf⟩ := h
  obtain ⟨q, hq, hw⟩ := rq_trod hf
  refine ⟨q, ?_, hw⟩
  have : cs.toList = (rqV q).toList := by simpa [Value.cells] using hq
  rw [Array.toList_inj.1 this]
end Go.Proofs.Ytjdknijjkjmafaa
