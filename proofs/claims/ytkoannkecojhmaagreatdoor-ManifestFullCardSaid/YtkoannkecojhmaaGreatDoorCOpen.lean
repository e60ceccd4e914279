/-
  DERIVED. Manifests that came in, opened.
-/
import Derived.Test.YtkoannkecojhmaaGreatDoorCApp
import Derived.Test.YtkoannkecojhmaaGreatDoorCNum
import Derived.Deep.Slices
import Derived.WideShapes
import Derived.ChangeShapes
set_option linter.unusedVariables false
set_option linter.unusedSimpArgs false
namespace Go.Proofs.YtkoannkecojhmaaGreatDoor
open Go.RowKit Go.ChangeShapes Go.WideShapes Go.Deep
theorem add_plain (b off j : Nat) : (⟨b, off, none⟩ : Addr).add j = ⟨b, off + j, none⟩ := by unfold Addr.add; split <;> simp_all
theorem cellsRn : Tryz.prog.cellsOf 54 = 4 := by kernel_rfl
theorem cellsMf : Tryz.prog.cellsOf 26 = 7 := by kernel_rfl
theorem cellsOp : Tryz.prog.cellsOf 23 = 3 := by kernel_rfl
theorem cellsRns : Tryz.prog.cellsOf 24 = 1 := by kernel_rfl
theorem bytesRn : Tryz.prog.bytesOf 54 = 32 := by kernel_rfl
theorem cells3 : Tryz.prog.cellsOf 3 = 1 := by kernel_rfl
theorem laidOut : laidOutB Tryz.prog = true := by kernel_rfl
theorem i64_of {n : Int} (h : (Lit.int .i64 n).wf = true) : I64 n := by
  have e1 : IntKind.i64.min = -9223372036854775808 := rfl
  have e2 : IntKind.i64.max = 9223372036854775807 := rfl
  simp [Lit.wf, e1, e2] at h
  constructor <;> omega
set_option maxRecDepth 100000 in
theorem ru_trod {H : Type} {enc : TypeId × Value → H} {W : World} {base : Nat} {spare : Nat → Bool} {held : Bool} {fuel : Nat} {cs : List Value} {x : DataW H × List MemPlace}
    (h : DataW.trod enc Tryz.prog W base spare held fuel 54 cs = some x) : ∃ e : Ru, cs = ruC e ∧ I64 e.num ∧ I64 e.lo ∧ I64 e.hi ∧ I64 e.cnt := by
  obtain ⟨xs, k, hk, hxy, hlen, hxl, hf⟩ := DataW.trod_struct Tryz.underlying54 h
  rw [cellsRn] at hlen
  match xs, hxl, cs, hlen with
  | [y0, y1, y2, y3], _, [v0, v1, v2, v3], _ =>
    have g0 := hf 0 _ rfl
    have g1 := hf 1 _ rfl
    have g2 := hf 2 _ rfl
    have g3 := hf 3 _ rfl
    simp [cells3] at g0 g1 g2 g3
    obtain ⟨z0, hz0, _, w0⟩ := DataW.trod_int Tryz.underlying3 g0
    obtain ⟨z1, hz1, _, w1⟩ := DataW.trod_int Tryz.underlying3 g1
    obtain ⟨z2, hz2, _, w2⟩ := DataW.trod_int Tryz.underlying3 g2
    obtain ⟨z3, hz3, _, w3⟩ := DataW.trod_int Tryz.underlying3 g3
    simp at hz0 hz1 hz2 hz3
    subst hz0 hz1 hz2 hz3
    exact ⟨⟨z0, z1, z2, z3⟩, rfl, i64_of w0, i64_of w1, i64_of w2, i64_of w3⟩
theorem flat_to {W : World} {b off : Nat} {l : List Ru} (h : ∀ i (hi : i < l.length) j v, (ruC l[i])[j]? = some v → W.cell? ⟨b, off + (i * 4 + j), none⟩ = some v) : RowAt W b off (l.flatMap ruC) := fun j x hx => by
  have hj : j < l.length * 4 := by rw [← flat_len4]; exact (List.getElem?_eq_some_iff.1 hx).1
  have hi : j / 4 < l.length := by omega
  have hr : j % 4 < 4 := by omega
  have e : j / 4 * 4 + j % 4 = j := by omega
  have h1 := flat_at ruC 4 ruC_len l (j / 4) (j % 4) hi hr
  rw [e, hx] at h1
  have h2 := h (j / 4) hi (j % 4) x h1.symm
  rw [e] at h2
  exact h2
set_option maxRecDepth 100000 in
/-- What a list of runs reads as. -/
theorem open_rns {H : Type} {enc : TypeId × Value → H} {W : World} {base : Nat} {spare : Nat → Bool} {held : Bool} {fuel : Nat} {cs : List Value} {x : DataW H × List MemPlace}
    (h : DataW.trod enc Tryz.prog W base spare held fuel 24 cs = some x) :
    ∃ (la : Option Addr) (l : List Ru) (c : Nat), cs = [.slice la l.length c] ∧ LAt W la l ∧ l.length ≤ c ∧ (∀ r ∈ l, I64 r.num ∧ I64 r.lo ∧ I64 r.hi ∧ I64 r.cnt) ∧ (l = [] ∨ ∃ elems sp, x.1 = .slice elems sp ∧ elems.length = l.length) := by
  rcases open_slice Tryz.underlying24 h with ⟨hcs, _⟩ | ⟨a, len, cap, m, n, D, Pl, hcs, _, hlc, _, hm, hx, hel⟩
  · exact ⟨none, [], 0, hcs, ⟨fun h => absurd rfl h⟩, Nat.le_refl _, (fun r hr => by cases hr), .inl rfl⟩
  · have hlm : len ≤ m := by rw [hm]; split <;> omega
    have each : ∀ i, i < len → ∃ e : Ru, (∀ j v, (ruC e)[j]? = some v → W.cell? ((a.add (i * 4)).add j) = some v) ∧ I64 e.num ∧ I64 e.lo ∧ I64 e.hi ∧ I64 e.cnt := by
      intro i hi
      obtain ⟨cs', h1, h2⟩ := hel i (by omega)
      rw [cellsRn] at h1
      obtain ⟨_, hlen, hcell⟩ := World.cells?_some h1
      obtain ⟨e, rfl, hw⟩ := ru_trod h2
      refine ⟨e, fun j v hv => ?_, hw⟩
      have hj : j < 4 := by have := (List.getElem?_eq_some_iff.1 hv).1; simpa [ruC] using this
      rw [hcell j hj, hv]
    haveI : Inhabited Ru := ⟨⟨0, 0, 0, 0⟩⟩
    obtain ⟨F, hF⟩ := choose_lt each
    refine ⟨some a, (List.range len).map F, cap, by simpa using hcs, ⟨fun hne => ?_⟩, by simpa using hlc, fun r hr => ?_, .inr ⟨_, _, by rw [hx], by simp⟩⟩
    · have hl0 : 0 < len := by
        rcases Nat.eq_zero_or_pos len with h0 | h0
        · subst h0; simp at hne
        · exact h0
      obtain ⟨b, off, spot⟩ := a
      have hsp : spot = none := by
        have := World.cell?_spot ((hF 0 hl0).1 0 _ rfl)
        simpa [Addr.add] using this
      subst hsp
      refine ⟨b, off, rfl, flat_to fun i hi j v hv => ?_⟩
      have hi' : i < len := by simpa using hi
      have h1 := (hF i hi').1 j v (by simpa using hv)
      rw [add_plain, add_plain, Nat.add_assoc] at h1
      exact h1
    · obtain ⟨i, hi, rfl⟩ := List.mem_map.1 hr
      exact (hF i (List.mem_range.1 hi)).2
set_option maxRecDepth 100000 in
theorem open_mf {H : Type} {enc : TypeId × Value → H} {W : World} {base b0 : Nat} {r : Reach} {spare : Nat → Bool} {held : Bool} {v : Value} {d : DataW H} {ps : List MemPlace}
    (hv : Value.okWide Tryz.prog W r b0 26 v) (h : DataW.Trod enc Tryz.prog W base spare held 26 v d ps) :
    ∃ (m : Mf) (la : Option Addr) (c : Nat), v = .agg (mfC m la c).toArray ∧ LAt W la m.rs ∧ MfW m ∧ m.rs.length ≤ c ∧ (m.rs = [] ∨ ∃ d0 d1 d2 d3 elems sp, d = .agg [d0, d1, d2, d3, .slice elems sp] ∧ elems.length = m.rs.length) := by
  obtain ⟨cs, rfl, hsz⟩ := okWide_struct Tryz.underlying26 hv
  obtain ⟨fuel, hf⟩ := h
  obtain ⟨xs, k, hk, hxy, hlen, hxl, hf⟩ := DataW.trod_struct Tryz.underlying26 hf
  rw [cellsMf] at hlen
  have hcs : (Value.agg cs).cells.toList = cs.toList := rfl
  rw [hcs] at hlen hf
  obtain ⟨cs⟩ := cs
  dsimp only at hlen hf ⊢
  match xs, hxl, cs, hlen with
  | [y0, y1, y2, y3, y4], _, [v0, v1, v2, v3, v4, v5, v6], _ =>
    have g0 := hf 0 _ rfl
    have g1 := hf 1 _ rfl
    have g2 := hf 2 _ rfl
    have g3 := hf 3 _ rfl
    have g4 := hf 4 _ rfl
    simp [cells3, cellsOp, cellsRns] at g0 g1 g2 g3 g4
    obtain ⟨xs2, k2, hk2, hxy2, hlen2, hxl2, hf2⟩ := DataW.trod_struct Tryz.underlying23 g0
    match xs2, hxl2 with
    | [z0, z1, z2], _ =>
      have q0 := hf2 0 _ rfl
      have q1 := hf2 1 _ rfl
      have q2 := hf2 2 _ rfl
      simp [cells3] at q0 q1 q2
      obtain ⟨n0, e0, _, w0⟩ := DataW.trod_int Tryz.underlying3 q0
      obtain ⟨n1, e1, _, w1⟩ := DataW.trod_int Tryz.underlying3 q1
      obtain ⟨n2, e2, _, w2⟩ := DataW.trod_int Tryz.underlying3 q2
      obtain ⟨n3, e3, _, w3⟩ := DataW.trod_int Tryz.underlying3 g1
      obtain ⟨n4, e4, _, w4⟩ := DataW.trod_int Tryz.underlying3 g2
      obtain ⟨n5, e5, _, w5⟩ := DataW.trod_int Tryz.underlying3 g3
      obtain ⟨la, l, c, e6, hL, hc, hI, hd⟩ := open_rns g4
      simp at e0 e1 e2 e3 e4 e5 e6
      subst e0 e1 e2 e3 e4 e5 e6
      refine ⟨⟨n0, n1, n2, n3, n4, n5, l⟩, la, c, rfl, hL, ⟨i64_of w0, i64_of w1, i64_of w2, i64_of w3, i64_of w4, i64_of w5, hI⟩, hc, ?_⟩
      rcases hd with h | ⟨elems, sp, h1, h2⟩
      · exact .inl h
      · right
        have hd : d = .agg [y0.1, y1.1, y2.1, y3.1, y4.1] := congrArg Prod.fst hxy
        exact ⟨y0.1, y1.1, y2.1, y3.1, elems, sp, by rw [hd, h1], h2⟩
end Go.Proofs.YtkoannkecojhmaaGreatDoor
