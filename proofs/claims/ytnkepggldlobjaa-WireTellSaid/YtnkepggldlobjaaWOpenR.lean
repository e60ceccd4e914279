/-
  DERIVED. Replies that came in, opened.
-/
import Derived.Test.YtnkepggldlobjaaWOpen
import Derived.Test.YtnkepggldlobjaaWTellP
import Derived.SizedLaws
import Derived.ChangeSlices
set_option linter.unusedVariables false
set_option linter.unusedSimpArgs false
namespace Go.Proofs.Ytnkepggldlobjaa
open Go.RowKit Go.ChangeShapes Go.WideShapes Go.Deep
theorem add_plainR (b off j : Nat) : (⟨b, off, none⟩ : Addr).add j = ⟨b, off + j, none⟩ := by unfold Addr.add; split <;> simp_all
theorem cellsHt : Try.prog.cellsOf 39 = 3 := by kernel_rfl
theorem cellsHts : Try.prog.cellsOf 35 = 1 := by kernel_rfl
theorem cellsRp : Try.prog.cellsOf 37 = 4 := by kernel_rfl
theorem cells24 : Try.prog.cellsOf 24 = 1 := by kernel_rfl
theorem bytesHt : Try.prog.bytesOf 39 = 32 := by kernel_rfl
set_option maxRecDepth 100000 in
/-- What a hit reads as. -/
theorem ht_trod {H : Type} {enc : TypeId × Value → H} {W : World} {base : Nat} {spare : Nat → Bool} {held : Bool} {fuel : Nat} {cs : List Value} {x : DataW H × List MemPlace}
    (h : DataW.trod enc Try.prog W base spare held fuel 39 cs = some x) : ∃ e : Ht, cs = [.int .i64 e.d, .int .i64 e.i, .string e.c] ∧ e.d ≤ 9223372036854775807 ∧ e.i ≤ 9223372036854775807 := by
  obtain ⟨xs, k, hk, hxy, hlen, hxl, hf⟩ := DataW.trod_struct Try.underlying39 h
  rw [cellsHt] at hlen
  match xs, hxl, cs, hlen with
  | [y0, y1, y2], _, [v0, v1, v2], _ =>
    have g0 := hf 0 _ rfl
    have g1 := hf 1 _ rfl
    have g2 := hf 2 _ rfl
    simp [cells3] at g0 g1
    simp [cells9] at g2
    obtain ⟨z0, hz0, _, w0⟩ := DataW.trod_int Try.underlying3 g0
    obtain ⟨z1, hz1, _, w1⟩ := DataW.trod_int Try.underlying3 g1
    obtain ⟨z2, hz2, hd2, _⟩ := DataW.trod_string Try.underlying9 g2
    have b0 := bounds_i64 w0
    have b1 := bounds_i64 w1
    simp at hz0 hz1 hz2
    subst hz0 hz1 hz2
    exact ⟨⟨z0, z1, z2⟩, rfl, b0.2, b1.2⟩
set_option maxRecDepth 100000 in
/-- What a list of hits reads as. -/
theorem open_hts {H : Type} {enc : TypeId × Value → H} {W : World} {base : Nat} {spare : Nat → Bool} {held : Bool} {fuel : Nat} {cs : List Value} {x : DataW H × List MemPlace}
    (h : DataW.trod enc Try.prog W base spare held fuel 35 cs = some x) :
    ∃ (a : Option Addr) (L : List Ht) (c : Nat), cs = [.slice a L.length c] ∧ HsAt W a L ∧ (∀ e ∈ L, e.d ≤ 9223372036854775807 ∧ e.i ≤ 9223372036854775807) ∧ (L = [] ∨ ∃ elems sp, x.1 = .slice elems sp ∧ elems.length = L.length) := by
  rcases open_slice Try.underlying35 h with ⟨hcs, _⟩ | ⟨a, len, cap, m, n, D, Pl, hcs, _, hlc, _, hm, hx, hel⟩
  · exact ⟨none, [], 0, hcs, .inl rfl, (fun r hr => by cases hr), .inl rfl⟩
  · have hlm : len ≤ m := by rw [hm]; split <;> omega
    have each : ∀ i, i < len → ∃ e : Ht, (∀ j v, [Value.int .i64 e.d, .int .i64 e.i, .string e.c][j]? = some v → W.cell? ((a.add (i * 3)).add j) = some v) ∧ e.d ≤ 9223372036854775807 ∧ e.i ≤ 9223372036854775807 := by
      intro i hi
      obtain ⟨cs', h1, h2⟩ := hel i (by omega)
      rw [cellsHt] at h1
      obtain ⟨_, hlen, hcell⟩ := World.cells?_some h1
      obtain ⟨e, rfl, hw⟩ := ht_trod h2
      refine ⟨e, fun j v hv => ?_, hw⟩
      have hj : j < 3 := by have := (List.getElem?_eq_some_iff.1 hv).1; simpa using this
      rw [hcell j hj, hv]
    haveI : Inhabited Ht := ⟨⟨0, 0, ⟨#[]⟩⟩⟩
    obtain ⟨F, hF⟩ := choose_lt each
    refine ⟨some a, (List.range len).map F, cap, by simpa using hcs, ?_, fun r hr => ?_, .inr ⟨_, _, by rw [hx], by simp⟩⟩
    · rcases Nat.eq_zero_or_pos len with h0 | hl0
      · subst h0; exact .inl rfl
      obtain ⟨b, off, spot⟩ := a
      have hsp : spot = none := by
        have := World.cell?_spot ((hF 0 hl0).1 0 _ rfl)
        simpa [Addr.add] using this
      subst hsp
      have hc : ∀ i (hi : i < len) j v, [Value.int .i64 (F i).d, .int .i64 (F i).i, .string (F i).c][j]? = some v → W.cell? ⟨b, off + i * 3 + j, none⟩ = some v := fun i hi j v hv => by
        have h1 := (hF i hi).1 j v hv
        rw [add_plainR, add_plainR] at h1
        exact h1
      refine .inr ⟨b, off, rfl, World.block_lt_of_cell? W _ (hc 0 hl0 0 _ rfl), fun i hi => ?_⟩
      have hi' : i < len := by simpa using hi
      simp only [List.getElem_map, List.getElem_range]
      exact ⟨hc i hi' 0 _ rfl, hc i hi' 1 _ rfl, hc i hi' 2 _ rfl⟩
    · obtain ⟨i, hi, rfl⟩ := List.mem_map.1 hr
      exact (hF i (List.mem_range.1 hi)).2
set_option maxRecDepth 100000 in
theorem open_rp {H : Type} {enc : TypeId × Value → H} {W : World} {base b0 : Nat} {r : Reach} {spare : Nat → Bool} {held : Bool} {v : Value} {d : DataW H} {ps : List MemPlace}
    (hv : Value.okWide Try.prog W r b0 37 v) (h : DataW.Trod enc Try.prog W base spare held 37 v d ps) :
    ∃ (q : Rp) (L : List Ht) (a : Option Addr) (c : Nat), v = .agg (rpC q (.slice a L.length c)) ∧ HsAt W a L ∧ q.n ≤ 9223372036854775807 ∧ (∀ e ∈ L, e.d ≤ 9223372036854775807 ∧ e.i ≤ 9223372036854775807) ∧ (L = [] ∨ ∃ d0 d1 d2 elems sp, d = .agg [d0, d1, d2, .slice elems sp] ∧ elems.length = L.length) := by
  obtain ⟨cs, rfl, hsz⟩ := okWide_struct Try.underlying37 hv
  obtain ⟨fuel, hf⟩ := h
  obtain ⟨xs, k, hk, hxy, hlen, hxl, hf⟩ := DataW.trod_struct Try.underlying37 hf
  rw [cellsRp] at hlen
  have hcs : (Value.agg cs).cells.toList = cs.toList := rfl
  rw [hcs] at hlen hf
  obtain ⟨cs⟩ := cs
  dsimp only at hlen hf ⊢
  match xs, hxl, cs, hlen with
  | [y0, y1, y2, y3], _, [v0, v1, v2, v3], _ =>
    have g0 := hf 0 _ rfl
    have g1 := hf 1 _ rfl
    have g2 := hf 2 _ rfl
    have g3 := hf 3 _ rfl
    simp [cells24, cells3, cells9, cellsHts] at g0 g1 g2 g3
    obtain ⟨n0, e0, _, w0⟩ := DataW.trod_int Try.underlying24 g0
    obtain ⟨n1, e1, _, w1⟩ := DataW.trod_int Try.underlying3 g1
    obtain ⟨t, e2, _⟩ := DataW.trod_string Try.underlying9 g2
    obtain ⟨a, L, c, e3, hL, hw, hd⟩ := open_hts g3
    have b1 := bounds_i64 w1
    simp at e0 e1 e2 e3
    subst e0 e1 e2 e3
    refine ⟨⟨n0, n1, t⟩, L, a, c, rfl, hL, b1.2, hw, ?_⟩
    rcases hd with h | ⟨elems, sp, h1, h2⟩
    · exact .inl h
    · right
      have hd : d = .agg [y0.1, y1.1, y2.1, y3.1] := congrArg Prod.fst hxy
      exact ⟨y0.1, y1.1, y2.1, elems, sp, by rw [hd, h1], h2⟩
end Go.Proofs.Ytnkepggldlobjaa
