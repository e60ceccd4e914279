/-
  DERIVED. Entries and lists of entries that came in, opened.
-/
import Derived.Test.YtchikfabfhjkgaaMBase
import Derived.Deep.Slices
import Derived.WideShapes
import Derived.ChangeShapes
set_option linter.unusedVariables false
set_option linter.unusedSimpArgs false
namespace Go.Proofs.Ytchikfabfhjkgaa
open Go.RowKit Go.ChangeShapes Go.WideShapes Go.Deep
theorem add_plain (b off j : Nat) : (⟨b, off, none⟩ : Addr).add j = ⟨b, off + j, none⟩ := by unfold Addr.add; split <;> simp_all
theorem cellsEn : Try.prog.cellsOf 23 = 5 := by kernel_rfl
theorem bytesEn : Try.prog.bytesOf 23 = 48 := by kernel_rfl
theorem cells3 : Try.prog.cellsOf 3 = 1 := by kernel_rfl
theorem cells4 : Try.prog.cellsOf 4 = 1 := by kernel_rfl
theorem cells9 : Try.prog.cellsOf 9 = 1 := by kernel_rfl
theorem laidOut : laidOutB Try.prog = true := by kernel_rfl
set_option maxRecDepth 100000 in
/-- What an entry reads as. -/
theorem en_trod {H : Type} {enc : TypeId × Value → H} {W : World} {base : Nat} {spare : Nat → Bool} {held : Bool} {fuel : Nat} {cs : List Value} {x : DataW H × List MemPlace}
    (h : DataW.trod enc Try.prog W base spare held fuel 23 cs = some x) : ∃ e : En, cs = enC e := by
  obtain ⟨xs, k, hk, hxy, hlen, hxl, hf⟩ := DataW.trod_struct Try.underlying23 h
  rw [cellsEn] at hlen
  match xs, hxl, cs, hlen with
  | [y0, y1, y2, y3, y4], _, [v0, v1, v2, v3, v4], _ =>
    have g0 := hf 0 _ rfl
    have g1 := hf 1 _ rfl
    have g2 := hf 2 _ rfl
    have g3 := hf 3 _ rfl
    have g4 := hf 4 _ rfl
    simp [cells3] at g0 g2 g3
    simp [cells9] at g1
    simp [cells4] at g4
    obtain ⟨z0, hz0, _⟩ := DataW.trod_int Try.underlying3 g0
    obtain ⟨z1, hz1, _⟩ := DataW.trod_string Try.underlying9 g1
    obtain ⟨z2, hz2, _⟩ := DataW.trod_int Try.underlying3 g2
    obtain ⟨z3, hz3, _⟩ := DataW.trod_int Try.underlying3 g3
    obtain ⟨z4, hz4, _⟩ := DataW.trod_bool Try.underlying4 g4
    simp at hz0 hz1 hz2 hz3 hz4
    subst hz0 hz1 hz2 hz3 hz4
    exact ⟨⟨z0, z1, z2, z3, z4⟩, rfl⟩
set_option maxRecDepth 100000 in
theorem open_en {H : Type} {enc : TypeId × Value → H} {W : World} {base b0 : Nat} {r : Reach} {spare : Nat → Bool} {held : Bool} {v : Value} {d : DataW H} {ps : List MemPlace}
    (hv : Value.okWide Try.prog W r b0 23 v) (h : DataW.Trod enc Try.prog W base spare held 23 v d ps) : ∃ e : En, v = .agg (enC e).toArray := by
  obtain ⟨cs, rfl, hsz⟩ := okWide_struct Try.underlying23 hv
  obtain ⟨fuel, hf⟩ := h
  obtain ⟨e, he⟩ := en_trod hf
  refine ⟨e, ?_⟩
  have : cs.toList = enC e := by simpa [Value.cells] using he
  rw [← this]
theorem flat_to {W : World} {b off : Nat} {l : List En} (h : ∀ i (hi : i < l.length) j v, (enC l[i])[j]? = some v → W.cell? ⟨b, off + (i * 5 + j), none⟩ = some v) : RowAt W b off (l.flatMap enC) := fun j x hx => by
  have hj : j < l.length * 5 := by rw [← flat_len5]; exact (List.getElem?_eq_some_iff.1 hx).1
  have hi : j / 5 < l.length := by omega
  have hr : j % 5 < 5 := by omega
  have e : j / 5 * 5 + j % 5 = j := by omega
  have h1 := flat_at enC 5 enC_len l (j / 5) (j % 5) hi hr
  rw [e, hx] at h1
  have h2 := h (j / 5) hi (j % 5) x h1.symm
  rw [e] at h2
  exact h2
set_option maxRecDepth 100000 in
/-- What a list of entries reads as. -/
theorem open_ens {H : Type} {enc : TypeId × Value → H} {W : World} {base : Nat} {spare : Nat → Bool} {held : Bool} {fuel : Nat} {a0 : Option Addr} {len cap : Nat} {d : DataW H} {ps : List MemPlace}
    (h : DataW.trod enc Try.prog W base spare held fuel 24 [.slice a0 len cap] = some (d, ps)) :
    (a0 = none ∧ len = 0) ∨ ((∃ l : List En, l.length = len ∧ LAt W a0 l) ∧ ∃ elems sp, d = .slice elems sp ∧ elems.length = len) := by
  rcases open_slice Try.underlying24 h with ⟨hcs, _⟩ | ⟨a, len', cap', m, n, D, Pl, hcs, _, _, _, hm, hx, hel⟩
  · simp at hcs; exact .inl ⟨hcs.1, hcs.2.1⟩
  · right
    simp at hcs
    obtain ⟨rfl, rfl, rfl⟩ := hcs
    have hlm : len ≤ m := by rw [hm]; split <;> omega
    simp only [Prod.mk.injEq] at hx
    obtain ⟨hd, hps⟩ := hx
    refine ⟨?_, _, _, hd, by simp⟩
    have each : ∀ i, i < len → ∃ e : En, ∀ j v, (enC e)[j]? = some v → W.cell? ((a.add (i * 5)).add j) = some v := by
      intro i hi
      obtain ⟨cs', h1, h2⟩ := hel i (by omega)
      rw [cellsEn] at h1
      obtain ⟨_, hlen, hcell⟩ := World.cells?_some h1
      obtain ⟨e, rfl⟩ := en_trod h2
      refine ⟨e, fun j v hv => ?_⟩
      have hj : j < 5 := by have := (List.getElem?_eq_some_iff.1 hv).1; simpa [enC] using this
      rw [hcell j hj, hv]
    haveI : Inhabited En := ⟨e0⟩
    obtain ⟨F, hF⟩ := choose_lt each
    refine ⟨(List.range len).map F, by simp, ⟨fun hne => ?_⟩⟩
    have hl0 : 0 < len := by
      rcases Nat.eq_zero_or_pos len with h0 | h0
      · subst h0; simp at hne
      · exact h0
    obtain ⟨b, off, spot⟩ := a
    have hsp : spot = none := by
      have := World.cell?_spot (hF 0 hl0 0 _ rfl)
      simpa [Addr.add] using this
    subst hsp
    refine ⟨b, off, rfl, flat_to fun i hi j v hv => ?_⟩
    have hi' : i < len := by simpa using hi
    have h1 := hF i hi' j v (by simpa using hv)
    rw [add_plain, add_plain, Nat.add_assoc] at h1
    exact h1
end Go.Proofs.Ytchikfabfhjkgaa
