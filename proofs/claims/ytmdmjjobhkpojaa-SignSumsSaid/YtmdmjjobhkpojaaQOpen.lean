/-
  DERIVED. Lists of parts that came in, opened.
-/
import Derived.Test.YtmdmjjobhkpojaaQSums
import Derived.Deep.Slices
import Derived.WideShapes
import Derived.ChangeShapes
import Derived.SizedLaws
import Derived.ChangeSlices
set_option linter.unusedVariables false
set_option linter.unusedSimpArgs false
namespace Go.Proofs.Ytmdmjjobhkpojaa
open Go.RowKit Go.ChangeShapes Go.WideShapes Go.Deep
theorem add_plain (b off j : Nat) : (⟨b, off, none⟩ : Addr).add j = ⟨b, off + j, none⟩ := by unfold Addr.add; split <;> simp_all
theorem cellsEn : Try.prog.cellsOf 30 = 2 := by kernel_rfl
theorem bytesEn : Try.prog.bytesOf 30 = 16 := by kernel_rfl
theorem cells3 : Try.prog.cellsOf 3 = 1 := by kernel_rfl
theorem laidOut : laidOutB Try.prog = true := by kernel_rfl
abbrev I64 (n : Int) : Prop := -9223372036854775808 ≤ n ∧ n ≤ 9223372036854775807
theorem i64_wf {n : Int} (h : (Lit.int .i64 n).wf = true) : I64 n := by
  have e1 : IntKind.i64.min = -9223372036854775808 := rfl
  have e2 : IntKind.i64.max = 9223372036854775807 := rfl
  simp [Lit.wf, e1, e2] at h
  exact h
set_option maxRecDepth 100000 in
/-- What a part reads as. -/
theorem en_trod2 {H : Type} {enc : TypeId × Value → H} {W : World} {base : Nat} {spare : Nat → Bool} {held : Bool} {fuel : Nat} {cs : List Value} {x : DataW H × List MemPlace}
    (h : DataW.trod enc Try.prog W base spare held fuel 30 cs = some x) : ∃ e : Zp, cs = zC e ∧ I64 e.1 ∧ I64 e.2 := by
  obtain ⟨xs, k, hk, hxy, hlen, hxl, hf⟩ := DataW.trod_struct Try.underlying30 h
  rw [cellsEn] at hlen
  match xs, hxl, cs, hlen with
  | [y0, y1], _, [v0, v1], _ =>
    have g0 := hf 0 _ rfl
    have g1 := hf 1 _ rfl
    simp [cells3] at g0 g1
    obtain ⟨z0, hz0, _, w0⟩ := DataW.trod_int Try.underlying3 g0
    obtain ⟨z1, hz1, _, w1⟩ := DataW.trod_int Try.underlying3 g1
    simp at hz0 hz1
    subst hz0 hz1
    exact ⟨(z0, z1), rfl, i64_wf w0, i64_wf w1⟩
theorem flat_to {W : World} {b off : Nat} {l : List Zp} (h : ∀ i (hi : i < l.length) j v, (zC l[i])[j]? = some v → W.cell? ⟨b, off + (i * 2 + j), none⟩ = some v) : ∀ j x, (l.flatMap zE.f)[j]? = some x → W.cell? ⟨b, off + j, none⟩ = some x := fun j x hx => by
  have e0 : (l.flatMap zE.f).length = l.length * 2 := zOk.len (P := Try.prog) l
  have hj : j < l.length * 2 := by rw [← e0]; exact (List.getElem?_eq_some_iff.1 hx).1
  have hi : j / 2 < l.length := by omega
  have hr : j % 2 < 2 := by omega
  have e : j / 2 * 2 + j % 2 = j := by omega
  have h1 := flat_at zC 2 (fun _ => rfl) l (j / 2) (j % 2) hi hr
  rw [e] at h1
  have h2 := h (j / 2) hi (j % 2) x (h1.symm.trans hx)
  rw [e] at h2
  exact h2
set_option maxRecDepth 100000 in
theorem open_ints2 {H : Type} {enc : TypeId × Value → H} {W : World} {base : Nat} {spare : Nat → Bool} {held : Bool} {fuel : Nat} {a0 : Option Addr} {len cap : Nat} {d : DataW H} {ps : List MemPlace}
    (h : DataW.trod enc Try.prog W base spare held fuel 23 [.slice a0 len cap] = some (d, ps)) (hsz : ∀ n ∈ d.weights Try.prog 23, n ≤ reachBytes) :
    ∃ l : List Zp, l.length = len ∧ zE.At W a0 l ∧ (l.length ≤ 8796093021952 ∧ ∀ e ∈ l, I64 e.1 ∧ I64 e.2) := by
  rcases open_slice Try.underlying23 h with ⟨hcs, _⟩ | ⟨a, len', cap', m, n, D, Pl, hcs, _, _, _, hm, hx, hel⟩
  · simp at hcs
    obtain ⟨rfl, rfl, rfl⟩ := hcs
    exact ⟨[], rfl, ⟨fun h => absurd rfl h⟩, by simp, fun e he => by cases he⟩
  · simp at hcs
    obtain ⟨rfl, rfl, rfl⟩ := hcs
    have hlm : len ≤ m := by rw [hm]; split <;> omega
    simp only [Prod.mk.injEq] at hx
    obtain ⟨hd, hps⟩ := hx
    have each : ∀ i, i < len → ∃ e : Zp, (∀ j v, (zC e)[j]? = some v → W.cell? ((a.add (i * 2)).add j) = some v) ∧ I64 e.1 ∧ I64 e.2 := by
      intro i hi
      obtain ⟨cs', h1, h2⟩ := hel i (by omega)
      rw [cellsEn] at h1
      obtain ⟨_, hlen, hcell⟩ := World.cells?_some h1
      obtain ⟨e, rfl, i0, i1⟩ := en_trod2 h2
      refine ⟨e, fun j v hv => ?_, i0, i1⟩
      have hj : j < 2 := by have := (List.getElem?_eq_some_iff.1 hv).1; simpa [zC] using this
      rw [hcell j hj, hv]
    obtain ⟨F, hF⟩ := choose_lt each
    have hlen : len ≤ 8796093021952 := by
      have hw := hsz ((((List.range len).map D).length + ((List.range (m - len)).map fun j => D (len + j)).length) * Try.prog.bytesOf 30) (by
        rw [hd]
        unfold DataW.weights
        rw [Try.underlying23]
        exact List.mem_cons_self)
      rw [bytesEn] at hw
      simp at hw
      have : reachBytes = 140737488351232 := by decide
      omega
    refine ⟨(List.range len).map F, by simp, ⟨fun hne => ?_⟩, by simpa using hlen, fun e he => ?_⟩
    · have hl0 : 0 < len := by
        rcases Nat.eq_zero_or_pos len with h0 | h0
        · subst h0; simp at hne
        · exact h0
      obtain ⟨b, off, spot⟩ := a
      have hsp : spot = none := by
        have := World.cell?_spot ((hF 0 hl0).1 0 _ rfl)
        simpa [Addr.add] using this
      subst hsp
      refine ⟨b, off, rfl, flat_to fun i hi j v hv => ?_⟩
      have hi' : i < len := by simpa using hi
      have h1 := (hF i hi').1 j v (by simpa using hv)
      rw [add_plain, add_plain, Nat.add_assoc] at h1
      exact h1
    · obtain ⟨i, hi, rfl⟩ := List.mem_map.1 he
      exact (hF i (List.mem_range.1 hi)).2
end Go.Proofs.Ytmdmjjobhkpojaa
