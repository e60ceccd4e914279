/-
  DERIVED. Lists of updates that came in, opened.
-/
import Derived.Test.YtekgppmhcbmpeaaDoorGOpen
import Derived.Test.YtekgppmhcbmpeaaDoorGPlay
set_option linter.unusedVariables false
set_option linter.unusedSimpArgs false
namespace Go.Proofs.YtekgppmhcbmpeaaDoor
open Go.RowKit Go.ChangeShapes Go.WideShapes Go.Deep
theorem cellsUp : Tryd.prog.cellsOf 53 = 4 := by kernel_rfl
theorem bytesUp : Tryd.prog.bytesOf 53 = 40 := by kernel_rfl
set_option maxRecDepth 100000 in
theorem up_trod {H : Type} {enc : TypeId × Value → H} {W : World} {base : Nat} {spare : Nat → Bool} {held : Bool} {fuel : Nat} {cs : List Value} {x : DataW H × List MemPlace}
    (h : DataW.trod enc Tryd.prog W base spare held fuel 53 cs = some x) : ∃ e : Up, cs = uC e ∧ I64 e.i := by
  obtain ⟨xs, k, hk, hxy, hlen, hxl, hf⟩ := DataW.trod_struct Tryd.underlying53 h
  rw [cellsUp] at hlen
  match xs, hxl, cs, hlen with
  | [y0, y1, y2, y3], _, [v0, v1, v2, v3], _ =>
    have g0 := hf 0 _ rfl
    have g1 := hf 1 _ rfl
    have g2 := hf 2 _ rfl
    have g3 := hf 3 _ rfl
    simp [cells3] at g0 g1 g2
    simp [cells9] at g3
    obtain ⟨z0, hz0, _, w0⟩ := DataW.trod_int Tryd.underlying3 g0
    obtain ⟨z1, hz1, _, w1⟩ := DataW.trod_int Tryd.underlying3 g1
    obtain ⟨z2, hz2, _, w2⟩ := DataW.trod_int Tryd.underlying3 g2
    obtain ⟨z3, hz3, hd3, _⟩ := DataW.trod_string Tryd.underlying9 g3
    simp at hz0 hz1 hz2 hz3
    subst hz0 hz1 hz2 hz3
    exact ⟨⟨z0, z1, z2, z3⟩, rfl, i64_wf w2⟩
theorem flat_to4 {W : World} {b off : Nat} {l : List Up} (h : ∀ i (hi : i < l.length) j v, (uC l[i])[j]? = some v → W.cell? ⟨b, off + (i * 4 + j), none⟩ = some v) : RowAt W b off (l.flatMap uC) := fun j x hx => by
  have hj : j < l.length * 4 := by rw [← flat_len4]; exact (List.getElem?_eq_some_iff.1 hx).1
  have hi : j / 4 < l.length := by omega
  have hr : j % 4 < 4 := by omega
  have e : j / 4 * 4 + j % 4 = j := by omega
  have h1 := flat_at uC 4 uC_len l (j / 4) (j % 4) hi hr
  rw [e, hx] at h1
  have h2 := h (j / 4) hi (j % 4) x h1.symm
  rw [e] at h2
  exact h2
set_option maxRecDepth 100000 in
theorem open_ups {H : Type} {enc : TypeId × Value → H} {W : World} {base : Nat} {spare : Nat → Bool} {held : Bool} {fuel : Nat} {a0 : Option Addr} {len cap : Nat} {d : DataW H} {ps : List MemPlace}
    (h : DataW.trod enc Tryd.prog W base spare held fuel 45 [.slice a0 len cap] = some (d, ps)) (hsz : ∀ n ∈ d.weights Tryd.prog 45, n ≤ reachBytes) :
    ∃ l : List Up, l.length = len ∧ ULAt W a0 l ∧ l.length ≤ 3518437208780 ∧ (∀ e ∈ l, I64 e.i) ∧ len ≤ cap := by
  rcases open_slice Tryd.underlying45 h with ⟨hcs, _⟩ | ⟨a, len', cap', m, n, D, Pl, hcs, _, hlc, _, hm, hx, hel⟩
  · simp at hcs
    obtain ⟨rfl, rfl, rfl⟩ := hcs
    exact ⟨[], rfl, ⟨fun h => absurd rfl h⟩, by simp, fun e he => (by cases he), Nat.le_refl _⟩
  · simp at hcs
    obtain ⟨rfl, rfl, rfl⟩ := hcs
    have hlm : len ≤ m := by rw [hm]; split <;> omega
    simp only [Prod.mk.injEq] at hx
    obtain ⟨hd, hps⟩ := hx
    have each : ∀ i, i < len → ∃ e : Up, (∀ j v, (uC e)[j]? = some v → W.cell? ((a.add (i * 4)).add j) = some v) ∧ I64 e.i := by
      intro i hi
      obtain ⟨cs', h1, h2⟩ := hel i (by omega)
      rw [cellsUp] at h1
      obtain ⟨_, hlen, hcell⟩ := World.cells?_some h1
      obtain ⟨e, rfl, i0⟩ := up_trod h2
      refine ⟨e, fun j v hv => ?_, i0⟩
      have hj : j < 4 := by have := (List.getElem?_eq_some_iff.1 hv).1; simpa [uC] using this
      rw [hcell j hj, hv]
    haveI : Inhabited Up := ⟨zU⟩
    obtain ⟨F, hF⟩ := choose_lt each
    have hlen : len ≤ 3518437208780 := by
      have hw := hsz ((((List.range len).map D).length + ((List.range (m - len)).map fun j => D (len + j)).length) * Tryd.prog.bytesOf 53) (by
        rw [hd]
        unfold DataW.weights
        rw [Tryd.underlying45]
        exact List.mem_cons_self)
      rw [bytesUp] at hw
      simp at hw
      have : reachBytes = 140737488351232 := by decide
      omega
    refine ⟨(List.range len).map F, by simp, ⟨fun hne => ?_⟩, by simpa using hlen, fun e he => ?_, hlc⟩
    · have hl0 : 0 < len := by
        rcases Nat.eq_zero_or_pos len with h0 | h0
        · subst h0; simp at hne
        · exact h0
      obtain ⟨b, off, spot⟩ := a
      have hsp : spot = none := by
        have := World.cell?_spot ((hF 0 hl0).1 0 _ rfl)
        simpa [Addr.add] using this
      subst hsp
      refine ⟨b, off, rfl, flat_to4 fun i hi j v hv => ?_⟩
      have hi' : i < len := by simpa using hi
      have h1 := (hF i hi').1 j v (by simpa using hv)
      rw [add_plain, add_plain, Nat.add_assoc] at h1
      exact h1
    · obtain ⟨i, hi, rfl⟩ := List.mem_map.1 he
      exact (hF i (List.mem_range.1 hi)).2
end Go.Proofs.YtekgppmhcbmpeaaDoor
