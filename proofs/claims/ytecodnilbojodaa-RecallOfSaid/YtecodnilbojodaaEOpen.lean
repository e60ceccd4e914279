/-
  DERIVED. Lists of hits that came in, opened.
-/
import Derived.Test.YtecodnilbojodaaYLawA
import Derived.Deep.Slices
import Derived.WideShapes
import Derived.ChangeShapes
import Derived.SizedLaws
import Derived.ChangeSlices
set_option linter.unusedVariables false
set_option linter.unusedSimpArgs false
namespace Go.Proofs.Ytecodnilbojodaa
open Go.RowKit Go.ChangeShapes Go.WideShapes Go.Deep
/-- Numbers that an int holds, and a text that a string does. -/
def HtW (h : Ht) : Prop := I64 h.d ∧ I64 h.i ∧ h.c.size ≤ 140737488355328
theorem add_plain (b off j : Nat) : (⟨b, off, none⟩ : Addr).add j = ⟨b, off + j, none⟩ := by unfold Addr.add; split <;> simp_all
theorem cellsEn : Try.prog.cellsOf 29 = 3 := by kernel_rfl
theorem bytesEn : Try.prog.bytesOf 29 = 32 := by kernel_rfl
theorem cells3 : Try.prog.cellsOf 3 = 1 := by kernel_rfl
theorem cells9 : Try.prog.cellsOf 9 = 1 := by kernel_rfl
theorem laidOut : laidOutB Try.prog = true := by kernel_rfl
theorem i64_wf {n : Int} (h : (Lit.int .i64 n).wf = true) : I64 n := by
  have e1 : IntKind.i64.min = -9223372036854775808 := rfl
  have e2 : IntKind.i64.max = 9223372036854775807 := rfl
  simp [Lit.wf, e1, e2] at h
  exact h
set_option maxRecDepth 100000 in
/-- What a hit reads as, with its data. -/
theorem en_trod2 {H : Type} {enc : TypeId × Value → H} {W : World} {base : Nat} {spare : Nat → Bool} {held : Bool} {fuel : Nat} {cs : List Value} {x : DataW H × List MemPlace}
    (h : DataW.trod enc Try.prog W base spare held fuel 29 cs = some x) : ∃ e : Ht, cs = hC e ∧ I64 e.d ∧ I64 e.i ∧ ∃ y0 y1, x.1 = .agg [y0, y1, .lit (.string e.c.data.toList)] := by
  obtain ⟨xs, k, hk, hxy, hlen, hxl, hf⟩ := DataW.trod_struct Try.underlying29 h
  rw [cellsEn] at hlen
  match xs, hxl, cs, hlen with
  | [y0, y1, y2], _, [v0, v1, v2], _ =>
    have g0 := hf 0 _ rfl
    have g1 := hf 1 _ rfl
    have g2 := hf 2 _ rfl
    simp [cells3] at g0 g1
    simp [cells9] at g2
    obtain ⟨z0, hz0, _, w0⟩ := DataW.trod_int Try.underlying3 g0
    obtain ⟨z1, hz1, _, w1⟩ := DataW.trod_int Try.underlying3 g1
    obtain ⟨z2, hz2, hd2, _⟩ := DataW.trod_string Try.underlying9 g2
    simp at hz0 hz1 hz2
    subst hz0 hz1 hz2
    exact ⟨⟨z0, z1, z2⟩, rfl, i64_wf w0, i64_wf w1, y0.1, y1.1, by rw [hxy]; simp [hd2]⟩
theorem weights_in {H : Type} {P : Program} {e : TypeId} : ∀ {ds : List (DataW H)} {d : DataW H} {n : Nat}, d ∈ ds → n ∈ d.weights P e → n ∈ DataW.weightsAll P e ds
  | d' :: ds, d, n, hd, hn => by
    unfold DataW.weightsAll
    rcases List.mem_cons.1 hd with rfl | h
    · exact List.mem_append_left _ hn
    · exact List.mem_append_right _ (weights_in h hn)
theorem flat_to {W : World} {b off : Nat} {l : List Ht} (h : ∀ i (hi : i < l.length) j v, (hC l[i])[j]? = some v → W.cell? ⟨b, off + (i * 3 + j), none⟩ = some v) : RowAt W b off (l.flatMap hC) := fun j x hx => by
  have hj : j < l.length * 3 := by rw [← flat_len3]; exact (List.getElem?_eq_some_iff.1 hx).1
  have hi : j / 3 < l.length := by omega
  have hr : j % 3 < 3 := by omega
  have e : j / 3 * 3 + j % 3 = j := by omega
  have h1 := flat_at hC 3 enC_len l (j / 3) (j % 3) hi hr
  rw [e, hx] at h1
  have h2 := h (j / 3) hi (j % 3) x h1.symm
  rw [e] at h2
  exact h2
set_option maxRecDepth 100000 in
theorem open_ens2 {H : Type} {enc : TypeId × Value → H} {W : World} {base : Nat} {spare : Nat → Bool} {held : Bool} {fuel : Nat} {a0 : Option Addr} {len cap : Nat} {d : DataW H} {ps : List MemPlace}
    (h : DataW.trod enc Try.prog W base spare held fuel 22 [.slice a0 len cap] = some (d, ps)) (hsz : ∀ n ∈ d.weights Try.prog 22, n ≤ reachBytes) :
    ∃ l : List Ht, l.length = len ∧ LAt W a0 l ∧ l.length ≤ 4398046510976 ∧ ∀ e ∈ l, HtW e := by
  rcases open_slice Try.underlying22 h with ⟨hcs, _⟩ | ⟨a, len', cap', m, n, D, Pl, hcs, _, _, _, hm, hx, hel⟩
  · simp at hcs
    obtain ⟨rfl, rfl, rfl⟩ := hcs
    exact ⟨[], rfl, ⟨fun h => absurd rfl h⟩, by simp, fun e he => by cases he⟩
  · simp at hcs
    obtain ⟨rfl, rfl, rfl⟩ := hcs
    have hlm : len ≤ m := by rw [hm]; split <;> omega
    simp only [Prod.mk.injEq] at hx
    obtain ⟨hd, hps⟩ := hx
    have each : ∀ i, i < len → ∃ e : Ht, (∀ j v, (hC e)[j]? = some v → W.cell? ((a.add (i * 3)).add j) = some v) ∧ HtW e := by
      intro i hi
      obtain ⟨cs', h1, h2⟩ := hel i (by omega)
      rw [cellsEn] at h1
      obtain ⟨_, hlen, hcell⟩ := World.cells?_some h1
      obtain ⟨e, rfl, i0, i1, y0, y1, hD⟩ := en_trod2 h2
      refine ⟨e, fun j v hv => ?_, ?_⟩
      · have hj : j < 3 := by have := (List.getElem?_eq_some_iff.1 hv).1; simpa [hC] using this
        rw [hcell j hj, hv]
      · refine ⟨i0, i1, ?_⟩
        have hw := hsz e.c.data.toList.length (by
          rw [hd]
          unfold DataW.weights
          rw [Try.underlying22]
          refine List.mem_cons_of_mem _ (List.mem_append_left _ (weights_in (d := D i) (List.mem_map.2 ⟨i, List.mem_range.2 hi, rfl⟩) ?_))
          have hD' : D i = .agg [y0, y1, .lit (.string e.c.data.toList)] := hD
          rw [hD']
          unfold DataW.weights
          rw [Try.underlying29]
          show _ ∈ DataW.weightsEach Try.prog (3 :: 3 :: 9 :: _) (y0 :: y1 :: .lit (.string e.c.data.toList) :: _)
          unfold DataW.weightsEach
          refine List.mem_append_right _ ?_
          unfold DataW.weightsEach
          refine List.mem_append_right _ ?_
          unfold DataW.weightsEach
          refine List.mem_append_left _ ?_
          unfold DataW.weights
          exact List.mem_singleton.2 rfl)
        rw [nm_size] at hw
        have : reachBytes = 140737488351232 := by decide
        omega
    haveI : Inhabited Ht := ⟨e0⟩
    obtain ⟨F, hF⟩ := choose_lt each
    have hlen : len ≤ 4398046510976 := by
      have hw := hsz ((((List.range len).map D).length + ((List.range (m - len)).map fun j => D (len + j)).length) * Try.prog.bytesOf 29) (by
        rw [hd]
        unfold DataW.weights
        rw [Try.underlying22]
        exact List.mem_cons_self)
      rw [bytesEn] at hw
      simp at hw
      have : reachBytes = 140737488351232 := by decide
      omega
    refine ⟨(List.range len).map F, by simp, ⟨fun hne => ?_⟩, by simpa using hlen, fun e he => ?_⟩
    · have hl0 : 0 < len := by
        rcases Nat.eq_zero_or_pos len with h0 | h0
        · subst h0; simp at hne
        · exact h0
      obtain ⟨b, off, spot⟩ := a
      have hsp : spot = none := by
        have := World.cell?_spot ((hF 0 hl0).1 0 _ rfl)
        simpa [Addr.add] using this
      subst hsp
      refine ⟨b, off, rfl, flat_to fun i hi j v hv => ?_⟩
      have hi' : i < len := by simpa using hi
      have h1 := (hF i hi').1 j v (by simpa using hv)
      rw [add_plain, add_plain, Nat.add_assoc] at h1
      exact h1
    · obtain ⟨i, hi, rfl⟩ := List.mem_map.1 he
      exact (hF i (List.mem_range.1 hi)).2
end Go.Proofs.Ytecodnilbojodaa
