/-
  DERIVED. Ids and steps that came in, opened; their bulk.
-/
import Derived.Test.YtmhifofeobhhgaaULawA
import Derived.Test.YtmhifofeobhhgaaRows
import Derived.Deep.Slices
import Derived.WideShapes
import Derived.ChangeShapes
import Derived.SizedLaws
import Derived.ChangeSlices
set_option linter.unusedVariables false
set_option linter.unusedSimpArgs false
namespace Go.Proofs.Ytmhifofeobhhgaa
open Go.RowKit Go.ChangeShapes Go.WideShapes Go.Deep
theorem add_plain (b off j : Nat) : (⟨b, off, none⟩ : Addr).add j = ⟨b, off + j, none⟩ := by unfold Addr.add; split <;> simp_all
theorem cells3 : Try.prog.cellsOf 3 = 1 := by kernel_rfl
theorem cells4 : Try.prog.cellsOf 4 = 1 := by kernel_rfl
theorem cellsSt : Try.prog.cellsOf 36 = 4 := by kernel_rfl
theorem laidOut : laidOutB Try.prog = true := by kernel_rfl
theorem i64_wf {n : Int} (h : (Lit.int .i64 n).wf = true) : I64 n := by
  have e1 : IntKind.i64.min = -9223372036854775808 := rfl
  have e2 : IntKind.i64.max = 9223372036854775807 := rfl
  simp [Lit.wf, e1, e2] at h
  exact h
theorem choose_lt {α : Type} {len : Nat} {P : Nat → α → Prop} (x0 : α) (h : ∀ i, i < len → ∃ e, P i e) : ∃ F : Nat → α, ∀ i, i < len → P i (F i) := by
  have hh : ∀ i, ∃ e, i < len → P i e := fun i => by
    by_cases hi : i < len
    · obtain ⟨e, he⟩ := h i hi
      exact ⟨e, fun _ => he⟩
    · exact ⟨x0, fun h => absurd h hi⟩
  exact Classical.axiomOfChoice hh
theorem bulk_pos {H : Type} (d : DataW H) : 1 ≤ Rows.uptoBulk d := by
  cases d with
  | lit l => cases l <;> simp [Rows.uptoBulk]
  | nil => simp [Rows.uptoBulk]
  | ptr d => simp [Rows.uptoBulk]
  | slice e s => simp [Rows.uptoBulk]
  | agg p => simp [Rows.uptoBulk]
  | iface t d => simp [Rows.uptoBulk]
  | map e => simp [Rows.uptoBulk]
  | held h => simp [Rows.uptoBulk]
theorem bulk_len {H : Type} : ∀ l : List (DataW H), l.length ≤ Rows.uptoBulkAll l
  | [] => Nat.zero_le _
  | d :: l => by
    have h1 := bulk_len l
    have h2 := bulk_pos d
    simp only [Rows.uptoBulkAll, List.length_cons]; omega
set_option maxRecDepth 100000 in
/-- What a step reads as. -/
theorem st_trod {H : Type} {enc : TypeId × Value → H} {W : World} {base : Nat} {spare : Nat → Bool} {held : Bool} {fuel : Nat} {cs : List Value} {x : DataW H × List MemPlace}
    (h : DataW.trod enc Try.prog W base spare held fuel 36 cs = some x) : ∃ e : Sp, cs = sE.f e ∧ I64 e.a ∧ I64 e.b := by
  obtain ⟨xs, k, hk, hxy, hlen, hxl, hf⟩ := DataW.trod_struct Try.underlying36 h
  rw [cellsSt] at hlen
  match xs, hxl, cs, hlen with
  | [y0, y1, y2, y3], _, [v0, v1, v2, v3], _ =>
    have g0 := hf 0 _ rfl
    have g1 := hf 1 _ rfl
    have g2 := hf 2 _ rfl
    have g3 := hf 3 _ rfl
    simp [cells3, cells4] at g0 g1 g2 g3
    obtain ⟨z0, hz0, _, w0⟩ := DataW.trod_int Try.underlying3 g0
    obtain ⟨z1, hz1, _, w1⟩ := DataW.trod_int Try.underlying3 g1
    obtain ⟨z2, hz2, _⟩ := DataW.trod_bool Try.underlying4 g2
    obtain ⟨z3, hz3, _, w3⟩ := DataW.trod_int Try.underlying3 g3
    simp at hz0 hz1 hz2 hz3
    subst hz0 hz1 hz2 hz3
    exact ⟨⟨z0, z1, z2, z3⟩, rfl, i64_wf w0, i64_wf w1⟩
theorem in_trod {H : Type} {enc : TypeId × Value → H} {W : World} {base : Nat} {spare : Nat → Bool} {held : Bool} {fuel : Nat} {cs : List Value} {x : DataW H × List MemPlace}
    (h : DataW.trod enc Try.prog W base spare held fuel 3 cs = some x) : ∃ e : Int, cs = iE.f e ∧ True := by
  obtain ⟨z0, hz0, _, w0⟩ := DataW.trod_int Try.underlying3 h
  exact ⟨z0, hz0, trivial⟩
theorem flat_to {α : Type} {E : El α} {P : Program} (ok : E.Ok P) {W : World} {b off : Nat} {l : List α} (h : ∀ i (hi : i < l.length) j v, (E.f l[i])[j]? = some v → W.cell? ⟨b, off + (i * E.sz + j), none⟩ = some v) : ∀ j x, (l.flatMap E.f)[j]? = some x → W.cell? ⟨b, off + j, none⟩ = some x := fun j x hx => by
  have hp := ok.pos
  have e0 : (l.flatMap E.f).length = l.length * E.sz := ok.len l
  have hj : j < l.length * E.sz := by rw [← e0]; exact (List.getElem?_eq_some_iff.1 hx).1
  have hi : j / E.sz < l.length := (Nat.div_lt_iff_lt_mul hp).2 hj
  have hr : j % E.sz < E.sz := Nat.mod_lt _ hp
  have e : j / E.sz * E.sz + j % E.sz = j := by rw [Nat.mul_comm]; exact Nat.div_add_mod j E.sz
  have h1 := flat_at E.f E.sz ok.hf l (j / E.sz) (j % E.sz) hi hr
  rw [e] at h1
  have h2 := h (j / E.sz) hi (j % E.sz) x (h1.symm.trans hx)
  rw [e] at h2
  exact h2
set_option maxRecDepth 100000 in
theorem open_el {α : Type} {E : El α} (ok : E.Ok Try.prog) (hc : Try.prog.cellsOf E.ty = E.sz) (Q : α → Prop) (x0 : α) {H : Type} {enc : TypeId × Value → H} {W : World} {base : Nat} {spare : Nat → Bool} {held : Bool} {fuel : Nat} {a0 : Option Addr} {len cap : Nat} {d : DataW H} {ps : List MemPlace}
    (hT : ∀ {fuel : Nat} {spare : Nat → Bool} {held : Bool} {cs : List Value} {x : DataW H × List MemPlace}, DataW.trod enc Try.prog W base spare held fuel E.ty cs = some x → ∃ e, cs = E.f e ∧ Q e)
    (h : DataW.trod enc Try.prog W base spare held fuel E.sl [.slice a0 len cap] = some (d, ps)) :
    ∃ l : List α, l.length = len ∧ E.At W a0 l ∧ l.length ≤ Rows.uptoBulk d ∧ ∀ e ∈ l, Q e := by
  rcases open_slice ok.und h with ⟨hcs, _⟩ | ⟨a, len', cap', m, n, D, Pl, hcs, _, _, _, hm, hx, hel⟩
  · simp at hcs
    obtain ⟨rfl, rfl, rfl⟩ := hcs
    exact ⟨[], rfl, ⟨fun h => absurd rfl h⟩, by simp, fun e he => by cases he⟩
  · simp at hcs
    obtain ⟨rfl, rfl, rfl⟩ := hcs
    have hlm : len ≤ m := by rw [hm]; split <;> omega
    simp only [Prod.mk.injEq] at hx
    obtain ⟨hd, hps⟩ := hx
    have each : ∀ i, i < len → ∃ e : α, (∀ j v, (E.f e)[j]? = some v → W.cell? ((a.add (i * E.sz)).add j) = some v) ∧ Q e := by
      intro i hi
      obtain ⟨cs', h1, h2⟩ := hel i (by omega)
      rw [hc] at h1
      obtain ⟨_, hlen, hcell⟩ := World.cells?_some h1
      obtain ⟨e, rfl, i0⟩ := hT h2
      refine ⟨e, fun j v hv => ?_, i0⟩
      have hj : j < E.sz := by rw [← ok.hf e]; exact (List.getElem?_eq_some_iff.1 hv).1
      rw [hcell j hj, hv]
    obtain ⟨F, hF⟩ := choose_lt x0 each
    refine ⟨(List.range len).map F, by simp, ⟨fun hne => ?_⟩, ?_, fun e he => ?_⟩
    · have hl0 : 0 < len := by
        rcases Nat.eq_zero_or_pos len with h0 | h0
        · subst h0; simp at hne
        · exact h0
      obtain ⟨b, off, spot⟩ := a
      have hsp : spot = none := by
        have hp := ok.pos
        have hz : 0 < (E.f (F 0)).length := by rw [ok.hf]; exact hp
        have := World.cell?_spot ((hF 0 hl0).1 0 _ (List.getElem?_eq_getElem hz))
        simpa [Addr.add] using this
      subst hsp
      refine ⟨b, off, rfl, flat_to ok fun i hi j v hv => ?_⟩
      have hi' : i < len := by simpa using hi
      have h1 := (hF i hi').1 j v (by simpa using hv)
      rw [add_plain, add_plain, Nat.add_assoc] at h1
      exact h1
    · rw [hd]
      have := bulk_len ((List.range len).map D)
      simp only [Rows.uptoBulk]
      simp at this ⊢
      omega
    · obtain ⟨i, hi, rfl⟩ := List.mem_map.1 he
      exact (hF i (List.mem_range.1 hi)).2
end Go.Proofs.Ytmhifofeobhhgaa
