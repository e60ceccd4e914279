/-
  DERIVED. Answers that are gathered: each in memory of its own.
-/
import Derived.Test.YtmdmjjobhkpojaaZRow
set_option linter.unusedVariables false
set_option linter.unusedSimpArgs false
namespace Go.Proofs.Ytmdmjjobhkpojaa
open Go.RowKit
theorem get_snoc {α : Type} {l : List α} {x y : α} {i : Nat} (h : (l ++ [x])[i]? = some y) : (i < l.length ∧ l[i]? = some y) ∨ (i = l.length ∧ y = x) := by
  rcases Nat.lt_or_ge i l.length with hlt | hge
  · left; rw [List.getElem?_append_left hlt] at h; exact ⟨hlt, h⟩
  · right
    rw [List.getElem?_append_right hge] at h
    obtain ⟨q1, q2⟩ := List.getElem?_eq_some_iff.1 h
    simp at q1 q2
    exact ⟨by omega, q2.symm⟩
structure El.Got {α : Type} (E : El α) (B : Nat) (W : World) (gv : Value) (gs : List Value) (want : Nat → List α) : Prop where
  row : W.ownsRow 0 E.sl 1 gv gs.length gs
  each : ∀ (j : Nat) (s : Value), gs[j]? = some s → E.Row W s (want j)
  gnew : ∀ b, gv.ownBlock = some b → B ≤ b
  new : ∀ (j : Nat) (s : Value) (b : Nat), gs[j]? = some s → s.ownBlock = some b → B ≤ b
  apart : ∀ (i j : Nat) (s u : Value) (b : Nat), gs[i]? = some s → gs[j]? = some u → s.ownBlock = some b → u.ownBlock = some b → i = j
theorem El.Got.nil {α : Type} (E : El α) (B : Nat) (W : World) (want : Nat → List α) : E.Got B W (.slice none 0 0) [] want := ⟨⟨rfl, .inl ⟨rfl, rfl⟩⟩, (fun j s h => by simp at h), (fun b h => by cases h), (fun j s b h => by simp at h), (fun i j s u b h => by simp at h)⟩
theorem El.Got.lat {α : Type} {E : El α} {B : Nat} {W W' : World} {gv : Value} {gs : List Value} {want : Nat → List α} (h : E.Got B W gv gs want) (b : Below W.heap.size W W') : E.Got B W' gv gs want :=
  ⟨row_kept (F := fun _ => False) h.row (.below b) (fun _ _ h => h), fun j s hs => El.Row.below (h.each j s hs) b, h.gnew, h.new, h.apart⟩
theorem El.Got.push {α : Type} {E : El α} {P : Program} (ok : E.Ok2 P) {B : Nat} {W0 W : World} {ga : Option Addr} {gc i : Nat} {gs : List Value} {want : Nat → List α} (h0 : E.Got B W0 (.slice ga i gc) gs want) (h : E.Got B W (.slice ga i gc) gs want) (hB0 : B ≤ W0.heap.size) (hB : B ≤ W.heap.size) {v : Value} (hv : E.Row W v (want i)) (hn : ∀ b, v.ownBlock = some b → W0.heap.size ≤ b) (h1c : v.oneCell' = true) (hl : i ≤ 5) :
    ∃ a' c' W', (Builtin.append_ #[E.ll, E.ll] E.ll #[.slice ga i gc, .slice (some ⟨W.heap.size, 0, none⟩) 1 1]).run P (W.alloc (.cells #[v] E.sl)) = .ok (.slice a' (i + 1) c') W' ∧ E.Got B W' (.slice a' (i + 1) c') (gs ++ [v]) want ∧ Below B W W' ∧ (∀ {u : Value} {Y : List α}, E.Row W u Y → E.Row W' u Y) := by
  have hi : i = gs.length := by
    obtain ⟨a', c', e', -⟩ := slice_form h.row
    simp only [Value.slice.injEq] at e'
    exact e'.2.1
  subst hi
  obtain ⟨a', c', W', hap, ho, st, hloc⟩ := El.more ok W gs ga gc h.row (by omega) v h1c
  have hk : ∀ {v : Value} {Y : List α}, E.Row W v Y → E.Row W' v Y := fun {v Y} hv => row_kept hv st (fun k hk e => El.two ok h.row hv e hk)
  have hv0 : ∀ (j : Nat) (s : Value) (b : Nat), gs[j]? = some s → s.ownBlock = some b → v.ownBlock ≠ some b := fun j s b hs hb e => by
    have h1 := row_lt (h0.each j s hs) hb
    have := hn b e
    omega
  refine ⟨a', c', W', hap, ⟨ho, fun j s hs => ?_, fun b hb => ?_, fun j s b hs hb => ?_, fun j l s u b hs hu hb hub => ?_⟩, st.toBelow (fun z hz e => by have := h.gnew z e; omega) hB, hk⟩
  · rcases get_snoc hs with ⟨-, h1⟩ | ⟨h1, rfl⟩
    · exact hk (h.each j s h1)
    · rw [h1]; exact hk hv
  · rcases hloc b hb with e | e
    · exact h.gnew b e
    · omega
  · rcases get_snoc hs with ⟨-, h1⟩ | ⟨-, rfl⟩
    · exact h.new j s b h1 hb
    · exact Nat.le_trans hB0 (hn b hb)
  · rcases get_snoc hs with ⟨-, h1⟩ | ⟨h1, rfl⟩ <;> rcases get_snoc hu with ⟨-, h2⟩ | ⟨h2, rfl⟩
    · exact h.apart j l s u b h1 h2 hb hub
    · exact absurd hub (hv0 j s b h1 hb)
    · exact absurd hb (hv0 l u b h2 hub)
    · omega
theorem El.Got.ap {α : Type} {E : El α} {B : Nat} {W : World} {gv : Value} {gs : List Value} {want : Nat → List α} (h : E.Got B W gv gs want) : E.AP W gv gs ((List.range gs.length).map (fun j => (want j).length)) :=
  ⟨by simp, h.row, fun j s n hs hn => ⟨want j, by
    obtain ⟨h1, h2⟩ := List.getElem?_eq_some_iff.1 hn
    simpa using h2, h.each j s hs⟩, h.apart⟩
end Go.Proofs.Ytmdmjjobhkpojaa
