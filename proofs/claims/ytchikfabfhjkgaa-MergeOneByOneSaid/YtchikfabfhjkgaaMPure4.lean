/-
  DERIVED. Merge: one answer for one set of entries, however it is dealt or grouped.
-/
import Derived.Test.YtchikfabfhjkgaaMPure3
set_option linter.unusedVariables false
set_option linter.unusedSimpArgs false
namespace Go.Proofs.Ytchikfabfhjkgaa
theorem up_one : ∀ (l m : List En), l.Pairwise (fun a b => cpE a b < 0) → m.Pairwise (fun a b => cpE a b < 0) → (∀ x, x ∈ l ↔ x ∈ m) → l = m
  | [], [], _, _, _ => rfl
  | [], y :: m, _, _, h => by have := (h y).2 (by simp); simp at this
  | x :: l, [], _, _, h => by have := (h x).1 (by simp); simp at this
  | x :: l, y :: m, hl, hm, h => by
    obtain ⟨l1, l2⟩ := List.pairwise_cons.1 hl
    obtain ⟨m1, m2⟩ := List.pairwise_cons.1 hm
    have e : x = y := by
      rcases List.mem_cons.1 ((h x).1 (by simp)) with k | k
      · exact k
      · rcases List.mem_cons.1 ((h y).2 (by simp)) with k' | k'
        · exact k'.symm
        · have h1 := m1 x k
          have h2 := l1 y k'
          have := cpE_rev x y
          omega
    subst e
    have hs := cpE_self x
    rw [up_one l m l2 m2 (fun z => ⟨fun hz => ?_, fun hz => ?_⟩)]
    · rcases List.mem_cons.1 ((h z).1 (List.mem_cons_of_mem _ hz)) with k | k
      · subst k; have := l1 _ hz; omega
      · exact k
    · rcases List.mem_cons.1 ((h z).2 (List.mem_cons_of_mem _ hz)) with k | k
      · subst k; have := m1 _ hz; omega
      · exact k
theorem Told.one {R R' : List (List En)} {bottom : Bool} {l m : List En} (h : Told R bottom l) (k : Told R' bottom m) (e : ∀ x, Top x R.flatten ↔ Top x R'.flatten) : l = m :=
  up_one l m h.up k.up fun x => by rw [h.mem, k.mem, e]
theorem max_ex : ∀ (l : List En), l ≠ [] → ∃ g ∈ l, ∀ f ∈ l, f.s ≤ g.s
  | [], h => absurd rfl h
  | [a], _ => ⟨a, by simp, fun f hf => by simp at hf; subst hf; exact Int.le_refl _⟩
  | a :: b :: t, _ => by
    obtain ⟨g, hg, hm⟩ := max_ex (b :: t) (by simp)
    by_cases hc : a.s ≤ g.s
    · refine ⟨g, List.mem_cons_of_mem _ hg, fun f hf => ?_⟩
      rcases List.mem_cons.1 hf with k | k
      · subst k; exact hc
      · exact hm f k
    · refine ⟨a, by simp, fun f hf => ?_⟩
      rcases List.mem_cons.1 hf with k | k
      · subst k; exact Int.le_refl _
      · have := hm f k; omega
theorem cp_eq {a b c : En} (h1 : cpE a b = 0) (h2 : cpE b c = 0) : cpE a c = 0 := by
  have k1 := (cpE_tr a b c (by omega) (by omega)).1
  have r1 := cpE_rev a b
  have r2 := cpE_rev b c
  have k2 := (cpE_tr c b a (by omega) (by omega)).1
  have r3 := cpE_rev a c
  omega
theorem top_ex (l : List En) (f : En) (hf : f ∈ l) : ∃ g, Top g l ∧ cpE g f = 0 ∧ f.s ≤ g.s := by
  obtain ⟨g, hg, hm⟩ := max_ex (l.filter (fun x => decide (cpE x f = 0))) (fun e => by
    have : f ∈ l.filter (fun x => decide (cpE x f = 0)) := List.mem_filter.2 ⟨hf, decide_eq_true (cpE_self f)⟩
    rw [e] at this; simp at this)
  obtain ⟨g1, g2⟩ := List.mem_filter.1 hg
  have g3 := of_decide_eq_true g2
  exact ⟨g, ⟨g1, fun x hx hc => hm x (List.mem_filter.2 ⟨hx, decide_eq_true (cp_eq hc g3)⟩)⟩, g3, hm f (List.mem_filter.2 ⟨hf, decide_eq_true (cpE_self f)⟩)⟩
theorem Told.both {A B : List (List En)} {l m : List En} (h : Told A false l) (k : Told B false m) (x : En) : Top x ([l, m] : List (List En)).flatten ↔ Top x (A ++ B).flatten := by
  have hl : ∀ z, z ∈ l ↔ Top z A.flatten := fun z => by rw [h.mem]; simp
  have hm : ∀ z, z ∈ m ↔ Top z B.flatten := fun z => by rw [k.mem]; simp
  have e1 : ([l, m] : List (List En)).flatten = l ++ m := by simp
  rw [e1, List.flatten_append]
  constructor
  · rintro ⟨h1, h2⟩
    refine ⟨?_, fun f hf hc => ?_⟩
    · rcases List.mem_append.1 h1 with q | q
      · exact List.mem_append_left _ ((hl x).1 q).1
      · exact List.mem_append_right _ ((hm x).1 q).1
    · rcases List.mem_append.1 hf with q | q
      · obtain ⟨g, g1, g2, g3⟩ := top_ex _ f q
        exact Int.le_trans g3 (h2 g (List.mem_append_left _ ((hl g).2 g1)) (cp_eq g2 hc))
      · obtain ⟨g, g1, g2, g3⟩ := top_ex _ f q
        exact Int.le_trans g3 (h2 g (List.mem_append_right _ ((hm g).2 g1)) (cp_eq g2 hc))
  · rintro ⟨h1, h2⟩
    refine ⟨?_, fun f hf hc => ?_⟩
    · rcases List.mem_append.1 h1 with q | q
      · exact List.mem_append_left _ ((hl x).2 ⟨q, fun f hf => h2 f (List.mem_append_left _ hf)⟩)
      · exact List.mem_append_right _ ((hm x).2 ⟨q, fun f hf => h2 f (List.mem_append_right _ hf)⟩)
    · rcases List.mem_append.1 hf with q | q
      · exact h2 f (List.mem_append_left _ ((hl f).1 q).1) hc
      · exact h2 f (List.mem_append_right _ ((hm f).1 q).1) hc
end Go.Proofs.Ytchikfabfhjkgaa
