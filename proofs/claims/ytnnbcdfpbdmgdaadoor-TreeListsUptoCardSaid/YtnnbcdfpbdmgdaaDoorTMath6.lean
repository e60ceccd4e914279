/-
  DERIVED. Every node is met once, in whatever order the children are put behind what waits.
-/
import Derived.Test.YtnnbcdfpbdmgdaaDoorTMath5
namespace Go.Proofs.TreeMath
variable {α : Type}
/-- V was met, L waits. -/
structure CV (T : List (Nd α)) (V L : List Nat) : Prop where
  nd : V.Nodup
  vin : ∀ v ∈ V, v < T.length
  lin : ∀ s ∈ L, s < T.length
  apart : L.Pairwise (fun s t => ∀ j, ¬ (Under T s j ∧ Under T t j))
  fresh : ∀ s ∈ L, ∀ j, Under T s j → j ∉ V
  cover : ∀ j, j < T.length → j ∈ V ∨ ∃ s ∈ L, Under T s j
theorem CV.start {d : α → α → Nat} {T : List (Nd α)} (h : WF d T) (hT : 0 < T.length) : CV T [] [0] := by
  refine ⟨List.nodup_nil, fun v hv => (by cases hv), fun s hs => ?_, List.pairwise_singleton _ _, fun s hs j hu hj => (by cases hj), fun j hj => .inr ⟨0, by simp, ?_⟩⟩
  · simp at hs; omega
  · rcases Nat.eq_zero_or_pos j with e | e
    · exact .inl e
    · exact .inr (h.below_root j e hj)
/-- The children of a node, in whatever order. -/
structure KidsA (T : List (Nd α)) (i : Nat) (ks : List Nat) : Prop where
  nd : ks.Nodup
  mem : ∀ k, k ∈ ks ↔ ∃ n, T[k]? = some n ∧ n.over = some i
theorem Under.kid {d : α → α → Nat} {T : List (Nd α)} (h : WF d T) {i j : Nat} (u : Under T i j) (hj : j ≠ i) : ∃ k n, T[k]? = some n ∧ n.over = some i ∧ Under T k j := by
  rcases u with e | ⟨e, s⟩
  · exact absurd e hj
  · obtain ⟨k, h1, h2⟩ := Sub.child h s
    obtain ⟨n, k1, k2, k3⟩ := child_some h1
    refine ⟨k, n, k1, k2, ?_⟩
    rcases h2 with e | ⟨e', s'⟩
    · exact .inl e
    · exact .inr ⟨e', s'⟩
theorem CV.step {d : α → α → Nat} {T : List (Nd α)} (h : WF d T) {V L : List Nat} {i : Nat} (c : CV T V (L ++ [i])) {ks : List Nat} (hk : KidsA T i ks) : CV T (V ++ [i]) (L ++ ks) := by
  have hiT : i < T.length := c.lin i (by simp)
  have hiV : i ∉ V := c.fresh i (by simp) i (.inl rfl)
  have ha := List.pairwise_append.1 c.apart
  have kid : ∀ k ∈ ks, ∃ n, T[k]? = some n ∧ n.over = some i := fun k hkk => (hk.mem k).1 hkk
  have up : ∀ k ∈ ks, ∀ j, Under T k j → Under T i j ∧ j ≠ i := fun k hkk j hu => by
    obtain ⟨n, h1, h2⟩ := kid k hkk
    have hl := h.lt h1 h2
    have hkT := (List.getElem?_eq_some_iff.1 h1).1
    refine ⟨.inr ⟨_, hu.sub h1 h2 rfl⟩, ?_⟩
    have := hu.lt h hkT
    omega
  refine ⟨?_, ?_, ?_, ?_, ?_, ?_⟩
  · exact List.nodup_append.2 ⟨c.nd, by simp, fun a h1 b h2 e => hiV (by simp at h2; rw [← h2, ← e]; exact h1)⟩
  · intro v hv
    rcases List.mem_append.1 hv with hv | hv
    · exact c.vin v hv
    · simp at hv; omega
  · intro s hs
    rcases List.mem_append.1 hs with hs | hs
    · exact c.lin s (List.mem_append_left _ hs)
    · obtain ⟨n, h1, -⟩ := kid s hs
      exact (List.getElem?_eq_some_iff.1 h1).1
  · refine List.pairwise_append.2 ⟨ha.1, ?_, fun s hs k hkk j hu => ?_⟩
    · refine (List.Pairwise.imp_of_mem ?_ hk.nd)
      intro a b h1 h2 hne j hu
      obtain ⟨n1, x1, x2⟩ := kid a h1
      obtain ⟨n2, y1, y2⟩ := kid b h2
      have hjT := (hu.1.lt h (List.getElem?_eq_some_iff.1 x1).1).2
      exact hne (kids_apart h (List.getElem?_eq_getElem hiT) x1 y1 x2 y2 hu.1 hu.2 hjT)
    · exact ha.2.2 s hs i (by simp) j ⟨hu.1, (up k hkk j hu.2).1⟩
  · intro s hs j hu hj
    rcases List.mem_append.1 hs with hs | hs
    · rcases List.mem_append.1 hj with hj | hj
      · exact c.fresh s (List.mem_append_left _ hs) j hu hj
      · simp at hj
        subst hj
        exact ha.2.2 s hs j (by simp) j ⟨hu, .inl rfl⟩
    · have hx := up s hs j hu
      rcases List.mem_append.1 hj with hj | hj
      · exact c.fresh i (by simp) j hx.1 hj
      · simp at hj; exact hx.2 hj
  · intro j hj
    rcases c.cover j hj with hv | ⟨s, hs, hu⟩
    · exact .inl (List.mem_append_left _ hv)
    · rcases List.mem_append.1 hs with hs | hs
      · exact .inr ⟨s, List.mem_append_left _ hs, hu⟩
      · simp at hs
        subst hs
        by_cases e : j = s
        · subst e; exact .inl (by simp)
        · obtain ⟨k, n, h1, h2, h3⟩ := hu.kid h e
          exact .inr ⟨k, List.mem_append_right _ ((hk.mem k).2 ⟨n, h1, h2⟩), h3⟩
/-- At the end every node was met once. -/
theorem CV.done {T : List (Nd α)} {V : List Nat} (c : CV T V []) : V.Perm (List.range T.length) := by
  refine (List.perm_ext_iff_of_nodup c.nd List.nodup_range).2 fun j => ?_
  rw [List.mem_range]
  refine ⟨fun h => c.vin j h, fun h => ?_⟩
  rcases c.cover j h with h | ⟨s, hs, -⟩
  · exact h
  · cases hs
/-- No more are met than there are. -/
theorem CV.le {T : List (Nd α)} {V L : List Nat} (c : CV T V L) : V.length ≤ T.length := nodup_lt _ V c.nd c.vin
end Go.Proofs.TreeMath
