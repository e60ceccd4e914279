/-
  DERIVED. A search in a tree by distances: what is left out is too far; no node is looked at twice.
-/
import Derived.Test.YtnnbcdfpbdmgdaaDoorTMath
set_option linter.unusedVariables false
namespace Go.Proofs.TreeMath
variable {α : Type}
/-- j is i, or stands below it. -/
def Under (T : List (Nd α)) (i j : Nat) : Prop := j = i ∨ ∃ e, Sub T i e j
theorem Sub.over {T : List (Nd α)} {i e j u e0 : Nat} {m : Nd α} (hm : T[i]? = some m) (ho : m.over = some u) (hd : m.dist = e0) (s : Sub T i e j) : Sub T u e0 j := by
  induction s using Sub.ind with
  | base h h1 h2 => exact .step h h1 (.base hm ho hd)
  | step h h1 hp ih => exact .step h h1 ih
theorem Under.sub {T : List (Nd α)} {i j u e0 : Nat} {m : Nd α} (hm : T[i]? = some m) (ho : m.over = some u) (hd : m.dist = e0) (s : Under T i j) : Sub T u e0 j := by
  rcases s with rfl | ⟨e, s⟩
  · exact .base hm ho hd
  · exact s.over hm ho hd
/-- One that waits: its node, its distance from its parent, the parent's from the query. -/
structure St where
  node : Nat
  edge : Nat
  par : Nat
abbrev may (b : Nat) (s : St) : Prop := s.par ≤ s.edge + b ∧ s.edge ≤ s.par + b
/-- It stands in the tree as it says. -/
def Ok (d : α → α → Nat) (T : List (Nd α)) (q : α) (s : St) : Prop := (s = ⟨0, 0, 0⟩ ∧ 0 < T.length) ∨ ∃ (u : Nat) (n m : Nd α), T[u]? = some n ∧ T[s.node]? = some m ∧ m.over = some u ∧ m.dist = s.edge ∧ s.par = d n.code q
theorem Ok.lt {d : α → α → Nat} {T : List (Nd α)} {q : α} {s : St} (h : Ok d T q s) : s.node < T.length := by
  rcases h with ⟨rfl, h⟩ | ⟨u, n, m, -, h, -⟩
  · exact h
  · exact (List.getElem?_eq_some_iff.1 h).1
/-- What may not be looked at is too far, with all below it. -/
theorem far {d : α → α → Nat} (hs : ∀ a b, d a b = d b a) (ht : ∀ a b c, d a c ≤ d a b + d b c) {T : List (Nd α)} (h : WF d T) {q : α} {s : St} (ok : Ok d T q s) {b : Nat} (hm : ¬ may b s) {j : Nat} {m : Nd α} (hj : T[j]? = some m) (hu : Under T s.node j) : b < d m.code q := by
  rcases ok with ⟨rfl, -⟩ | ⟨u, n, x, h1, h2, h3, h4, h5⟩
  · exact absurd ⟨Nat.zero_le _, Nat.zero_le _⟩ hm
  · have e := h.bk u s.edge j n m (hu.sub h2 h3 h4) h1 hj
    have t1 := ht n.code q m.code
    have t2 := ht n.code m.code q
    have s1 := hs q m.code
    unfold may at hm
    omega
/-- Trees below two children of one node are apart. -/
theorem kids_apart {d : α → α → Nat} {T : List (Nd α)} (h : WF d T) {u a b j : Nat} {n x y : Nd α} (hu : T[u]? = some n) (ha : T[a]? = some x) (hb : T[b]? = some y) (oa : x.over = some u) (ob : y.over = some u) (ua : Under T a j) (ub : Under T b j) (hj : j < T.length) : a = b := by
  have e1 := h.bk u _ j n _ (ua.sub ha oa rfl) hu (List.getElem?_eq_getElem hj)
  have e2 := h.bk u _ j n _ (ub.sub hb ob rfl) hu (List.getElem?_eq_getElem hj)
  exact h.one a b x y u ha hb oa ob (e1.symm.trans e2)
theorem Under.lt {d : α → α → Nat} {T : List (Nd α)} (h : WF d T) {i j : Nat} (hi : i < T.length) (s : Under T i j) : i ≤ j ∧ j < T.length := by
  rcases s with rfl | ⟨e, s⟩
  · exact ⟨Nat.le_refl _, hi⟩
  · have := h.sub_lt s; omega
/-- What stands while a search goes on: V was looked at, L waits; bd is how far a code may be. -/
structure SI (d : α → α → Nat) (T : List (Nd α)) (q : α) (bd : List Nat → Nat) (V : List Nat) (L : List St) : Prop where
  nd : V.Nodup
  vin : ∀ v ∈ V, v < T.length
  ok : ∀ s ∈ L, Ok d T q s
  apart : L.Pairwise (fun s t => ∀ j, ¬ (Under T s.node j ∧ Under T t.node j))
  fresh : ∀ s ∈ L, ∀ j, Under T s.node j → j ∉ V
  cover : ∀ (j : Nat) (n : Nd α), T[j]? = some n → n.live = true → d n.code q ≤ bd V → j ∈ V ∨ ∃ s ∈ L, Under T s.node j
theorem SI.start {d : α → α → Nat} {T : List (Nd α)} (h : WF d T) (q : α) (bd : List Nat → Nat) (hT : 0 < T.length) : SI d T q bd [] [⟨0, 0, 0⟩] := by
  refine ⟨List.nodup_nil, fun v hv => (by cases hv), fun s hs => .inl ⟨by simpa using hs, hT⟩, List.pairwise_singleton _ _, fun s hs j hu hj => (by cases hj), fun j n hn hl hd => .inr ⟨⟨0, 0, 0⟩, by simp, ?_⟩⟩
  rcases Nat.eq_zero_or_pos j with e | e
  · exact .inl e
  · exact .inr (h.below_root j e (List.getElem?_eq_some_iff.1 hn).1)
theorem SI.none {d : α → α → Nat} {T : List (Nd α)} (q : α) (bd : List Nat → Nat) (hT : T = []) : SI d T q bd [] [] := by
  subst hT
  exact ⟨List.nodup_nil, fun v hv => (by cases hv), fun s hs => (by cases hs), List.Pairwise.nil, fun s hs => (by cases hs), fun j n hn => by simp at hn⟩
/-- One is let go that may not be looked at. -/
theorem SI.skip {d : α → α → Nat} (hs : ∀ a b, d a b = d b a) (ht : ∀ a b c, d a c ≤ d a b + d b c) {T : List (Nd α)} (h : WF d T) {q : α} {bd : List Nat → Nat} {V : List Nat} {L : List St} {s : St} (i : SI d T q bd V (L ++ [s])) (hm : ¬ may (bd V) s) : SI d T q bd V L := by
  refine ⟨i.nd, i.vin, fun t ht => i.ok t (List.mem_append_left _ ht), (List.pairwise_append.1 i.apart).1, fun t ht => i.fresh t (List.mem_append_left _ ht), fun j n hn hl hd => ?_⟩
  rcases i.cover j n hn hl hd with k | ⟨t, k1, k2⟩
  · exact .inl k
  · rcases List.mem_append.1 k1 with k | k
    · exact .inr ⟨t, k, k2⟩
    · obtain rfl : t = s := by simpa using k
      have := far hs ht h (i.ok t k1) hm hn k2
      omega
/-- The children of a node that may be looked at. -/
structure Kids (d : α → α → Nat) (T : List (Nd α)) (q : α) (b u : Nat) (n : Nd α) (K : List St) : Prop where
  mem : ∀ t ∈ K, ∃ m, T[t.node]? = some m ∧ m.over = some u ∧ m.dist = t.edge ∧ t.par = d n.code q
  all : ∀ (j : Nat) (m : Nd α), T[j]? = some m → m.over = some u → may b ⟨j, m.dist, d n.code q⟩ → ⟨j, m.dist, d n.code q⟩ ∈ K
  nd : (K.map St.node).Nodup
/-- One is looked at. -/
theorem SI.visit {d : α → α → Nat} (hs : ∀ a b, d a b = d b a) (ht : ∀ a b c, d a c ≤ d a b + d b c) {T : List (Nd α)} (h : WF d T) {q : α} {bd : List Nat → Nat} (hbd : ∀ V v, bd (V ++ [v]) ≤ bd V) {V : List Nat} {L : List St} {s : St} (i : SI d T q bd V (L ++ [s])) {n : Nd α} (hn : T[s.node]? = some n) {K : List St} (hK : Kids d T q (bd (V ++ [s.node])) s.node n K) :
    SI d T q bd (V ++ [s.node]) (L ++ K) := by
  have hsm : s ∈ L ++ [s] := by simp
  have hnV : s.node ∉ V := i.fresh s hsm s.node (.inl rfl)
  have hlt := (i.ok s hsm).lt
  have kid_under : ∀ t ∈ K, ∀ j, Under T t.node j → ∃ e, Sub T s.node e j := fun t htK j hu => by
    obtain ⟨m, k1, k2, k3, -⟩ := hK.mem t htK
    exact ⟨_, hu.sub k1 k2 rfl⟩
  refine ⟨?_, ?_, ?_, ?_, ?_, ?_⟩
  · exact List.nodup_append.2 ⟨i.nd, by simp, fun a ha b hb e => by
      simp at hb; subst hb; subst e; exact hnV ha⟩
  · intro v hv
    rcases List.mem_append.1 hv with k | k
    · exact i.vin v k
    · simp at k; subst k; exact hlt
  · intro t htL
    rcases List.mem_append.1 htL with k | k
    · exact i.ok t (List.mem_append_left _ k)
    · obtain ⟨m, k1, k2, k3, k4⟩ := hK.mem t k
      exact .inr ⟨s.node, n, m, hn, k1, k2, k3, k4⟩
  · obtain ⟨p1, -, p3⟩ := List.pairwise_append.1 i.apart
    refine List.pairwise_append.2 ⟨p1, ?_, fun a ha t htK j hc => ?_⟩
    · refine List.pairwise_iff_getElem.2 fun x y hx hy hxy j hc => ?_
      obtain ⟨m, k1, k2, -, -⟩ := hK.mem K[x] (List.getElem_mem hx)
      obtain ⟨m', k1', k2', -, -⟩ := hK.mem K[y] (List.getElem_mem hy)
      have hj := (hc.1.lt h (List.getElem?_eq_some_iff.1 k1).1).2
      have e := kids_apart h hn k1 k1' k2 k2' hc.1 hc.2 hj
      have hnd := List.pairwise_iff_getElem.1 hK.nd x y (by simpa using hx) (by simpa using hy) hxy
      simp at hnd
      exact hnd e
    · obtain ⟨e, se⟩ := kid_under t htK j hc.2
      exact p3 a ha s (by simp) j ⟨hc.1, .inr ⟨e, se⟩⟩
  · intro t htL j hu hj
    rcases List.mem_append.1 htL with k | k
    · rcases List.mem_append.1 hj with k' | k'
      · exact i.fresh t (List.mem_append_left _ k) j hu k'
      · simp at k'; subst k'
        exact (List.pairwise_append.1 i.apart).2.2 t k s (by simp) s.node ⟨hu, .inl rfl⟩
    · obtain ⟨e, se⟩ := kid_under t k j hu
      rcases List.mem_append.1 hj with k' | k'
      · exact i.fresh s hsm j (.inr ⟨e, se⟩) k'
      · simp at k'; subst k'
        have := (h.sub_lt se).1
        omega
  · intro j m hm hl hd
    have hd' : d m.code q ≤ bd V := Nat.le_trans hd (hbd V s.node)
    rcases i.cover j m hm hl hd' with k | ⟨t, k1, k2⟩
    · exact .inl (List.mem_append_left _ k)
    · rcases List.mem_append.1 k1 with k | k
      · exact .inr ⟨t, List.mem_append_left _ k, k2⟩
      · obtain rfl : t = s := by simpa using k
        rcases k2 with rfl | ⟨e, se⟩
        · exact .inl (by simp)
        · obtain ⟨c, hc, hj⟩ := se.child h
          obtain ⟨x, c1, c2, c3⟩ := child_some hc
          have hu : Under T c j := hj
          by_cases hmy : may (bd (V ++ [t.node])) ⟨c, x.dist, d n.code q⟩
          · exact .inr ⟨_, List.mem_append_right _ (hK.all c x c1 c2 hmy), hu⟩
          · have := far hs ht h (s := ⟨c, x.dist, d n.code q⟩) (.inr ⟨t.node, n, x, hn, c1, c2, rfl, rfl⟩) hmy hm hu
            omega
/-- At the end all that is near was looked at, none twice. -/
theorem SI.done {d : α → α → Nat} {T : List (Nd α)} {q : α} {bd : List Nat → Nat} {V : List Nat} (i : SI d T q bd V []) (j : Nat) (n : Nd α) (hn : T[j]? = some n) (hl : n.live = true) (hd : d n.code q ≤ bd V) : j ∈ V := by
  rcases i.cover j n hn hl hd with k | ⟨s, k, -⟩
  · exact k
  · cases k
theorem nodup_lt : ∀ (n : Nat) (V : List Nat), V.Nodup → (∀ v ∈ V, v < n) → V.length ≤ n
  | 0, V, _, h => by
    cases V with
    | nil => exact Nat.le_refl _
    | cons v V => have := h v (by simp); omega
  | n + 1, V, hd, h => by
    by_cases hn : n ∈ V
    · have h1 := nodup_lt n (V.erase n) (hd.erase n) (fun v hv => by
        have h2 := hd.mem_erase_iff.1 hv
        have := h v h2.2
        omega)
      rw [List.length_erase_of_mem hn] at h1
      omega
    · have h1 := nodup_lt n V hd (fun v hv => by
        have h2 := h v hv
        have h3 : v ≠ n := fun e => hn (e ▸ hv)
        omega)
      omega
/-- No more are looked at than there are nodes. -/
theorem SI.count {d : α → α → Nat} {T : List (Nd α)} {q : α} {bd : List Nat → Nat} {V : List Nat} {L : List St} (i : SI d T q bd V L) : V.length ≤ T.length := nodup_lt _ V i.nd i.vin
end Go.Proofs.TreeMath
