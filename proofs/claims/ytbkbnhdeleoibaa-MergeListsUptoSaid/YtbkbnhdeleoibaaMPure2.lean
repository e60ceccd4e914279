/-
  DERIVED. What Merge tells: of each place the one with the greatest Seq, rising.
-/
import Derived.Test.YtbkbnhdeleoibaaMPure
set_option linter.unusedVariables false
set_option linter.unusedSimpArgs false
namespace Go.Proofs.Ytbkbnhdeleoibaa
/-- Of its place the greatest Seq. -/
def Top (x : En) (l : List En) : Prop := x ∈ l ∧ ∀ f ∈ l, cpE f x = 0 → f.s ≤ x.s
/-- No two of one place have one Seq. -/
def Uniq (l : List En) : Prop := l.Pairwise (fun a b => cpE a b = 0 → a.s ≠ b.s)
theorem Uniq.perm {l m : List En} (p : l.Perm m) : Uniq l ↔ Uniq m := p.pairwise_iff (fun h e => by
  rename_i x y
  have := cpE_rev x y
  exact fun e' => h (by omega) e'.symm)
theorem Top.perm {l m : List En} (p : l.Perm m) (x : En) : Top x l ↔ Top x m := by
  unfold Top
  rw [p.mem_iff]
  exact ⟨fun h => ⟨h.1, fun f hf => h.2 f (p.mem_iff.2 hf)⟩, fun h => ⟨h.1, fun f hf => h.2 f (p.mem_iff.1 hf)⟩⟩
theorem LP.pools {ys L ys' : List St} (h : LP ys L ys') (rs : List (List En)) : (pool ys rs).Perm (L.map St.e ++ pool ys' rs) := by
  unfold Proofs.Ytbkbnhdeleoibaa.pool
  rw [← List.append_assoc, ← List.map_append]
  exact (h.perm.symm.map St.e).append_right _
theorem LP.sle {ys L ys' : List St} (h : LP ys L ys') (i j : Nat) (hi : i < L.length) (hj : j < L.length) (hij : i ≤ j) : L[i].e.s ≤ L[j].e.s := by
  rcases Nat.lt_or_eq_of_le hij with k | k
  · rcases (ltS_not _ _).1 (List.pairwise_iff_getElem.1 h.srt i j hi hj k) with k1 | ⟨-, k1⟩
    · have := h.same L[i] (List.getElem_mem hi) L[j] (List.getElem_mem hj); omega
    · exact k1
  · subst k; exact Int.le_refl _
theorem LP.strict {ys L ys' : List St} (h : LP ys L ys') (d : ∀ i, ¬ dupAt L i) (i j : Nat) (hi : i < L.length) (hj : j < L.length) (hij : i < j) : L[i].e.s < L[j].e.s := by
  obtain ⟨q, rfl⟩ : ∃ q, j = q + 1 := ⟨j - 1, by omega⟩
  have h1 := h.sle i q hi (by omega) (by omega)
  have h2 := h.sle q (q + 1) (by omega) hj (by omega)
  have h3 : L[q].e.s ≠ L[q + 1].e.s := fun e => d q ⟨L[q], L[q + 1], List.getElem?_eq_getElem _, List.getElem?_eq_getElem _, e⟩
  omega
theorem LP.dup {ys L ys' : List St} (h : LP ys L ys') (rs : List (List En)) (d : ∃ i, dupAt L i) : ¬ Uniq (pool ys rs) := fun hu => by
  have h1 := (List.pairwise_append.1 ((Uniq.perm (h.pools rs)).1 hu)).1
  obtain ⟨i, a, b, ha, hb, e⟩ := d
  obtain ⟨hi, rfl⟩ := List.getElem?_eq_some_iff.1 ha
  obtain ⟨hj, rfl⟩ := List.getElem?_eq_some_iff.1 hb
  have k := List.pairwise_iff_getElem.1 h1 i (i + 1) (by simpa using hi) (by simpa using hj) (by omega)
  simp only [List.getElem_map] at k
  exact k (h.same _ (List.getElem_mem hi) _ (List.getElem_mem hj)) e
/-- One place is taken away. -/
structure Cut (p q : List En) (a : En) : Prop where
  top : ∀ x, Top x p ↔ x = a ∨ Top x q
  uniq : Uniq p ↔ Uniq q
  above : ∀ x ∈ q, cpE a x < 0
theorem LP.cut {ys L L' ys' ys2 : List St} {rs rs2 : List (List En)} {a : St} (h : LP ys L ys') (d : ∀ i, ¬ dupAt L i) (ha : L[L.length - 1]? = some a) (hi : InvP ys [] rs) (hp : L'.Perm L) (hk : AskedAll L' ys' ys2 rs rs2) :
    InvP ys2 [] rs2 ∧ Cut (pool ys rs) (pool ys2 rs2) a.e := by
  obtain ⟨h1, h2, h3⟩ := h.split hi hp hk
  obtain ⟨hl, rfl⟩ := List.getElem?_eq_some_iff.1 ha
  have haL := List.getElem_mem hl
  refine ⟨h1, ⟨fun x => ?_, ?_, fun x hx => h3 _ haL x hx⟩⟩
  · rw [Top.perm h2]
    constructor
    · rintro ⟨k1, k2⟩
      rcases List.mem_append.1 k1 with k | k
      · obtain ⟨y, hy, rfl⟩ := List.mem_map.1 k
        obtain ⟨i, hiL, rfl⟩ := List.getElem_of_mem hy
        have k3 := k2 L[L.length - 1].e (List.mem_append_left _ (List.mem_map_of_mem haL)) (h.same _ haL _ hy)
        by_cases hil : i = L.length - 1
        · subst hil; exact .inl rfl
        · have := h.strict d i (L.length - 1) hiL hl (by omega)
          omega
      · exact .inr ⟨k, fun f hf => k2 f (List.mem_append_right _ hf)⟩
    · rintro (rfl | ⟨k1, k2⟩)
      · refine ⟨List.mem_append_left _ (List.mem_map_of_mem haL), fun f hf hc => ?_⟩
        rcases List.mem_append.1 hf with k | k
        · obtain ⟨y, hy, rfl⟩ := List.mem_map.1 k
          obtain ⟨i, hiL, rfl⟩ := List.getElem_of_mem hy
          exact h.sle i _ hiL hl (by omega)
        · have := h3 _ haL f k
          have := cpE_rev f L[L.length - 1].e
          omega
      · refine ⟨List.mem_append_right _ k1, fun f hf hc => ?_⟩
        rcases List.mem_append.1 hf with k | k
        · obtain ⟨y, hy, rfl⟩ := List.mem_map.1 k
          have := h3 y hy x k1
          omega
        · exact k2 f k hc
  · rw [Uniq.perm h2]
    refine ⟨fun hu => (List.pairwise_append.1 hu).2.1, fun hu => List.pairwise_append.2 ⟨?_, hu, fun x hx y hy e => ?_⟩⟩
    · refine List.pairwise_iff_getElem.2 fun i j hi' hj' hij _ => ?_
      simp only [List.getElem_map]
      have := h.strict d i j (by simpa using hi') (by simpa using hj') hij
      omega
    · obtain ⟨z, hz, rfl⟩ := List.mem_map.1 hx
      have := h3 z hz y hy
      omega
/-- What one Next says of all that is still to come. -/
theorem NextR.says {bottom : Bool} {ys ys2 : List St} {rs rs2 : List (List En)} {r : NR} (k : NextR bottom ys rs r ys2 rs2) (hi : InvP ys [] rs) :
    (r = .seq → ¬ Uniq (pool ys rs)) ∧ (r = .none → Uniq (pool ys rs) ∧ ∀ x, Top x (pool ys rs) → (x.d && bottom) = true) ∧
    (∀ e, r = .give e → InvP ys2 [] rs2 ∧ (Uniq (pool ys rs) ↔ Uniq (pool ys2 rs2)) ∧ (∀ x ∈ pool ys2 rs2, cpE e x < 0) ∧ ∀ x, (Top x (pool ys rs) ∧ (x.d && bottom) = false) ↔ (x = e ∨ (Top x (pool ys2 rs2) ∧ (x.d && bottom) = false))) := by
  induction k using NextR.ind with
  | done rs =>
    have hp : pool [] rs = [] := by
      unfold pool
      simp only [List.map_nil, List.nil_append, List.flatten_eq_nil_iff]
      intro r hr
      obtain ⟨j, hj, e⟩ := List.getElem_of_mem hr
      by_cases hn : r = []
      · exact hn
      · obtain ⟨y, hy, -⟩ := hi.cover j r (by rw [List.getElem?_eq_getElem hj, e]) hn
        simp at hy
    rw [hp]
    exact ⟨fun h => (by cases h), fun _ => ⟨List.Pairwise.nil, fun x h => by have := h.1; simp at this⟩, fun e h => (by cases h)⟩
  | dup h d => exact ⟨fun _ => h.dup _ d, fun h => (by cases h), fun e h => (by cases h)⟩
  | give h d ha hp hk hd =>
    obtain ⟨h1, h2⟩ := h.cut d ha hi hp hk
    refine ⟨fun h => (by cases h), fun h => (by cases h), fun e he => ?_⟩
    cases he
    refine ⟨h1, h2.uniq, h2.above, fun x => ?_⟩
    rw [h2.top]
    constructor
    · rintro ⟨rfl | k, k2⟩
      · exact .inl rfl
      · exact .inr ⟨k, k2⟩
    · rintro (rfl | ⟨k, k2⟩)
      · exact ⟨.inl rfl, hd⟩
      · exact ⟨.inr k, k2⟩
  | skip h d ha hp hk hd _ ih =>
    obtain ⟨h1, h2⟩ := h.cut d ha hi hp hk
    obtain ⟨i1, i2, i3⟩ := ih h1
    refine ⟨fun e => ?_, fun e => ?_, fun e he => ?_⟩
    · rw [h2.uniq]; exact i1 e
    · rw [h2.uniq]
      refine ⟨(i2 e).1, fun x hx => ?_⟩
      rcases (h2.top x).1 hx with rfl | k
      · exact hd
      · exact (i2 e).2 x k
    · obtain ⟨j1, j2, j3, j4⟩ := i3 e he
      refine ⟨j1, h2.uniq.trans j2, j3, fun x => ?_⟩
      rw [← j4 x, h2.top]
      constructor
      · rintro ⟨rfl | k, k2⟩
        · rw [hd] at k2; cases k2
        · exact ⟨k, k2⟩
      · rintro ⟨k, k2⟩
        exact ⟨.inr k, k2⟩
/-- What Merge says of its lists. -/
theorem RestR.says {bottom : Bool} {ys : List St} {rs : List (List En)} {out : List En} {g : Bool} (k : RestR bottom ys rs out g) (hi : InvP ys [] rs) :
    (g = true ↔ Uniq (pool ys rs)) ∧ (g = true → out.Pairwise (fun a b => cpE a b < 0) ∧ ∀ x, x ∈ out ↔ (Top x (pool ys rs) ∧ (x.d && bottom) = false)) := by
  induction k using RestR.ind with
  | done h =>
    obtain ⟨-, h2, -⟩ := h.says hi
    refine ⟨⟨fun _ => (h2 rfl).1, fun _ => rfl⟩, fun _ => ⟨List.Pairwise.nil, fun x => ⟨fun h => by simp at h, fun ⟨a, b⟩ => by rw [(h2 rfl).2 x a] at b; cases b⟩⟩⟩
  | seq h =>
    obtain ⟨h1, -, -⟩ := h.says hi
    exact ⟨⟨fun h => (by cases h), fun hu => absurd hu (h1 rfl)⟩, fun h => by cases h⟩
  | more h _ ih =>
    obtain ⟨-, -, h3⟩ := h.says hi
    obtain ⟨j1, j2, j3, j4⟩ := h3 _ rfl
    obtain ⟨i1, i2⟩ := ih j1
    refine ⟨i1.trans j2.symm, fun hg => ⟨List.pairwise_cons.2 ⟨fun x hx => j3 x (((i2 hg).2 x).1 hx).1.1, (i2 hg).1⟩, fun x => ?_⟩⟩
    rw [List.mem_cons, (i2 hg).2 x, j4 x]
end Go.Proofs.Ytbkbnhdeleoibaa
