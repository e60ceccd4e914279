/-
  DERIVED. Places that hang together: ways that lead to the first of each group; joining; the groups.
-/
namespace Go.Proofs.UnionMath
def upd (f : Nat → Nat) (p x : Nat) : Nat → Nat := fun k => if k = p then x else f k
theorem upd_same (f : Nat → Nat) (p x : Nat) : upd f p x p = x := by simp [upd]
theorem upd_other (f : Nat → Nat) {p x k : Nat} (h : k ≠ p) : upd f p x k = f k := by simp [upd, h]
/-- R tells the first place of each place's group; A leads there. -/
structure Up (n : Nat) (A R : Nat → Nat) : Prop where
  le : ∀ i, i < n → A i ≤ i
  rr : ∀ i, i < n → R (A i) = R i
  top : ∀ i, i < n → (A i = i ↔ R i = i)
  rle : ∀ i, i < n → R i ≤ i
  rid : ∀ i, i < n → R (R i) = R i
theorem Up.start (n : Nat) : Up n id id := ⟨fun _ _ => Nat.le_refl _, fun _ _ => rfl, fun _ _ => Iff.rfl, fun _ _ => Nat.le_refl _, fun _ _ => rfl⟩
theorem Up.halve {n : Nat} {A R : Nat → Nat} (h : Up n A R) {p : Nat} (hp : p < n) (hne : A p ≠ p) : Up n (upd A p (A (A p))) R := by
  have h1 := h.le p hp
  have h2 := h.le (A p) (by omega)
  refine ⟨fun i hi => ?_, fun i hi => ?_, fun i hi => ?_, h.rle, h.rid⟩
  · by_cases e : i = p
    · subst e; rw [upd_same]; omega
    · rw [upd_other _ e]; exact h.le i hi
  · by_cases e : i = p
    · subst e; rw [upd_same, h.rr _ (by omega), h.rr _ hi]
    · rw [upd_other _ e]; exact h.rr i hi
  · by_cases e : i = p
    · subst e; rw [upd_same]
      constructor
      · intro g; omega
      · intro g; exact absurd ((h.top _ hi).2 g) hne
    · rw [upd_other _ e]; exact h.top i hi
/-- Two groups are one. -/
def joinR (R : Nat → Nat) (M m : Nat) : Nat → Nat := fun i => if R i = M then m else R i
theorem Up.join {n : Nat} {A R : Nat → Nat} (h : Up n A R) {M m : Nat} (hM : M < n) (hm : m ≤ M) (rM : R M = M) (rm : R m = m) : Up n (upd A M m) (joinR R M m) := by
  have q : joinR R M m m = m := by unfold joinR; rw [rm]; split <;> simp_all
  have qM : joinR R M m M = m := by unfold joinR; rw [rM]; simp
  refine ⟨fun i hi => ?_, fun i hi => ?_, fun i hi => ?_, fun i hi => ?_, fun i hi => ?_⟩
  · by_cases e : i = M
    · subst e; rw [upd_same]; exact hm
    · rw [upd_other _ e]; exact h.le i hi
  · by_cases e : i = M
    · subst e; rw [upd_same, q, qM]
    · rw [upd_other _ e]; unfold joinR; rw [h.rr i hi]
  · by_cases e : i = M
    · subst e; rw [upd_same, qM]
    · rw [upd_other _ e, h.top i hi]
      unfold joinR
      by_cases g : R i = M
      · rw [if_pos g, g]
        constructor
        · intro x; exact absurd x.symm e
        · intro x; subst x; rw [rm] at g; exact absurd g e
      · rw [if_neg g]
  · unfold joinR
    have := h.rle i hi
    split <;> omega
  · unfold joinR
    by_cases g : R i = M
    · rw [if_pos g, rm]; split <;> simp_all
    · rw [if_neg g, h.rid i hi, if_neg g]
/-! the groups -/
def grp (n : Nat) (R : Nat → Nat) (i : Nat) : List Nat := (List.range n).filter (fun k => R k == i)
def roots (n : Nat) (R : Nat → Nat) : List Nat := (List.range n).filter (fun i => R i == i)
def grps (n : Nat) (R : Nat → Nat) : List (List Nat) := (roots n R).map (grp n R)
theorem roots_succ (n : Nat) (R : Nat → Nat) : roots (n + 1) R = roots n R ++ (if R n = n then [n] else []) := by
  unfold roots
  rw [List.range_succ, List.filter_append]
  congr 1
  by_cases h : R n = n <;> simp [h]
theorem grp_succ (n : Nat) (R : Nat → Nat) (i : Nat) : grp (n + 1) R i = grp n R i ++ (if R n = i then [n] else []) := by
  unfold grp
  rw [List.range_succ, List.filter_append]
  congr 1
  by_cases h : R n = i <;> simp [h]
theorem mem_roots {n i : Nat} {R : Nat → Nat} : i ∈ roots n R ↔ i < n ∧ R i = i := by simp [roots]
theorem mem_grp {n i k : Nat} {R : Nat → Nat} : k ∈ grp n R i ↔ k < n ∧ R k = i := by simp [grp]
theorem grps_new {n p : Nat} {R A : Nat → Nat} (h : Up n A R) (hp : p < n) (e : R p = p) : grps (p + 1) R = grps p R ++ [[p]] := by
  unfold grps
  rw [roots_succ, if_pos e, List.map_append]
  congr 1
  · apply List.map_congr_left
    intro i hi
    rw [grp_succ, if_neg, List.append_nil]
    have := (mem_roots.1 hi).1
    omega
  · have : grp p R p = [] := by
      apply List.eq_nil_iff_forall_not_mem.2
      intro k hk
      obtain ⟨h1, h2⟩ := mem_grp.1 hk
      have := h.rle k (by omega)
      omega
    simp [grp_succ, this, e]
theorem roots_at {n r : Nat} {R : Nat → Nat} (hr : r < n) (e : R r = r) : (roots n R)[(roots r R).length]? = some r := by
  induction n with
  | zero => omega
  | succ n ih =>
    rw [roots_succ]
    by_cases h : r = n
    · subst h
      rw [if_pos e, List.getElem?_append_right (Nat.le_refl _), Nat.sub_self]; rfl
    · have := ih (by omega)
      have hl := (List.getElem?_eq_some_iff.1 this).1
      rw [List.getElem?_append_left hl, this]
theorem roots_inj {n : Nat} {R : Nat → Nat} {j l : Nat} (hj : j < (roots n R).length) (hl : l < (roots n R).length) (e : (roots n R)[j] = (roots n R)[l]) : j = l := by
  have hp : (roots n R).Pairwise (· < ·) := List.Pairwise.filter _ List.pairwise_lt_range
  have hq := List.pairwise_iff_getElem.1 hp
  rcases Nat.lt_trichotomy j l with h | h | h
  · have := hq j l hj hl h; omega
  · exact h
  · have := hq l j hl hj h; omega
theorem grps_get {n k : Nat} {R : Nat → Nat} (h : k < (grps n R).length) (h' : k < (roots n R).length) : (grps n R)[k] = grp n R (roots n R)[k] := by
  simp [grps]
theorem grps_old {n p : Nat} {R A : Nat → Nat} (h : Up n A R) (hp : p < n) (e : R p ≠ p) :
    ∃ (hj : (roots (R p) R).length < (grps p R).length), grps (p + 1) R = (grps p R).set (roots (R p) R).length ((grps p R)[(roots (R p) R).length] ++ [p]) := by
  have hr := h.rle p hp
  have hr' : R p < p := by omega
  have hid := h.rid p hp
  have hat := roots_at (n := p) (R := R) hr' hid
  obtain ⟨hj, hje⟩ := List.getElem?_eq_some_iff.1 hat
  have hj2 : (roots (R p) R).length < (grps p R).length := by unfold grps; rw [List.length_map]; exact hj
  refine ⟨hj2, ?_⟩
  apply List.ext_getElem
  · unfold grps; rw [List.length_set, List.length_map, List.length_map, roots_succ, if_neg e, List.append_nil]
  · intro k h1 h2
    have hk : k < (roots p R).length := by
      unfold grps at h2; rw [List.length_set, List.length_map] at h2; exact h2
    have e1 : (grps (p + 1) R)[k] = grp (p + 1) R (roots p R)[k] := by
      unfold grps; simp only [List.getElem_map, roots_succ, if_neg e, List.append_nil]
    rw [e1, grp_succ, List.getElem_set]
    by_cases g : (roots (R p) R).length = k
    · subst g
      rw [if_pos rfl, hje, if_pos rfl]
      rw [grps_get hj2 hj, hje]
    · rw [if_neg g, if_neg]
      · rw [grps_get (by unfold grps; rw [List.length_map]; exact hk) hk, List.append_nil]
      · intro x
        exact g (roots_inj hj hk (by rw [hje, x]))
theorem roots_le {n r : Nat} (R : Nat → Nat) (h : r ≤ n) : (roots r R).length ≤ (roots n R).length := by
  induction n with
  | zero => rw [Nat.le_zero.1 h]; exact Nat.le_refl _
  | succ n ih =>
    by_cases e : r = n + 1
    · rw [e]; exact Nat.le_refl _
    · rw [roots_succ, List.length_append]; have := ih (by omega); omega
theorem roots_len (n : Nat) (R : Nat → Nat) : (roots n R).length ≤ n := by
  have := List.length_filter_le (fun i => R i == i) (List.range n)
  rw [List.length_range] at this; exact this
theorem grp_len (n : Nat) (R : Nat → Nat) (i : Nat) : (grp n R i).length ≤ n := by
  have := List.length_filter_le (fun k => R k == i) (List.range n)
  rw [List.length_range] at this; exact this
end Go.Proofs.UnionMath
