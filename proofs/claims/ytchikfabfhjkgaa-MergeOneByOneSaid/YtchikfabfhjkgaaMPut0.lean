/-
  DERIVED. What the laws' own helpers make: the mathematics.
-/
import Derived.Test.YtchikfabfhjkgaaMLaw0
set_option linter.unusedVariables false
set_option linter.unusedSimpArgs false
namespace Go.Proofs.Ytchikfabfhjkgaa
/-- A list that rises. -/
def Up (l : List En) : Prop := l.Pairwise (fun a b => cpE a b < 0)
theorem up_rises : ∀ {l : List En}, Up l → rises l = true
  | [], _ => rfl
  | [a], _ => rfl
  | a :: b :: r, h => by
    obtain ⟨h1, h2⟩ := List.pairwise_cons.1 h
    rw [rises, up_rises (l := b :: r) h2, decide_eq_true (h1 b (by simp))]; rfl
/-- Where an entry goes in a list. -/
structure PutK (l : List En) (e : En) (k : Nat) : Prop where
  le : k ≤ l.length
  lo : ∀ j (h : j < l.length), j < k → cpE l[j] e < 0
  hi : ∀ h : k < l.length, ¬ cpE l[k] e < 0
def insP (l : List En) (e : En) (k : Nat) : List En := l.take k ++ e :: l.drop k
theorem insP_perm (l : List En) (e : En) (k : Nat) : (insP l e k).Perm (e :: l) := by
  unfold insP
  exact List.perm_middle.trans (by rw [List.take_append_drop])
theorem insP_len (l : List En) (e : En) (k : Nat) : (insP l e k).length = l.length + 1 := by
  rw [(insP_perm l e k).length_eq]; rfl
theorem cp_trn {a b c : En} (h1 : cpE a b < 0) (h2 : cpE b c < 0) : cpE a c < 0 := by
  obtain ⟨k1, k2⟩ := cpE_tr a b c (by omega) (by omega)
  rcases Int.lt_or_eq_of_le k1 with k | k
  · exact k
  · have := (k2 k).1; omega
theorem PutK.up {l : List En} {e : En} {k : Nat} (p : PutK l e k) (hl : Up l) (hn : ∀ h : k < l.length, cpE l[k] e ≠ 0) : Up (insP l e k) ∧ ∀ x ∈ l, cpE x e ≠ 0 := by
  have hT : ∀ x ∈ l.take k, cpE x e < 0 := fun x hx => by
    obtain ⟨j, hj, rfl⟩ := List.getElem_of_mem hx
    rw [List.length_take] at hj
    rw [List.getElem_take]
    exact p.lo j (by omega) (by omega)
  have hD : ∀ x ∈ l.drop k, cpE e x < 0 := fun x hx => by
    obtain ⟨j, hj, rfl⟩ := List.getElem_of_mem hx
    rw [List.length_drop] at hj
    rw [List.getElem_drop]
    have hk : k < l.length := by omega
    have h1 := p.hi hk
    have h2 := hn hk
    have h3 : cpE e l[k] < 0 := by have := cpE_rev l[k] e; omega
    rcases Nat.eq_zero_or_pos j with h0 | h0
    · subst h0; exact h3
    · exact cp_trn h3 (List.pairwise_iff_getElem.1 hl k (k + j) hk (by omega) (by omega))
  refine ⟨List.pairwise_append.2 ⟨hl.sublist (List.take_sublist _ _), List.pairwise_cons.2 ⟨hD, hl.sublist (List.drop_sublist _ _)⟩, fun a ha b hb => ?_⟩, fun x hx => ?_⟩
  · rcases List.mem_cons.1 hb with rfl | hb
    · exact hT a ha
    · exact cp_trn (hT a ha) (hD b hb)
  · rw [← List.take_append_drop k l] at hx
    rcases List.mem_append.1 hx with h | h
    · have := hT x h; omega
    · have := hD x h; have := cpE_rev e x; omega
theorem uniq_snoc {l : List En} {x : En} (h : Uniq l) (hn : ∀ y ∈ l, ¬ (y.s = x.s ∧ cpE y x = 0)) : Uniq (l ++ [x]) :=
  List.pairwise_append.2 ⟨h, List.pairwise_singleton _ _, fun a ha b hb e => by
    simp at hb; subst hb
    exact fun e2 => hn a ha ⟨e2, e⟩⟩
theorem uniq_ne {l : List En} (h : Uniq l) {x y : En} (hx : x ∈ l) (hy : y ∈ l) (hs : x.s = y.s) (hc : cpE x y = 0) : x = y := by
  obtain ⟨i, hi, rfl⟩ := List.getElem_of_mem hx
  obtain ⟨j, hj, rfl⟩ := List.getElem_of_mem hy
  have k := List.pairwise_iff_getElem.1 h
  rcases Nat.lt_trichotomy i j with c | c | c
  · exact absurd hs (k i j hi hj c hc)
  · subst c; rfl
  · have := cpE_rev l[i] l[j]
    exact absurd hs.symm (k j i hj hi c (by omega))
/-- Two tops of one place are one. -/
theorem top_one {l : List En} (h : Uniq l) {x y : En} (hx : Top x l) (hy : Top y l) (hc : cpE x y = 0) : x = y := by
  have h1 := hy.2 x hx.1 hc
  have h2 := hx.2 y hy.1 (by have := cpE_rev x y; omega)
  exact uniq_ne h hx.1 hy.1 (by omega) hc
/-- The last words among the first i. -/
structure LstI (all : List En) (bottom : Bool) (i : Nat) (out : List En) : Prop where
  up : Up out
  mem : ∀ x, x ∈ out ↔ ∃ j, j < i ∧ all[j]? = some x ∧ Top x all ∧ (x.d && bottom) = false
  len : out.length ≤ i
theorem LstI.skip {all : List En} {bottom : Bool} {i : Nat} {out : List En} (h : LstI all bottom i out) {x : En} (hx : all[i]? = some x) (hn : ¬ (Top x all ∧ (x.d && bottom) = false)) : LstI all bottom (i + 1) out :=
  ⟨h.up, fun y => by
    rw [h.mem]
    constructor
    · rintro ⟨j, hj, r⟩; exact ⟨j, by omega, r⟩
    · rintro ⟨j, hj, e, r⟩
      refine ⟨j, ?_, e, r⟩
      rcases Nat.lt_succ_iff_lt_or_eq.1 hj with c | c
      · exact c
      · subst c; rw [hx] at e; cases e; exact absurd r hn, Nat.le_succ_of_le h.len⟩
theorem uniq_at {l : List En} (h : Uniq l) {i j : Nat} {x : En} (hi : l[i]? = some x) (hj : l[j]? = some x) : i = j := by
  obtain ⟨hi, e1⟩ := List.getElem?_eq_some_iff.1 hi
  obtain ⟨hj, e2⟩ := List.getElem?_eq_some_iff.1 hj
  have k := List.pairwise_iff_getElem.1 h
  rcases Nat.lt_trichotomy i j with c | c | c
  · exact absurd (by rw [e1, e2]) (k i j hi hj c (by rw [e1, e2]; exact cpE_self x))
  · exact c
  · exact absurd (by rw [e1, e2]) (k j i hj hi c (by rw [e1, e2]; exact cpE_self x))
theorem LstI.put {all : List En} {bottom : Bool} {i : Nat} {out : List En} (hu : Uniq all) (h : LstI all bottom i out) {x : En} (hx : all[i]? = some x) (ht : Top x all) (hd : (x.d && bottom) = false) {k : Nat} (p : PutK out x k) : (∀ h : k < out.length, cpE out[k] x ≠ 0) ∧ LstI all bottom (i + 1) (insP out x k) := by
  have h0 : ∀ y ∈ out, cpE y x ≠ 0 := fun y hy e => by
    obtain ⟨j, hj, e1, ty, -⟩ := (h.mem y).1 hy
    have := top_one hu ty ht e
    subst this
    have := uniq_at hu e1 hx
    omega
  have h1 : ∀ h : k < out.length, cpE out[k] x ≠ 0 := fun hk => h0 _ (List.getElem_mem hk)
  refine ⟨h1, ⟨(p.up h.up h1).1, fun y => ?_, by rw [insP_len]; have := h.len; omega⟩⟩
  rw [(insP_perm out x k).mem_iff, List.mem_cons, h.mem]
  constructor
  · rintro (rfl | ⟨j, hj, r⟩)
    · exact ⟨i, by omega, hx, ht, hd⟩
    · exact ⟨j, by omega, r⟩
  · rintro ⟨j, hj, e, r⟩
    rcases Nat.lt_succ_iff_lt_or_eq.1 hj with c | c
    · exact .inr ⟨j, c, e, r⟩
    · subst c; rw [hx] at e; cases e; exact .inl rfl
theorem LstI.told {all : List En} {bottom : Bool} {out : List En} (h : LstI all bottom all.length out) {R : List (List En)} (hp : R.flatten.Perm all) : Told R bottom out :=
  ⟨h.up, fun x => by
    rw [h.mem, Top.perm hp]
    constructor
    · rintro ⟨j, hj, e, r⟩; exact r
    · intro r
      obtain ⟨j, hj, e⟩ := List.getElem_of_mem r.1.1
      exact ⟨j, hj, by rw [List.getElem?_eq_getElem hj, e], r⟩⟩
theorem top_dec (all : List En) (x : En) (hx : x ∈ all) : (∀ f ∈ all, ¬ (cpE x f = 0 ∧ f.s > x.s)) ↔ Top x all := by
  constructor
  · exact fun h => ⟨hx, fun f hf e => by
      have := h f hf
      have := cpE_rev x f
      rcases Int.lt_or_le x.s f.s with c | c
      · exact absurd ⟨by omega, c⟩ (h f hf)
      · exact c⟩
  · rintro ⟨-, h⟩ f hf ⟨e, c⟩
    have := h f hf (by have := cpE_rev x f; omega)
    omega
theorem set_flat : ∀ (R : List (List En)) (k : Nat) (r : List En) (e : En) (r' : List En), R[k]? = some r → r'.Perm (e :: r) → ((R.set k r').flatten).Perm (e :: R.flatten)
  | [], k, r, e, r', h, _ => by simp at h
  | a :: R, 0, r, e, r', h, p => by
    simp at h; subst h
    rw [List.set_cons_zero, List.flatten_cons, List.flatten_cons]
    exact p.append_right _
  | a :: R, k + 1, r, e, r', h, p => by
    rw [List.set_cons_succ, List.flatten_cons, List.flatten_cons]
    exact ((set_flat R k r e r' (by simpa using h) p).append_left a).trans List.perm_middle
end Go.Proofs.Ytchikfabfhjkgaa
