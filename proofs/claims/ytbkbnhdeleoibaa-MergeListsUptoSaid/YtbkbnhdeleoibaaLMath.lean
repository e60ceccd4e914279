/-
  DERIVED. The document's own Merge: what its put keeps.
-/
import Derived.Test.YtbkbnhdeleoibaaLPut
set_option linter.unusedVariables false
set_option linter.unusedSimpArgs false
namespace Go.Proofs.Ytbkbnhdeleoibaa
/-- Of what has gone in so far, each place's greatest Seq, rising. -/
structure AllI (A all : List En) : Prop where
  up : Up all
  mem : ∀ x, x ∈ all ↔ Top x A
theorem cpE_sym {a b : En} (h : cpE a b = 0) : cpE b a = 0 := by have := cpE_rev a b; omega
theorem uniq_last {A : List En} {e x : En} (h : Uniq (A ++ [e])) (hx : x ∈ A) (hc : cpE x e = 0) : x.s ≠ e.s := (List.pairwise_append.1 h).2.2 x hx e (by simp) hc
theorem AllI.top {A all : List En} (h : AllI A all) {e : En} (hu : Uniq (A ++ [e])) (x : En) : Top x (A ++ [e]) ↔ ((x = e ∧ ∀ g ∈ all, cpE g e = 0 → g.s < e.s) ∨ (x ∈ all ∧ (cpE x e = 0 → e.s < x.s))) := by
  constructor
  · rintro ⟨h1, h2⟩
    rcases List.mem_append.1 h1 with k | k
    · refine .inr ⟨(h.mem x).2 ⟨k, fun f hf => h2 f (List.mem_append_left _ hf)⟩, fun hc => ?_⟩
      have h3 := h2 e (by simp) (cpE_sym hc)
      have h4 := uniq_last hu k hc
      omega
    · obtain rfl : x = e := by simpa using k
      refine .inl ⟨rfl, fun g hg hc => ?_⟩
      have hgA := ((h.mem g).1 hg).1
      have h3 := h2 g (List.mem_append_left _ hgA) hc
      have h4 := uniq_last hu hgA hc
      omega
  · rintro (⟨rfl, h1⟩ | ⟨h1, h2⟩)
    · refine ⟨by simp, fun f hf hc => ?_⟩
      rcases List.mem_append.1 hf with k | k
      · obtain ⟨g, g1, g2, g3⟩ := top_ex A f k
        have h3 := h1 g ((h.mem g).2 g1) (cp_eq g2 hc)
        omega
      · obtain rfl : f = x := by simpa using k
        exact Int.le_refl _
    · have ht := (h.mem x).1 h1
      refine ⟨List.mem_append_left _ ht.1, fun f hf hc => ?_⟩
      rcases List.mem_append.1 hf with k | k
      · exact ht.2 f k hc
      · obtain rfl : f = e := by simpa using k
        have := h2 (cpE_sym hc)
        omega
theorem cp_lz {a b c : En} (h1 : cpE a b < 0) (h2 : cpE b c = 0) : cpE a c < 0 := by
  obtain ⟨k1, k2⟩ := cpE_tr a b c (by omega) (by omega)
  rcases Int.lt_or_eq_of_le k1 with k | k
  · exact k
  · have := (k2 k).1; omega
theorem cp_zl {a b c : En} (h1 : cpE a b = 0) (h2 : cpE b c < 0) : cpE a c < 0 := by
  obtain ⟨k1, k2⟩ := cpE_tr a b c (by omega) (by omega)
  rcases Int.lt_or_eq_of_le k1 with k | k
  · exact k
  · have := (k2 k).2; omega
theorem up_at {l : List En} (h : Up l) {i j : Nat} (hi : i < l.length) (hj : j < l.length) (hij : i < j) : cpE l[i] l[j] < 0 := List.pairwise_iff_getElem.1 h i j hi hj hij
theorem up_eq {l : List En} (h : Up l) {x y : En} (hx : x ∈ l) (hy : y ∈ l) (hc : cpE x y = 0) : x = y := by
  obtain ⟨i, hi, rfl⟩ := List.getElem_of_mem hx
  obtain ⟨j, hj, rfl⟩ := List.getElem_of_mem hy
  rcases Nat.lt_trichotomy i j with k | k | k
  · have := up_at h hi hj k; omega
  · subst k; rfl
  · have h1 := up_at h hj hi k
    have := cpE_rev l[i] l[j]; omega
theorem AllI.put {A all all' : List En} (h : AllI A all) {e : En} (hu : Uniq (A ++ [e])) (p : PutR all e all') : AllI (A ++ [e]) all' := by
  obtain ⟨k, pk, ⟨hn, rfl⟩ | ⟨hk, hz, ⟨hs, rfl⟩ | ⟨hs, rfl⟩⟩⟩ := p
  · obtain ⟨h1, h2⟩ := pk.up h.up hn
    refine ⟨h1, fun x => ?_⟩
    rw [h.top hu x]
    have hm : x ∈ insP all e k ↔ x = e ∨ x ∈ all := by rw [(insP_perm all e k).mem_iff]; simp
    show x ∈ insP all e k ↔ _
    rw [hm]
    constructor
    · rintro (rfl | h3)
      · exact .inl ⟨rfl, fun g hg hc => absurd hc (h2 g hg)⟩
      · exact .inr ⟨h3, fun hc => absurd hc (h2 x h3)⟩
    · rintro (⟨h3, -⟩ | ⟨h3, -⟩)
      · exact .inl h3
      · exact .inr h3
  · have hT : ∀ x ∈ all.take k, cpE x e < 0 := fun x hx => by
      obtain ⟨j, hj, rfl⟩ := List.getElem_of_mem hx
      rw [List.length_take] at hj
      rw [List.getElem_take]
      exact pk.lo j (by omega) (by omega)
    have hD : ∀ x ∈ all.drop (k + 1), cpE e x < 0 := fun x hx => by
      obtain ⟨j, hj, rfl⟩ := List.getElem_of_mem hx
      rw [List.length_drop] at hj
      rw [List.getElem_drop]
      exact cp_zl (cpE_sym hz) (up_at h.up hk (by omega) (by omega))
    have hall : all = all.take k ++ all[k] :: all.drop (k + 1) := by
      conv => lhs; rw [← List.take_append_drop k all, List.drop_eq_getElem_cons hk]
    have hu' : Up (all.take k ++ all[k] :: all.drop (k + 1)) := by rw [← hall]; exact h.up
    obtain ⟨u1, u2, u3⟩ := List.pairwise_append.1 hu'
    refine ⟨List.pairwise_append.2 ⟨u1, List.pairwise_cons.2 ⟨hD, (List.pairwise_cons.1 u2).2⟩, fun a ha b hb => ?_⟩, fun x => ?_⟩
    · rcases List.mem_cons.1 hb with rfl | hb
      · exact hT a ha
      · exact u3 a ha b (List.mem_cons_of_mem _ hb)
    · rw [h.top hu x]
      have hmem : ∀ y, y ∈ all ↔ y ∈ all.take k ∨ y = all[k] ∨ y ∈ all.drop (k + 1) := fun y => by
        have h9 : y ∈ all ↔ y ∈ all.take k ++ all[k] :: all.drop (k + 1) := by rw [← hall]
        rw [h9]
        simp only [List.mem_append, List.mem_cons]
      simp only [List.mem_append, List.mem_cons]
      constructor
      · rintro (h3 | rfl | h3)
        · refine .inr ⟨(hmem x).2 (.inl h3), fun hc => ?_⟩
          have := hT x h3; omega
        · refine .inl ⟨rfl, fun g hg hc => ?_⟩
          have : g = all[k] := up_eq h.up hg (List.getElem_mem hk) (cp_eq hc (cpE_sym hz))
          rw [this]; exact hs
        · refine .inr ⟨(hmem x).2 (.inr (.inr h3)), fun hc => ?_⟩
          have := hD x h3
          have := cpE_rev x e; omega
      · rintro (⟨h3, -⟩ | ⟨h3, h4⟩)
        · exact .inr (.inl h3)
        · rcases (hmem x).1 h3 with h5 | h5 | h5
          · exact .inl h5
          · subst h5
            have := h4 hz; omega
          · exact .inr (.inr h5)
  · refine ⟨h.up, fun x => ?_⟩
    rw [h.top hu x]
    have hkA := ((h.mem all'[k]).1 (List.getElem_mem hk)).1
    have hne := uniq_last hu hkA hz
    constructor
    · intro h3
      refine .inr ⟨h3, fun hc => ?_⟩
      have : x = all'[k] := up_eq h.up h3 (List.getElem_mem hk) (cp_eq hc (cpE_sym hz))
      rw [this]; omega
    · rintro (⟨rfl, h3⟩ | ⟨h3, -⟩)
      · exact absurd (h3 _ (List.getElem_mem hk) hz) hs
      · exact h3
theorem AllI.nil : AllI [] [] := ⟨List.Pairwise.nil, fun x => by simp [Top]⟩
theorem AllI.told {R : List (List En)} {all : List En} (h : AllI R.flatten all) : Told R false all := ⟨h.up, fun x => by rw [h.mem]; simp⟩
theorem Told.live {R : List (List En)} {all : List En} (h : Told R false all) : Told R true (all.filter (fun x => !x.d)) := ⟨h.up.sublist List.filter_sublist, fun x => by
  rw [List.mem_filter, h.mem]
  simp⟩
theorem uniq_take {l : List En} (h : Uniq l) (n : Nat) : Uniq (l.take n) := h.sublist (List.take_sublist _ _)
theorem nd_le : ∀ {l m : List En}, l.Nodup → (∀ x ∈ l, x ∈ m) → l.length ≤ m.length
  | [], m, _, _ => Nat.zero_le _
  | a :: l, m, hn, hs => by
    obtain ⟨h1, h2⟩ := List.nodup_cons.1 hn
    obtain ⟨s, t, rfl⟩ := List.append_of_mem (hs a (by simp))
    have := nd_le (l := l) (m := s ++ t) h2 (fun x hx => by
      have h3 := hs x (List.mem_cons_of_mem _ hx)
      simp only [List.mem_append, List.mem_cons] at h3 ⊢
      rcases h3 with h | rfl | h
      · exact .inl h
      · exact absurd hx h1
      · exact .inr h)
    simp at this ⊢
    omega
/-- What both Merges tell. -/
def MgR (R : List (List En)) (bottom : Bool) (out : List En) (e : Int) : Prop :=
  (1024 < R.length ∧ out = [] ∧ e = 43) ∨ (R.length ≤ 1024 ∧ (∃ l ∈ R, rises l = false) ∧ out = [] ∧ e = 50) ∨ (R.length ≤ 1024 ∧ (∀ l ∈ R, rises l = true) ∧ ¬ Uniq R.flatten ∧ out = [] ∧ e = 51) ∨ (R.length ≤ 1024 ∧ (∀ l ∈ R, rises l = true) ∧ Uniq R.flatten ∧ Told R bottom out ∧ e = 0)
theorem MgR.one {R : List (List En)} {bottom : Bool} {o1 o2 : List En} {e1 e2 : Int} (h : MgR R bottom o1 e1) (k : MgR R bottom o2 e2) : o1 = o2 ∧ e1 = e2 := by
  rcases h with ⟨a, b, c⟩ | ⟨a, ⟨l, hl, hr⟩, b, c⟩ | ⟨a, a2, a3, b, c⟩ | ⟨a, a2, a3, b, c⟩ <;> rcases k with ⟨a', b', c'⟩ | ⟨a', ⟨l', hl', hr'⟩, b', c'⟩ | ⟨a', a2', a3', b', c'⟩ | ⟨a', a2', a3', b', c'⟩
  · exact ⟨b.trans b'.symm, c.trans c'.symm⟩
  · omega
  · omega
  · omega
  · omega
  · exact ⟨b.trans b'.symm, c.trans c'.symm⟩
  · have := a2' l hl; rw [this] at hr; cases hr
  · have := a2' l hl; rw [this] at hr; cases hr
  · omega
  · have := a2 l' hl'; rw [this] at hr'; cases hr'
  · exact ⟨b.trans b'.symm, c.trans c'.symm⟩
  · exact absurd a3' a3
  · omega
  · have := a2 l' hl'; rw [this] at hr'; cases hr'
  · exact absurd a3 a3'
  · exact ⟨b.one b' (fun x => Iff.rfl), c.trans c'.symm⟩
theorem MgR.len {R : List (List En)} {bottom : Bool} {out : List En} {e : Int} (h : MgR R bottom out e) : out.length ≤ R.flatten.length := by
  rcases h with ⟨-, rfl, -⟩ | ⟨-, -, rfl, -⟩ | ⟨-, -, -, rfl, -⟩ | ⟨-, -, -, t, -⟩
  · simp
  · simp
  · simp
  · have hn : out.Nodup := t.up.imp (fun {a b} hab e => by subst e; have := cpE_self a; omega)
    have hsub : ∀ x ∈ out, x ∈ R.flatten := fun x hx => ((t.mem x).1 hx).1.1
    exact nd_le hn hsub
end Go.Proofs.Ytbkbnhdeleoibaa
