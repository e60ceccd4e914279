/-
  DERIVED. The children that wait, in order: the mathematics.
-/
import Derived.Test.YtnnbcdfpbdmgdaaDoorTSort
set_option linter.unusedVariables false
set_option linter.unusedSimpArgs false
namespace Go.Proofs.YtnnbcdfpbdmgdaaDoor
open Go.RowKit Go.Maps Go.Sort Go.Proofs.BitMath Go.Proofs.TreeMath
theorem sorted_ext {α : Type} (r : α → α → Prop) (irr : ∀ a, ¬ r a a) (asy : ∀ a b, r a b → ¬ r b a) : ∀ (l m : List α), l.Pairwise r → m.Pairwise r → (∀ x, x ∈ l ↔ x ∈ m) → l = m
  | [], [], _, _, _ => rfl
  | [], b :: m, _, _, h => by have := (h b).2 (by simp); cases this
  | a :: l, [], _, _, h => by have := (h a).1 (by simp); cases this
  | a :: l, b :: m, hl, hm, h => by
    have hl' := List.pairwise_cons.1 hl
    have hm' := List.pairwise_cons.1 hm
    have e : a = b := by
      rcases List.mem_cons.1 ((h a).1 (by simp)) with e | e
      · exact e
      · rcases List.mem_cons.1 ((h b).2 (by simp)) with e2 | e2
        · exact e2.symm
        · exact absurd (hl'.1 b e2) (asy _ _ (hm'.1 a e))
    subst e
    rw [sorted_ext r irr asy l m hl'.2 hm'.2 fun x => ⟨fun hx => ?_, fun hx => ?_⟩]
    · rcases List.mem_cons.1 ((h x).1 (List.mem_cons_of_mem _ hx)) with e | e
      · subst e; exact absurd (hl'.1 x hx) (irr x)
      · exact e
    · rcases List.mem_cons.1 ((h x).2 (List.mem_cons_of_mem _ hx)) with e | e
      · subst e; exact absurd (hm'.1 x hx) (irr x)
      · exact e
theorem kids_desc {α : Type} (T : List (Nd α)) (dq : Nat → Nat) (b i n : Nat) : ∀ k, (kids T dq b i n k).Pairwise (fun s t => t.edge < s.edge)
  | 0 => by simp [kids]
  | k + 1 => by
    rw [kids, List.pairwise_append]
    refine ⟨?_, kids_desc T dq b i n k, fun s hs t ht => ?_⟩
    · cases kid T dq b i (n + k + 1) <;> simp
    · obtain ⟨e, h1, h2, -, h4, -⟩ := kids_mem.1 ht
      have hs' : s ∈ kids T dq b i (n + k) 1 := by
        rw [kids, List.mem_append]
        exact .inl hs
      obtain ⟨e2, g1, g2, -, g4, -⟩ := kids_mem.1 hs'
      rw [h4, g4]
      simp only
      omega
/-- The step to a child. -/
def stp {n : Nat} (T : List (Nd (Cd n))) (D k : Nat) : St := ⟨k, ((T[k]?).map Nd.dist).getD 0, D⟩
theorem stp_eq {n : Nat} {T : List (Nd (Cd n))} {k : Nat} {nd : Nd (Cd n)} (h : T[k]? = some nd) (D : Nat) : stp T D k = ⟨k, nd.dist, D⟩ := by simp [stp, h]
/-- Those that may be looked at. -/
def stF {n : Nat} (T : List (Nd (Cd n))) (D b : Nat) (ks : List Nat) : List St := (ks.map (stp T D)).filter (fun s => decide (may b s))
theorem stF_snoc {n : Nat} (T : List (Nd (Cd n))) (D b : Nat) (ks : List Nat) (k : Nat) : stF T D b (ks ++ [k]) = stF T D b ks ++ (if may b (stp T D k) then [stp T D k] else []) := by
  unfold stF
  rw [List.map_append, List.filter_append]
  congr 1
  by_cases h : may b (stp T D k)
  · rw [if_pos h, List.map_cons, List.filter_cons_of_pos (by simpa using h)]; rfl
  · rw [if_neg h, List.map_cons, List.filter_cons_of_neg (by simpa using h)]; rfl
theorem dist_le {n : Nat} {T : List (Nd (Cd n))} (wf : WF dC T) {k j : Nat} {nd : Nd (Cd n)} (hk : T[k]? = some nd) (ho : nd.over = some j) : 0 < nd.dist ∧ nd.dist ≤ 8 * n := by
  have hj : j < T.length := by have := wf.lt hk ho; have := (List.getElem?_eq_some_iff.1 hk).1; omega
  have h0 := wf.bk j nd.dist k _ nd (.base hk ho rfl) (List.getElem?_eq_getElem hj) hk
  have h1 := dC_le T[j].code nd.code
  refine ⟨wf.pos k nd hk (by have := wf.lt hk ho; omega), by omega⟩
theorem child_of {n : Nat} {T : List (Nd (Cd n))} (wf : WF dC T) {k j : Nat} {nd : Nd (Cd n)} (hk : T[k]? = some nd) (ho : nd.over = some j) : child T j nd.dist = some k := by
  cases hc : child T j nd.dist with
  | none => exact absurd ⟨ho, rfl⟩ (child_none hc hk)
  | some k' =>
    obtain ⟨nd', r1, r2, r3⟩ := child_some hc
    rw [wf.one k' k nd' nd j r1 hk r2 ho r3]
/-- Sorted, they are the document's own order. -/
theorem stF_kids {n : Nat} {T : List (Nd (Cd n))} (wf : WF dC T) {j b D : Nat} {ks : List Nat} (hk : KidsA T j ks) {dq : Nat → Nat} (hD : dq j = D) {wd : Nat} (hwd : wd = 8 * n) {K : List St} (hp : K.Perm (stF T D b ks)) (hs : K.Pairwise (fun a b => b.edge ≤ a.edge)) : K = kids T dq b j 0 wd := by
  have hmem : ∀ x, x ∈ K ↔ (∃ nd, T[x.node]? = some nd ∧ nd.over = some j ∧ x = ⟨x.node, nd.dist, D⟩) ∧ may b x := fun x => by
    rw [hp.mem_iff]
    unfold stF
    rw [List.mem_filter, List.mem_map]
    constructor
    · rintro ⟨⟨k, h1, rfl⟩, h2⟩
      obtain ⟨nd, q1, q2⟩ := (hk.2 k).1 h1
      rw [stp_eq q1] at h2 ⊢
      exact ⟨⟨nd, q1, q2, rfl⟩, by simpa using h2⟩
    · rintro ⟨⟨nd, q1, q2, q3⟩, h2⟩
      refine ⟨⟨x.node, (hk.2 x.node).2 ⟨nd, q1, q2⟩, ?_⟩, by simpa using h2⟩
      rw [stp_eq q1]
      exact q3.symm
  have hnd : K.Nodup := (hp.nodup_iff).2 (List.Nodup.sublist List.filter_sublist (List.pairwise_map.2 (hk.1.imp fun {a b} hab h => hab (by have := congrArg St.node h; exact this))))
  refine sorted_ext (fun s t => t.edge < s.edge) (fun a => by omega) (fun a b h => by omega) K _ ?_ (kids_desc T dq b j 0 wd) fun x => ?_
  · refine List.Pairwise.imp_of_mem ?_ (List.Pairwise.and hs hnd)
    intro a c ha hc hac
    obtain ⟨h1, h2⟩ := hac
    obtain ⟨⟨nd, q1, q2, q3⟩, -⟩ := (hmem a).1 ha
    obtain ⟨⟨nd', r1, r2, r3⟩, -⟩ := (hmem c).1 hc
    rcases Nat.lt_or_eq_of_le h1 with h | h
    · exact h
    · exfalso
      rw [q3, r3] at h
      simp only at h
      have := wf.one a.node c.node nd nd' j q1 r1 q2 r2 h.symm
      apply h2
      rw [q3, r3, this]
      rw [this] at q1
      rw [q1] at r1
      cases r1
      rfl
  · rw [hmem, kids_mem]
    constructor
    · rintro ⟨⟨nd, q1, q2, q3⟩, h2⟩
      obtain ⟨p1, p2⟩ := dist_le wf q1 q2
      exact ⟨nd.dist, p1, by omega, child_of wf q1 q2, by rw [hD]; exact q3, h2⟩
    · rintro ⟨e, h1, h2, h3, h4, h5⟩
      obtain ⟨nd, q1, q2, q3⟩ := child_some h3
      exact ⟨⟨nd, q1, q2, by rw [q3, ← hD]; exact h4⟩, h5⟩
theorem KL.step2 {n : Nat} {T : List (Nd (Cd n))} {bs : List Nat} {i : Nat} {D : DataW Unit} (h : KidD T bs i D) {left : Lit → Bool} {ks : List Nat} (hk : KL T i left ks) {z : Int} {y : DataW Unit} (hlk : left (.int .i64 z) = true) (hat : ∀ zd, D.atKey (.int .i64 z) zd = y) :
    ∃ k, y = .lit (.int .i64 (bs.getD k 0 : Nat)) ∧ KL T i (fun u => left u && !u.sameKey (.int .i64 z)) (ks ++ [k]) ∧ k < T.length ∧ child T i z.toNat = some k ∧ 0 ≤ z := by
  have h0 := hat .nil
  have h1 := hat (.lit (.int .i64 0))
  rw [h z .nil] at h0
  rw [h z (.lit (.int .i64 0))] at h1
  by_cases hz : 0 ≤ z
  · rw [if_pos hz] at h0 h1
    cases hc : child T i z.toNat with
    | none =>
      rw [hc] at h0 h1
      rw [← h1] at h0
      simp [kidP] at h0
    | some k =>
      rw [hc] at h0
      obtain ⟨nd, q1, q2, q3⟩ := child_some hc
      have ez : ((z.toNat : Nat) : Int) = z := Int.toNat_of_nonneg hz
      have hnew : k ∉ ks := fun hx => by
        obtain ⟨e', c1, c2⟩ := (hk.2 k).1 hx
        obtain ⟨nd', r1, r2, r3⟩ := child_some c1
        rw [q1] at r1
        cases r1
        rw [← r3, q3, ez, hlk] at c2
        cases c2
      refine ⟨k, h0.symm, ⟨List.nodup_append.2 ⟨hk.1, by simp, fun a ha b hb => by simp at hb; subst hb; exact fun e => hnew (e ▸ ha)⟩, fun j => ?_⟩, (List.getElem?_eq_some_iff.1 q1).1, rfl, hz⟩
      rw [List.mem_append, hk.2 j]
      constructor
      · rintro (⟨e, c1, c2⟩ | hj)
        · exact ⟨e, c1, by simp [c2]⟩
        · simp at hj
          subst hj
          refine ⟨z.toNat, hc, ?_⟩
          rw [ez]
          simp [Lit.sameKey]
      · rintro ⟨e, c1, c2⟩
        by_cases he : left (.int .i64 (e : Int)) = false
        · exact .inl ⟨e, c1, he⟩
        · right
          simp [he, Lit.sameKey] at c2
          have : e = z.toNat := by omega
          rw [this, hc] at c1
          cases c1
          simp
  · rw [if_neg hz] at h0 h1
    rw [← h1] at h0
    cases h0
end Go.Proofs.YtnnbcdfpbdmgdaaDoor
