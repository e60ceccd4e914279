/-
  DERIVED. codes: those that are there, rising: for every tree.
-/
import Derived.Test.YtnnbcdfpbdmgdaaDoorTCodes0
import Derived.Sort.KeysCollected
set_option linter.unusedVariables false
set_option linter.unusedSimpArgs false
namespace Go.Proofs.YtnnbcdfpbdmgdaaDoor
open Go.RowKit Go.Maps Go.Sort Go.Proofs.BitMath Go.Proofs.TreeMath
def byC {n : Nat} (c : Cd n) : List UInt8 := c.1.data.toList
theorem byC_inj {n : Nat} {a b : Cd n} (h : byC a = byC b) : a = b := Subtype.ext (ByteArray.ext (Array.toList_inj.1 h))
/-- The codes, rising. -/
def srtC {n : Nat} (l : List (Cd n)) : List (Cd n) := l.mergeSort (fun a b => leB (byC a) (byC b))
theorem srtC_map {n : Nat} (l : List (Cd n)) : (srtC l).map byC = (l.map byC).mergeSort leB := List.map_mergeSort (fun _ _ _ _ => rfl)
theorem srtC_perm {n : Nat} (l : List (Cd n)) : (srtC l).Perm l := List.mergeSort_perm _ _
theorem srtC_eq {n : Nat} {l m : List (Cd n)} (h : l.Perm m) : (l.map byC).mergeSort leB = (srtC m).map byC := by
  rw [srtC_map]; exact mergeSort_of_perm (h.map byC)
theorem srtC_rising {n : Nat} {l : List (Cd n)} (h : l.Nodup) : Rising (srtC l) := by
  have h1 : ((l.map byC).mergeSort leB).Pairwise (fun a b => leB a b = true) := List.pairwise_mergeSort (fun a b c h1 h2 => by simp [leB] at *; exact List.le_trans h1 h2) (fun a b => by simp [leB]; exact List.le_total a b) _
  rw [← srtC_map, List.pairwise_map] at h1
  have h2 : (srtC l).Pairwise (fun a b => a ≠ b) := ((srtC_perm l).nodup_iff).2 h
  unfold Rising
  refine List.Pairwise.imp₂ (fun a b (h1 : leB (byC a) (byC b) = true) (h2 : a ≠ b) => ?_) h1 h2
  have h3 : byC a ≤ byC b := by simpa [leB] using h1
  rcases List.le_iff_lt_or_eq.1 h3 with h4 | h4
  · exact h4
  · exact absurd (byC_inj h4) h2
/-- The children whose keys were struck. -/
def KL {n : Nat} (T : List (Nd (Cd n))) (i : Nat) (left : Lit → Bool) (ks : List Nat) : Prop := ks.Nodup ∧ ∀ k, k ∈ ks ↔ ∃ e : Nat, child T i e = some k ∧ left (.int .i64 (e : Int)) = false
theorem KL.start {n : Nat} {T : List (Nd (Cd n))} {bs : List Nat} {i : Nat} {D : DataW Unit} (h : KidD T bs i D) : KL T i (Maps.has D) [] := by
  refine ⟨List.nodup_nil, fun k => ⟨fun h => (by cases h), ?_⟩⟩
  rintro ⟨e, hc, hl⟩
  have : Maps.has D (.int .i64 (e : Int)) = true := has_true_of_atKey (y := .lit (.int .i64 (bs.getD k 0 : Nat))) (fun zd => by rw [h.nat e zd, hc]; rfl)
  rw [this] at hl
  cases hl
theorem KL.step {n : Nat} {T : List (Nd (Cd n))} {bs : List Nat} {i : Nat} {D : DataW Unit} (h : KidD T bs i D) {left : Lit → Bool} {ks : List Nat} (hk : KL T i left ks) {z : Int} {y : DataW Unit} (hlk : left (.int .i64 z) = true) (hat : ∀ zd, D.atKey (.int .i64 z) zd = y) :
    ∃ k, y = .lit (.int .i64 (bs.getD k 0 : Nat)) ∧ KL T i (fun u => left u && !u.sameKey (.int .i64 z)) (ks ++ [k]) ∧ k < T.length := by
  have h0 := hat .nil
  have h1 := hat (.lit (.int .i64 0))
  rw [h z .nil] at h0
  rw [h z (.lit (.int .i64 0))] at h1
  by_cases hz : 0 ≤ z
  · rw [if_pos hz] at h0 h1
    cases hc : child T i z.toNat with
    | none =>
      rw [hc] at h0 h1
      rw [← h1] at h0
      simp [kidP] at h0
    | some k =>
      rw [hc] at h0
      obtain ⟨nd, q1, q2, q3⟩ := child_some hc
      have ez : ((z.toNat : Nat) : Int) = z := Int.toNat_of_nonneg hz
      have hnew : k ∉ ks := fun hx => by
        obtain ⟨e', c1, c2⟩ := (hk.2 k).1 hx
        obtain ⟨nd', r1, r2, r3⟩ := child_some c1
        rw [q1] at r1
        cases r1
        rw [← r3, q3, ez, hlk] at c2
        cases c2
      refine ⟨k, h0.symm, ⟨List.nodup_append.2 ⟨hk.1, by simp, fun a ha b hb => by simp at hb; subst hb; exact fun e => hnew (e ▸ ha)⟩, fun j => ?_⟩, (List.getElem?_eq_some_iff.1 q1).1⟩
      rw [List.mem_append, hk.2 j]
      constructor
      · rintro (⟨e, c1, c2⟩ | hj)
        · exact ⟨e, c1, by simp [c2]⟩
        · simp at hj
          subst hj
          refine ⟨z.toNat, hc, ?_⟩
          rw [ez]
          simp [Lit.sameKey]
      · rintro ⟨e, c1, c2⟩
        by_cases he : left (.int .i64 (e : Int)) = false
        · exact .inl ⟨e, c1, he⟩
        · right
          simp [he, Lit.sameKey] at c2
          have : e = z.toNat := by omega
          rw [this, hc] at c1
          cases c1
          simp
  · rw [if_neg hz] at h0 h1
    rw [← h1] at h0
    cases h0
/-- At the end these are all children. -/
theorem KL.all {n : Nat} {T : List (Nd (Cd n))} (wf : WF dC T) {i : Nat} {left : Lit → Bool} {ks : List Nat} (hk : KL T i left ks) (hl : ∀ kl, left kl = false) : KidsA T i ks := by
  refine ⟨hk.1, fun k => ?_⟩
  rw [hk.2 k]
  constructor
  · rintro ⟨e, c1, -⟩
    obtain ⟨nd, q1, q2, -⟩ := child_some c1
    exact ⟨nd, q1, q2⟩
  · rintro ⟨nd, q1, q2⟩
    refine ⟨nd.dist, ?_, hl _⟩
    cases hc : child T i nd.dist with
    | none => exact absurd ⟨q2, rfl⟩ (child_none hc q1)
    | some k' =>
      obtain ⟨nd', r1, r2, r3⟩ := child_some hc
      rw [wf.one k' k nd' nd i r1 q1 r2 q2 r3]
theorem KidsA.nil {n : Nat} {T : List (Nd (Cd n))} {i : Nat} (h : ∀ e, child T i e = none) : KidsA T i [] := by
  refine ⟨List.nodup_nil, fun k => ⟨fun h => (by cases h), ?_⟩⟩
  rintro ⟨nd, q1, q2⟩
  exact absurd ⟨q2, rfl⟩ (child_none (h nd.dist) q1)
end Go.Proofs.YtnnbcdfpbdmgdaaDoor
