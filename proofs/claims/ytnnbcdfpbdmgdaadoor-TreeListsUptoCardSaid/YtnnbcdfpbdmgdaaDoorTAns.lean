/-
  DERIVED. What a search answers is what a look at every code would.
-/
import Derived.Test.YtnnbcdfpbdmgdaaDoorTSearch
set_option linter.unusedVariables false
set_option linter.unusedSimpArgs false
namespace Go.Proofs.YtnnbcdfpbdmgdaaDoor
open Go.RowKit Go.Maps Go.Sort Go.Proofs.BitMath Go.Proofs.TreeMath
theorem srtC_same {n : Nat} {l m : List (Cd n)} (h : l.Perm m) : srtC l = srtC m := by
  have h1 := srtC_eq h
  rw [← srtC_map] at h1
  exact List.map_inj_right (fun _ _ e => byC_inj e) |>.1 h1
/-- The nearest of codes, and all that are as far as the k-th, within b0. -/
def ansL {n : Nat} (k b0 : Nat) (q : Cd n) (A : List (Cd n)) : List (Nat × Cd n) := hitsR (RL q A b0 (bdM k b0 q A)) (b0 + 1)
theorem mem_lvc {n : Nat} {T : List (Nd (Cd n))} {V : List Nat} {c : Cd n} : c ∈ lvc T V ↔ ∃ v ∈ V, ∃ nd, T[v]? = some nd ∧ nd.live = true ∧ nd.code = c := by
  unfold lvc
  rw [List.mem_filterMap]
  constructor
  · rintro ⟨v, hv, h⟩
    cases hT : T[v]? with
    | none => rw [hT] at h; cases h
    | some nd =>
      rw [hT] at h
      simp at h
      exact ⟨v, hv, nd, hT, h.1, h.2⟩
  · rintro ⟨v, hv, nd, h1, h2, h3⟩
    exact ⟨v, hv, by rw [h1]; simp [h2, h3]⟩
theorem lvc_nodup {n : Nat} {T : List (Nd (Cd n))} (wf : WF dC T) {V : List Nat} (hV : V.Nodup) : (lvc T V).Nodup := by
  unfold lvc
  refine List.Pairwise.filterMap _ ?_ hV
  intro a a' hne b hb c hc e
  subst e
  cases h1 : T[a]? with
  | none => rw [h1] at hb; simp at hb
  | some n1 =>
    cases h2 : T[a']? with
    | none => rw [h2] at hc; simp at hc
    | some n2 =>
      rw [h1] at hb
      rw [h2] at hc
      simp at hb hc
      exact hne (wf.codes a a' n1 n2 h1 h2 (by rw [hb.2, hc.2]))
/-- The same codes nearby. -/
theorem near_perm {n : Nat} {T : List (Nd (Cd n))} (wf : WF dC T) {q : Cd n} {k b0 : Nat} {V : List Nat} (si : SI dC T q (bdV T k b0 q) V []) (p : Cd n → Bool) (hp : ∀ c, p c = true → dC c q ≤ bdV T k b0 q V) : ((lvc T V).filter p).Perm ((lives T).filter p) := by
  refine (List.perm_ext_iff_of_nodup (List.Nodup.sublist List.filter_sublist (lvc_nodup wf si.nd)) (List.Nodup.sublist List.filter_sublist (lives_nodup wf))).2 fun c => ?_
  rw [List.mem_filter, List.mem_filter, mem_lvc, mem_lives]
  constructor
  · rintro ⟨⟨v, hv, nd, h1, h2, h3⟩, h4⟩
    exact ⟨⟨v, nd, h1, h2, h3⟩, h4⟩
  · rintro ⟨⟨v, nd, h1, h2, h3⟩, h4⟩
    refine ⟨⟨v, si.done v nd h1 h2 (by rw [h3]; exact hp c h4), nd, h1, h2, h3⟩, h4⟩
theorem lc_filter {n : Nat} (q : Cd n) (M : List (Cd n)) (c : Nat) : lc (dqs q M) c = (M.filter (fun x => decide (dC x q < c))).length := by
  unfold lc dqs
  rw [List.countP_map, List.countP_eq_length_filter]
  rfl
theorem ans_eq {n : Nat} {T : List (Nd (Cd n))} (wf : WF dC T) {q : Cd n} {k b0 : Nat} (hk : 1 ≤ k) {V : List Nat} (si : SI dC T q (bdV T k b0 q) V []) : hitsR (RL q (lvc T V) b0 (bdV T k b0 q V)) (b0 + 1) = ansL k b0 q (lives T) := by
  have hb : bdM k b0 q (lives T) = bdV T k b0 q V := by
    unfold bdV bdM
    refine lower_all hk fun c hc => ?_
    rw [lc_filter, lc_filter]
    refine (near_perm wf si _ fun x hx => ?_).length_eq
    have hx' : dC x q < c := by simpa using hx
    have : c ≤ bdV T k b0 q V + 1 := hc
    omega
  unfold ansL
  rw [hb]
  unfold hitsR
  refine congrArg List.flatten (List.map_congr_left fun i hi => ?_) |> fun h => by simpa [List.flatMap] using h
  have hi' : i ≤ b0 := by have := List.mem_range.1 hi; omega
  have e1 : (RL q (lvc T V) b0 (bdV T k b0 q V))[i]?.getD [] = atJ q (lvc T V) (bdV T k b0 q V) i := by rw [RL_at q _ b0 _ hi']; rfl
  have e2 : (RL q (lives T) b0 (bdV T k b0 q V))[i]?.getD [] = atJ q (lives T) (bdV T k b0 q V) i := by rw [RL_at q _ b0 _ hi']; rfl
  rw [e1, e2]
  congr 1
  refine srtC_same ?_
  unfold atJ
  split
  · exact near_perm wf si _ fun x hx => by have : dC x q = i := by simpa using hx
                                           omega
  · exact .refl _
theorem ans_len {n : Nat} {T : List (Nd (Cd n))} {q : Cd n} {k b0 : Nat} {V : List Nat} : (hitsR (RL q (lvc T V) b0 (bdV T k b0 q V)) (b0 + 1)).length ≤ V.length := by
  refine Nat.le_trans (hitsR_len _ _) ?_
  rw [RL_sum q _ (bdV_le T k b0 q V)]
  refine Nat.le_trans (lc_le _ _) ?_
  have h3 : (dqs q (lvc T V)).length = (lvc T V).length := by simp [dqs]
  rw [h3]
  exact lvc_len T V
end Go.Proofs.YtnnbcdfpbdmgdaaDoor
