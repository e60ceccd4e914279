/-
  DERIVED. A tree by distances: who is live, making anew, how deep it is.
-/
import Derived.Test.YtnnbcdfpbdmgdaaDoorTMath3
set_option linter.unusedVariables false
namespace Go.Proofs.TreeMath
variable {α : Type}
/-- A node is made live, or dead. -/
def setLive (T : List (Nd α)) (i : Nat) (b : Bool) : List (Nd α) := T.modify i (fun n => ⟨n.code, b, n.over, n.dist⟩)
theorem setLive_len (T : List (Nd α)) (i : Nat) (b : Bool) : (setLive T i b).length = T.length := by simp [setLive]
theorem setLive_at {T : List (Nd α)} {i j : Nat} {b : Bool} {n : Nd α} (h : (setLive T i b)[j]? = some n) : ∃ m, T[j]? = some m ∧ n.code = m.code ∧ n.over = m.over ∧ n.dist = m.dist ∧ n.live = (if i = j then b else m.live) := by
  unfold setLive at h
  rw [List.getElem?_modify] at h
  cases hm : T[j]? with
  | none => rw [hm] at h; simp at h
  | some m =>
    rw [hm] at h
    by_cases e : i = j
    · simp [e] at h
      subst h
      exact ⟨m, rfl, rfl, rfl, rfl, by simp [e]⟩
    · simp [e] at h
      subst h
      exact ⟨m, rfl, rfl, rfl, rfl, by simp [e]⟩
theorem setLive_sub {T : List (Nd α)} {i : Nat} {b : Bool} {u e j : Nat} (s : Sub (setLive T i b) u e j) : Sub T u e j := by
  induction s using Sub.ind with
  | base h h1 h2 =>
    obtain ⟨m, k1, -, k3, k4, -⟩ := setLive_at h
    exact .base k1 (k3 ▸ h1) (k4 ▸ h2)
  | step h h1 hp ih =>
    obtain ⟨m, k1, -, k3, -, -⟩ := setLive_at h
    exact .step k1 (k3 ▸ h1) ih
theorem WF.setLive {d : α → α → Nat} {T : List (Nd α)} (h : WF d T) (i : Nat) (b : Bool) : WF d (TreeMath.setLive T i b) := by
  refine ⟨fun n hn => ?_, fun j n hn h0 => ?_, fun j n hn h0 => ?_, fun j k n m u hn hm h1 h2 h3 => ?_, fun u e j n m s hn hm => ?_, fun j k n m hn hm he => ?_⟩
  · obtain ⟨m, k1, -, k3, -, -⟩ := setLive_at hn
    rw [k3]; exact h.root m k1
  · obtain ⟨m, k1, -, k3, -, -⟩ := setLive_at hn
    rw [k3]; exact h.up j m k1 h0
  · obtain ⟨m, k1, -, -, k4, -⟩ := setLive_at hn
    rw [k4]; exact h.pos j m k1 h0
  · obtain ⟨n', a1, -, a3, a4, -⟩ := setLive_at hn
    obtain ⟨m', b1, -, b3, b4, -⟩ := setLive_at hm
    exact h.one j k n' m' u a1 b1 (a3 ▸ h1) (b3 ▸ h2) (by rw [← a4, ← b4]; exact h3)
  · obtain ⟨n', a1, a2, -, -, -⟩ := setLive_at hn
    obtain ⟨m', b1, b2, -, -, -⟩ := setLive_at hm
    rw [a2, b2]
    exact h.bk u e j n' m' (setLive_sub s) a1 b1
  · obtain ⟨n', a1, a2, -, -, -⟩ := setLive_at hn
    obtain ⟨m', b1, b2, -, -, -⟩ := setLive_at hm
    exact h.codes j k n' m' a1 b1 (by rw [← a2, ← b2]; exact he)
/-- The codes that are there. -/
def lives (T : List (Nd α)) : List α := (T.filter (fun n => n.live)).map Nd.code
theorem mem_lives {T : List (Nd α)} {c : α} : c ∈ lives T ↔ ∃ (j : Nat) (n : Nd α), T[j]? = some n ∧ n.live = true ∧ n.code = c := by
  unfold lives
  rw [List.mem_map]
  constructor
  · rintro ⟨n, hn, rfl⟩
    obtain ⟨h1, h2⟩ := List.mem_filter.1 hn
    obtain ⟨j, hj⟩ := List.getElem?_of_mem h1
    exact ⟨j, n, hj, h2, rfl⟩
  · rintro ⟨j, n, h1, h2, rfl⟩
    exact ⟨n, List.mem_filter.2 ⟨List.mem_of_getElem? h1, h2⟩, rfl⟩
theorem hang_nil (d : α → α → Nat) (c : α) : hang d [] c = [⟨c, true, none, 0⟩] := by simp [hang, reach]
theorem hang_cons {d : α → α → Nat} {T : List (Nd α)} (h : WF d T) (hT : 0 < T.length) (c : α) : ∃ n, T[reach d T c T.length 0]? = some n ∧ child T (reach d T c T.length 0) (d n.code c) = none ∧ hang d T c = T ++ [⟨c, true, some (reach d T c T.length 0), d n.code c⟩] := by
  obtain ⟨n, hn, hc, -⟩ := reach_end h c T.length 0 (by omega) hT (OnWay.root h c)
  exact ⟨n, hn, hc, by unfold hang; rw [hn]⟩
theorem hang_lives {d : α → α → Nat} {T : List (Nd α)} (h : WF d T) (c : α) : lives (hang d T c) = lives T ++ [c] := by
  rcases Nat.eq_zero_or_pos T.length with e | e
  · have : T = [] := List.eq_nil_of_length_eq_zero e
    subst this
    rw [hang_nil]; rfl
  · obtain ⟨n, -, -, hh⟩ := hang_cons h e c
    rw [hh]
    unfold lives
    simp
theorem hang_len {d : α → α → Nat} {T : List (Nd α)} (h : WF d T) (c : α) : (hang d T c).length = T.length + 1 := by
  rcases Nat.eq_zero_or_pos T.length with e | e
  · have : T = [] := List.eq_nil_of_length_eq_zero e
    subst this
    rw [hang_nil]; rfl
  · obtain ⟨n, -, -, hh⟩ := hang_cons h e c
    rw [hh]; simp
theorem hang_codes {d : α → α → Nat} {T : List (Nd α)} (h : WF d T) (c : α) : (hang d T c).map Nd.code = T.map Nd.code ++ [c] := by
  rcases Nat.eq_zero_or_pos T.length with e | e
  · have : T = [] := List.eq_nil_of_length_eq_zero e
    subst this
    rw [hang_nil]; rfl
  · obtain ⟨n, -, -, hh⟩ := hang_cons h e c
    rw [hh]; simp
theorem WF.nil (d : α → α → Nat) : WF d ([] : List (Nd α)) := ⟨fun n hn => by simp at hn, fun j n hn => by simp at hn, fun j n hn => by simp at hn, fun j k n m i hn => by simp at hn, fun i e j n m s hn => by simp at hn, fun j k n m hn => by simp at hn⟩
/-- Codes hung one behind the other. -/
def hangs (d : α → α → Nat) : List (Nd α) → List α → List (Nd α)
  | T, [] => T
  | T, c :: l => hangs d (hang d T c) l
theorem hangs_wf {d : α → α → Nat} (hz : ∀ a b, d a b = 0 → a = b) : ∀ (l : List α) (T : List (Nd α)), WF d T → (T.map Nd.code ++ l).Nodup → WF d (hangs d T l) ∧ lives (hangs d T l) = lives T ++ l ∧ (hangs d T l).length = T.length + l.length
  | [], T, h, _ => by simp [hangs, h]
  | c :: l, T, h, hn => by
    have hc : ∀ n ∈ T, n.code ≠ c := fun n hm e => by
      have := (List.nodup_append.1 hn).2.2 n.code (List.mem_map.2 ⟨n, hm, rfl⟩) c (by simp)
      exact this e
    have h1 := hang_wf hz h hc
    have h2 : ((hang d T c).map Nd.code ++ l).Nodup := by rw [hang_codes h]; simpa using hn
    obtain ⟨a1, a2, a3⟩ := hangs_wf hz l (hang d T c) h1 h2
    rw [hang_lives h] at a2
    rw [hang_len h] at a3
    exact ⟨a1, by rw [hangs, a2]; simp, by rw [hangs, a3]; simp; omega⟩
/-- The live nodes' codes are apart. -/
theorem WF.nodup {d : α → α → Nat} {T : List (Nd α)} (h : WF d T) : (T.map Nd.code).Nodup := by
  refine List.pairwise_iff_getElem.2 fun i j hi hj hij e => ?_
  simp at hi hj
  simp only [List.getElem_map] at e
  have := h.codes i j _ _ (List.getElem?_eq_getElem hi) (List.getElem?_eq_getElem hj) e
  omega
theorem WF.lives_nodup {d : α → α → Nat} {T : List (Nd α)} (h : WF d T) : (lives T).Nodup := h.nodup.sublist ((List.filter_sublist).map Nd.code)
/-- How many nodes stand on the way to j. -/
def dep (T : List (Nd α)) : Nat → Nat → Nat
  | 0, _ => 0
  | f + 1, j => match T[j]? with
    | none => 0
    | some n => match n.over with
      | none => 1
      | some i => dep T f i + 1
theorem dep_fuel {d : α → α → Nat} {T : List (Nd α)} (h : WF d T) : ∀ (j f g : Nat), j < f → j < g → dep T f j = dep T g j := by
  intro j
  induction j using Nat.strongRecOn with
  | _ j ih =>
    intro f g hf hg
    obtain ⟨f', rfl⟩ : ∃ f', f = f' + 1 := ⟨f - 1, by omega⟩
    obtain ⟨g', rfl⟩ : ∃ g', g = g' + 1 := ⟨g - 1, by omega⟩
    unfold dep
    cases hn : T[j]? with
    | none => rfl
    | some n =>
      simp only
      cases ho : n.over with
      | none => rfl
      | some i =>
        have := h.lt hn ho
        simp only
        rw [ih i this f' g' (by omega) (by omega)]
/-- A child stands one deeper. -/
theorem dep_child {d : α → α → Nat} {T : List (Nd α)} (h : WF d T) {i j : Nat} {n : Nd α} (hn : T[j]? = some n) (ho : n.over = some i) : dep T (j + 1) j = dep T (i + 1) i + 1 := by
  have hl := h.lt hn ho
  conv => lhs; unfold dep
  rw [hn]
  simp only [ho]
  rw [dep_fuel h i j (i + 1) hl (by omega)]
/-- No way is longer than there are nodes. -/
theorem dep_le {d : α → α → Nat} {T : List (Nd α)} (h : WF d T) : ∀ (j : Nat), dep T (j + 1) j ≤ j + 1 := by
  intro j
  induction j using Nat.strongRecOn with
  | _ j ih =>
    unfold dep
    cases hn : T[j]? with
    | none => simp
    | some n =>
      simp only
      cases ho : n.over with
      | none => simp
      | some i =>
        have hl := h.lt hn ho
        have h1 := ih i hl
        have h2 := dep_fuel h i j (i + 1) hl (by omega)
        simp only
        omega
end Go.Proofs.TreeMath
