/-
  DERIVED. A tree by distances, as a list of nodes: where a code's way leads, how it is hung, how it is found.
-/
import Derived.WalkKit
set_option linter.unusedVariables false
namespace Go.Proofs.TreeMath
variable {α : Type}
/-- A node: its code, whether it is live, its parent's place, its distance from it. -/
structure Nd (α : Type) where
  code : α
  live : Bool
  over : Option Nat
  dist : Nat
/-- The child of i at e. -/
def child (T : List (Nd α)) (i e : Nat) : Option Nat := T.findIdx? (fun n => n.over == some i && n.dist == e)
theorem child_some {T : List (Nd α)} {i e j : Nat} (h : child T i e = some j) : ∃ n, T[j]? = some n ∧ n.over = some i ∧ n.dist = e := by
  unfold child at h
  obtain ⟨hj, h1, -⟩ := List.findIdx?_eq_some_iff_getElem.1 h
  simp only [Bool.and_eq_true, beq_iff_eq] at h1
  exact ⟨T[j], List.getElem?_eq_getElem hj, h1⟩
theorem child_none {T : List (Nd α)} {i e : Nat} (h : child T i e = none) {j : Nat} {n : Nd α} (hn : T[j]? = some n) : ¬ (n.over = some i ∧ n.dist = e) := fun hc => by
  unfold child at h
  rw [List.findIdx?_eq_none_iff] at h
  have := h n (List.mem_of_getElem? hn)
  simp [hc.1, hc.2] at this
/-- j stands below the child of i at e. -/
def Sub (T : List (Nd α)) (i e j : Nat) : Prop := ∀ C : Nat → Prop, (∀ (j : Nat) (n : Nd α), T[j]? = some n → n.over = some i → n.dist = e → C j) → (∀ (j p : Nat) (n : Nd α), T[j]? = some n → n.over = some p → C p → C j) → C j
theorem Sub.base {T : List (Nd α)} {i e j : Nat} {n : Nd α} (h : T[j]? = some n) (h1 : n.over = some i) (h2 : n.dist = e) : Sub T i e j := fun C b s => b j n h h1 h2
theorem Sub.step {T : List (Nd α)} {i e j p : Nat} {n : Nd α} (h : T[j]? = some n) (h1 : n.over = some p) (hp : Sub T i e p) : Sub T i e j := fun C b s => s j p n h h1 (hp C b s)
theorem Sub.ind {T : List (Nd α)} {i e : Nat} {C : (j : Nat) → Sub T i e j → Prop} (base : ∀ {j : Nat} {n : Nd α} (h : T[j]? = some n) (h1 : n.over = some i) (h2 : n.dist = e), C j (.base h h1 h2)) (step : ∀ {j p : Nat} {n : Nd α} (h : T[j]? = some n) (h1 : n.over = some p) (hp : Sub T i e p), C p hp → C j (.step h h1 hp)) {j : Nat} (s : Sub T i e j) : C j s :=
  (s (fun j => ∃ h : Sub T i e j, C j h) (fun j n h h1 h2 => ⟨_, base h h1 h2⟩) (fun j p n h h1 hp => hp.elim fun k hk => ⟨_, step h h1 k hk⟩)).elim fun _ h => h
theorem Sub.cas {T : List (Nd α)} {i e j : Nat} (s : Sub T i e j) : (∃ n, T[j]? = some n ∧ n.over = some i ∧ n.dist = e) ∨ ∃ p n, T[j]? = some n ∧ n.over = some p ∧ Sub T i e p := by
  induction s using Sub.ind with
  | base h h1 h2 => exact .inl ⟨_, h, h1, h2⟩
  | step h h1 hp _ => exact .inr ⟨_, _, h, h1, hp⟩
/-- What a tree keeps to. -/
structure WF (d : α → α → Nat) (T : List (Nd α)) : Prop where
  root : ∀ n, T[0]? = some n → n.over = none
  up : ∀ (j : Nat) (n : Nd α), T[j]? = some n → 0 < j → ∃ i, n.over = some i ∧ i < j
  pos : ∀ (j : Nat) (n : Nd α), T[j]? = some n → 0 < j → 0 < n.dist
  one : ∀ (j k : Nat) (n m : Nd α) (i : Nat), T[j]? = some n → T[k]? = some m → n.over = some i → m.over = some i → n.dist = m.dist → j = k
  bk : ∀ (i e j : Nat) (n m : Nd α), Sub T i e j → T[i]? = some n → T[j]? = some m → d n.code m.code = e
  codes : ∀ (j k : Nat) (n m : Nd α), T[j]? = some n → T[k]? = some m → n.code = m.code → j = k
theorem WF.lt {d : α → α → Nat} {T : List (Nd α)} (h : WF d T) {j i : Nat} {n : Nd α} (hn : T[j]? = some n) (ho : n.over = some i) : i < j := by
  rcases Nat.eq_zero_or_pos j with h0 | h0
  · subst h0; rw [h.root n hn] at ho; cases ho
  · obtain ⟨i', h1, h2⟩ := h.up j n hn h0
    rw [ho] at h1; cases h1; exact h2
theorem WF.sub_lt {d : α → α → Nat} {T : List (Nd α)} (h : WF d T) {i e j : Nat} (s : Sub T i e j) : i < j ∧ j < T.length := by
  induction s using Sub.ind with
  | base hn h1 h2 => exact ⟨h.lt hn h1, (List.getElem?_eq_some_iff.1 hn).1⟩
  | step hn h1 hp ih => exact ⟨Nat.lt_trans ih.1 (h.lt hn h1), (List.getElem?_eq_some_iff.1 hn).1⟩
theorem WF.child_lt {d : α → α → Nat} {T : List (Nd α)} (h : WF d T) {i e j : Nat} (hc : child T i e = some j) : i < j ∧ j < T.length := by
  obtain ⟨n, h1, h2, h3⟩ := child_some hc
  exact h.sub_lt (.base h1 h2 h3)
/-- What stands below i at e is the child there, or stands below it. -/
theorem Sub.child {T : List (Nd α)} {d : α → α → Nat} (h : WF d T) {i e j : Nat} (s : Sub T i e j) : ∃ k, TreeMath.child T i e = some k ∧ (j = k ∨ ∃ e', Sub T k e' j) := by
  induction s using Sub.ind with
  | @base j n hn h1 h2 =>
    cases hc : TreeMath.child T i e with
    | none => exact absurd ⟨h1, h2⟩ (child_none hc hn)
    | some k =>
      obtain ⟨m, k1, k2, k3⟩ := child_some hc
      exact ⟨k, rfl, .inl (h.one j k n m i hn k1 h1 k2 (by rw [h2, k3]))⟩
  | @step j p n hn h1 hp ih =>
    obtain ⟨k, hk, rfl | ⟨e', s'⟩⟩ := ih
    · exact ⟨p, hk, .inr ⟨n.dist, .base hn h1 rfl⟩⟩
    · exact ⟨k, hk, .inr ⟨e', .step hn h1 s'⟩⟩
/-- Every node but the root stands below it. -/
theorem WF.below_root {d : α → α → Nat} {T : List (Nd α)} (h : WF d T) : ∀ (j : Nat), 0 < j → j < T.length → ∃ e, Sub T 0 e j := by
  intro j
  induction j using Nat.strongRecOn with
  | _ j ih =>
    intro h0 hj
    have hn : T[j]? = some T[j] := List.getElem?_eq_getElem hj
    obtain ⟨i, h1, h2⟩ := h.up j _ hn h0
    rcases Nat.eq_zero_or_pos i with hi | hi
    · subst hi
      exact ⟨_, .base hn h1 rfl⟩
    · obtain ⟨e, s⟩ := ih i h2 hi (by omega)
      exact ⟨e, .step hn h1 s⟩
/-- A code's way, from i on: the last node on it. -/
def reach (d : α → α → Nat) (T : List (Nd α)) (c : α) : Nat → Nat → Nat
  | 0, i => i
  | f + 1, i => match T[i]? with
    | none => i
    | some n => match child T i (d n.code c) with
      | none => i
      | some j => reach d T c f j
/-- The code is as far from all nodes above i as i's way says. -/
def OnWay (d : α → α → Nat) (T : List (Nd α)) (c : α) (i : Nat) : Prop := ∀ (i' e : Nat) (n : Nd α), Sub T i' e i → T[i']? = some n → d n.code c = e
theorem OnWay.root {d : α → α → Nat} {T : List (Nd α)} (h : WF d T) (c : α) : OnWay d T c 0 := fun i' e n s hn => by have := (h.sub_lt s).1; omega
theorem OnWay.next {d : α → α → Nat} {T : List (Nd α)} (h : WF d T) {c : α} {i j : Nat} {n : Nd α} (ow : OnWay d T c i) (hn : T[i]? = some n) (hc : child T i (d n.code c) = some j) : OnWay d T c j := fun i' e n' s hn' => by
  obtain ⟨m, k1, k2, k3⟩ := child_some hc
  rcases s.cas with ⟨_, h1, h2, h3⟩ | ⟨_, _, h1, h2, hp⟩
  ·
    rw [k1] at h1; cases h1
    rw [k2] at h2; cases h2
    rw [hn] at hn'; cases hn'
    rw [← h3, k3]
  ·
    rw [k1] at h1; cases h1
    rw [k2] at h2; cases h2
    exact ow i' e n' hp hn'
/-- Where the way ends. -/
theorem reach_end {d : α → α → Nat} {T : List (Nd α)} (h : WF d T) (c : α) : ∀ (f i : Nat), T.length - i ≤ f → i < T.length → OnWay d T c i → ∃ n, T[reach d T c f i]? = some n ∧ child T (reach d T c f i) (d n.code c) = none ∧ OnWay d T c (reach d T c f i)
  | 0, i, hf, hi, _ => by omega
  | f + 1, i, hf, hi, ow => by
    have hn : T[i]? = some T[i] := List.getElem?_eq_getElem hi
    unfold reach
    rw [hn]
    simp only
    cases hc : child T i (d T[i].code c) with
    | none => exact ⟨T[i], hn, hc, ow⟩
    | some j =>
      obtain ⟨k1, k2⟩ := h.child_lt hc
      exact reach_end h c f j (by omega) k2 (ow.next h hn hc)
/-- A code that has a node is reached. -/
theorem reach_own {d : α → α → Nat} {T : List (Nd α)} (h : WF d T) {j : Nat} {m : Nd α} (hm : T[j]? = some m) : ∀ (f i : Nat), T.length - i ≤ f → i < T.length → (i = j ∨ ∃ e, Sub T i e j) → (d m.code m.code = 0) → reach d T m.code f i = j
  | 0, i, hf, hi, _, _ => by omega
  | f + 1, i, hf, hi, hs, h0 => by
    have hn : T[i]? = some T[i] := List.getElem?_eq_getElem hi
    unfold reach
    rw [hn]
    simp only
    rcases hs with rfl | ⟨e, s⟩
    · rw [hn] at hm; cases hm
      cases hc : child T i (d T[i].code T[i].code) with
      | none => rfl
      | some k =>
        exfalso
        obtain ⟨n', q1, q2, q3⟩ := child_some hc
        have hk := (h.child_lt hc).1
        have := h.pos k n' q1 (by omega)
        omega
    · have he := h.bk i e j _ m s hn hm
      rw [he]
      obtain ⟨k, hk, hj⟩ := s.child h
      rw [hk]
      simp only
      obtain ⟨k1, k2⟩ := h.child_lt hk
      exact reach_own h hm f k (by omega) k2 (hj.imp Eq.symm id) h0
theorem reach_root {d : α → α → Nat} {T : List (Nd α)} (h : WF d T) {j : Nat} {m : Nd α} (hm : T[j]? = some m) (h0 : d m.code m.code = 0) : reach d T m.code T.length 0 = j := by
  have hj : j < T.length := (List.getElem?_eq_some_iff.1 hm).1
  refine reach_own h hm T.length 0 (by omega) (by omega) ?_ h0
  rcases Nat.eq_zero_or_pos j with e | e
  · exact .inl e.symm
  · exact .inr (h.below_root j e hj)
/-- A code is hung. -/
def hang (d : α → α → Nat) (T : List (Nd α)) (c : α) : List (Nd α) := match T[reach d T c T.length 0]? with
  | none => [⟨c, true, none, 0⟩]
  | some n => T ++ [⟨c, true, some (reach d T c T.length 0), d n.code c⟩]
theorem sub_old {d : α → α → Nat} {T : List (Nd α)} (h : WF d T) {x : Nd α} {i e j : Nat} (s : Sub (T ++ [x]) i e j) (hj : j < T.length) : Sub T i e j := by
  induction s using Sub.ind with
  | @base j n hn h1 h2 => rw [List.getElem?_append_left hj] at hn; exact .base hn h1 h2
  | @step j p n hn h1 hp ih =>
    rw [List.getElem?_append_left hj] at hn
    have := h.lt hn h1
    exact .step hn h1 (ih (by omega))
theorem hang_wf {d : α → α → Nat} (hz : ∀ a b, d a b = 0 → a = b) {T : List (Nd α)} (h : WF d T) {c : α} (hc : ∀ n ∈ T, n.code ≠ c) : WF d (hang d T c) := by
  unfold hang
  by_cases hT : T = []
  · subst hT
    simp only [List.length_nil, reach, List.getElem?_nil]
    refine ⟨fun n hn => by simp at hn; rw [← hn], fun j n hn h0 => ?_, fun j n hn h0 => ?_, fun j k n m i hn hm h1 => ?_, fun i e j n m s hn hm => ?_, fun j k n m hn hm _ => ?_⟩
    · have := (List.getElem?_eq_some_iff.1 hn).1; simp at this; omega
    · have := (List.getElem?_eq_some_iff.1 hn).1; simp at this; omega
    · have h3 := (List.getElem?_eq_some_iff.1 hn).1
      simp at h3; subst h3; simp at hn; rw [← hn] at h1; cases h1
    · exfalso
      rcases s.cas with ⟨_, h1, h2, h3⟩ | ⟨_, _, h1, h2, hp⟩
      ·
        have h4 := (List.getElem?_eq_some_iff.1 h1).1
        simp at h4; subst h4; simp at h1; rw [← h1] at h2; cases h2
      ·
        have h4 := (List.getElem?_eq_some_iff.1 h1).1
        simp at h4; subst h4; simp at h1; rw [← h1] at h2; cases h2
    · have h3 := (List.getElem?_eq_some_iff.1 hn).1
      have h4 := (List.getElem?_eq_some_iff.1 hm).1
      simp at h3 h4; omega
  · have hpos : 0 < T.length := List.length_pos_iff.2 hT
    obtain ⟨n, hn, hcn, ow⟩ := reach_end h c T.length 0 (by omega) hpos (OnWay.root h c)
    obtain ⟨r, hr⟩ : ∃ r, r = reach d T c T.length 0 := ⟨_, rfl⟩
    rw [← hr] at hn hcn ow ⊢
    rw [hn]
    simp only
    have hrl : r < T.length := (List.getElem?_eq_some_iff.1 hn).1
    have snoc : ∀ {j : Nat} {m : Nd α}, (T ++ [⟨c, true, some r, d n.code c⟩])[j]? = some m → (j < T.length ∧ T[j]? = some m) ∨ (j = T.length ∧ m = ⟨c, true, some r, d n.code c⟩) := fun {j m} hm => by
      rcases Nat.lt_or_ge j T.length with hlt | hge
      · rw [List.getElem?_append_left hlt] at hm; exact .inl ⟨hlt, hm⟩
      · rw [List.getElem?_append_right hge] at hm
        obtain ⟨q1, q2⟩ := List.getElem?_eq_some_iff.1 hm
        simp at q1 q2
        exact .inr ⟨by omega, q2.symm⟩
    refine ⟨fun m hm => ?_, fun j m hm h0 => ?_, fun j m hm h0 => ?_, fun j k m m' i hm hm' h1 h2 h3 => ?_, fun i e j m m' s hm hm' => ?_, fun j k m m' hm hm' he => ?_⟩
    · rw [List.getElem?_append_left hpos] at hm; exact h.root m hm
    · rcases snoc hm with ⟨-, h1⟩ | ⟨h1, rfl⟩
      · exact h.up j m h1 h0
      · exact ⟨r, rfl, by omega⟩
    · rcases snoc hm with ⟨-, h1⟩ | ⟨h1, rfl⟩
      · exact h.pos j m h1 h0
      · rcases Nat.eq_zero_or_pos (d n.code c) with e | e
        · exact absurd (hz _ _ e) (hc n (List.mem_of_getElem? hn))
        · exact e
    · rcases snoc hm with ⟨a1, b1⟩ | ⟨a1, rfl⟩ <;> rcases snoc hm' with ⟨a2, b2⟩ | ⟨a2, rfl⟩
      · exact h.one j k m m' i b1 b2 h1 h2 h3
      · simp only at h2 h3
        cases h2
        exact absurd ⟨h1, h3⟩ (child_none hcn b1)
      · simp only at h1 h3
        cases h1
        exact absurd ⟨h2, h3.symm⟩ (child_none hcn b2)
      · omega
    · rcases snoc hm' with ⟨a2, b2⟩ | ⟨a2, rfl⟩
      · have s' := sub_old h s a2
        have hi := (h.sub_lt s').1
        rw [List.getElem?_append_left (by omega)] at hm
        exact h.bk i e j m m' s' hm b2
      · have key : ∀ {p : Nat}, (T ++ [⟨c, true, some r, d n.code c⟩])[j]? = some (⟨c, true, some r, d n.code c⟩ : Nd α) := fun {p} => hm'
        subst a2
        rcases s.cas with ⟨_, h1, h2, h3⟩ | ⟨_, _, h1, h2, hp⟩
        ·
          rw [hm'] at h1; cases h1
          simp only at h2 h3
          cases h2
          rw [List.getElem?_append_left hrl, hn] at hm
          cases hm
          exact h3
        ·
          rw [hm'] at h1; cases h1
          simp only at h2
          cases h2
          have s' := sub_old h hp hrl
          have hi := (h.sub_lt s').1
          rw [List.getElem?_append_left (by omega)] at hm
          exact ow i e m s' hm
    · rcases snoc hm with ⟨a1, b1⟩ | ⟨a1, rfl⟩ <;> rcases snoc hm' with ⟨a2, b2⟩ | ⟨a2, rfl⟩
      · exact h.codes j k m m' b1 b2 he
      · exact absurd he (hc m (List.mem_of_getElem? b1))
      · exact absurd he.symm (hc m' (List.mem_of_getElem? b2))
      · omega
end Go.Proofs.TreeMath
