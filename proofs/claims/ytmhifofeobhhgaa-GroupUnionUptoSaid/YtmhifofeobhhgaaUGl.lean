/-
  DERIVED. Lists of groups in memory, each list in memory of its own.
-/
import Derived.Test.YtmhifofeobhhgaaURef2
set_option linter.unusedVariables false
set_option linter.unusedSimpArgs false
namespace Go.Proofs.Ytmhifofeobhhgaa
open Go.RowKit Go.Proofs.UnionMath
abbrev Sl := Option Addr × Nat × Nat
abbrev sV (x : Sl) : Value := .slice x.1 x.2.1 x.2.2
/-- Groups in a row. -/
def gE : El Sl := { ty := 53, sl := 33, ll := 0, sz := 1, by' := 24, z := .agg #[.slice none 0 0], f := fun x => [sV x] }
theorem gOk : gE.Ok Try.prog := ⟨fun _ => rfl, fun x u hu => by simp [gE] at hu; subst hu; rfl, by decide, rfl, by decide, by kernel_rfl, by kernel_rfl⟩
structure GL (B : Nat) (w : World) (v : Value) (ss : List Sl) (L : List (List Int)) : Prop where
  row : gE.Row w v ss
  len : ss.length = L.length
  each : ∀ j (h : j < ss.length) (h' : j < L.length), iE.Row w (sV ss[j]) L[j]
  lo : ∀ b, v.ownBlock = some b → B ≤ b
  los : ∀ j (h : j < ss.length) b, (sV ss[j]).ownBlock = some b → B ≤ b
  ap : ∀ j l (h : j < ss.length) (h' : l < ss.length) b, (sV ss[j]).ownBlock = some b → (sV ss[l]).ownBlock = some b → j = l
/-- Is it one of the lists' blocks? -/
def inB (ss : List Sl) (k : Nat) : Prop := ∃ (j : Nat) (h : j < ss.length), (sV ss[j]).ownBlock = some k
theorem g_ne {w : World} {v s : Value} {ss : List Sl} {X : List Int} (h : gE.Row w v ss) (k : iE.Row w s X) {b : Nat} (h1 : v.ownBlock = some b) (h2 : s.ownBlock = some b) : False := by
  obtain ⟨c1, e1⟩ := row_block h h1
  obtain ⟨c2, e2⟩ := row_block k h2
  rw [e1] at e2
  injection e2 with e2; injection e2 with _ e2; revert e2; decide
theorem GL.kept {B : Nat} {w w' : World} {v : Value} {ss : List Sl} {L : List (List Int)} {F : Nat → Prop} (h : GL B w v ss L) (s : Stay F w w') (h1 : ∀ k, v.ownBlock = some k → ¬ F k) (h2 : ∀ k, inB ss k → ¬ F k) : GL B w' v ss L :=
  ⟨row_kept h.row s h1, h.len, fun j q q' => row_kept (h.each j q q') s (fun k hk => h2 k ⟨j, q, hk⟩), h.lo, h.los, h.ap⟩
theorem GL.below {B : Nat} {w w' : World} {v : Value} {ss : List Sl} {L : List (List Int)} (h : GL B w v ss L) (b : Below w.heap.size w w') : GL B w' v ss L := h.kept (F := fun _ => False) (.below b) (fun _ _ h => h) (fun _ _ h => h)
theorem GL.nil (B : Nat) (w : World) : GL B w (.slice none 0 0) [] [] := ⟨El.Row.nil gE w, rfl, fun j h => by simp at h, fun b hb => (by cases hb), fun j h => by simp at h, fun j l h => by simp at h⟩
/-- A list more. -/
theorem GL.push {B : Nat} {w w' : World} {v v' : Value} {ss : List Sl} {L : List (List Int)} (h : GL B w v ss L) (x : Sl) (X : List Int) (hx : iE.Row w (sV x) X) (hB : ∀ b, (sV x).ownBlock = some b → B ≤ b ∧ ¬ inB ss b) (hBw : B ≤ w.heap.size)
    (row : gE.Row w' v' (ss ++ [x])) (st : Stay (fun k => v.ownBlock = some k) w w') (loc : ∀ k, v'.ownBlock = some k → v.ownBlock = some k ∨ w.heap.size ≤ k) : GL B w' v' (ss ++ [x]) (L ++ [X]) := by
  have e2 : ∀ {u : Value} {Y : List Int}, iE.Row w u Y → iE.Row w' u Y := fun {u Y} q => row_kept q st (fun k hk e => g_ne h.row q e hk)
  refine ⟨row, by simp [h.len], fun j q q' => ?_, fun b hb => (loc b hb).elim (h.lo b) (fun g => Nat.le_trans hBw g), fun j q b hb => ?_, fun j l q q' b hb hb' => ?_⟩
  · rcases Nat.lt_or_ge j ss.length with g | g
    · simp only [List.getElem_append_left g, List.getElem_append_left (show j < L.length by rw [← h.len]; exact g)]
      exact e2 (h.each j g _)
    · have : j = ss.length := by simp at q; omega
      subst this
      have e3 : ss.length = L.length := h.len
      simp only [List.getElem_append_right (Nat.le_refl _), Nat.sub_self, List.getElem_cons_zero]
      have e4 : (L ++ [X])[ss.length] = X := by simp [e3]
      rw [e4]; exact e2 hx
  · rcases Nat.lt_or_ge j ss.length with g | g
    · simp only [List.getElem_append_left g] at hb
      exact h.los j g b hb
    · have : j = ss.length := by simp at q; omega
      subst this
      simp only [List.getElem_append_right (Nat.le_refl _), Nat.sub_self, List.getElem_cons_zero] at hb
      exact (hB b hb).1
  · rcases Nat.lt_or_ge j ss.length with g | g <;> rcases Nat.lt_or_ge l ss.length with g' | g'
    · simp only [List.getElem_append_left g, List.getElem_append_left g'] at hb hb'
      exact h.ap j l g g' b hb hb'
    · have : l = ss.length := by simp at q'; omega
      subst this
      simp only [List.getElem_append_left g] at hb
      simp only [List.getElem_append_right (Nat.le_refl _), Nat.sub_self, List.getElem_cons_zero] at hb'
      exact absurd ⟨j, g, hb⟩ (hB b hb').2
    · have : j = ss.length := by simp at q; omega
      subst this
      simp only [List.getElem_append_left g'] at hb'
      simp only [List.getElem_append_right (Nat.le_refl _), Nat.sub_self, List.getElem_cons_zero] at hb
      exact absurd ⟨l, g', hb'⟩ (hB b hb).2
    · have : j = ss.length := by simp at q; omega
      have : l = ss.length := by simp at q'; omega
      omega
/-- One of the lists grows. -/
theorem GL.more {B : Nat} {w w1 w' : World} {g c n : Nat} {ss : List Sl} {L : List (List Int)} (h : GL B w (.slice (some ⟨g, 0, none⟩) n c) ss L) (j : Nat) (hj : j < ss.length) (hj' : j < L.length) (x : Sl) (X : List Int) (hBw : B ≤ w.heap.size)
    (hx : iE.Row w1 (sV x) X) (st : Stay (fun k => (sV ss[j]).ownBlock = some k) w w1) (loc : ∀ k, (sV x).ownBlock = some k → (sV ss[j]).ownBlock = some k ∨ w.heap.size ≤ k) (hw : w' = w1.setCell ⟨g, j, none⟩ (sV x)) : GL B w' (.slice (some ⟨g, 0, none⟩) n c) (ss.set j x) (L.set j X) := by
  subst hw
  have hn : n = ss.length := by obtain ⟨a, c, e, _⟩ := h.row.form; injection e
  have r1 : gE.Row w1 (.slice (some ⟨g, 0, none⟩) n c) ss := row_kept h.row st (fun k hk e => g_ne h.row (h.each j hj hj') hk e)
  have r2 : gE.Row (w1.setCell ⟨g, j, none⟩ (sV x)) (.slice (some ⟨g, 0, none⟩) n c) (ss.set j x) := by
    have := El.set gOk r1 hn j hj x
    simpa [gE, putL] using this
  have s2 : Stay (fun k => k = g) w1 (w1.setCell ⟨g, j, none⟩ (sV x)) := Stay.setCell (F := fun k => k = g) (p := ⟨g, j, none⟩) (Stay.refl _ w1) (fun _ => rfl) _
  have e2 : ∀ {u : Value} {Y : List Int}, iE.Row w1 u Y → iE.Row (w1.setCell ⟨g, j, none⟩ (sV x)) u Y := fun {u Y} q => row_kept q s2 (fun k hk e => g_ne r1 q (by rw [e]; rfl) hk)
  refine ⟨r2, by simp [h.len], fun l q q' => ?_, h.lo, fun l q b hb => ?_, fun l m q q' b hb hb' => ?_⟩
  · rw [List.length_set] at q q'
    simp only [List.getElem_set]
    by_cases e : j = l
    · subst e; simp only [if_pos]; exact e2 hx
    · simp only [if_neg e]
      exact e2 (row_kept (h.each l q q') st (fun k hk hk' => e (h.ap j l hj q k hk' hk)))
  · rw [List.length_set] at q
    simp only [List.getElem_set] at hb
    by_cases e : j = l
    · subst e; simp only [if_pos] at hb
      exact (loc b hb).elim (h.los j hj b) (fun q => Nat.le_trans hBw q)
    · simp only [if_neg e] at hb; exact h.los l q b hb
  · rw [List.length_set] at q q'
    simp only [List.getElem_set] at hb hb'
    have old : ∀ (i : Nat) (hi : i < ss.length), (sV ss[i]).ownBlock = some b → b < w.heap.size := fun i hi hb => row_lt (h.each i hi (by rw [← h.len]; exact hi)) hb
    by_cases e : j = l <;> by_cases e' : j = m
    · omega
    · subst e
      simp only [if_pos] at hb
      simp only [if_neg e'] at hb'
      rcases loc b hb with k | k
      · exact h.ap j m hj q' b k hb'
      · have := old m q' hb'; omega
    · subst e'
      simp only [if_pos] at hb'
      simp only [if_neg e] at hb
      rcases loc b hb' with k | k
      · exact h.ap l j q hj b hb k
      · have := old l q hb; omega
    · simp only [if_neg e, if_neg e'] at hb hb'
      exact h.ap l m q q' b hb hb'
end Go.Proofs.Ytmhifofeobhhgaa
