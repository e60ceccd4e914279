/-
  DERIVED. What a search has found, by the codes that it has met: rows by distance, the bound that falls.
-/
import Derived.Test.YtnnbcdfpbdmgdaaDoorTFound
set_option linter.unusedVariables false
set_option linter.unusedSimpArgs false
namespace Go.Proofs.YtnnbcdfpbdmgdaaDoor
open Go.RowKit Go.Maps Go.Sort Go.Proofs.BitMath Go.Proofs.TreeMath
/-- The distances of codes from q. -/
def dqs {n : Nat} (q : Cd n) (M : List (Cd n)) : List Nat := M.map (fun c => dC c q)
theorem dqs_snoc {n : Nat} (q c : Cd n) (M : List (Cd n)) : dqs q (M ++ [c]) = dqs q M ++ [dC c q] := by simp [dqs]
/-- How far a code may be, when these were met. -/
def bdM {n : Nat} (k b0 : Nat) (q : Cd n) (M : List (Cd n)) : Nat := lower k (dqs q M) b0
theorem bdM_le {n : Nat} (k b0 : Nat) (q : Cd n) (M : List (Cd n)) : bdM k b0 q M ≤ b0 := lower_le _ _ _
theorem bdM_snoc {n : Nat} {k : Nat} (hk : 1 ≤ k) (b0 : Nat) (q c : Cd n) (M : List (Cd n)) : bdM k b0 q (M ++ [c]) ≤ bdM k b0 q M := by
  unfold bdM
  rw [dqs_snoc]
  exact lower_snoc_le hk _ _ _
theorem bdM_far {n : Nat} {k : Nat} (hk : 1 ≤ k) {b0 : Nat} {q c : Cd n} {M : List (Cd n)} (h : bdM k b0 q M < dC c q) : bdM k b0 q (M ++ [c]) = bdM k b0 q M := by
  unfold bdM at *
  rw [dqs_snoc]
  exact lower_far hk _ h
theorem bdM_from {n : Nat} {k : Nat} (hk : 1 ≤ k) (b0 : Nat) (q c : Cd n) (M : List (Cd n)) : lower k (dqs q (M ++ [c])) (bdM k b0 q M) = bdM k b0 q (M ++ [c]) := by
  unfold bdM
  rw [dqs_snoc]
  exact lower_from hk _ _ _
/-- The codes of a distance, up to a bound. -/
def atJ {n : Nat} (q : Cd n) (M : List (Cd n)) (b j : Nat) : List (Cd n) := if j ≤ b then M.filter (fun c => decide (dC c q = j)) else []
def RL {n : Nat} (q : Cd n) (M : List (Cd n)) (b0 b : Nat) : List (List (Cd n)) := (List.range (b0 + 1)).map (atJ q M b)
theorem RL_len {n : Nat} (q : Cd n) (M : List (Cd n)) (b0 b : Nat) : (RL q M b0 b).length = b0 + 1 := by simp [RL]
theorem RL_at {n : Nat} (q : Cd n) (M : List (Cd n)) (b0 b : Nat) {j : Nat} (hj : j ≤ b0) : (RL q M b0 b)[j]? = some (atJ q M b j) := by
  unfold RL
  rw [List.getElem?_map, List.getElem?_range (by omega)]
  rfl
theorem RL_nil {n : Nat} (q : Cd n) (b0 b : Nat) : RL q [] b0 b = List.replicate (b0 + 1) [] := by
  apply List.ext_getElem
  · simp [RL]
  · intro i h1 h2
    simp only [RL, List.getElem_map, List.getElem_range, List.getElem_replicate]
    unfold atJ
    split <;> rfl
theorem RL_far {n : Nat} {q c : Cd n} {M : List (Cd n)} {b0 b : Nat} (h : b < dC c q) : RL q (M ++ [c]) b0 b = RL q M b0 b := by
  unfold RL
  refine List.map_congr_left fun j _ => ?_
  unfold atJ
  split
  · rw [List.filter_append]
    have : (List.filter (fun c => decide (dC c q = j)) [c]) = [] := by
      rw [List.filter_cons_of_neg (by simp; omega)]; rfl
    rw [this, List.append_nil]
  · rfl
theorem RL_near {n : Nat} {q c : Cd n} {M : List (Cd n)} {b0 b : Nat} (h : dC c q ≤ b) : RL q (M ++ [c]) b0 b = (RL q M b0 b).set (dC c q) (atJ q M b (dC c q) ++ [c]) := by
  apply List.ext_getElem
  · simp [RL]
  · intro i h1 h2
    rw [List.getElem_set]
    simp only [RL, List.getElem_map, List.getElem_range]
    split
    · next e =>
      subst e
      unfold atJ
      rw [if_pos h, if_pos h, List.filter_append, List.filter_cons_of_pos (by simp)]
      rfl
    · next e =>
      unfold atJ
      split
      · rw [List.filter_append]
        have : (List.filter (fun c => decide (dC c q = i)) [c]) = [] := by
          rw [List.filter_cons_of_neg (by simp; omega)]; rfl
        rw [this, List.append_nil]
      · rfl
theorem RL_low {n : Nat} (q : Cd n) (M : List (Cd n)) (b0 b : Nat) : (RL q M b0 (b + 1)).set (b + 1) [] = RL q M b0 b := by
  apply List.ext_getElem
  · simp [RL]
  · intro i h1 h2
    rw [List.getElem_set]
    simp only [RL, List.getElem_map, List.getElem_range]
    unfold atJ
    split
    · next e => subst e; rw [if_neg (by omega)]
    · next e =>
      by_cases hi : i ≤ b
      · rw [if_pos hi, if_pos (by omega)]
      · rw [if_neg hi, if_neg (by omega)]
theorem lc_succ (D : List Nat) (b : Nat) : lc D (b + 1) = lc D b + D.countP (fun x => decide (x = b)) := by
  induction D with
  | nil => rfl
  | cons x D ih =>
    unfold lc at *
    rw [List.countP_cons, List.countP_cons, List.countP_cons, ih]
    simp only [decide_eq_true_eq]
    split <;> split <;> split <;> omega
theorem atJ_len {n : Nat} (q : Cd n) (M : List (Cd n)) {b j : Nat} (h : j ≤ b) : (atJ q M b j).length = (dqs q M).countP (fun x => decide (x = j)) := by
  unfold atJ dqs
  rw [if_pos h, List.countP_map, List.countP_eq_length_filter]
  rfl
theorem RL_sum {n : Nat} (q : Cd n) (M : List (Cd n)) {b0 b : Nat} (hb : b ≤ b0) : ((RL q M b0 b).map List.length).sum = lc (dqs q M) (b + 1) := by
  have key : ∀ J, (((List.range J).map (atJ q M b)).map List.length).sum = lc (dqs q M) (min J (b + 1)) := by
    intro J
    induction J with
    | zero => simp [lc_zero]
    | succ J ih =>
      rw [List.range_succ, List.map_append, List.map_append, List.sum_append, ih]
      by_cases hJ : J ≤ b
      · rw [show min J (b + 1) = J by omega, show min (J + 1) (b + 1) = J + 1 by omega, lc_succ]
        simp [atJ_len q M hJ]
      · rw [show min J (b + 1) = b + 1 by omega, show min (J + 1) (b + 1) = b + 1 by omega]
        simp [atJ, hJ]
  unfold RL
  rw [key, show min (b0 + 1) (b + 1) = b + 1 by omega]
theorem lower_step {k b : Nat} {D : List Nat} (h : k ≤ lc D (b + 1)) : lower k D (b + 1) = lower k D b := by rw [lower, if_pos h]
theorem lower_stop {k b : Nat} {D : List Nat} (h : lc D b < k) : lower k D b = b := by
  cases b with
  | zero => rfl
  | succ b => rw [lower, if_neg (by omega)]
/-- What a search has found, but for how many they are. -/
structure FX {n : Nat} (B : Nat) (w : World) (g cb : Nat) (k : Int) (bound count : Int) (R : List (List (Cd n))) (vs : List Value) : Prop where
  box : w.heap[g]? = some (.cells #[.int .i64 k, .int .i64 bound, .int .i64 count, .slice (some ⟨cb, 0, none⟩) vs.length vs.length] 94 (0, 0))
  row : w.heap[cb]? = some (.cells vs.toArray 45 (0, 0))
  len : R.length = vs.length
  each : ∀ (j : Nat) (v : Value) (l : List (Cd n)), vs[j]? = some v → R[j]? = some l → w.ownsRow B 9 1 v l.length (l.map sV)
  apart : ∀ (i j q : Nat) (v u : Value), vs[i]? = some v → vs[j]? = some u → v.ownBlock = some q → u.ownBlock = some q → i = j
  low : B ≤ g ∧ B ≤ cb ∧ g ≠ cb
theorem FB.fx {n : Nat} {B : Nat} {w : World} {g cb : Nat} {k : Int} {bound count : Nat} {R : List (List (Cd n))} {vs : List Value} (h : FB B w g cb k bound count R vs) : FX B w g cb k bound count R vs := ⟨h.box, h.row, h.len, h.each, h.apart, h.low⟩
theorem FX.fb {n : Nat} {B : Nat} {w : World} {g cb : Nat} {k : Int} {bound count : Nat} {R : List (List (Cd n))} {vs : List Value} (h : FX B w g cb k bound count R vs) (hc : count = (R.map List.length).sum) : FB B w g cb k bound count R vs := ⟨h.box, h.row, h.len, h.each, h.apart, hc, h.low⟩
/-- The blocks of it. -/
def FF (g cb : Nat) (vs : List Value) (k : Nat) : Prop := k = g ∨ k = cb ∨ ∃ v ∈ vs, v.ownBlock = some k
theorem FX.kept {n : Nat} {B : Nat} {w w' : World} {g cb : Nat} {k bound count : Int} {R : List (List (Cd n))} {vs : List Value} {F : Nat → Prop} (h : FX B w g cb k bound count R vs) (s : Stay F w w') (hn : ∀ k, FF g cb vs k → ¬ F k) : FX B w' g cb k bound count R vs :=
  { h with
    box := (s.block g (Array.getElem?_eq_some_iff.1 h.box).1 (hn g (.inl rfl))).trans h.box
    row := (s.block cb (Array.getElem?_eq_some_iff.1 h.row).1 (hn cb (.inr (.inl rfl)))).trans h.row
    each := fun j v l h1 h2 => row_kept (h.each j v l h1 h2) s (fun b hb => hn b (.inr (.inr ⟨v, List.mem_of_getElem? h1, hb⟩))) }
/-- What a block of it is. -/
theorem FX.kind {n : Nat} {B : Nat} {w : World} {g cb : Nat} {k bound count : Int} {R : List (List (Cd n))} {vs : List Value} (h : FX B w g cb k bound count R vs) {b : Nat} (hb : FF g cb vs b) : ∃ cs t, w.heap[b]? = some (.cells cs t (0, 0)) ∧ (t = 94 ∨ t = 45 ∨ t = 9) ∧ B ≤ b := by
  rcases hb with rfl | rfl | ⟨v, hv, hb⟩
  · exact ⟨_, _, h.box, .inl rfl, h.low.1⟩
  · exact ⟨_, _, h.row, .inr (.inl rfl), h.low.2.1⟩
  · obtain ⟨j, hj, rfl⟩ := List.getElem_of_mem hv
    have hr := h.each j vs[j] (R[j]'(by rw [h.len]; exact hj)) (List.getElem?_eq_getElem hj) (List.getElem?_eq_getElem (by rw [h.len]; exact hj))
    obtain ⟨cur, e⟩ := row_block hr hb
    exact ⟨_, _, e, .inr (.inr rfl), (hr.lt b hb).1⟩
theorem FX.cell {n : Nat} {B : Nat} {w : World} {g cb : Nat} {k bound count : Int} {R : List (List (Cd n))} {vs : List Value} (h : FX B w g cb k bound count R vs) : w.cell? ⟨g, 0, none⟩ = some (.int .i64 k) ∧ w.cell? ⟨g, 1, none⟩ = some (.int .i64 bound) ∧ w.cell? ⟨g, 2, none⟩ = some (.int .i64 count) ∧ w.cell? ⟨g, 3, none⟩ = some (.slice (some ⟨cb, 0, none⟩) vs.length vs.length) ∧ ∀ j, w.frozen? ⟨g, j, none⟩ = false := by
  have := h.box
  refine ⟨?_, ?_, ?_, ?_, fun j => ?_⟩ <;> simp [World.cell?, World.frozen?, this]
theorem FX.code {n : Nat} {B : Nat} {w : World} {g cb : Nat} {k bound count : Int} {R : List (List (Cd n))} {vs : List Value} (h : FX B w g cb k bound count R vs) (j : Nat) : w.cell? ⟨cb, j, none⟩ = vs[j]? ∧ w.frozen? ⟨cb, j, none⟩ = false := by
  have := h.row
  constructor <;> simp [World.cell?, World.frozen?, this]
/-- Its cells are written. -/
theorem setCell_at {w : World} {b i : Nat} {cs : Array Value} {t : TypeId} {fr : Nat × Nat} (h : w.heap[b]? = some (.cells cs t fr)) (v : Value) : (w.setCell ⟨b, i, none⟩ v).heap[b]? = some (.cells (cs.setIfInBounds i v) t fr) := by
  have hb := (Array.getElem?_eq_some_iff.1 h).1
  show (w.heap.modify b _)[b]? = _
  rw [Array.getElem?_modify, if_pos rfl, h]
  rfl
theorem FX.bound' {n : Nat} {B : Nat} {w : World} {g cb : Nat} {k bound count : Int} {R : List (List (Cd n))} {vs : List Value} (h : FX B w g cb k bound count R vs) (x : Int) : FX B (w.setCell ⟨g, 1, none⟩ (.int .i64 x)) g cb k x count R vs := by
  have st : Stay (fun j => j = g) w (w.setCell ⟨g, 1, none⟩ (.int .i64 x)) := Stay.setCell (F := fun j => j = g) (Stay.refl _ w) (fun _ => rfl) _
  refine { h with box := ?_, row := ?_, each := fun j v l h1 h2 => row_kept (h.each j v l h1 h2) st (fun b hb e => ?_) }
  · rw [setCell_at h.box]; rfl
  · exact (st.block cb (Array.getElem?_eq_some_iff.1 h.row).1 (fun e => h.low.2.2 e.symm)).trans h.row
  · subst e
    obtain ⟨cur, e⟩ := row_block (h.each j v l h1 h2) hb
    rw [h.box] at e
    simp at e
theorem FX.count' {n : Nat} {B : Nat} {w : World} {g cb : Nat} {k bound count : Int} {R : List (List (Cd n))} {vs : List Value} (h : FX B w g cb k bound count R vs) (x : Int) : FX B (w.setCell ⟨g, 2, none⟩ (.int .i64 x)) g cb k bound x R vs := by
  have st : Stay (fun j => j = g) w (w.setCell ⟨g, 2, none⟩ (.int .i64 x)) := Stay.setCell (F := fun j => j = g) (Stay.refl _ w) (fun _ => rfl) _
  refine { h with box := ?_, row := ?_, each := fun j v l h1 h2 => row_kept (h.each j v l h1 h2) st (fun b hb e => ?_) }
  · rw [setCell_at h.box]; rfl
  · exact (st.block cb (Array.getElem?_eq_some_iff.1 h.row).1 (fun e => h.low.2.2 e.symm)).trans h.row
  · subst e
    obtain ⟨cur, e⟩ := row_block (h.each j v l h1 h2) hb
    rw [h.box] at e
    simp at e
/-- One of its rows is exchanged. -/
theorem FX.put {n : Nat} {B : Nat} {w w3 : World} {g cb : Nat} {k bound count : Int} {R : List (List (Cd n))} {vs : List Value} (h : FX B w g cb k bound count R vs) {i : Nat} {v v3 : Value} (hv : vs[i]? = some v) (st : Stay (fun j => v.ownBlock = some j) w w3) {l3 : List (Cd n)} (hr : w3.ownsRow B 9 1 v3 l3.length (l3.map sV)) (hloc : ∀ b, v3.ownBlock = some b → v.ownBlock = some b ∨ w.heap.size ≤ b) : FX B (w3.setCell ⟨cb, i, none⟩ v3) g cb k bound count (R.set i l3) (vs.set i v3) := by
  have hi : i < vs.length := (List.getElem?_eq_some_iff.1 hv).1
  obtain ⟨l, hl⟩ : ∃ l, R[i]? = some l := ⟨_, List.getElem?_eq_getElem (by rw [h.len]; exact hi)⟩
  have hvr := h.each i v l hv hl
  have hgv : v.ownBlock ≠ some g := fun e => by
    obtain ⟨cur, e⟩ := row_block hvr e
    rw [h.box] at e; simp at e
  have hcv : v.ownBlock ≠ some cb := fun e => by
    obtain ⟨cur, e⟩ := row_block hvr e
    rw [h.row] at e; simp at e
  have hbox3 := (st.block g (Array.getElem?_eq_some_iff.1 h.box).1 hgv).trans h.box
  have hrow3 := (st.block cb (Array.getElem?_eq_some_iff.1 h.row).1 hcv).trans h.row
  have sc : Stay (fun j => j = cb) w3 (w3.setCell ⟨cb, i, none⟩ v3) := Stay.setCell (F := fun j => j = cb) (Stay.refl _ w3) (fun _ => rfl) _
  refine ⟨?_, ?_, by simp [h.len], fun j u m h1 h2 => ?_, fun a j q u y h1 h2 h3 h4 => ?_, h.low⟩
  · rw [List.length_set]
    exact (sc.block g (Array.getElem?_eq_some_iff.1 hbox3).1 h.low.2.2).trans hbox3
  · rw [setCell_at hrow3]
    simp
  · by_cases e : i = j
    · subst e
      rw [List.getElem?_set_self hi] at h1
      rw [List.getElem?_set_self (by rw [h.len]; exact hi)] at h2
      cases h1; cases h2
      exact row_kept hr sc (fun b hb e => by
        subst e
        obtain ⟨cur, e⟩ := row_block hr hb
        rw [hrow3] at e; simp at e)
    · rw [List.getElem?_set_ne e] at h1 h2
      have hr1 := h.each j u m h1 h2
      have hr2 := row_kept hr1 st (fun b hb e' => e (h.apart i j b v u hv h1 e' hb))
      exact row_kept hr2 sc (fun b hb e => by
        subst e
        obtain ⟨cur, e⟩ := row_block hr2 hb
        rw [hrow3] at e; simp at e)
  · have old : ∀ (c : Nat) (z : Value) (b : Nat), vs[c]? = some z → z.ownBlock = some b → b < w.heap.size := fun c z b hz hb => by
      obtain ⟨m, hm⟩ : ∃ m, R[c]? = some m := ⟨_, List.getElem?_eq_getElem (by rw [h.len]; exact (List.getElem?_eq_some_iff.1 hz).1)⟩
      exact row_lt (h.each c z m hz hm) hb
    by_cases ea : i = a
    · by_cases ej : i = j
      · omega
      · subst ea
        rw [List.getElem?_set_self hi] at h1
        rw [List.getElem?_set_ne ej] at h2
        cases h1
        rcases hloc q h3 with e | e
        · exact h.apart i j q v y hv h2 e h4
        · have := old j y q h2 h4; omega
    · by_cases ej : i = j
      · subst ej
        rw [List.getElem?_set_self hi] at h2
        rw [List.getElem?_set_ne ea] at h1
        cases h2
        rcases hloc q h4 with e | e
        · exact h.apart a i q u v h1 hv h3 e
        · have := old a u q h1 h3; omega
      · rw [List.getElem?_set_ne ea] at h1
        rw [List.getElem?_set_ne ej] at h2
        exact h.apart a j q u y h1 h2 h3 h4
end Go.Proofs.YtnnbcdfpbdmgdaaDoor
