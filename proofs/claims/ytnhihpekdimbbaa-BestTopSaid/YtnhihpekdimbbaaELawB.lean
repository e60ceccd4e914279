/-
  DERIVED. BestWithin: a ball and a top.
-/
import Derived.Test.YtnhihpekdimbbaaEWorst
import Derived.Test.YtnhihpekdimbbaaEBall
set_option linter.unusedVariables false
set_option linter.unusedSimpArgs false
namespace Go.Proofs.Ytnhihpekdimbbaa
open Go.RowKit
theorem ins_le (h : Ht) : ∀ l : List Ht, (ins h l).length ≤ l.length + 1
  | [] => by simp [ins]
  | x :: l => by
    unfold ins
    split
    · simp; exact ins_le h l
    · split <;> simp
theorem foldl_len (L : List Ht) : ∀ l : List Ht, (L.foldl (fun l h => ins h l) l).length ≤ l.length + L.length := by
  induction L with
  | nil => intro l; simp
  | cons h L ih =>
    intro l
    rw [List.foldl_cons]
    have := ih (ins h l)
    have := ins_le h l
    simp; omega
theorem srtL_len (L : List Ht) : (srtL L).length ≤ L.length := by have := foldl_len L []; simpa [srtL] using this
theorem srtL_snoc (L : List Ht) (h : Ht) : srtL (L ++ [h]) = ins h (srtL L) := by unfold srtL; rw [List.foldl_append]; rfl
/-- Those within r. -/
def inR (r : Int) (L : List Ht) : List Ht := L.filter (fun h => decide (h.d ≤ r))
theorem inR_len (r : Int) (L : List Ht) : (inR r L).length ≤ L.length := List.length_filter_le _ _
theorem inR_yes {r : Int} {L : List Ht} {i : Nat} (hi : i < L.length) (h : L[i].d ≤ r) : inR r (L.take (i + 1)) = inR r (L.take i) ++ [L[i]] := by
  unfold inR; rw [List.take_succ_eq_append_getElem hi, List.filter_append]; simp [h]
theorem inR_no {r : Int} {L : List Ht} {i : Nat} (hi : i < L.length) (h : ¬ L[i].d ≤ r) : inR r (L.take (i + 1)) = inR r (L.take i) := by
  unfold inR; rw [List.take_succ_eq_append_getElem hi, List.filter_append]; simp [h]
theorem ball_step {r : Int} {L : List Ht} {i : Nat} (hi : i < L.length) : srtL (inR r (L.take (i + 1))) = putB r L[i] (srtL (inR r (L.take i))) := by
  unfold putB
  by_cases h : L[i].d ≤ r
  · rw [if_pos h, inR_yes hi h, srtL_snoc]
  · rw [if_neg h, inR_no hi h]
theorem fst_ball (n : Nat) (W : List Ht) (h : W.length ≤ n) : Fst n (srtL W) W := ⟨fun x hx => (srtL_mem W x).1 hx, srtL_srt W, Nat.le_trans (srtL_len W) h, fun x h1 h2 => absurd ((srtL_mem W x).2 h1) h2⟩
theorem filter_at {r : Int} {x : Ht} (hx : x.d ≤ r) : ∀ (S : List Ht) (i : Nat), Srt S → S[i]? = some x → (S.filter (fun h => decide (h.d ≤ r)))[i]? = some x
  | [], i, _, h => by simp at h
  | y :: S, 0, hs, h => by
    simp at h
    subst h
    rw [List.filter_cons_of_pos (by simpa using hx)]; rfl
  | y :: S, i + 1, hs, h => by
    obtain ⟨h1, h2⟩ := Srt.cons.1 hs
    have hS : S[i]? = some x := by simpa using h
    have hy := h1 x (List.mem_of_getElem? hS)
    have hd := cpH_d (Int.le_of_lt hy)
    rw [List.filter_cons_of_pos (by simp; omega)]
    have := filter_at hx S i h2 hS
    simpa using this
theorem within_at {r : Int} {k : Nat} {L : List Ht} {i : Nat} {x : Ht} (h : (topL k L)[i]? = some x) (hx : x.d ≤ r) : (srtL (inR r L))[i]? = some x := by
  have e : srtL (inR r L) = (srtL L).filter (fun h => decide (h.d ≤ r)) := by
    refine srt_ext (srtL_srt _) (List.Pairwise.sublist List.filter_sublist (srtL_srt L)) (fun y => ?_)
    rw [srtL_mem, List.mem_filter, srtL_mem]
    unfold inR
    rw [List.mem_filter]
  rw [e]
  refine filter_at hx _ i (srtL_srt L) ?_
  rw [topL_eq] at h
  rw [List.getElem?_take] at h
  split at h
  · exact h
  · cases h
/-- A ball of the call's own, a top beside it. -/
structure BTwo (w W : World) (b : Nat) (r : Int) (kpb t k kpt : Nat) (Y X : List Ht) : Prop where
  b : BT W b r kpb Y
  t : TT W t k kpt X
  far : ∀ j, Ft W kpb j → w.heap.size ≤ j
  apart : ∀ j, Ft W kpb j → Ft W kpt j → False
  below : Below w.heap.size w W
theorem BTwo.frk {w W W' : World} {b : Nat} {r : Int} {kpb t k kpt : Nat} {Y X Z : List Ht} (h : BTwo w W b r kpb t k kpt Y X) (hT : BT W' b r kpb Z) (f : FrK kpb W W') : BTwo w W' b r kpb t k kpt Z X := by
  obtain ⟨h1, h2⟩ := h.t.keep f.stay (h.b.2.top h.t.1) (fun j hj hF => h.apart j hF hj)
  refine ⟨hT, h1, fun j hj => (f.loc j hj).elim (h.far j) (fun h2 => Nat.le_trans h.below.size h2), fun j ha hb => ?_, h.below.trans (f.stay.toBelow (fun j hj hF => by have := h.far j hF; omega) h.below.size)⟩
  have hb' := (h2 j).1 hb
  rcases f.loc j ha with h3 | h3
  · exact h.apart j h3 hb'
  · have := h.t.2.1.ftlt j hb'; omega
def RB (w : World) (b : Nat) (r : Int) (kpb t k kpt : Nat) (L X : List Ht) (u : Value) (wr : World) : Prop := ∃ i : Nat, u = .int .i64 i ∧ i ≤ L.length ∧ Hid (BTwo w wr b r kpb t k kpt (srtL (inR r (L.take i))) X)
def RP (w : World) (r : Int) (L : List Ht) (uv ui : Value) (wr : World) : Prop := ∃ (i : Nat) (a : Option Addr) (m c : Nat), uv = .slice a m c ∧ ui = .int .i64 i ∧ i ≤ L.length ∧ Hid (m = (inR r (L.take i)).length ∧ HRow wr (.slice a m c) (inR r (L.take i)) ∧ (∀ j, (Value.slice a m c).ownBlock = some j → w.heap.size ≤ j) ∧ Below w.heap.size w wr)
def RT (w : World) (n : Nat) (u : Value) (wr : World) : Prop := ∃ i : Nat, u = .int .i64 i ∧ i ≤ n ∧ Drew w wr
/-- r, if it is one. -/
def fitR (r : Int) : Int := if r < 0 ∨ 1024 < r then 3 else r
theorem fitR_in (r : Int) : 0 ≤ fitR r ∧ fitR r ≤ 1024 := by unfold fitR; split <;> omega
end Go.Proofs.Ytnhihpekdimbbaa
