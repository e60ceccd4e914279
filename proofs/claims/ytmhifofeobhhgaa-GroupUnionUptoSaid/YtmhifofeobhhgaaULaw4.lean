/-
  DERIVED. The law's question, and parted.
-/
import Derived.Test.YtmhifofeobhhgaaULaw3
set_option linter.unusedVariables false
set_option linter.unusedSimpArgs false
namespace Go.Proofs.Ytmhifofeobhhgaa
open Go.RowKit Go.Proofs.UnionMath
abbrev askF (ub : Nat) : Value := .func (.func 13) #[] #[Pt ub]
theorem gA_len (S : List Int) (R : Nat → Nat) (m : Int) (hS : S.length ≤ 1048576) : (gA S R m).length ≤ 1048577 := by
  rw [← oL_n]; have := oL_len S R m S.length; omega
theorem gA_each (S : List Int) (R : Nat → Nat) (m : Int) (hS : S.length ≤ 1048576) : ∀ X ∈ gA S R m, X.length ≤ 1048577 := fun X hX => by
  rw [← oL_n] at hX
  unfold oL at hX
  obtain ⟨q, -⟩ := List.mem_filter.1 hX
  obtain ⟨r, -, e⟩ := List.mem_map.1 q
  have := idsG_len S R r S.length
  rw [e] at this; omega
set_option maxHeartbeats 2000000 in
theorem ask_any (ub p mb ag : Nat) (iv : Value) (S : List Int) (R : Nat → Nat) (m : Int) (w : World) (hc : w.cell? ⟨ub, 0, none⟩ = some (Pt p)) (h : PU w p mb ag iv S R) :
    Calls Try.prog 13 #[.int .i64 m, Pt ub] w (GrO w (gA S R m)) := by
  have hG := groups_any p mb ag iv S R m w h
  clear h
  go_enter Try.func13, Try.ntmps13
  go_wp2_with (go_at_call 8; refine hG.mono ?_; clear hG; intro e w' hO; unfold GrO at hO; obtain ⟨v', ss', rfl, g', b'⟩ := hO; have HG := Hid.mk (And.intro g' b'); clear g' b')
  go_ret
  exact ⟨_, _, rfl, HG.out⟩
/-- A list of groups that lies between two places of memory. -/
def LF (lo hi : Nat) (W : World) (v : Value) (L : List (List Int)) : Prop := ∃ ss, GL lo W v ss L ∧ (∀ b, v.ownBlock = some b → b < hi) ∧ ∀ b, inB ss b → b < hi
theorem LF.kept {lo hi : Nat} {W W' : World} {v : Value} {L : List (List Int)} {F : Nat → Prop} (h : LF lo hi W v L) (s : Stay F W W') (hF : ∀ k, lo ≤ k → k < hi → ¬ F k) : LF lo hi W' v L := by
  obtain ⟨ss, g, b1, b2⟩ := h
  refine ⟨ss, g.kept s (fun k hk => hF k (g.lo k hk) (b1 k hk)) (fun k hk => ?_), b1, b2⟩
  obtain ⟨j, hj, e⟩ := hk
  exact hF k (g.los j hj k e) (b2 k ⟨j, hj, e⟩)
theorem LF.of {lo : Nat} {W : World} {v : Value} {ss : List Sl} {L : List (List Int)} (g : GL lo W v ss L) : LF lo W.heap.size W v L :=
  ⟨ss, g, fun b hb => row_lt g.row hb, fun b hb => by obtain ⟨j, hj, e⟩ := hb; exact row_lt (g.each j hj (by rw [← g.len]; exact hj)) e⟩
theorem LF.below {lo hi : Nat} {W W' : World} {v : Value} {L : List (List Int)} (h : LF lo hi W v L) (b : Below W.heap.size W W') : LF lo hi W' v L := h.kept (F := fun _ => False) (.below b) (fun _ _ _ h => h)
theorem LF.same {lo hi lo' hi' : Nat} {W : World} {v v' : Value} {L : List (List Int)} (h : LF lo hi W v L) (h' : LF lo' hi' W v' L) (hf : L.length ≤ 1048577) (hl : ∀ X ∈ L, X.length ≤ 1048577) :
    Calls Try.prog 7 #[v, v'] W fun e w' => e = .returned (.bool true) ∧ Drew W w' := by
  obtain ⟨s, g, -⟩ := h
  obtain ⟨s', g', -⟩ := h'
  exact same_groups _ _ _ _ _ _ L W g g' hf hl
theorem LF.spoil {lo hi : Nat} {W : World} {v : Value} {L : List (List Int)} (h : LF lo hi W v L) (hf : L.length ≤ 1048577) (hl : ∀ X ∈ L, X.length ≤ 1048577) :
    Calls Try.prog 20 #[v] W fun e w' => e = .returned (.bool true) ∧ Stay (fun k => lo ≤ k ∧ k < hi) W w' := by
  obtain ⟨s, g, b1, b2⟩ := h
  refine (spoil_any lo v s L W g hf hl).mono (fun e w' q => ⟨q.1, q.2.mono (fun k _ hk => ?_)⟩)
  obtain ⟨j, hj, e⟩ := hk
  exact ⟨g.los j hj k e, b2 k ⟨j, hj, e⟩⟩
/-- What stands while it is asked: the union, what is wanted, and the lists that were answered. -/
structure PT (w0 : World) (ub : Nat) (S : List Int) (R : Nat → Nat) (wv ov : Value) (n : Int) (W : World) (Ls : List (Nat × Nat × Value × List (List Int))) : Prop where
  u : ∃ p mb ag iv, w0.cell? ⟨ub, 0, none⟩ = some (Pt p) ∧ PU w0 p mb ag iv S R
  wt : LF 0 w0.heap.size w0 wv (gA S R n)
  ot : LF 0 w0.heap.size w0 ov (gA S R 1)
  bl : Below w0.heap.size w0 W
  ls : ∀ e ∈ Ls, LF e.1 e.2.1 W e.2.2.1 e.2.2.2 ∧ w0.heap.size ≤ e.1 ∧ e.2.1 ≤ W.heap.size
  pw : Ls.Pairwise (fun e x => x.2.1 ≤ e.1)
theorem PT.few {w0 : World} {ub : Nat} {S : List Int} {R : Nat → Nat} {wv ov : Value} {n : Int} {W : World} {Ls : List (Nat × Nat × Value × List (List Int))} (h : PT w0 ub S R wv ov n W Ls) : S.length ≤ 1048576 := by
  obtain ⟨p, mb, ag, iv, -, k⟩ := h.u
  exact k.ids.few
theorem PT.go {w0 : World} {ub : Nat} {S : List Int} {R : Nat → Nat} {wv ov : Value} {n : Int} {W W' : World} {Ls : List (Nat × Nat × Value × List (List Int))} (h : PT w0 ub S R wv ov n W Ls) (b : Below W.heap.size W W') : PT w0 ub S R wv ov n W' Ls :=
  ⟨h.u, h.wt, h.ot, chain h.bl b (Nat.le_refl _), fun e he => by obtain ⟨q1, q2, q3⟩ := h.ls e he; exact ⟨q1.below b, q2, Nat.le_trans q3 b.size⟩, h.pw⟩
theorem PT.ask {w0 : World} {ub : Nat} {S : List Int} {R : Nat → Nat} {wv ov : Value} {n : Int} {W : World} {Ls : List (Nat × Nat × Value × List (List Int))} (h : PT w0 ub S R wv ov n W Ls) (m : Int) :
    Calls Try.prog 13 #[.int .i64 m, Pt ub] W fun e W' => ∃ v, e = .returned v ∧ PT w0 ub S R wv ov n W' ((W.heap.size, W'.heap.size, v, gA S R m) :: Ls) := by
  obtain ⟨p, mb, ag, iv, hc, hu⟩ := h.u
  refine (ask_any ub p mb ag iv S R m W (cell_lat h.bl hc) (hu.below h.bl)).mono (fun e W' q => ?_)
  obtain ⟨v, ss, rfl, g, b⟩ := q
  have k := h.go b
  refine ⟨v, rfl, k.u, k.wt, k.ot, k.bl, fun e he => ?_, List.pairwise_cons.2 ⟨fun e he => (h.ls e he).2.2, h.pw⟩⟩
  rcases List.mem_cons.1 he with rfl | he
  · exact ⟨LF.of g, h.bl.size, Nat.le_refl _⟩
  · exact k.ls e he
theorem PT.sameW {w0 : World} {ub : Nat} {S : List Int} {R : Nat → Nat} {wv ov : Value} {n : Int} {W : World} {Ls : List (Nat × Nat × Value × List (List Int))} (h : PT w0 ub S R wv ov n W Ls) {v : Value} (hm : ∃ lo hi, (lo, hi, v, gA S R n) ∈ Ls) :
    Calls Try.prog 7 #[v, wv] W fun e W' => e = .returned (.bool true) ∧ PT w0 ub S R wv ov n W' Ls := by
  obtain ⟨lo, hi, hm⟩ := hm
  exact ((h.ls _ hm).1.same (h.wt.below h.bl) (gA_len S R n h.few) (gA_each S R n h.few)).mono (fun e W' q => ⟨q.1, h.go (q.2.below _)⟩)
theorem PT.sameO {w0 : World} {ub : Nat} {S : List Int} {R : Nat → Nat} {wv ov : Value} {n : Int} {W : World} {Ls : List (Nat × Nat × Value × List (List Int))} (h : PT w0 ub S R wv ov n W Ls) {v : Value} (hm : ∃ lo hi, (lo, hi, v, gA S R 1) ∈ Ls) :
    Calls Try.prog 7 #[v, ov] W fun e W' => e = .returned (.bool true) ∧ PT w0 ub S R wv ov n W' Ls := by
  obtain ⟨lo, hi, hm⟩ := hm
  exact ((h.ls _ hm).1.same (h.ot.below h.bl) (gA_len S R 1 h.few) (gA_each S R 1 h.few)).mono (fun e W' q => ⟨q.1, h.go (q.2.below _)⟩)
theorem PT.spoil {w0 : World} {ub : Nat} {S : List Int} {R : Nat → Nat} {wv ov : Value} {n : Int} {W : World} {z p o c : Nat × Nat × Value × List (List Int)} {lo hi : Nat} {v : Value} (h : PT w0 ub S R wv ov n W [z, p, o, c, (lo, hi, v, gA S R n)]) :
    Calls Try.prog 20 #[v] W fun e W' => e = .returned (.bool true) ∧ PT w0 ub S R wv ov n W' [z, p, o, c] := by
  have ha := h.ls (lo, hi, v, gA S R n) (by simp)
  refine (ha.1.spoil (gA_len S R n h.few) (gA_each S R n h.few)).mono (fun e W' q => ⟨q.1, h.u, h.wt, h.ot, ?_, fun e he => ?_, ?_⟩)
  · have s := q.2
    have hlo : w0.heap.size ≤ lo := ha.2.1
    exact h.bl.trans (s.toBelow (fun k hk c => by have c1 : lo ≤ k := c.1; omega) h.bl.size)
  · obtain ⟨k1, k2, k3⟩ := h.ls e (by simp at he ⊢; rcases he with h | h | h | h <;> simp [h])
    have hp := h.pw
    have hx : hi ≤ e.1 := by
      simp only [List.pairwise_cons] at hp
      simp at he
      rcases he with rfl | rfl | rfl | rfl
      · exact hp.1 (lo, hi, v, gA S R n) (by simp)
      · exact hp.2.1 (lo, hi, v, gA S R n) (by simp)
      · exact hp.2.2.1 (lo, hi, v, gA S R n) (by simp)
      · exact hp.2.2.2.1 (lo, hi, v, gA S R n) (by simp)
    exact ⟨k1.kept q.2 (fun k a b c => by have c2 : k < hi := c.2; omega), k2, Nat.le_trans k3 q.2.size⟩
  · have hp := h.pw
    exact (List.pairwise_append.1 (show ([z, p, o, c] ++ [(lo, hi, v, gA S R n)]).Pairwise _ from hp)).1
set_option maxHeartbeats 8000000 in
set_option maxRecDepth 100000 in
theorem parted_any (ub : Nat) (S : List Int) (R : Nat → Nat) (wv ov : Value) (n : Int) (w : World) (h : PT w ub S R wv ov n w []) :
    Calls Try.prog 12 #[askF ub, wv, ov, .int .i64 n] w fun e w' => e = .returned (.bool true) ∧ Below w.heap.size w w' := by
  have H := Hid.mk h
  clear h
  go_enter Try.func12, Try.ntmps12
  go_wp2_with (go_at_call 13; refine (H.out.ask _).mono ?_; rintro e w' ⟨v', rfl, H2⟩; replace H := Hid.mk H2; clear H2)
  refine Calls.mono (PT.sameW H.out ?_) ?_
  exact ⟨_, _, .tail _ (.tail _ (.tail _ (.tail _ (.head _))))⟩
  rintro e w' ⟨rfl, H2⟩; replace H := Hid.mk H2; clear H2
  go_wp2_with fail
  refine Calls.mono (PT.sameW H.out ?_) ?_
  exact ⟨_, _, .tail _ (.tail _ (.tail _ (.head _)))⟩
  rintro e w' ⟨rfl, H2⟩; replace H := Hid.mk H2; clear H2
  go_wp2_with fail
  refine Calls.mono (PT.sameO H.out ?_) ?_
  exact ⟨_, _, .tail _ (.tail _ (.head _))⟩
  rintro e w' ⟨rfl, H2⟩; replace H := Hid.mk H2; clear H2
  go_wp2_with fail
  refine Calls.mono (PT.sameO H.out ?_) ?_
  exact ⟨_, _, .tail _ (.head _)⟩
  rintro e w' ⟨rfl, H2⟩; replace H := Hid.mk H2; clear H2
  go_wp2_with fail
  refine Calls.mono (PT.sameW H.out ?_) ?_
  exact ⟨_, _, .head _⟩
  rintro e w' ⟨rfl, H2⟩; replace H := Hid.mk H2; clear H2
  go_wp2_with fail
  refine Calls.mono (PT.spoil H.out) ?_
  rintro e w' ⟨rfl, H2⟩; replace H := Hid.mk H2; clear H2
  go_wp2_with fail
  refine Calls.mono (PT.sameW H.out ?_) ?_
  exact ⟨_, _, .tail _ (.tail _ (.tail _ (.head _)))⟩
  rintro e w' ⟨rfl, H2⟩; replace H := Hid.mk H2; clear H2
  go_wp2_with fail
  refine Calls.mono (PT.sameO H.out ?_) ?_
  exact ⟨_, _, .tail _ (.tail _ (.head _))⟩
  rintro e w' ⟨rfl, H2⟩; replace H := Hid.mk H2; clear H2
  go_wp2_with fail
  refine Calls.mono (PT.sameO H.out ?_) ?_
  exact ⟨_, _, .tail _ (.head _)⟩
  rintro e w' ⟨rfl, H2⟩; replace H := Hid.mk H2; clear H2
  go_wp2_with fail
  refine Calls.mono (PT.sameW H.out ?_) ?_
  exact ⟨_, _, .head _⟩
  rintro e w' ⟨rfl, H2⟩; replace H := Hid.mk H2; clear H2
  go_wp2_with (go_at_call 13; refine (H.out.ask _).mono ?_; rintro e w' ⟨v', rfl, H2⟩; replace H := Hid.mk H2; clear H2)
  refine Calls.mono (PT.sameW H.out ?_) ?_
  exact ⟨_, _, .head _⟩
  rintro e w' ⟨rfl, H2⟩; replace H := Hid.mk H2; clear H2
  go_wp2
  go_ret
  exact ⟨rfl, H.out.bl⟩
end Go.Proofs.Ytmhifofeobhhgaa
