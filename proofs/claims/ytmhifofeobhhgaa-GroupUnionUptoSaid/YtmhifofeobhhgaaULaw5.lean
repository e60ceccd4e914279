/-
  DERIVED. Both unions beside each other: within which blocks they lie, how they are joined.
-/
import Derived.Test.YtmhifofeobhhgaaUPNew
import Derived.Test.YtmhifofeobhhgaaWDrop
set_option linter.unusedVariables false
set_option linter.unusedSimpArgs false
namespace Go.Proofs.Ytmhifofeobhhgaa
open Go.RowKit Go.Proofs.UnionMath
set_option maxHeartbeats 400000 in
theorem num_any (z : Int) (w : World) : Calls Try.prog 6 #[.int .i64 z] w fun e w' => e = .returned (.int .i64 z) ∧ w' = w := by
  go_enter Try.func6, Try.ntmps6
  go_wp2
  go_ret
  exact ⟨rfl, rfl⟩
/-- The program's union, within these blocks. -/
structure PUI (lo hi : Nat) (W : World) (S : List Int) (R : Nat → Nat) (p : Nat) : Prop where
  ex : ∃ mb ag iv, PU W p mb ag iv S R ∧ (lo ≤ mb ∧ mb < hi) ∧ (lo ≤ ag ∧ ag < hi) ∧ ∀ k, iv.ownBlock = some k → lo ≤ k ∧ k < hi
  p0 : lo ≤ p ∧ p < hi
theorem PUI.kept {lo hi : Nat} {W W' : World} {S : List Int} {R : Nat → Nat} {p : Nat} {F : Nat → Prop} (h : PUI lo hi W S R p) (s : Stay F W W') (hF : ∀ k, lo ≤ k → k < hi → ¬ F k) : PUI lo hi W' S R p := by
  obtain ⟨mb, ag, iv, hu, h1, h2, h3⟩ := h.ex
  exact ⟨⟨mb, ag, iv, hu.kept s (hF _ h.p0.1 h.p0.2) (hF _ h1.1 h1.2) (hF _ h2.1 h2.2) (fun k hk => hF _ (h3 k hk).1 (h3 k hk).2), h1, h2, h3⟩, h.p0⟩
/-- The document's. -/
structure RUI (lo hi : Nat) (W : World) (S : List Int) (R : Nat → Nat) (p : Nat) : Prop where
  ex : ∃ iv lv, RU W p iv lv S R ∧ (∀ k, iv.ownBlock = some k → lo ≤ k ∧ k < hi) ∧ ∀ k, lv.ownBlock = some k → lo ≤ k ∧ k < hi
  p0 : lo ≤ p ∧ p < hi
theorem RUI.kept {lo hi : Nat} {W W' : World} {S : List Int} {R : Nat → Nat} {p : Nat} {F : Nat → Prop} (h : RUI lo hi W S R p) (s : Stay F W W') (hF : ∀ k, lo ≤ k → k < hi → ¬ F k) : RUI lo hi W' S R p := by
  obtain ⟨iv, lv, hu, h2, h3⟩ := h.ex
  exact ⟨⟨iv, lv, hu.kept s (hF _ h.p0.1 h.p0.2) (fun k hk => hF _ (h2 k hk).1 (h2 k hk).2) (fun k hk => hF _ (h3 k hk).1 (h3 k hk).2), h2, h3⟩, h.p0⟩
/-- What a join answers, and what comes of it. -/
def jC (S : List Int) (a b : Int) : Int := if a ∈ S ∧ b ∈ S then 0 else 131
def jR (S : List Int) (R : Nat → Nat) (a b : Int) : Nat → Nat := if a ∈ S ∧ b ∈ S then jn R (S.idxOf a) (S.idxOf b) else R
theorem PUI.join {lo hi : Nat} {W : World} {S : List Int} {R : Nat → Nat} {p : Nat} (h : PUI lo hi W S R p) (a b : Int) (ha : I64 a) (hb : I64 b) :
    Calls Try.prog 10 #[Pt p, .int .i64 a, .int .i64 b] W fun e W' => e = .returned (.int .i64 (jC S a b)) ∧ PUI lo hi W' S (jR S R a b) p ∧ Stay (fun k => lo ≤ k ∧ k < hi) W W' := by
  obtain ⟨mb, ag, iv, hu, h1, h2, h3⟩ := h.ex
  unfold jC jR
  by_cases hab : a ∈ S ∧ b ∈ S
  · rw [if_pos hab, if_pos hab]
    have ia := List.idxOf_lt_length_of_mem hab.1
    have ib := List.idxOf_lt_length_of_mem hab.2
    have hc := join_yes p mb ag iv S R (S.idxOf a) (S.idxOf b) ia ib W hu
    rw [List.getElem_idxOf, List.getElem_idxOf] at hc
    refine hc.mono ?_
    rintro e W' ⟨rfl, q1, q2⟩
    exact ⟨rfl, ⟨⟨mb, ag, iv, q1, h1, h2, h3⟩, h.p0⟩, q2.mono (fun k _ e => by subst e; exact h2)⟩
  · rw [if_neg hab, if_neg hab]
    refine (join_no p mb ag iv S R a b ha hb W hu hab).mono ?_
    rintro e W' ⟨rfl, rfl⟩
    exact ⟨rfl, h, .refl _ _⟩
theorem RUI.join {lo hi : Nat} {W : World} {S : List Int} {R : Nat → Nat} {p : Nat} (h : RUI lo hi W S R p) (a b : Int) :
    Calls Try.prog 11 #[Pt p, .int .i64 a, .int .i64 b] W fun e W' => e = .returned (.int .i64 (jC S a b)) ∧ RUI lo hi W' S (jR S R a b) p ∧ Stay (fun k => lo ≤ k ∧ k < hi) W W' := by
  obtain ⟨iv, lv, hu, h2, h3⟩ := h.ex
  unfold jC jR
  by_cases hab : a ∈ S ∧ b ∈ S
  · rw [if_pos hab, if_pos hab]
    have ia := List.idxOf_lt_length_of_mem hab.1
    have ib := List.idxOf_lt_length_of_mem hab.2
    have hc := rjoin_yes p iv lv S R (S.idxOf a) (S.idxOf b) ia ib W hu
    rw [List.getElem_idxOf, List.getElem_idxOf] at hc
    refine hc.mono ?_
    rintro e W' ⟨rfl, q1, q2⟩
    exact ⟨rfl, ⟨⟨iv, lv, q1, h2, h3⟩, h.p0⟩, q2.mono (fun k _ e => h3 k e)⟩
  · rw [if_neg hab, if_neg hab]
    refine (rjoin_no p iv lv S R a b W hu hab).mono ?_
    rintro e W' ⟨rfl, rfl⟩
    exact ⟨rfl, h, .refl _ _⟩
/-- Both, and the box that holds the program's. -/
structure MU (lo hi : Nat) (W : World) (ub rp : Nat) (S : List Int) (R : Nat → Nat) : Prop where
  ex : ∃ p m1 m2, PUI lo m1 W S R p ∧ RUI m2 hi W S R rp ∧ W.heap[ub]? = some (.cells #[Pt p] 24 (0, 0)) ∧ m1 ≤ ub ∧ ub < m2 ∧ lo ≤ m1 ∧ m2 ≤ hi
theorem MU.kept {lo hi : Nat} {W W' : World} {ub rp : Nat} {S : List Int} {R : Nat → Nat} {F : Nat → Prop} (h : MU lo hi W ub rp S R) (s : Stay F W W') (hF : ∀ k, lo ≤ k → k < hi → ¬ F k) : MU lo hi W' ub rp S R := by
  obtain ⟨p, m1, m2, h1, h2, h3, h4, h5, h6, h7⟩ := h.ex
  exact ⟨p, m1, m2, h1.kept s (fun k a b => hF k a (by omega)), h2.kept s (fun k a b => hF k (by omega) b), (s.block ub (Array.getElem?_eq_some_iff.1 h3).1 (hF ub (by omega) (by omega))).trans h3, h4, h5, h6, h7⟩
theorem MU.below {lo hi : Nat} {W W' : World} {ub rp : Nat} {S : List Int} {R : Nat → Nat} (h : MU lo hi W ub rp S R) (b : Below W.heap.size W W') : MU lo hi W' ub rp S R := h.kept (F := fun _ => False) (.below b) (fun _ _ _ h => h)
theorem MU.few {lo hi : Nat} {W : World} {ub rp : Nat} {S : List Int} {R : Nat → Nat} (h : MU lo hi W ub rp S R) : S.length ≤ 1048576 := by
  obtain ⟨p, m1, m2, h1, h2, h3, h4, h5, h6, h7⟩ := h.ex
  obtain ⟨iv, lv, hu, -⟩ := h2.ex
  exact hu.ids.few
/-- The program joins; the document has yet to. -/
structure MJ (lo hi : Nat) (W : World) (ub rp : Nat) (S : List Int) (R R' : Nat → Nat) : Prop where
  ex : ∃ p m1 m2, PUI lo m1 W S R' p ∧ RUI m2 hi W S R rp ∧ W.heap[ub]? = some (.cells #[Pt p] 24 (0, 0)) ∧ m1 ≤ ub ∧ ub < m2 ∧ lo ≤ m1 ∧ m2 ≤ hi
theorem MJ.below {lo hi : Nat} {W W' : World} {ub rp : Nat} {S : List Int} {R R' : Nat → Nat} (h : MJ lo hi W ub rp S R R') (b : Below W.heap.size W W') : MJ lo hi W' ub rp S R R' := by
  obtain ⟨p, m1, m2, h1, h2, h3, h4, h5, h6, h7⟩ := h.ex
  exact ⟨p, m1, m2, h1.kept (F := fun _ => False) (.below b) (fun _ _ _ h => h), h2.kept (F := fun _ => False) (.below b) (fun _ _ _ h => h), (b.block ub (Array.getElem?_eq_some_iff.1 h3).1).trans h3, h4, h5, h6, h7⟩
theorem MU.join {lo hi : Nat} {W : World} {ub rp : Nat} {S : List Int} {R : Nat → Nat} (h : MU lo hi W ub rp S R) (a b : Int) (ha : I64 a) (hb : I64 b) :
    ∃ p, W.cell? ⟨ub, 0, none⟩ = some (Pt p) ∧ Calls Try.prog 10 #[Pt p, .int .i64 a, .int .i64 b] W fun e W' => e = .returned (.int .i64 (jC S a b)) ∧ MJ lo hi W' ub rp S R (jR S R a b) ∧ Stay (fun k => lo ≤ k ∧ k < hi) W W' := by
  obtain ⟨p, m1, m2, h1, h2, h3, h4, h5, h6, h7⟩ := h.ex
  refine ⟨p, by simp [World.cell?, h3], (h1.join a b ha hb).mono ?_⟩
  rintro e W' ⟨rfl, q1, q2⟩
  exact ⟨rfl, ⟨p, m1, m2, q1, h2.kept q2 (fun k a b => by omega), (q2.block ub (Array.getElem?_eq_some_iff.1 h3).1 (by omega)).trans h3, h4, h5, h6, h7⟩, q2.mono (fun k _ e => ⟨e.1, by have := h2.p0; omega⟩)⟩
theorem MJ.join {lo hi : Nat} {W : World} {ub rp : Nat} {S : List Int} {R : Nat → Nat} (a b : Int) (h : MJ lo hi W ub rp S R (jR S R a b)) :
    Calls Try.prog 11 #[Pt rp, .int .i64 a, .int .i64 b] W fun e W' => e = .returned (.int .i64 (jC S a b)) ∧ MU lo hi W' ub rp S (jR S R a b) ∧ Stay (fun k => lo ≤ k ∧ k < hi) W W' := by
  obtain ⟨p, m1, m2, h1, h2, h3, h4, h5, h6, h7⟩ := h.ex
  refine (h2.join a b).mono ?_
  rintro e W' ⟨rfl, q1, q2⟩
  exact ⟨rfl, ⟨p, m1, m2, h1.kept q2 (fun k a b => by omega), q1, (q2.block ub (Array.getElem?_eq_some_iff.1 h3).1 (by omega)).trans h3, h4, h5, h6, h7⟩, q2.mono (fun k _ e => ⟨by have := h1.p0; omega, e.2⟩)⟩
theorem MU.groups {lo hi : Nat} {W : World} {ub rp : Nat} {S : List Int} {R : Nat → Nat} (h : MU lo hi W ub rp S R) (m : Int) :
    Calls Try.prog 9 #[Pt rp, .int .i64 m] W (GrO W (gA S R m)) := by
  obtain ⟨p, m1, m2, h1, h2, h3, h4, h5, h6, h7⟩ := h.ex
  obtain ⟨iv, lv, hu, -⟩ := h2.ex
  exact rgroups_any rp iv lv S R m W hu
/-- .. and what parted asks for. -/
theorem MU.parted {lo hi : Nat} {W : World} {ub rp : Nat} {S : List Int} {R : Nat → Nat} (h : MU lo hi W ub rp S R) {b1 b2 : Nat} {v1 v2 : Value} {s1 s2 : List Sl} {n : Int} (g1 : GL b1 W v1 s1 (gA S R n)) (g2 : GL b2 W v2 s2 (gA S R 1)) : PT W ub S R v1 v2 n W [] := by
  obtain ⟨p, m1, m2, h1, h2, h3, h4, h5, h6, h7⟩ := h.ex
  obtain ⟨mb, ag, iv, hu, -⟩ := h1.ex
  have l1 := LF.of g1
  have l2 := LF.of g2
  refine ⟨⟨p, mb, ag, iv, by simp [World.cell?, h3], hu⟩, ?_, ?_, Below.refl _ _, fun e he => by simp at he, .nil⟩
  · obtain ⟨ss, g, q1, q2⟩ := l1
    exact ⟨ss, ⟨g.row, g.len, g.each, fun _ _ => Nat.zero_le _, fun _ _ _ _ => Nat.zero_le _, g.ap⟩, q1, q2⟩
  · obtain ⟨ss, g, q1, q2⟩ := l2
    exact ⟨ss, ⟨g.row, g.len, g.each, fun _ _ => Nat.zero_le _, fun _ _ _ _ => Nat.zero_le _, g.ap⟩, q1, q2⟩
/-- A step. -/
structure Sp where
  a : Int
  b : Int
  t : Bool
  l : Int
def sE : El Sp := { ty := 36, sl := 23, ll := 0, sz := 4, by' := 32, z := .agg #[.int .i64 0, .int .i64 0, .bool false, .int .i64 0], f := fun s => [.int .i64 s.a, .int .i64 s.b, .bool s.t, .int .i64 s.l] }
theorem sOk : sE.Ok Try.prog := ⟨fun _ => rfl, fun x u hu => by simp [sE] at hu; rcases hu with rfl | rfl | rfl | rfl <;> rfl, by decide, rfl, by decide, by kernel_rfl, by kernel_rfl⟩
end Go.Proofs.Ytmhifofeobhhgaa
