/-
  DERIVED. What holds between two rounds of the iterator that parts a list.
-/
import Derived.Test.YtdegclccbgpgiaaDoorBPack0
set_option linter.unusedVariables false
set_option linter.unusedSimpArgs false
namespace Go.Proofs.YtdegclccbgpgiaaDoor
open Go.RowKit Go.Shelf Go.Proofs.SealMath
section
variable {T : Type} (f : T → List UInt8) (l : List T) (K : Nat → Prop) (w : World) (J : List (Nat × List T) → Option Nat → World → Prop)
/-- Between two rounds. -/
structure PkI (pv : Value) (a i : Nat) (pre : List (Nat × List T)) (cur : List T) (A : World) : Prop where
  ia : a + cur.length = i
  il : i ≤ l.length
  eq : pk f l = pre ++ pkA f a cur (l.drop i)
  le : ln f cur ≤ 4096
  row : A.ownsRow 0 5 1 pv (ln f cur) ((cur.flatMap f).map BV)
  j : J pre pv.ownBlock A
  kept : ∀ k, K k → A.heap[k]? = w.heap[k]?
  new : ∀ k, pv.ownBlock = some k → w.heap.size ≤ k
  size : w.heap.size ≤ A.heap.size
variable {f l K w J}
theorem PkI.cells {pv : Value} {a i : Nat} {pre : List (Nat × List T)} {cur : List T} {A : World} (h : PkI f l K w J pv a i pre cur A) : ∀ k, pv.ownBlock = some k → ∃ c t m, A.heap[k]? = some (.cells c t m) := fun k hk => by
  obtain ⟨c, hc⟩ := row_block h.row hk
  exact ⟨_, _, _, hc⟩
theorem PkI.below {pv : Value} {a i : Nat} {pre : List (Nat × List T)} {cur : List T} {A B : World} (h : PkI f l K w J pv a i pre cur A) (hb : Below A.heap.size A B) (hKl : ∀ k, K k → k < w.heap.size) (hJ : ∀ p s A s' B, J p s A → TrB s A s' B → J p s' B) : PkI f l K w J pv a i pre cur B :=
  { h with
    row := row_kept (F := fun _ => False) h.row (.below hb) (fun _ _ e => e)
    j := hJ _ _ _ _ _ h.j (TrB.below h.cells hb)
    kept := fun k hk => (hb.block k (Nat.lt_of_lt_of_le (hKl k hk) h.size)).trans (h.kept k hk)
    size := Nat.le_trans h.size hb.size }
/-- Behind a round in which the part was taken. -/
theorem PkI.took {pv : Value} {a i : Nat} {pre : List (Nat × List T)} {cur : List T} {A B : World} (h : PkI f l K w J pv a i pre cur A) (hKc : ∀ k, K k → ∃ c t m, w.heap[k]? = some (.cells c t m)) (hk : KpB K pv.ownBlock A B) :
    B.ownsRow 0 5 1 pv (ln f cur) ((cur.flatMap f).map BV) ∧ (∀ k, K k → B.heap[k]? = w.heap[k]?) := by
  refine ⟨?_, fun k hKk => ?_⟩
  · rcases h.row with ⟨h1, h2 | ⟨g, cap, cu, h2, h3, h4, h5⟩⟩
    · exact ⟨h1, .inl h2⟩
    · exact ⟨h1, .inr ⟨g, cap, cu, h2, h3, hk.2 g _ _ _ (.inr (by rw [h2]; rfl)) h4, h5⟩⟩
  · obtain ⟨c, t, m, hc⟩ := hKc k hKk
    rw [hk.2 k c t m (.inl hKk) ((h.kept k hKk).trans hc), hc]
/-- payload[:0]. -/
theorem cut0 {pv : Value} {n : Nat} {xs : List Value} {B : World} (h : B.ownsRow 0 5 1 pv n xs) : ∃ a cap, pv = .slice a n cap ∧ n ≤ cap ∧ B.ownsRow 0 5 1 (.slice a 0 cap) 0 [] ∧ Value.ownBlock (.slice a 0 cap) = pv.ownBlock := by
  rcases h.2 with ⟨rfl, rfl⟩ | ⟨g, cap, cur, rfl, h3, h4, h5, h6, h7, h8⟩
  · exact ⟨none, 0, rfl, Nat.le_refl _, ⟨rfl, .inl ⟨rfl, rfl⟩⟩, rfl⟩
  · exact ⟨_, cap, rfl, h5, ⟨rfl, .inr ⟨g, cap, cur, rfl, h3, h4, Nat.zero_le _, h6, h7, by simp⟩⟩, rfl⟩
/-- One more is put behind. -/
theorem PkI.more {pv v' : Value} {a i : Nat} {pre : List (Nat × List T)} {cur : List T} {B C : World} (hi : i < l.length) (hia : a + cur.length = i) (heq : pk f l = pre ++ pkA f a (cur ++ [l[i]]) (l.drop (i + 1))) (hle : ln f cur + (f l[i]).length ≤ 4096)
    (hc : ∀ k, pv.ownBlock = some k → ∃ c t m, B.heap[k]? = some (.cells c t m)) (hn : ∀ k, pv.ownBlock = some k → w.heap.size ≤ k) (hj : J pre pv.ownBlock B) (hk : ∀ k, K k → B.heap[k]? = w.heap[k]?) (hz : w.heap.size ≤ B.heap.size)
    (hKl : ∀ k, K k → k < w.heap.size) (hJ : ∀ p s A s' B, J p s A → TrB s A s' B → J p s' B)
    (hrow : C.ownsRow 0 5 1 v' (cur.flatMap f ++ f l[i]).length ((cur.flatMap f ++ f l[i]).map BV)) (hs : Stay (fun k => pv.ownBlock = some k) B C) (hloc : ∀ k, v'.ownBlock = some k → pv.ownBlock = some k ∨ B.heap.size ≤ k) :
    PkI f l K w J v' a (i + 1) pre (cur ++ [l[i]]) C :=
  { ia := by rw [List.length_append]; simp; omega
    il := hi
    eq := heq
    le := by rw [ln_snoc]; exact hle
    row := by have e : (cur ++ [l[i]]).flatMap f = cur.flatMap f ++ f l[i] := by simp
              show C.ownsRow 0 5 1 v' ((cur ++ [l[i]]).flatMap f).length _
              rw [e]; exact hrow
    j := hJ _ _ _ _ _ hj ⟨hs, hc, hloc, fun k hk => row_lt hrow hk⟩
    kept := fun k hKk => (hs.block k (Nat.lt_of_lt_of_le (hKl k hKk) hz) (fun e => by have := hn k e; have := hKl k hKk; omega)).trans (hk k hKk)
    new := fun k e => by rcases hloc k e with h | h; exact hn k h; omega
    size := Nat.le_trans hz hs.size }
end
end Go.Proofs.YtdegclccbgpgiaaDoor
