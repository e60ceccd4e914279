/-
  DERIVED. The fields of a request, read.
-/
import Derived.Test.YtjdknijjkjmafaaWRd2
import Derived.Test.YtjdknijjkjmafaaWHand
import Derived.Test.YtjdknijjkjmafaaWFind
set_option linter.unusedVariables false
set_option linter.unusedSimpArgs false
namespace Go.Proofs.Ytjdknijjkjmafaa
open Go.RowKit Go.Proofs.SealMath
/-- The fields of a request: ID, Code, K, R. -/
structure Fs where
  id : Nat
  c : List UInt8
  k : Nat
  r : Nat
abbrev rqC (op : Nat) (f : Fs) : Array Value := #[.int .i64 op, .int .i64 f.id, Tx f.c, .int .i64 f.k, .int .i64 f.r]
/-- What is read of a request of operation i + 1. -/
def rdQ (i : Nat) (b : ByteArray) (s : RS) : Fs × RS :=
  match i with
  | 0 => (⟨(rdN b s).1, (rdT b (rdN b s).2).1, 0, 0⟩, (rdT b (rdN b s).2).2)
  | 1 => (⟨(rdN b s).1, [], 0, 0⟩, (rdN b s).2)
  | 2 => (⟨(rdN b s).1, [], 0, 0⟩, (rdN b s).2)
  | 3 => (⟨0, (rdT b s).1, (rdN b (rdT b s).2).1, 0⟩, (rdN b (rdT b s).2).2)
  | 4 => (⟨0, (rdT b s).1, 0, (rdN b (rdT b s).2).1⟩, (rdN b (rdT b s).2).2)
  | _ => (⟨0, [], 0, 0⟩, s)
/-- A handler's box lies beside what is written. -/
theorem box_kept {w w1 : World} {H : Hn} {r g : Nat} (s : Stay (fun k => k = r ∨ k = g) (w.alloc H.box).drew w1) (hr : r < w.heap.size) (hg : g < w.heap.size) : w1.heap[w.heap.size]? = some H.box :=
  HC.stay (w := (w.alloc H.box).drew) (heap_alloc_last w H.box) s (fun h => by rcases h with h | h <;> omega)
theorem box_stay {w w1 : World} {H : Hn} {F : Nat → Prop} (s : Stay F (w.alloc H.box).drew w1) : Stay F w w1 := (((Stay.refl F w).alloc H.box).drew).trans s
theorem box_kept2 {w w1 w2 : World} {H : Hn} {r g : Nat} (h : w1.heap[w.heap.size]? = some H.box) (s : Stay (fun k => k = r ∨ k = g) w1.drew w2) (hr : r < w.heap.size) (hg : g < w.heap.size) : w2.heap[w.heap.size]? = some H.box :=
  HC.stay (w := w1.drew) h s (fun h => by rcases h with h | h <;> omega)
theorem rq_read (i : Nat) (hi : i < 9) (b : ByteArray) (s : RS) (w : World) (r g : Nat) (hb : b.size < 4611686018427387904) (hp : s.1 ≤ b.size) (h : RdAt w r b s) (hg : HC w g (rqC (i + 1) ⟨0, [], 0, 0⟩) 40) :
    Calls Try.prog (rqF i) #[Pt g, (rdH r).v] w fun e w' => e = Un ∧ RdAt w' r b (rdQ i b s).2 ∧ HC w' g (rqC (i + 1) (rdQ i b s).1) 40 ∧ Stay (fun k => k = r ∨ k = g) w w' := by
  have hne : g ≠ r := HC.ne hg h (by decide)
  have lr := HC.lt h
  have lg := HC.lt hg
  have E := rdH_ent r
  have hc : i = 0 ∨ i = 1 ∨ i = 2 ∨ i = 3 ∨ i = 4 ∨ 5 ≤ i := by omega
  have hA : HC (w.alloc (rdH r).box).drew g (rqC (i + 1) ⟨0, [], 0, 0⟩) 40 := HC.drew (hg.alloc _)
  have rA : RdAt (w.alloc (rdH r).box).drew r b s := HC.drew (h.alloc _)
  rcases hc with rfl | rfl | rfl | rfl | rfl | hi5
  · refine idAndCode_g (rdH r) g w _ E.1 E.2.1 ?_
    refine (rnumber_any b s _ r g 1 _ _ hb rA hA rfl hne).mono ?_
    rintro e w1 ⟨rfl, r1, g1, s1⟩
    refine ⟨rfl, box_kept s1 lr lg, ?_⟩
    refine (rtext_any b _ _ r g 2 _ _ ⟨#[]⟩ hb (rdN_le b s hp).1 (HC.drew r1) (HC.drew g1) rfl hne).mono ?_
    rintro e w2 ⟨rfl, r2, g2, s2⟩
    exact ⟨rfl, box_kept2 (box_kept s1 lr lg) s2 lr lg, rfl, r2, g2, (box_stay s1).drew.trans s2⟩
  · refine id_g (rdH r) g w _ E.1 ?_
    refine (rnumber_any b s _ r g 1 _ _ hb rA hA rfl hne).mono ?_
    rintro e w1 ⟨rfl, r1, g1, s1⟩
    exact ⟨rfl, box_kept s1 lr lg, rfl, r1, g1, box_stay s1⟩
  · refine id_g (rdH r) g w _ E.1 ?_
    refine (rnumber_any b s _ r g 1 _ _ hb rA hA rfl hne).mono ?_
    rintro e w1 ⟨rfl, r1, g1, s1⟩
    exact ⟨rfl, box_kept s1 lr lg, rfl, r1, g1, box_stay s1⟩
  · refine codeAndK_g (rdH r) g w _ E.1 E.2.1 ?_
    refine (rtext_any b s _ r g 2 _ _ ⟨#[]⟩ hb hp rA hA rfl hne).mono ?_
    rintro e w1 ⟨rfl, r1, g1, s1⟩
    refine ⟨rfl, box_kept s1 lr lg, ?_⟩
    refine (rnumber_any b _ _ r g 3 _ _ hb (HC.drew r1) (HC.drew g1) rfl hne).mono ?_
    rintro e w2 ⟨rfl, r2, g2, s2⟩
    exact ⟨rfl, box_kept2 (box_kept s1 lr lg) s2 lr lg, rfl, r2, g2, (box_stay s1).drew.trans s2⟩
  · refine codeAndR_g (rdH r) g w _ E.1 E.2.1 ?_
    refine (rtext_any b s _ r g 2 _ _ ⟨#[]⟩ hb hp rA hA rfl hne).mono ?_
    rintro e w1 ⟨rfl, r1, g1, s1⟩
    refine ⟨rfl, box_kept s1 lr lg, ?_⟩
    refine (rnumber_any b _ _ r g 4 _ _ hb (HC.drew r1) (HC.drew g1) rfl hne).mono ?_
    rintro e w2 ⟨rfl, r2, g2, s2⟩
    exact ⟨rfl, box_kept2 (box_kept s1 lr lg) s2 lr lg, rfl, r2, g2, (box_stay s1).drew.trans s2⟩
  · have e5 : rqF i = 74 := by
      have : i = 5 ∨ i = 6 ∨ i = 7 ∨ i = 8 := by omega
      rcases this with rfl | rfl | rfl | rfl <;> rfl
    have e6 : rdQ i b s = (⟨0, [], 0, 0⟩, s) := by
      have : i = 5 ∨ i = 6 ∨ i = 7 ∨ i = 8 := by omega
      rcases this with rfl | rfl | rfl | rfl <;> rfl
    rw [e5, e6]
    exact nothingAsked_g (rdH r) g w _ ⟨rfl, h.alloc _, hg.alloc _, (Stay.refl _ w).alloc _⟩
end Go.Proofs.Ytjdknijjkjmafaa
