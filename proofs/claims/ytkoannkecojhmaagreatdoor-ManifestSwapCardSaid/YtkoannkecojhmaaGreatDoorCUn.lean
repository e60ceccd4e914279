/-
  DERIVED. A payload, unpacked: what it says.
-/
import Derived.Test.YtkoannkecojhmaaGreatDoorCRead
import Derived.Test.YtkoannkecojhmaaGreatDoorCTwin
set_option linter.unusedVariables false
set_option linter.unusedSimpArgs false
namespace Go.Proofs.YtkoannkecojhmaaGreatDoor
open Go.RowKit Go.Proofs.SealMath
def ruOf (l : List Nat) : Ru := ⟨(l.getD 0 0 : Nat), (l.getD 1 0 : Nat), (l.getD 2 0 : Nat), (l.getD 3 0 : Nat)⟩
def rdRs (p : ByteArray) : Nat → Nat → Except Int (List Ru × Nat)
  | 0, a => .ok ([], a)
  | k + 1, a => match rd p 1152921504606846976 4 a with
    | .error e => .error e
    | .ok (l, a') => (rdRs p k a').map fun q => (ruOf l :: q.1, q.2)
def mfOf (h : List Nat) (rs : List Ru) : Mf := ⟨(h.getD 0 0 : Nat), (h.getD 1 0 : Nat), (h.getD 2 0 : Nat), (h.getD 3 0 : Nat), (h.getD 4 0 : Nat), (h.getD 5 0 : Nat), rs⟩
/-- What a payload says. -/
def unP (p : ByteArray) : Except Int Mf :=
  match rd p 1152921504606846976 6 0 with
  | .error e => .error e
  | .ok (h, a1) => match rd p 24 1 a1 with
    | .error e => .error e
    | .ok (c, a2) => match rdRs p (c.getD 0 0) a2 with
      | .error e => .error e
      | .ok (rs, a3) => if a3 = p.size then .ok (mfOf h rs) else .error 37
def unE : Except Int Mf → Int
  | .ok _ => 0
  | .error e => e
theorem rd_len {b : ByteArray} {most : Nat} : ∀ {n a : Nat} {l : List Nat} {p : Nat}, rd b most n a = .ok (l, p) → l.length = n ∧ ∀ x ∈ l, x ≤ most
  | 0, a, l, p, h => by simp only [rd] at h; cases h; exact ⟨rfl, fun x hx => by cases hx⟩
  | n + 1, a, l, p, h => by
    simp only [rd] at h
    split at h
    · cases h
    · split at h
      · cases h
      · next hm =>
        cases hr : rd b most n (vA b a).2.1 with
        | error e => rw [hr] at h; cases h
        | ok q =>
          obtain ⟨l', p'⟩ := q
          rw [hr] at h
          simp only [Except.map] at h
          cases h
          obtain ⟨h1, h2⟩ := rd_len hr
          refine ⟨by simp [h1], fun x hx => ?_⟩
          rcases List.mem_cons.1 hx with rfl | hx
          · omega
          · exact h2 x hx
theorem rd_place {b : ByteArray} {most : Nat} : ∀ {n a : Nat} {l : List Nat} {p : Nat}, a ≤ b.size → rd b most n a = .ok (l, p) → p ≤ b.size
  | 0, a, l, p, ha, h => by simp only [rd] at h; cases h; exact ha
  | n + 1, a, l, p, ha, h => by
    simp only [rd] at h
    split at h
    · cases h
    · next he =>
      split at h
      · cases h
      · have hv : vA b a = ((vA b a).1, (vA b a).2.1, 0) := Prod.ext rfl (Prod.ext rfl (Classical.byContradiction he))
        have hq := (vA_only b a _ _ hv).2.2.2
        cases hr : rd b most n (vA b a).2.1 with
        | error e => rw [hr] at h; cases h
        | ok q =>
          obtain ⟨l', p'⟩ := q
          rw [hr] at h
          simp only [Except.map] at h
          cases h
          exact rd_place hq hr
theorem rdRs_map (pre : List Ru) (x : Ru) (r : Except Int (List Ru × Nat)) : (r.map fun p => (x :: p.1, p.2)).map (fun p => (pre ++ p.1, p.2)) = r.map (fun p => ((pre ++ [x]) ++ p.1, p.2)) := by
  cases r with
  | error e => rfl
  | ok p => simp [Except.map]
/-- A manifest's box, while it is filled. -/
def MB (w : World) (g : Nat) (zs : List Int) (v : Value) : Prop := Nb w g 26 zs [v]
theorem MB.cell6 {w : World} {g : Nat} {zs : List Int} {v : Value} (h : MB w g zs v) (hz : zs.length = 6) : w.cell? ⟨g, 6, none⟩ = some v := by
  rw [cell_of_row _ _ 6 _ _ _ h]
  simp [hz]
theorem nb_new (w : World) (t : TypeId) (zs : List Int) (rest : List Value) : Nb (w.alloc (.cells (zs.map IV ++ rest).toArray t)) w.heap.size t zs rest := heap_alloc_last w _
theorem Nb.kept {F : Nat → Prop} {w w' : World} {g : Nat} {t : TypeId} {zs : List Int} {rest : List Value} (h : Nb w g t zs rest) (s : Stay F w w') (hn : ¬ F g) : Nb w' g t zs rest := (s.block g (Array.getElem?_eq_some_iff.1 h).1 hn).trans h
theorem Nb.lt {w : World} {g : Nat} {t : TypeId} {zs : List Int} {rest : List Value} (h : Nb w g t zs rest) : g < w.heap.size := (Array.getElem?_eq_some_iff.1 h).1
end Go.Proofs.YtkoannkecojhmaaGreatDoor
