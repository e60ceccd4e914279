/-
  DERIVED. The laws' first: is a list the first k of the hits?
-/
import Derived.Test.YtecddamjolekmaaELaw0
set_option linter.unusedVariables false
set_option linter.unusedSimpArgs false
namespace Go.Proofs.Ytecddamjolekmaa
open Classical
open Go.RowKit
theorem LAt.hit {w W : World} {la : Option Addr} {l : List Ht} (h : LAt w la l) (hW : ∀ k : Nat, k < w.heap.size → W.heap[k]? = w.heap[k]?) (i : Nat) (hi : i < l.length) : ∃ g off, la = some ⟨g, off, none⟩ ∧ W.cell? ⟨g, off + i * 3, none⟩ = some (.int .i64 l[i].d) ∧ W.cell? ⟨g, off + i * 3 + 1, none⟩ = some (.int .i64 l[i].i) ∧ W.cell? ⟨g, off + i * 3 + 2, none⟩ = some (.string l[i].c) := by
  have hne : l ≠ [] := fun e => by rw [e] at hi; simp at hi
  obtain ⟨g, off, e, r⟩ := h.at' hne
  exact ⟨g, off, e, row_en r (hW g (h.lt e hne)) i hi⟩
theorem drew_heap {w W : World} (h : Drew w W) (k : Nat) : W.heap[k]? = w.heap[k]? := by obtain ⟨m, rfl⟩ := h; rfl
theorem mem_take_step {L : List Ht} {x : Ht} {j : Nat} (hj : j < L.length) : decide (x ∈ L.take (j + 1)) = (decide (x ∈ L.take j) || decide (L[j] = x)) := by
  rw [List.take_succ_eq_append_getElem hj]
  rw [Bool.eq_iff_iff]
  simp only [decide_eq_true_eq, Bool.or_eq_true, List.mem_append, List.mem_singleton]
  exact ⟨fun h => h.imp id Eq.symm, fun h => h.imp id Eq.symm⟩
/-- What first asks. -/
structure Fst (k : Nat) (T L : List Ht) : Prop where
  sub : ∀ x ∈ T, x ∈ L
  srt : Srt T
  len : T.length ≤ k
  out : ∀ x ∈ L, x ∉ T → T.length = k ∧ ∀ y ∈ T, cpH y x < 0
theorem fst_top (k : Nat) (L : List Ht) : Fst k (topL k L) L := ⟨fun x h => topL_sub h, topL_srt k L, topL_len k L, fun x h1 h2 => topL_out h1 h2⟩
def RI (w1 : World) (x : Ht) (L : List Ht) (b u : Value) (wr : World) : Prop := ∃ j : Nat, b = .bool (decide (x ∈ L.take j)) ∧ u = .int .i64 j ∧ j ≤ L.length ∧ Drew w1 wr
def RO (w : World) (n : Nat) (u : Value) (wr : World) : Prop := ∃ i : Nat, u = .int .i64 i ∧ i ≤ n ∧ Below w.heap.size w wr
end Go.Proofs.Ytecddamjolekmaa
