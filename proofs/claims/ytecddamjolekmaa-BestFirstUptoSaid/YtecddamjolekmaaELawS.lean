/-
  DERIVED. BestSet: what a top keeps is the first k of the set of hits.
-/
import Derived.Test.YtecddamjolekmaaEBegun
set_option linter.unusedVariables false
set_option linter.unusedSimpArgs false
namespace Go.Proofs.Ytecddamjolekmaa
open Classical
open Go.RowKit
theorem top_again {k : Nat} {L : List Ht} {h : Ht} (hm : h ∈ L) : putK k h (topL k L) = topL k L := by
  have h1 := topL_snoc k L h
  have h2 : topL k (L ++ [h]) = topL k L := topL_ext (fun x => by
    simp only [List.mem_append, List.mem_singleton]
    exact ⟨fun e => e.elim id (fun e => e ▸ hm), .inl⟩)
  rw [h2] at h1
  exact h1.symm
theorem HRow.lat {W : World} {v : Value} {X : List Ht} (h : HRow W v X) : ∃ a c, v = .slice a X.length c ∧ LAt W a X := by
  obtain ⟨a, c, e, _, l⟩ := own_lat h
  exact ⟨a, c, e, l⟩
/-- While a row of the call's own lies beside a top. -/
structure Beside (w W : World) (t k kp : Nat) (X : List Ht) (v : Value) (Y : List Ht) : Prop where
  own : Own w W t k kp X
  row : HRow W v Y
  apart : ∀ j, Ft W kp j → v.ownBlock ≠ some j
theorem Beside.frk {w W W' : World} {t k kp : Nat} {X Z Y : List Ht} {v : Value} (h : Beside w W t k kp X v Y) (hT : TT W' t k kp Z) (f : FrK kp W W') : Beside w W' t k kp Z v Y :=
  ⟨h.own.frk hT f, row_kept h.row f.stay (fun j hj hF => h.apart j hF hj), fun j hj e => by
    rcases f.loc j hj with h1 | h1
    · exact h.apart j h1 e
    · have := row_lt h.row e; omega⟩
theorem Beside.more {w W W' : World} {t k kp : Nat} {X Y : List Ht} {v : Value} (h : Beside w W t k kp X v Y) (b : Below W.heap.size W W') : Beside w W' t k kp X v Y :=
  ⟨h.own.more b, HRow.below h.row b, fun j hj => h.apart j (((h.own.tt.below b).2 j).1 hj)⟩
theorem Own.told {w W W' : World} {t k kp : Nat} {X Y : List Ht} {v : Value} (h : Own w W t k kp X) (t' : Told W W' v Y) : Beside w W' t k kp X v Y :=
  ⟨h.more t'.2.2, t'.1, fun j hj e => by
    have h1 := t'.2.1 j e
    have h2 := h.tt.2.1.ftlt j (((h.tt.below t'.2.2).2 j).1 hj)
    omega⟩
def RA (w : World) (t k kp : Nat) (X : List Ht) (v : Value) (n : Nat) (u : Value) (wr : World) : Prop := ∃ i : Nat, u = .int .i64 i ∧ i ≤ n ∧ Hid (Beside w wr t k kp X v X)
end Go.Proofs.Ytecddamjolekmaa
