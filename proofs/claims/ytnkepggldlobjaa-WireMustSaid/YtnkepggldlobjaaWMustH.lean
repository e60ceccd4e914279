/-
  DERIVED. WireMust behind Ask, with hits.
-/
import Derived.Test.YtnkepggldlobjaaWMust0
import Derived.Test.YtnkepggldlobjaaWRdH
import Derived.Test.YtnkepggldlobjaaWDrop
set_option linter.unusedVariables false
set_option linter.unusedSimpArgs false
namespace Go.Proofs.Ytnkepggldlobjaa
open Go.RowKit Go.Proofs.SealMath
/-- What is kept while the hits are made. -/
structure MI (w wr : World) (rb : Nat) (v : Value) (K : List Ht) : Prop where
  rep : HC wr rb #[.int .i64 0, .int .i64 0, .string ⟨#[]⟩, v] 37
  row : HRow wr v K
  own : ∀ k, v.ownBlock = some k → w.heap.size ≤ k
  old : Below w.heap.size w wr
  hs : MHs K
def MR (w : World) (rb : Nat) (u : Value) (wr : World) : Prop := ∃ (K : List Ht) (v : Value) (j : Nat), u = .int .i64 j ∧ j ≤ 1000 ∧ Hid (j = K.length ∧ MI w wr rb v K)
theorem MI.app {w wr w5 : World} {rb : Nat} {v v5 : Value} {K : List Ht} {x : Ht} (h : MI w wr rb v K) (hx : MHs (K ++ [x])) (hrb : w.heap.size ≤ rb) (hr : HRow w5 v5 (K ++ [x])) (st : Stay (fun k => v.ownBlock = some k) wr w5) (loc : ∀ k, v5.ownBlock = some k → v.ownBlock = some k ∨ wr.heap.size ≤ k) : MI w (w5.setCell ⟨rb, 3, none⟩ v5) rb v5 (K ++ [x]) := by
  have nv : ¬ v.ownBlock = some rb := fun e => by
    obtain ⟨cur, hc⟩ := row_block h.row e
    have := h.rep
    unfold HC at this
    rw [hc] at this
    injection this with this; injection this with _ this; revert this; decide
  have r5 := HC.stay h.rep st nv
  have nv5 : ¬ v5.ownBlock = some rb := fun e => by
    obtain ⟨cur, hc⟩ := row_block hr e
    unfold HC at r5
    rw [hc] at r5
    injection r5 with r5; injection r5 with _ r5; revert r5; decide
  refine ⟨by simpa using HC.set r5 3 v5, HRow.stay (F := fun k => k = rb) hr (Stay.setCell (F := fun k => k = rb) (p := ⟨rb, 3, none⟩) (Stay.refl _ w5) (fun _ => rfl) _) (fun k hk e => nv5 (e ▸ hk)), fun k hk => (loc k hk).elim (h.own k) (fun g => Nat.le_trans h.old.size g), ?_, hx⟩
  have b5 : Below w.heap.size w w5 := h.old.trans (Stay.toBelow st (fun k hk e => by have := h.own k e; omega) h.old.size)
  exact b5.setCell hrb _
end Go.Proofs.Ytnkepggldlobjaa
