/-
  DERIVED. What stays while other blocks are written; rows of cells.
-/
import Derived.Test.YtecodnilbojodaaSBase
import Derived.Test.YtecodnilbojodaaSBA
import Derived.Maps.AppendAt
import Derived.Lib.AppendStr
namespace Go.Proofs.Ytecodnilbojodaa
open Go.RowKit
/-- What stays behind a call that may write blocks of F alone. -/
structure Stay (F : Nat → Prop) (w w' : World) : Prop where
  os : w'.os = w.os
  tape : w'.tape = w.tape
  output : w'.output = w.output
  size : w.heap.size ≤ w'.heap.size
  block : ∀ k, k < w.heap.size → ¬ F k → w'.heap[k]? = w.heap[k]?
theorem Stay.refl (F : Nat → Prop) (w : World) : Stay F w w := ⟨rfl, rfl, rfl, Nat.le_refl _, fun _ _ _ => rfl⟩
theorem Stay.trans {F : Nat → Prop} {a b c : World} (h : Stay F a b) (k : Stay F b c) : Stay F a c :=
  ⟨k.os.trans h.os, k.tape.trans h.tape, k.output.trans h.output, Nat.le_trans h.size k.size, fun i hi hF => (k.block i (Nat.lt_of_lt_of_le hi h.size) hF).trans (h.block i hi hF)⟩
theorem Stay.mono {F G : Nat → Prop} {a b : World} (h : Stay F a b) (hG : ∀ k, k < a.heap.size → F k → G k) : Stay G a b :=
  ⟨h.os, h.tape, h.output, h.size, fun i hi hn => h.block i hi fun hF => hn (hG i hi hF)⟩
/-- .. the second may write what the first has made, too. -/
theorem Stay.andThen {F G : Nat → Prop} {a b c : World} (h : Stay F a b) (k : Stay G b c) (hG : ∀ i, i < a.heap.size → G i → F i) : Stay F a c :=
  ⟨k.os.trans h.os, k.tape.trans h.tape, k.output.trans h.output, Nat.le_trans h.size k.size, fun i hi hF => (k.block i (Nat.lt_of_lt_of_le hi h.size) fun hg => hF (hG i hi hg)).trans (h.block i hi hF)⟩
theorem Stay.below {F : Nat → Prop} {a b : World} (h : Below a.heap.size a b) : Stay F a b := ⟨h.os, h.tape, h.output, h.size, fun i hi _ => h.block i hi⟩
theorem Stay.toBelow {F : Nat → Prop} {a b : World} {B : Nat} (h : Stay F a b) (hF : ∀ k, k < B → ¬ F k) (hB : B ≤ a.heap.size) : Below B a b := ⟨h.os, h.tape, h.output, h.size, fun i hi => h.block i (Nat.lt_of_lt_of_le hi hB) (hF i hi)⟩
theorem Stay.grown {F : Nat → Prop} {a b : World} {r : Option Nat} (h : a.grownBy b r) (hF : ∀ k, r = some k → F k) : Stay F a b := ⟨h.os, h.tape, h.output, h.size, fun i hi hn => h.block i hi fun e => hn (hF i e.symm)⟩
theorem Stay.drew {F : Nat → Prop} {a b : World} (h : Stay F a b) : Stay F a b.drew := ⟨h.os, h.tape, h.output, h.size, h.block⟩
theorem Stay.undrew {F : Nat → Prop} {a b : World} (h : Stay F a.drew b) : Stay F a b := ⟨h.os, h.tape, h.output, h.size, h.block⟩
theorem Stay.alloc {F : Nat → Prop} {a b : World} (h : Stay F a b) (o : Obj) : Stay F a (b.alloc o) := h.trans (.grown (World.grownBy_alloc b o none) (by simp))
theorem Stay.setCell {F : Nat → Prop} {a b : World} (h : Stay F a b) {p : Addr} (hp : p.block < a.heap.size → F p.block) (u : Value) : Stay F a (b.setCell p u) :=
  ⟨h.os, h.tape, h.output, by simpa using h.size, fun i hi hn => (Below.heap_setCell b p u i fun e => hn (e ▸ hp (e ▸ hi))).trans (h.block i hi hn)⟩
theorem Hid.mk {p : Prop} (h : p) : Hid p := h
abbrev Pt (p : Nat) : Value := .pointer (some ⟨p, 0, none⟩)
theorem nm_size (s : ByteArray) : s.data.toList.length = s.size := by simp
theorem strCells_BV (s : ByteArray) : Lib.strCells s = s.data.toList.map BV := rfl
theorem row_kept {F : Nat → Prop} {w w' : World} {B e sz : Nat} {v : Value} {n : Nat} {xs : List Value} (h : w.ownsRow B e sz v n xs) (s : Stay F w w') (hn : ∀ k, v.ownBlock = some k → ¬ F k) : w'.ownsRow B e sz v n xs := by
  rcases h with ⟨h1, h2 | ⟨g, cap, cur, h2, h3, h4, h5⟩⟩
  · exact ⟨h1, .inl h2⟩
  · exact ⟨h1, .inr ⟨g, cap, cur, h2, h3, (s.block g (Array.getElem?_eq_some_iff.1 h4).1 (hn _ (by rw [h2]; rfl))).trans h4, h5⟩⟩
theorem slice_form {w : World} {B e sz : Nat} {v : Value} {n : Nat} {xs : List Value} (h : w.ownsRow B e sz v n xs) : ∃ a cap, v = .slice a n cap ∧ n ≤ cap := by
  rcases h.2 with ⟨rfl, rfl⟩ | ⟨g, cap, cur, rfl, _, _, hc, _⟩
  · exact ⟨none, 0, rfl, Nat.le_refl _⟩
  · exact ⟨_, cap, rfl, hc⟩
theorem row_block {w : World} {B e sz : Nat} {v : Value} {n k : Nat} {xs : List Value} (h : w.ownsRow B e sz v n xs) (hk : v.ownBlock = some k) : ∃ cur, w.heap[k]? = some (.cells cur e (0, 0)) := by
  rcases h.2 with ⟨rfl, _⟩ | ⟨g, cap, cur, rfl, _, hg, _⟩
  · cases hk
  · cases hk; exact ⟨cur, hg⟩
theorem row_lt {w : World} {B e sz : Nat} {v : Value} {n k : Nat} {xs : List Value} (h : w.ownsRow B e sz v n xs) (hk : v.ownBlock = some k) : k < w.heap.size := by
  obtain ⟨cur, hc⟩ := row_block h hk
  exact (Array.getElem?_eq_some_iff.1 hc).1
end Go.Proofs.Ytecodnilbojodaa
