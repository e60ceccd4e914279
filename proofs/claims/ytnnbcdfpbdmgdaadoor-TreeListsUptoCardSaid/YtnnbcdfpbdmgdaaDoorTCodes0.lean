/-
  DERIVED. codes: what its walk needs: rows of one cell, a range over no map, the least measure.
-/
import Derived.Test.YtnnbcdfpbdmgdaaDoorTDrop
import Derived.Test.YtnnbcdfpbdmgdaaDoorShelf
import Derived.Test.YtnnbcdfpbdmgdaaDoorTMath6
import Derived.Sort.OwnSorted
import Derived.Maps.RangeWalk
set_option linter.unusedVariables false
set_option linter.unusedSimpArgs false
namespace Go.Proofs.YtnnbcdfpbdmgdaaDoor
open Go.RowKit Go.Maps Go.Sort Go.Proofs.BitMath Go.Proofs.TreeMath
/-- A measure that is the least of what may be. -/
theorem least {α : Type} (P : α → Nat → Prop) : ∃ μ : α → Nat, (∀ a m, P a m → μ a ≤ m) ∧ ∀ a, (∃ m, P a m) → P a (μ a) := by
  have h : ∀ a, ∃ m, (∀ k, P a k → m ≤ k) ∧ ((∃ k, P a k) → P a m) := fun a => by
    have key : ∀ k, P a k → ∃ m, P a m ∧ ∀ j, P a j → m ≤ j := by
      intro k
      induction k using Nat.strongRecOn with
      | _ k ih =>
        intro hk
        by_cases hlt : ∃ j, j < k ∧ P a j
        · obtain ⟨j, h1, h2⟩ := hlt
          exact ih j h1 h2
        · exact ⟨k, hk, fun j hj => by
            by_cases h : j < k
            · exact absurd ⟨j, h, hj⟩ hlt
            · omega⟩
    by_cases he : ∃ k, P a k
    · obtain ⟨k, hk⟩ := he
      obtain ⟨m, h1, h2⟩ := key k hk
      exact ⟨m, h2, fun _ => h1⟩
    · exact ⟨0, fun k hk => absurd ⟨k, hk⟩ he, fun h => absurd h he⟩
  obtain ⟨f, hf⟩ := Classical.axiomOfChoice h
  exact ⟨f, fun a m hm => (hf a).1 m hm, fun a ha => (hf a).2 ha⟩
theorem range_nil (w : World) : (Instr.range 71 (.map none)).run Tryd.prog w = .ok (.pointer (some ⟨w.heap.size, 0, none⟩)) (w.alloc (.mapIter none 0 #[] 0)) := by
  simp [Instr.range, run_underlying Tryd.underlying71, Result.andThen, go_sem]
theorem next_nil {w : World} {r : Nat} (h : w.heap[r]? = some (.mapIter none 0 #[] 0)) (ty : TypeId) : (Instr.next (.pointer (some ⟨r, 0, none⟩)) false ty).run Tryd.prog w = .ok (.tuple #[.bool false]) w := by
  simp only [Instr.next, getObj, Sem.run_bind, Sem.run, h, Result.andThen]
  rfl
/-- A row of one cell each, cut. -/
theorem row_pre {w : World} {B e : Nat} {a : Option Addr} {len cap : Nat} {xs : List Value} (h : w.ownsRow B e 1 (.slice a len cap) len xs) (k : Nat) (hk : k ≤ len) : w.ownsRow B e 1 (.slice a k cap) k (xs.take k) := by
  have hl : xs.length = len := by have := h.1; simpa using this
  rcases h with ⟨h1, ⟨h2, h3⟩ | ⟨g, cap', cur, h2, h3, h4, h5, h6, h7, h8⟩⟩
  · cases h2
    obtain rfl : k = 0 := by omega
    exact ⟨by simp, .inl ⟨rfl, rfl⟩⟩
  · cases h2
    refine ⟨by simp; omega, .inr ⟨g, cap, cur, rfl, h3, h4, by omega, h6, h7, ?_⟩⟩
    rw [← h8, List.take_take, show min k (len * 1) = k * 1 by omega]
def sV {n : Nat} (c : Cd n) : Value := .string c.1
theorem sV_enc {n : Nat} (c : Cd n) : sV c = encStr c.1.data.toList := by
  unfold sV encStr
  simp
/-- The codes of those that were met and are live. -/
def lvc {n : Nat} (T : List (Nd (Cd n))) (V : List Nat) : List (Cd n) := V.filterMap (fun j => (T[j]?).bind (fun nd => if nd.live = true then some nd.code else none))
theorem lvc_yes {n : Nat} {T : List (Nd (Cd n))} {V : List Nat} {i : Nat} {nd : Nd (Cd n)} (h : T[i]? = some nd) (hl : nd.live = true) : lvc T (V ++ [i]) = lvc T V ++ [nd.code] := by
  unfold lvc
  rw [List.filterMap_append]
  simp [h, hl]
theorem lvc_no {n : Nat} {T : List (Nd (Cd n))} {V : List Nat} {i : Nat} {nd : Nd (Cd n)} (h : T[i]? = some nd) (hl : nd.live = false) : lvc T (V ++ [i]) = lvc T V := by
  unfold lvc
  rw [List.filterMap_append]
  simp [h, hl]
theorem lvc_range {n : Nat} (T : List (Nd (Cd n))) : lvc T (List.range T.length) = lives T := by
  have key : ∀ k, k ≤ T.length → lvc T (List.range k) = lives (T.take k) := by
    intro k
    induction k with
    | zero => intro _; rfl
    | succ k ih =>
      intro hk
      have hkT : k < T.length := by omega
      rw [List.range_succ, List.take_succ_eq_append_getElem hkT]
      have hg : T[k]? = some T[k] := List.getElem?_eq_getElem hkT
      cases hl : T[k].live with
      | true =>
        rw [lvc_yes hg hl, ih (by omega)]
        unfold lives
        rw [List.filter_append, List.map_append, List.filter_cons_of_pos hl]
        rfl
      | false =>
        rw [lvc_no hg hl, ih (by omega)]
        unfold lives
        rw [List.filter_append, List.map_append, List.filter_cons_of_neg (by rw [hl]; decide)]
        simp only [List.filter_nil, List.map_nil, List.append_nil]
  rw [key T.length (Nat.le_refl _), List.take_of_length_le (Nat.le_refl _)]
theorem lvc_len {n : Nat} (T : List (Nd (Cd n))) (V : List Nat) : (lvc T V).length ≤ V.length := List.length_filterMap_le _ _
/-- What stands while the nodes are met. -/
structure CS {n : Nat} (W wr : World) (T : List (Nd (Cd n))) (bs : List Nat) (V L : List Nat) (lv wv : Value) : Prop where
  cv : CV T V L
  lr : wr.ownsRow W.heap.size 9 1 lv (lvc T V).length ((lvc T V).map sV)
  wq : wr.ownsRow W.heap.size 62 1 wv L.length (L.map (fun k => ptr bs (some k)))
  lnn : lv ≠ .slice none 0 0
  st : Below W.heap.size W wr
theorem CS.apart {wr : World} {B B' : Nat} {a b : Value} {n m : Nat} {xs ys : List Value} (h : wr.ownsRow B 9 1 a n xs) (h' : wr.ownsRow B' 62 1 b m ys) (k : Nat) (h1 : a.ownBlock = some k) : b.ownBlock ≠ some k := fun h2 => by
  obtain ⟨c1, e1⟩ := row_block h h1
  obtain ⟨c2, e2⟩ := row_block h' h2
  rw [e1] at e2
  simp at e2
end Go.Proofs.YtnnbcdfpbdmgdaaDoor
