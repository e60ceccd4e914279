/-
  DERIVED. A set of numbers as a map of the program's.
-/
import Derived.Test.YtecodnilbojodaaMBase
import Derived.Maps.OwnSet
import Derived.Maps.OwnOps
import Derived.Maps.Views
set_option linter.unusedVariables false
set_option linter.unusedSimpArgs false
namespace Go.Proofs.Ytecodnilbojodaa
open Go.RowKit Go.Maps Go.ChangeMaps Go.MapKept
abbrev I64 (n : Int) : Prop := -9223372036854775808 ≤ n ∧ n ≤ 9223372036854775807
theorem wf_i64 {n : Int} (h : I64 n) : (Lit.int .i64 n).wf = true := by
  have e1 : IntKind.i64.min = -9223372036854775808 := rfl
  have e2 : IntKind.i64.max = 9223372036854775807 := rfl
  simp [Lit.wf, e1, e2]
  omega
theorem law3 : Keyed Try.prog 3 := int_keyed Try.underlying3
theorem key3 {z : Int} (hz : I64 z) : keyOf Try.prog 3 (.int .i64 z) = some (.int .i64 z) := keyOf_int_mk Try.underlying3 (wf_i64 hz)
theorem zeroU (w : World) : (zeroValue 31).run Try.prog w = .ok (.agg #[]) w := by kernel_rfl
/-- The map in block mb holds just these numbers. -/
def IS (W : World) (mb n : Nat) (xs : List Int) : Prop := ∃ D : DataW Unit, W.ownsMap Try.prog 3 unitElem mb n D ∧ ∀ z, I64 z → Maps.has D (.int .i64 z) = decide (z ∈ xs)
theorem IS.lt {W : World} {mb n : Nat} {xs : List Int} (h : IS W mb n xs) : mb < W.heap.size := by
  obtain ⟨D, h1, _⟩ := h
  exact h1.lt
theorem IS.block {W W' : World} {mb n : Nat} {xs : List Int} (h : IS W mb n xs) (e : W'.heap[mb]? = W.heap[mb]?) : IS W' mb n xs := by
  obtain ⟨D, ⟨es, clock, hb, r⟩, h2⟩ := h
  exact ⟨D, ⟨es, clock, e.trans hb, r⟩, h2⟩
theorem IS.below {W W' : World} {mb n : Nat} {xs : List Int} (h : IS W mb n xs) (b : Below W.heap.size W W') : IS W' mb n xs := h.block (b.block mb h.lt)
theorem IS.made (W : World) : IS (W.alloc (.map #[] 0)) W.heap.size 0 [] := ⟨_, World.ownsMap_made (H := Unit) W Try.prog 3 unitElem, fun z _ => by simp [Maps.has_eq]⟩
theorem IS.look {W : World} {mb n : Nat} {xs : List Int} (h : IS W mb n xs) {z : Int} (hz : I64 z) : (Instr.lookup 30 (.map (some mb)) (.int .i64 z) true).run Try.prog W = .ok (.tuple #[.agg #[], .bool (decide (z ∈ xs))]) W := by
  obtain ⟨D, h1, h2⟩ := h
  obtain ⟨v, ps, hr, hv⟩ := h1.look_ok law3 Try.underlying30 (zeroU W) (unitElem_mk (H := Unit)) (key3 hz)
  obtain ⟨rfl, _⟩ := unitElem_inv hv
  rw [← h2 z hz]
  exact hr
theorem IS.put {W : World} {mb n : Nat} {xs : List Int} (h : IS W mb n xs) {z : Int} (hz : I64 z) (hn : n < maxLen) :
    ∃ W', (Instr.mapUpdate 30 (.map (some mb)) (.int .i64 z) (.agg #[])).run Try.prog W = .ok () W' ∧ IS W' mb (n + 1) (z :: xs) ∧ Stay (fun k => k = mb) W W' := by
  obtain ⟨D, h1, h2⟩ := h
  obtain ⟨W', hr, ho, ht⟩ := h1.store law3 Try.underlying30 hn (key3 hz) (unitElem_mk (H := Unit))
  refine ⟨W', hr, ⟨_, ho, fun y hy => ?_⟩, .grown ht.grown (fun k e => by cases e; rfl)⟩
  by_cases e : y = z
  · subst e
    rw [Maps.has_put_same h1.isMap (by trivial)]
    simp
  · rw [Maps.has_put_other (by intro h; injection h with _ h; exact e h), h2 y hy]
    simp [e]
theorem wpList_append_eq {P : Program} {w : World} {ops : Array Oper} {rest : List Oper} {o : Oper} {a : Act} {Q : Exit → Act → World → Prop} (hgd : o.guard = none) (s x : Operand) (t u : TypeId)
    (ho : o.op = .call { callee := .builtin .append, args := #[s, x], argTypes := #[t, u] }) (v xv v' : Value) (w' : World) (hs : a.eval s = v) (hx : a.eval x = xv) (hr : (Builtin.append_ #[t, u] o.type #[v, xv]).run P w = .ok v' w')
    (h : wpList P ops Q rest (a.put o.dst v') w') : wpList P ops Q (o :: rest) a w := by
  refine wpList_plain hgd fun K hK => ?_
  unfold Oper.wp execOp
  simp only [ho, resolve, invoke, builtin, Sem.run_bind, Sem.run_pure, Result.andThen_ok, List.map_toArray, List.map_cons, List.map_nil, hs, hx, hr]
  exact hK _ _ h
end Go.Proofs.Ytecodnilbojodaa
