/-
  DERIVED. MergeOrder: what its loops keep.
-/
import Derived.Test.YtchikfabfhjkgaaMSort
import Derived.OwnWalk
set_option linter.unusedVariables false
set_option linter.unusedSimpArgs false
namespace Go.Proofs.Ytchikfabfhjkgaa
open Go.RowKit
theorem wpList_append_eq {P : Program} {w : World} {ops : Array Oper} {rest : List Oper} {o : Oper} {a : Act} {Q : Exit → Act → World → Prop} (hgd : o.guard = none) (s x : Operand) (t u : TypeId)
    (ho : o.op = .call { callee := .builtin .append, args := #[s, x], argTypes := #[t, u] }) (v xv v' : Value) (w' : World) (hs : a.eval s = v) (hx : a.eval x = xv) (hr : (Builtin.append_ #[t, u] o.type #[v, xv]).run P w = .ok v' w')
    (h : wpList P ops Q rest (a.put o.dst v') w') : wpList P ops Q (o :: rest) a w := by
  refine wpList_plain hgd fun K hK => ?_
  unfold Oper.wp execOp
  simp only [ho, resolve, invoke, builtin, Sem.run_bind, Sem.run_pure, Result.andThen_ok, List.map_toArray, List.map_cons, List.map_nil, hs, hx, hr]
  exact hK _ _ h
set_option maxRecDepth 10000 in
theorem w64 {n : Nat} (h : (n + 64) * 48 ≤ 140737488355328) : IntKind.i64.wrap ((n : Int) + 64) = (n : Int) + 64 ∧ 48 * (n + 64) ≤ 281474976710656 ∧ n + 64 ≤ maxLen := by
  refine ⟨?_, ?_, ?_⟩
  · rw [IntKind.wrap_i64]; omega
  · rw [Nat.mul_comm]; exact Nat.le_trans h (by decide)
  · unfold maxLen; omega
set_option maxRecDepth 10000 in
theorem wk {n j k : Nat} (h : n < 4611686018427387904) (hj : j < n) (hk : k = n - 1 - j) : IntKind.i64.wrap ((n : Int) - 1) = (n : Int) - 1 ∧ IntKind.i64.wrap ((n : Int) - 1 - (j : Int)) = (k : Int) := by
  constructor <;> rw [IntKind.wrap_i64] <;> omega
/-- What stands while the list is written. -/
structure OI (w5 : World) (g n : Nat) (M : List En) (wr : World) (v : Value) (j : Nat) (X : List En) : Prop where
  len : X.length = n + 64
  full : Full wr g X
  below : Below g w5 wr
  own : wr.ownsRow 0 23 5 v (M.take j).length ((M.take j).flatMap enC)
  take : X.take j = M.take j
  apart : ∀ k, v.ownBlock = some k → g < k
theorem OI.later {w5 : World} {g n : Nat} {M : List En} {wr w' : World} {v : Value} {j : Nat} {X : List En} (h : OI w5 g n M wr v j X) (b : Below wr.heap.size wr w') : OI w5 g n M w' v j X :=
  { len := h.len, full := h.full.kept (F := fun _ => False) (.below b) (fun h => h), below := h.below.trans (b.mono (Nat.le_of_lt h.full.lt)), own := row_kept h.own (F := fun _ => False) (.below b) (fun _ _ h => h), take := h.take, apart := h.apart }
/-- The five cells of a place are written. -/
def put5 (W : World) (g i : Nat) (e : En) : World := ((((W.setCell ⟨g, i * 5, none⟩ (.int .i64 e.v)).setCell ⟨g, i * 5 + 1, none⟩ (.string e.c)).setCell ⟨g, i * 5 + 2, none⟩ (.int .i64 e.i)).setCell ⟨g, i * 5 + 3, none⟩ (.int .i64 e.s)).setCell ⟨g, i * 5 + 4, none⟩ (.bool e.d)
theorem stay_one (W V : World) (g o : Nat) (u : Value) (h : Stay (fun k => k = g) W V) : Stay (fun k => k = g) W (V.setCell ⟨g, o, none⟩ u) := Stay.setCell (F := fun k => k = g) h (p := ⟨g, o, none⟩) (fun _ => rfl) u
theorem put5_stay (W : World) (g i : Nat) (e : En) : Stay (fun k => k = g) W (put5 W g i e) :=
  stay_one _ _ _ _ _ (stay_one _ _ _ _ _ (stay_one _ _ _ _ _ (stay_one _ _ _ _ _ (stay_one _ _ _ _ _ (.refl _ _)))))
theorem OI.put {w5 : World} {g n : Nat} {M : List En} {wr : World} {v : Value} {j : Nat} {X : List En} (h : OI w5 g n M wr v j X) (k : Nat) (hk : k < n + 64) (hj : j ≤ k) (e : En) : OI w5 g n M (put5 wr g k e) v j (X.set k e) :=
  { len := by rw [List.length_set]; exact h.len
    full := h.full.set k e (by rw [h.len]; exact hk)
    below := h.below.trans ((put5_stay wr g k e).toBelow (fun i hi he => by omega) (Nat.le_of_lt h.full.lt))
    own := row_kept h.own (put5_stay wr g k e) (fun i hi he => by have := h.apart i hi; omega)
    take := by rw [List.take_set_of_le hj]; exact h.take
    apart := h.apart }
/-- A variable of the round's own, behind the append. -/
theorem x_later {wr w' : World} {v : Value} {n : Nat} {xs : List Value} {t : TypeId} {x : En} (ho : wr.ownsRow 0 23 5 v n xs) (s : Stay (fun k => v.ownBlock = some k) (wr.alloc (.cells (enC x).toArray t)) w') : SAt w' wr.heap.size (enC x) := fun j u hu => by
  have h1 := SAt.new wr (enC x) t j u hu
  have h2 := s.block wr.heap.size (by simp) (fun e => by have := row_lt ho e; omega)
  rw [← h1]
  simp only [World.cell?, h2]
/-- One more is put behind, and written at its place. -/
theorem OI.step {w5 : World} {g n : Nat} {M : List En} {wr w' : World} {v v' : Value} {j : Nat} {X : List En} (h : OI w5 g n M wr v j X) (hM : M.length = n) (hj : j < n) (x : En) (hx : M[j]? = some x)
    (ho : w'.ownsRow 0 23 5 v' (M.take j ++ [x]).length ((M.take j ++ [x]).flatMap enC)) (o : Obj) (s0 : Stay (fun k => v.ownBlock = some k) (wr.alloc o) w') (hloc0 : ∀ k, v'.ownBlock = some k → v.ownBlock = some k ∨ (wr.alloc o).heap.size ≤ k) :
    Full w' g X ∧ OI w5 g n M (put5 w' g j x) v' (j + 1) (X.set j x) := by
  have s : Stay (fun k => v.ownBlock = some k) wr w' := ((Stay.refl _ wr).alloc o).trans s0
  have hloc : ∀ k, v'.ownBlock = some k → v.ownBlock = some k ∨ wr.heap.size ≤ k := fun k hk => (hloc0 k hk).imp id (fun h => by simp at h; omega)
  have hF : Full w' g X := h.full.kept s (fun hk => by have := h.apart g hk; omega)
  have e1 : M.take (j + 1) = M.take j ++ [x] := by rw [List.take_add_one, hx]; rfl
  have hap : ∀ k, v'.ownBlock = some k → g < k := fun k hk => by
    rcases hloc k hk with h1 | h1
    · exact h.apart k h1
    · have := h.full.lt; omega
  refine ⟨hF, ?_, hF.set j x (by rw [h.len]; omega), ?_, ?_, ?_, hap⟩
  · rw [List.length_set]; exact h.len
  · exact (h.below.trans (s.toBelow (fun i hi he => by have := h.apart i he; omega) (Nat.le_of_lt h.full.lt))).trans ((put5_stay w' g j x).toBelow (fun i hi he => by omega) (Nat.le_of_lt hF.lt))
  · rw [e1]; exact row_kept ho (put5_stay w' g j x) (fun i hi he => by have := hap i hi; omega)
  · rw [e1, ← h.take]
    have hl : j < X.length := by rw [h.len]; omega
    rw [List.take_succ_eq_append_getElem (by simpa using hl), List.take_set_of_le (Nat.le_refl j)]; simp
/-- What is written in round i. -/
def Mi (l : List En) (i : Nat) : List En := if i = 1 then l.reverse else l
theorem Mi_len (l : List En) (i : Nat) : (Mi l i).length = l.length := by unfold Mi; split <;> simp
def R0 (w5 : World) (g n : Nat) (iv : Value) (wr : World) : Prop := ∃ (i : Nat) (X : List En), iv = .int .i64 i ∧ i ≤ 3 ∧ X.length = n + 64 ∧ Full wr g X ∧ Below g w5 wr
def R1 (w5 : World) (g n : Nat) (M : List En) (nv jv : Value) (wr : World) : Prop := ∃ (j : Nat) (X : List En), jv = .int .i64 j ∧ j ≤ n ∧ OI w5 g n M wr nv j X
def R2 (w5 : World) (g n : Nat) (M : List En) (nv jv : Value) (wr : World) : Prop := ∃ (j : Nat) (X : List En), jv = .int .i64 j ∧ n ≤ j ∧ j ≤ n + 64 ∧ OI w5 g n M wr nv n X ∧ ∀ k, n ≤ k → k < j → X[k]? = some (mkE 998)
def R3 (w5 : World) (g n : Nat) (M : List En) (nv : Value) (X : List En) (jv : Value) (wr : World) : Prop := ∃ (j : Nat), jv = .int .i64 j ∧ n ≤ j ∧ j ≤ n + 64 ∧ OI w5 g n M wr nv n X
/-- The numbers that the walk meets. -/
structure NB (L n : Nat) : Prop where
  b : (L + 64) * 48 ≤ 140737488355328
  e : n = L
theorem NB.lt {L n : Nat} (h : NB L n) : n < 4611686018427387904 := by have := h.b; have := h.e; omega
set_option maxRecDepth 10000 in
theorem NB.wj {L n : Nat} (h : NB L n) {j : Nat} (hj : j < n + 64) : IntKind.i64.wrap ((j : Int) + 1) = (j : Int) + 1 := by have := h.lt; rw [IntKind.wrap_i64]; omega
theorem NB.app {L n : Nat} (h : NB L n) {j : Nat} (hj : j < n) : (j + 1) * 48 ≤ 140737488355328 := by have := h.b; have := h.e; omega
theorem Full.ten {W : World} {g : Nat} {X : List En} (h : Full W g X) (i : Nat) (hi : i < X.length) :
    (W.cell? ⟨g, i * 5, none⟩ = some (.int .i64 X[i].v) ∧ W.cell? ⟨g, i * 5 + 1, none⟩ = some (.string X[i].c) ∧ W.cell? ⟨g, i * 5 + 2, none⟩ = some (.int .i64 X[i].i) ∧ W.cell? ⟨g, i * 5 + 3, none⟩ = some (.int .i64 X[i].s) ∧ W.cell? ⟨g, i * 5 + 4, none⟩ = some (.bool X[i].d)) ∧
    W.frozen? ⟨g, i * 5, none⟩ = false ∧ W.frozen? ⟨g, i * 5 + 1, none⟩ = false ∧ W.frozen? ⟨g, i * 5 + 2, none⟩ = false ∧ W.frozen? ⟨g, i * 5 + 3, none⟩ = false ∧ W.frozen? ⟨g, i * 5 + 4, none⟩ = false :=
  ⟨h.cells i hi, h.free _, h.free _, h.free _, h.free _, h.free _⟩
theorem R2_step {w5 : World} {g n : Nat} {M : List En} {wr w7 : World} {v : Value} {j : Nat} {Z : List En} (h : OI w5 g n M wr v n Z) (hm : ∀ k, n ≤ k → k < j → Z[k]? = some (mkE 998)) (hj : j < n + 64) (hj1 : n ≤ j) (b : Below wr.heap.size wr w7) :
    R2 w5 g n M v (.int .i64 ((j : Int) + 1)) (put5 w7 g j (mkE 998)) := by
  refine ⟨j + 1, Z.set j (mkE 998), by rw [Int.natCast_add]; rfl, by omega, by omega, (h.later b).put j hj hj1 _, fun k h1 h2 => ?_⟩
  by_cases e : k = j
  · subst e; rw [List.getElem?_set_self (by rw [h.len]; exact hj)]
  · rw [List.getElem?_set_ne (fun x => e x.symm)]; exact hm k h1 (by omega)
theorem OI.lat {w5 : World} {g n : Nat} {M : List En} {wr : World} {v : Value} {Z : List En} (h : OI w5 g n M wr v n Z) (hM : M.length = n) : LAt wr (some ⟨g, 0, none⟩) M := h.full.lat (n := n) (by rw [h.take, ← hM, List.take_length])
theorem OI.lat2 {w5 : World} {g n : Nat} {M : List En} {wr : World} {a : Option Addr} {c : Nat} {Z : List En} (h : OI w5 g n M wr (.slice a n c) n Z) (hM : M.length = n) : LAt wr a M := by
  have ho := h.own
  have e : M.take n = M := by rw [← hM, List.take_length]
  rw [e] at ho
  obtain ⟨a', c', hv, -, hl⟩ := own_lat ho
  simp only [Value.slice.injEq] at hv
  rw [hv.1]; exact hl
theorem cast1 (j : Nat) : ((j : Int) + 1) = ((j + 1 : Nat) : Int) := by omega
end Go.Proofs.Ytchikfabfhjkgaa
