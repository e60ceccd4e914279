/-
  DERIVED. The iterator that parts a list of entries.
-/
import Derived.Test.YtdegclccbgpgiaaDoorBRange
import Derived.Test.YtdegclccbgpgiaaDoorBStay
import Derived.Test.YtdegclccbgpgiaaDoorBBytesE
import Derived.Test.YtdegclccbgpgiaaDoorBBuild
import Derived.Test.YtdegclccbgpgiaaDoorHeld
set_option linter.unusedVariables false
set_option linter.unusedSimpArgs false
namespace Go.Proofs.YtdegclccbgpgiaaDoor
open Go.RowKit Go.Shelf Go.Proofs.SealMath
attribute [local go_sem] Oper.semAt_some
/-- The cells of a list lie from here on. -/
def RowAt (w : World) (g off : Nat) (cs : List Value) : Prop := ∀ j x, cs[j]? = some x → w.cell? ⟨g, off + j, none⟩ = some x
/-- What an iterator that keeps a row of bytes does by itself. -/
structure TrB (s : Option Nat) (A : World) (s' : Option Nat) (B : World) : Prop where
  stay : Stay (fun k => s = some k) A B
  cells : ∀ k, s = some k → ∃ c t m, A.heap[k]? = some (.cells c t m)
  loc : ∀ k, s' = some k → s = some k ∨ A.heap.size ≤ k
  lt : ∀ k, s' = some k → k < B.heap.size
theorem TrB.others {s s' : Option Nat} {A B : World} (h : TrB s A s' B) : KeepsOthers A B :=
  ⟨h.stay.size, fun k o hk ho => (h.stay.block k (Array.getElem?_eq_some_iff.1 hk).1 (fun e => by
    obtain ⟨c, t, m, hc⟩ := h.cells k e
    rw [hk] at hc; cases hc; cases ho)).trans hk⟩
/-- What a body keeps: the blocks of K, and the iterator's own. -/
def KpB (K : Nat → Prop) (s : Option Nat) (A B : World) : Prop := A.heap.size ≤ B.heap.size ∧ ∀ k c t m, (K k ∨ s = some k) → A.heap[k]? = some (.cells c t m) → B.heap[k]? = some (.cells c t m)
theorem KpB.trans {K : Nat → Prop} {s : Option Nat} {A B C : World} (h : KpB K s A B) (k : KpB K s B C) : KpB K s A C := ⟨Nat.le_trans h.1 k.1, fun i c t m hi hc => k.2 i c t m hi (h.2 i c t m hi hc)⟩
theorem KpB.put {K : Nat → Prop} (s : Option Nat) (A : World) (l : Nat) (o o' : Obj) (h : A.heap[l]? = some o) (ho : o.isCells = false) : KpB K s A (A.putObj l o') := ⟨by simp, fun k c t m _ hc =>
  (World.putObj_heap_other (fun e => by subst e; rw [h] at hc; cases hc; cases ho)).trans hc⟩
/-- A part as it is handed over. -/
def encP {T : Type} (f : T → List UInt8) (g off sz cap : Nat) (x : Nat × List T) : Array Value := #[.slice (some ⟨g, off + x.1 * sz, none⟩) x.2.length (cap - x.1), .string ⟨(x.2.flatMap f).toArray⟩]
theorem wpListIn_append_eq {F : Fence} {n : Nat} {P : Program} {w : World} {ops : Array Oper} {rest : List Oper} {o : Oper} {a : Act} {Q : Exit → Act → World → Prop} (hgd : o.guard = none) (s x : Operand) (t u : TypeId)
    (ho : o.op = .call { callee := .builtin .append, args := #[s, x], argTypes := #[t, u] }) (v xv v' : Value) (w' : World) (hs : a.eval s = v) (hx : a.eval x = xv) (hr : (Builtin.append_ #[t, u] o.type #[v, xv]).run P w = .ok v' w')
    (h : wpListIn F n P ops Q rest (a.put o.dst v') w') : wpListIn F n P ops Q (o :: rest) a w := by
  refine wpListIn_plain hgd fun K hK => ?_
  unfold Oper.wpIn
  refine ⟨by simp [Oper.about, ho, resolve, Target.leads, Sem.run_pure], ?_⟩
  rw [Oper.semAt_plain F _ _ (by rw [ho]; intro c hc'; cases hc')]
  unfold execOp
  simp only [ho, resolve, invoke, builtin, Sem.run_bind, Sem.run_pure, Result.andThen_ok, List.map_toArray, List.map_cons, List.map_nil, hs, hx, hr, Oper.uponIn]
  exact hK _ _ h
/-- An entry that goes as bytes. -/
structure Ok (e : En) : Prop where
  v : 0 ≤ e.v ∧ e.v < 4294967296
  i : 0 ≤ e.i ∧ e.i < 9223372036854775808
  s : 0 ≤ e.s ∧ e.s < 9223372036854775808
  c : e.c.size ≤ 128
theorem entry_o (e : En) (h : Ok e) (w : World) :
    Calls Tryd.prog 46 #[.agg #[.int .i64 e.v, .string e.c, .int .i64 e.i, .int .i64 e.s, .bool e.d]] w fun r w' => ∃ X : ByteArray, r = .returned (.string X) ∧ X.size = (enB e).length ∧ Hid (X.data.toList = enB e) ∧ Below w.heap.size w w' := by
  obtain ⟨v, c, i, s, d⟩ := e
  obtain ⟨⟨h1, h2⟩, ⟨h3, h4⟩, ⟨h5, h6⟩, h7⟩ := h
  obtain ⟨V, rfl⟩ : ∃ V : Nat, v = V := ⟨v.toNat, by dsimp only at *; omega⟩
  obtain ⟨I, rfl⟩ : ∃ I : Nat, i = I := ⟨i.toNat, by dsimp only at *; omega⟩
  obtain ⟨S, rfl⟩ : ∃ S : Nat, s = S := ⟨s.toNat, by dsimp only at *; omega⟩
  dsimp only at *
  refine (entry_x V I S d c w (by omega) (by omega) (by omega) h7).mono ?_
  rintro r w' ⟨X, rfl, _, hX, hb⟩
  exact ⟨X, rfl, by rw [← hX.out, nm_size], hX, hb⟩
theorem TrB.below {s : Option Nat} {A B : World} (hc : ∀ k, s = some k → ∃ c t m, A.heap[k]? = some (.cells c t m)) (h : Below A.heap.size A B) : TrB s A s B := ⟨.below h, hc, fun _ e => .inl e, fun k e => by obtain ⟨c, t, m, hk⟩ := hc k e; exact Nat.lt_of_lt_of_le (Array.getElem?_eq_some_iff.1 hk).1 h.size⟩
theorem flat_at {T : Type} (f : T → List Value) (sz : Nat) (hf : ∀ x, (f x).length = sz) : ∀ (l : List T) (i j : Nat) (hi : i < l.length), j < sz → (l.flatMap f)[i * sz + j]? = (f l[i])[j]?
  | x :: l, 0, j, _, hj => by simp [List.getElem?_append_left, hf, hj]
  | x :: l, i + 1, j, hi, hj => by
    have := flat_at f sz hf l i j (by simpa using hi) hj
    rw [List.flatMap_cons, List.getElem?_append_right (by rw [hf, Nat.add_mul]; omega), hf, List.getElem_cons_succ, ← this]
    congr 1
    rw [Nat.add_mul]; omega
end Go.Proofs.YtdegclccbgpgiaaDoor
