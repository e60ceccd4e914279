/-
  DERIVED. sign: the laws' helpers.
-/
import Derived.Test.YtmdmjjobhkpojaaDoorQCode
import Derived.OrdersHeld
import Derived.Deep.RegionHeld
set_option linter.unusedVariables false
set_option linter.unusedSimpArgs false
namespace Go.Proofs.YtmdmjjobhkpojaaDoor
open Go.RowKit Go.Shelf Go.Proofs.BitMath Go.Proofs.FloatMath
theorem oper_append_eq {P : Program} {w : World} {o : Oper} {a : Act} {K : Act → World → Prop} {Q : Exit → Act → World → Prop} (s x : Operand) (t u : TypeId)
    (ho : o.op = .call { callee := .builtin .append, args := #[s, x], argTypes := #[t, u] }) (v xv v' : Value) (w' : World) (hs : a.eval s = v) (hx : a.eval x = xv) (hr : (Builtin.append_ #[t, u] o.type #[v, xv]).run P w = .ok v' w')
    (h : K (a.put o.dst v') w') : Oper.wp P o a w K Q := by
  unfold Oper.wp execOp
  simp only [ho, resolve, invoke, builtin, Sem.run_bind, Sem.run_pure, Result.andThen_ok, List.map_toArray, List.map_cons, List.map_nil, hs, hx, hr]
  exact h
theorem i64_sg (a : Int) (h0 : -9223372036854775808 ≤ a) (h1 : a < 9223372036854775808) : IntKind.i64.wrap a = a := by
  rw [IntKind.wrap_i64]; omega
/-- Parts in a row that is new. -/
def NewZ (w : World) (X : List Zp) (e : Ending) (w' : World) : Prop := ∃ o, e = .returned o ∧ zE.Row w' o X ∧ (∀ k, o.ownBlock = some k → w.heap.size ≤ k) ∧ Below w.heap.size w w'
/-- While it grows. -/
structure GroZ (w : World) (X : List Zp) (o : Value) (W : World) : Prop where
  row : zE.Row W o X
  new : ∀ k, o.ownBlock = some k → w.heap.size ≤ k
  bel : Below w.heap.size w W
theorem GroZ.start (w : World) : GroZ w [] (.slice none 0 0) w := ⟨El.Row.nil zE w, fun k h => (by cases h), Below.refl _ _⟩
theorem GroZ.later {w W W' : World} {X : List Zp} {o : Value} (h : GroZ w X o W) (b : Below W.heap.size W W') : GroZ w X o W' := ⟨h.row.below b, h.new, h.bel.trans (b.mono h.bel.size)⟩
theorem GroZ.push {w W : World} {X : List Zp} {o : Value} (h : GroZ w X o W) (hl : X.length ≤ 1048576) (x : Zp) :
    ∃ o' W', (Builtin.append_ #[23, 23] 23 #[o, .slice (some ⟨W.heap.size, 0, none⟩) 1 1]).run Tryd.prog (W.alloc (.cells #[.int .i64 x.1, .int .i64 x.2] 36)) = .ok o' W' ∧ GroZ w (X ++ [x]) o' W' := by
  obtain ⟨o', W', h1, h2, h3, h4⟩ := El.app1 zOk W X o h.row x (by show _ * 16 ≤ _; omega) (by omega)
  refine ⟨o', W', h1, h2, fun k hk => ?_, ?_⟩
  · rcases h4 k hk with e | e
    · exact h.new k e
    · exact Nat.le_trans h.bel.size e
  · exact h.bel.trans (h3.toBelow (fun k hk e => by have := h.new k e; omega) h.bel.size)
theorem map_take_succ {α : Type} (f : Zp → α) {v : List Zp} {i : Nat} (h : i < v.length) : (v.take (i + 1)).map f = (v.take i).map f ++ [f v[i]] := by
  rw [List.take_succ_eq_append_getElem h, List.map_append]; rfl
/-- The width that is taken. -/
def wdI (x : Int) : Int := if isW x = true then x else 64
theorem wdI_ok (x : Int) : ∃ wd : Nat, wdI x = wd ∧ 64 ≤ wd ∧ wd ≤ 1024 ∧ wd % 64 = 0 := by
  unfold wdI
  split
  · have h := isW_bd ‹_›
    have h2 : x % 64 = 0 := by have h1 := ‹isW x = true›; simp [isW] at h1; omega
    exact ⟨x.toNat, by omega, by omega, by omega, by omega⟩
  · exact ⟨64, rfl, by omega, by omega, by omega⟩
theorem wdI_no {x : Int} (h : isW x = false) : wdI x = 64 := by simp [wdI, h]
theorem wdI_yes {x : Int} (h : isW x = true) : wdI x = x := by simp [wdI, h]
theorem width_any (x : Int) (w : World) :
    Calls Tryd.prog 4 #[.int .i64 x] w fun e w' => e = .returned (.int .i64 (wdI x)) ∧ w' = w := by
  by_cases h1 : x < 64
  · have HE : Hid (wdI x = 64) := wdI_no (isW_small h1)
    go_enter Tryd.func4, Tryd.ntmps4
    go_wp2
    go_ret
    exact ⟨ret_int HE.out.symm, rfl⟩
  · by_cases h2 : 1024 < x
    · have HE : Hid (wdI x = 64) := wdI_no (isW_big h2)
      go_enter Tryd.func4, Tryd.ntmps4
      go_wp2
      go_ret
      exact ⟨ret_int HE.out.symm, rfl⟩
    · obtain ⟨a, rfl⟩ : ∃ a : Nat, x = a := ⟨x.toNat, by omega⟩
      cases h3 : (((a : Int) % 64) != 0)
      · have HE : Hid (wdI a = a) := wdI_yes (by rw [isW_pos (by omega) (by omega)]; simpa using h3)
        have h4 : ¬ ((a : Int) < 64) := h1
        have h5 : ¬ (1024 < (a : Int)) := h2
        go_enter Tryd.func4, Tryd.ntmps4
        go_wp2
        go_ret
        exact ⟨ret_int HE.out.symm, rfl⟩
      · have HE : Hid (wdI a = 64) := wdI_no (by rw [isW_pos (by omega) (by omega)]; simpa using h3)
        go_enter Tryd.func4, Tryd.ntmps4
        go_wp2
        go_ret
        exact ⟨ret_int HE.out.symm, rfl⟩
/-- How many parts are taken. -/
def szN (n : Nat) : Nat := if n = 0 then 1 else if 40 < n then 40 else n
theorem szN_bd (n : Nat) : 1 ≤ szN n ∧ szN n ≤ 40 := by unfold szN; split <;> (try split) <;> omega
theorem size_any (la : Option Addr) (n c : Nat) (w : World) (hn : n < 4611686018427387904) :
    Calls Tryd.prog 6 #[.slice la n c] w fun e w' => e = .returned (.int .i64 (szN n : Nat)) ∧ w' = w := by
  by_cases h1 : n = 0
  · subst h1
    go_enter Tryd.func6, Tryd.ntmps6
    go_wp2
    go_ret
    exact ⟨rfl, rfl⟩
  · have h1' : ((n : Int) == 0) = false := by simp; omega
    by_cases h2 : 40 < n
    · have HE : Hid (szN n = 40) := by show _ = _; simp [szN, h1, h2]
      have h2' : (40 : Int) < (n : Int) := by omega
      clear h1 h2
      go_enter Tryd.func6, Tryd.ntmps6
      go_wp2
      go_ret
      rw [HE.out]
      exact ⟨rfl, rfl⟩
    · have HE : Hid (szN n = n) := by show _ = _; simp [szN, h1, h2]
      have h2' : ¬ (40 : Int) < (n : Int) := by omega
      clear h1 h2
      go_enter Tryd.func6, Tryd.ntmps6
      go_wp2
      go_ret
      rw [HE.out]
      exact ⟨rfl, rfl⟩
/-- A number brought within its bound. -/
def fitI (n most : Int) : Int := Int.tmod n (most + 1)
theorem fitI_bd (n most : Int) (h : 0 ≤ most) : (fitI n most).natAbs ≤ most.natAbs := by
  unfold fitI
  have h1 : (Int.tmod n (most + 1)).natAbs < (most + 1).natAbs := by
    rw [Int.natAbs_tmod]; exact Nat.mod_lt _ (by omega)
  omega
set_option maxHeartbeats 1000000 in
theorem fit_any (n most : Int) (w : World) (h : 0 ≤ most) (h2 : most ≤ 1048576) :
    Calls Tryd.prog 11 #[.int .i64 n, .int .i64 most] w fun e w' => e = .returned (.int .i64 (fitI n most)) ∧ w' = w := by
  have a1 : IntKind.i64.wrap (most + 1) = most + 1 := i64_sg _ (by omega) (by omega)
  have a2 : (most + 1 == 0) = false := by simp; omega
  have hb := fitI_bd n most h
  have a3 : IntKind.i64.wrap (Int.tmod n (most + 1)) = Int.tmod n (most + 1) := i64_sg _ (by unfold fitI at hb; omega) (by unfold fitI at hb; omega)
  go_enter Tryd.func11, Tryd.ntmps11
  go_wp2
  all_goals go_ret
  all_goals exact ⟨rfl, rfl⟩
end Go.Proofs.YtmdmjjobhkpojaaDoor
