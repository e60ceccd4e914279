/-
  DERIVED. The table of the operations, and what is found in it.
-/
import Derived.Test.YtjdknijjkjmafaaWBox
import Derived.Test.YtjdknijjkjmafaaWFields
set_option linter.unusedVariables false
set_option linter.unusedSimpArgs false
namespace Go.Proofs.Ytjdknijjkjmafaa
open Go.RowKit
/-- The functions of operation i + 1. -/
def rqF : Nat → Nat
  | 0 => 67 | 1 => 69 | 2 => 69 | 3 => 71 | 4 => 73 | _ => 74
def rpF : Nat → Nat
  | 2 => 70 | 3 => 72 | 4 => 72 | 5 => 75 | 7 => 75 | _ => 68
def opC (i : Nat) : List Value := [.int .i64 (i + 1 : Nat), Fv (rqF i) #[], Fv (rpF i) #[]]
def opsC : List Value := opC 0 ++ opC 1 ++ opC 2 ++ opC 3 ++ opC 4 ++ opC 5 ++ opC 6 ++ opC 7 ++ opC 8
set_option maxHeartbeats 2000000 in
theorem operations_any (w : World) :
    Calls Try.prog 53 #[] w fun e w' => e = .returned (.slice (some ⟨w.heap.size, 0, none⟩) 9 9) ∧ HC w' w.heap.size opsC.toArray 64 ∧ Below w.heap.size w w' := by
  go_enter Try.func53, Try.ntmps53
  go_wp2
  go_ret
  exact ⟨rfl, HC.new w _ _, (Below.refl _ w).alloc (Nat.le_refl _) _⟩
theorem opsC_at (j : Nat) (hj : j < 9) : opsC.toArray[j * 3]? = some (.int .i64 (j + 1 : Nat)) ∧ opsC.toArray[j * 3 + 1]? = some (Fv (rqF j) #[]) ∧ opsC.toArray[j * 3 + 2]? = some (Fv (rpF j) #[]) := by
  have h : j = 0 ∨ j = 1 ∨ j = 2 ∨ j = 3 ∨ j = 4 ∨ j = 5 ∨ j = 6 ∨ j = 7 ∨ j = 8 := by omega
  rcases h with rfl | rfl | rfl | rfl | rfl | rfl | rfl | rfl | rfl <;> exact ⟨rfl, rfl, rfl⟩
abbrev opV (i : Nat) : Value := .agg #[.int .i64 (i + 1 : Nat), Fv (rqF i) #[], Fv (rpF i) #[]]
abbrev opZ : Value := .agg #[.int .i64 0, .nilFunc, .nilFunc]
/-- What stands while the table is looked through: the result's box, the table. -/
structure FI (w : World) (wr : World) : Prop where
  res : HC wr w.heap.size #[.int .i64 0, .nilFunc, .nilFunc] 64
  tab : HC wr (w.heap.size + 1) opsC.toArray 64
  old : Below w.heap.size w wr
theorem FI.alloc {w wr : World} (h : FI w wr) (o : Obj) : FI w (wr.alloc o) := ⟨h.res.alloc o, h.tab.alloc o, h.old.alloc (by have := h.res.lt; omega) o⟩
theorem FI.cells {w wr : World} (h : FI w wr) {j : Nat} (hj : j < 9) :
    wr.cell? ⟨w.heap.size + 1, j * 3, none⟩ = some (.int .i64 (j + 1 : Nat)) ∧ wr.cell? ⟨w.heap.size + 1, j * 3 + 1, none⟩ = some (Fv (rqF j) #[]) ∧ wr.cell? ⟨w.heap.size + 1, j * 3 + 2, none⟩ = some (Fv (rpF j) #[]) := by
  obtain ⟨a, b, c⟩ := opsC_at j hj
  exact ⟨h.tab.cell a, h.tab.cell b, h.tab.cell c⟩
theorem fi_start {w w1 : World} (h : HC w1 (w.alloc (.cells #[.int .i64 0, .nilFunc, .nilFunc] 64)).heap.size opsC.toArray 64) (b : Below (w.alloc (.cells #[.int .i64 0, .nilFunc, .nilFunc] 64)).heap.size (w.alloc (.cells #[.int .i64 0, .nilFunc, .nilFunc] 64)) w1) : FI w w1 :=
  ⟨HC.below (HC.new w _ _) b, by simpa using h, chain ((Below.refl _ w).alloc (Nat.le_refl _) _) b (Nat.le_refl _)⟩
set_option maxHeartbeats 4000000 in
set_option maxRecDepth 100000 in
theorem find_yes (i : Nat) (hi : i < 9) (w : World) :
    Calls Try.prog 34 #[.int .i64 (i + 1 : Nat)] w fun e w' => e = .returned (.tuple #[opV i, .bool true]) ∧ Below w.heap.size w w' := by
  have ho := operations_any (w.alloc (.cells #[.int .i64 0, .nilFunc, .nilFunc] 64))
  obtain ⟨op, hop⟩ : ∃ op : Nat, op = i + 1 := ⟨_, rfl⟩
  rw [← hop]
  have HO := Hid.mk hop
  obtain ⟨tb, htb⟩ : ∃ tb, tb = w.heap.size + 1 := ⟨_, rfl⟩
  have htb2 : (w.alloc (.cells #[.int .i64 0, .nilFunc, .nilFunc] 64)).heap.size = tb := by rw [htb]; simp
  have HS := Hid.mk (fun w1 => @fi_start w w1)
  have HT := Hid.mk htb
  rw [htb2] at ho HS
  clear htb htb2 hop
  have hsf : ∀ (W : World) (p : Addr) (f : Fn) (x c : Array Value), (store p (.func f x c)).run Try.prog W = stored Try.prog W p (.func f x c) .plain := fun W p f x c => run_store Try.prog W p _ .plain rfl
  have hsn : ∀ (W : World) (p : Addr), (store p .nilFunc).run Try.prog W = stored Try.prog W p .nilFunc .plain := fun W p => run_store Try.prog W p _ .plain rfl
  go_enter Try.func34, Try.ntmps34
  go_wp2_with (go_at_call 53; refine ho.mono ?_; clear ho; rintro e w1 ⟨rfl, h1, b1⟩; have H1 := Hid.mk (And.intro h1 b1); clear h1 b1)
  go_loopw [8] (fun u wr => ∃ j : Nat, u = .int .i64 j ∧ j ≤ i ∧ FI w wr) (fun u _ => 9 - (intOf u).toNat)
  case atStart => exact ⟨0, rfl, Nat.zero_le _, HS.out _ H1.out.1 H1.out.2⟩
  case round =>
    obtain ⟨j, rfl, hj, hI⟩ := hrel
    have hj9 : (j : Int) < 9 := by omega
    have hj9n : j < 9 := by omega
    obtain ⟨t0, t1, t2⟩ := hI.cells hj9n
    rw [← HT.out] at t0 t1 t2
    obtain ⟨m, hm⟩ : ∃ m : Nat, m = j + 1 := ⟨_, rfl⟩
    rw [← hm] at t0
    have r0 : wr.cell? ⟨w.heap.size, 0, none⟩ = some (.int .i64 0) := hI.res.cell rfl
    have r1 : wr.cell? ⟨w.heap.size, 1, none⟩ = some .nilFunc := hI.res.cell rfl
    have r2 : wr.cell? ⟨w.heap.size, 2, none⟩ = some .nilFunc := hI.res.cell rfl
    by_cases hji : j = i
    · subst hji
      have hmo : m = op := by have := HO.out; omega
      subst hmo
      have z0 := hI.res.free 0
      have z1 := hI.res.free 1
      have z2 := hI.res.free 2
      have lb : w.heap.size < wr.heap.size := hI.res.lt
      obtain ⟨f1, hf1⟩ : ∃ f, f = rqF j := ⟨_, rfl⟩
      obtain ⟨f2, hf2⟩ : ∃ f, f = rpF j := ⟨_, rfl⟩
      rw [← hf1] at t1
      rw [← hf2] at t2
      have HI := Hid.mk hI
      have HM := Hid.mk hm
      have HF := Hid.mk (And.intro hf1 hf2)
      clear hI hm hf1 hf2
      go_wp2
      have K9 := HC.alloc (HC.set (HC.set (HC.set HI.out.res 0 (.int .i64 m)) 1 (Fv f1 #[])) 2 (Fv f2 #[])) (.cells #[.int .i64 m, Fv f1 #[], Fv f2 #[]] 64)
      have b9 : Below w.heap.size w ((((wr.setCell ⟨w.heap.size, 0, none⟩ (.int .i64 m)).setCell ⟨w.heap.size, 1, none⟩ (Fv f1 #[])).setCell ⟨w.heap.size, 2, none⟩ (Fv f2 #[])).alloc (.cells #[.int .i64 m, Fv f1 #[], Fv f2 #[]] 64)) := by
        have s0 : Stay (fun k => w.heap.size ≤ k) w wr := (Stay.refl _ w).trans (Stay.mono (F := fun k => w.heap.size ≤ k) ⟨HI.out.old.os, HI.out.old.tape, HI.out.old.output, HI.out.old.size, fun i hi _ => HI.out.old.block i hi⟩ (fun _ _ h => h))
        have s1 := (((s0.setCell (p := ⟨w.heap.size, 0, none⟩) (fun _ => Nat.le_refl _) (.int .i64 m)).setCell (p := ⟨w.heap.size, 1, none⟩) (fun _ => Nat.le_refl _) (Fv f1 #[])).setCell (p := ⟨w.heap.size, 2, none⟩) (fun _ => Nat.le_refl _) (Fv f2 #[])).alloc (.cells #[.int .i64 m, Fv f1 #[], Fv f2 #[]] 64)
        exact s1.toBelow (fun k hk h => by omega) (Nat.le_refl _)
      obtain ⟨W9, hW9⟩ : ∃ W9, W9 = ((((wr.setCell ⟨w.heap.size, 0, none⟩ (.int .i64 m)).setCell ⟨w.heap.size, 1, none⟩ (Fv f1 #[])).setCell ⟨w.heap.size, 2, none⟩ (Fv f2 #[])).alloc (.cells #[.int .i64 m, Fv f1 #[], Fv f2 #[]] 64)) := ⟨_, rfl⟩
      rw [← hW9] at K9 b9 ⊢
      have x0 : W9.cell? ⟨w.heap.size, 0, none⟩ = some (.int .i64 m) := K9.cell rfl
      have x1 : W9.cell? ⟨w.heap.size, 1, none⟩ = some (Fv f1 #[]) := K9.cell rfl
      have x2 : W9.cell? ⟨w.heap.size, 2, none⟩ = some (Fv f2 #[]) := K9.cell rfl
      refine bodyPost_ret (v := .tuple #[.agg #[.int .i64 m, Fv f1 #[], Fv f2 #[]], .bool true]) (by simp [results, Try.results34, go_sem, x0, x1, x2]; try rfl) rfl ?_
      refine ⟨?_, b9⟩
      rw [HF.out.1, HF.out.2, HM.out]
    · have hne : ¬ m = op := by have := HO.out; omega
      have hw : IntKind.i64.wrap ((j : Int) + 1) = (m : Int) := by rw [hm]; exact i64_in _ (by omega) (by omega)
      have HI := Hid.mk hI
      have HM := Hid.mk hm
      clear hI hm
      go_wp2
      exact ⟨⟨m, rfl, by have := HM.out; omega, HI.out.alloc _⟩, by have := HM.out; simp only [intOf]; omega⟩
set_option maxHeartbeats 4000000 in
set_option maxRecDepth 100000 in
theorem find_no (op : Int) (hop : ¬ (1 ≤ op ∧ op ≤ 9)) (w : World) :
    Calls Try.prog 34 #[.int .i64 op] w fun e w' => e = .returned (.tuple #[opZ, .bool false]) ∧ Below w.heap.size w w' := by
  have ho := operations_any (w.alloc (.cells #[.int .i64 0, .nilFunc, .nilFunc] 64))
  have HO := Hid.mk hop
  obtain ⟨tb, htb⟩ : ∃ tb, tb = w.heap.size + 1 := ⟨_, rfl⟩
  have htb2 : (w.alloc (.cells #[.int .i64 0, .nilFunc, .nilFunc] 64)).heap.size = tb := by rw [htb]; simp
  have HS := Hid.mk (fun w1 => @fi_start w w1)
  have HT := Hid.mk htb
  rw [htb2] at ho HS
  clear htb htb2 hop
  have hsf : ∀ (W : World) (p : Addr) (f : Fn) (x c : Array Value), (store p (.func f x c)).run Try.prog W = stored Try.prog W p (.func f x c) .plain := fun W p f x c => run_store Try.prog W p _ .plain rfl
  have hsn : ∀ (W : World) (p : Addr), (store p .nilFunc).run Try.prog W = stored Try.prog W p .nilFunc .plain := fun W p => run_store Try.prog W p _ .plain rfl
  go_enter Try.func34, Try.ntmps34
  go_wp2_with (go_at_call 53; refine ho.mono ?_; clear ho; rintro e w1 ⟨rfl, h1, b1⟩; have H1 := Hid.mk (And.intro h1 b1); clear h1 b1)
  go_loopw [8] (fun u wr => ∃ j : Nat, u = .int .i64 j ∧ j ≤ 9 ∧ FI w wr) (fun u _ => 9 - (intOf u).toNat)
  case atStart => exact ⟨0, rfl, Nat.zero_le _, HS.out _ H1.out.1 H1.out.2⟩
  case round =>
    obtain ⟨j, rfl, hj, hI⟩ := hrel
    have r0 : wr.cell? ⟨w.heap.size, 0, none⟩ = some (.int .i64 0) := hI.res.cell rfl
    have r1 : wr.cell? ⟨w.heap.size, 1, none⟩ = some .nilFunc := hI.res.cell rfl
    have r2 : wr.cell? ⟨w.heap.size, 2, none⟩ = some .nilFunc := hI.res.cell rfl
    by_cases hj9n : j < 9
    · have hj9 : (j : Int) < 9 := by omega
      obtain ⟨t0, t1, t2⟩ := hI.cells hj9n
      rw [← HT.out] at t0 t1 t2
      obtain ⟨m, hm⟩ : ∃ m : Nat, m = j + 1 := ⟨_, rfl⟩
      rw [← hm] at t0
      have hne : ¬ (m : Int) = op := by have := HO.out; omega
      have hw : IntKind.i64.wrap ((j : Int) + 1) = (m : Int) := by rw [hm]; exact i64_in _ (by omega) (by omega)
      have HI := Hid.mk hI
      have HM := Hid.mk hm
      clear hI hm
      go_wp2
      exact ⟨⟨m, rfl, by have := HM.out; omega, HI.out.alloc _⟩, by have := HM.out; simp only [intOf]; omega⟩
    · have hj9 : ¬ (j : Int) < 9 := by omega
      have z0 := hI.res.free 0
      have z1 := hI.res.free 1
      have z2 := hI.res.free 2
      have HI := Hid.mk hI
      clear hI hj9n hj
      go_wp2
      have K9 := HC.set (HC.set (HC.set HI.out.res 0 (.int .i64 0)) 1 .nilFunc) 2 .nilFunc
      have b9 : Below w.heap.size w (((wr.setCell ⟨w.heap.size, 0, none⟩ (.int .i64 0)).setCell ⟨w.heap.size, 1, none⟩ .nilFunc).setCell ⟨w.heap.size, 2, none⟩ .nilFunc) := by
        have s0 : Stay (fun k => w.heap.size ≤ k) w wr := (Stay.refl _ w).trans (Stay.mono (F := fun k => w.heap.size ≤ k) ⟨HI.out.old.os, HI.out.old.tape, HI.out.old.output, HI.out.old.size, fun i hi _ => HI.out.old.block i hi⟩ (fun _ _ h => h))
        have s1 := (((s0.setCell (p := ⟨w.heap.size, 0, none⟩) (fun _ => Nat.le_refl _) (.int .i64 0)).setCell (p := ⟨w.heap.size, 1, none⟩) (fun _ => Nat.le_refl _) .nilFunc).setCell (p := ⟨w.heap.size, 2, none⟩) (fun _ => Nat.le_refl _) .nilFunc)
        exact s1.toBelow (fun k hk h => by omega) (Nat.le_refl _)
      obtain ⟨W9, hW9⟩ : ∃ W9, W9 = (((wr.setCell ⟨w.heap.size, 0, none⟩ (.int .i64 0)).setCell ⟨w.heap.size, 1, none⟩ .nilFunc).setCell ⟨w.heap.size, 2, none⟩ .nilFunc) := ⟨_, rfl⟩
      rw [← hW9] at K9 b9 ⊢
      have x0 : W9.cell? ⟨w.heap.size, 0, none⟩ = some (.int .i64 0) := K9.cell rfl
      have x1 : W9.cell? ⟨w.heap.size, 1, none⟩ = some .nilFunc := K9.cell rfl
      have x2 : W9.cell? ⟨w.heap.size, 2, none⟩ = some .nilFunc := K9.cell rfl
      refine bodyPost_ret (v := .tuple #[opZ, .bool false]) (by simp [results, Try.results34, go_sem, x0, x1, x2]; try rfl) rfl ?_
      exact ⟨rfl, b9⟩
end Go.Proofs.Ytjdknijjkjmafaa
