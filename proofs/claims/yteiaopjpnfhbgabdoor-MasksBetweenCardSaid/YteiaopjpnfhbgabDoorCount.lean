/-
  DERIVED. Count, and the document's own; num.
-/
import Derived.Test.YteiaopjpnfhbgabDoorGrid
namespace Go.Proofs.YteiaopjpnfhbgabDoor
open Go.RowKit Go.Proofs.MaskMath
theorem index_grid (n i : Nat) (w : World) (hi : i ≤ n) (hn : n ≤ 64) : (Instr.index 44 (gridV n) (.int .i64 i)).run Tryd.prog w = .ok (rowV i) w := by
  have h1 : i < 65 := by omega
  have hu := run_underlying (P := Tryd.prog) Tryd.underlying44
  have hs := Tryd.sizeOf43
  have ha := Tryd.isAgg43
  unfold gridV rowV Instr.index
  simp [asIntOf, hu, h1, hs, part, ha]
  rw [cellsF_part _ _ _ _ (by omega)]
  exact cellsF_ext fun k hk => gridF_row hi hk
theorem index_row (i s : Nat) (w : World) (hs : s ≤ 64) : (Instr.index 43 (rowV i) (.int .i64 s)).run Tryd.prog w = .ok (.int .i64 (ch i s)) w := by
  have h1 : s < 65 := by omega
  have hu := run_underlying (P := Tryd.prog) Tryd.underlying43
  have hz := Tryd.sizeOf3
  have ha := Tryd.isAgg3
  have hc := cellsF_at (f := fun k => (ch i k : Int)) h1
  unfold rowV Instr.index
  simp [asIntOf, hu, h1, hz, part, ha, hc]
set_option maxRecDepth 100000 in
set_option maxHeartbeats 1000000 in
theorem count_yes (n s : Nat) (w : World) (hn : n ≤ 64) (hs : s ≤ n) :
    Calls Tryd.prog 11 #[.int .i64 n, .int .i64 s] w fun e w' => e = .returned (.tuple #[.int .i64 (ch n s), .int .i64 0]) ∧ Below w.heap.size w w' := by
  have e1 : okN (n : Int) = true := by simp [okN]; omega
  have e2 : okS (n : Int) (s : Int) = true := by simp [okS]; omega
  go_enter Tryd.func11, Tryd.ntmps11
  go_wp2_with fail
  refine (isBits_any _ _).mono ?_
  rintro e w1 ⟨rfl, rfl⟩
  go_wp2_with fail
  refine (isWeight_any _ _ _).mono ?_
  rintro e w1 ⟨rfl, rfl⟩
  go_wp2_with fail
  refine (rows_any n _ hn).mono ?_
  rintro e w2 ⟨rfl, hb⟩
  have hx := fun w => index_grid n n w (Nat.le_refl n) hn
  have hy := fun w => index_row n s w (by omega)
  go_wp2
  go_ret2
  exact ⟨rfl, hb⟩
set_option maxHeartbeats 400000 in
theorem count_noN (n s : Int) (w : World) (h : okN n = false) :
    Calls Tryd.prog 11 #[.int .i64 n, .int .i64 s] w fun e w' => e = .returned (.tuple #[.int .i64 0, .int .i64 20]) ∧ Below w.heap.size w w' := by
  go_enter Tryd.func11, Tryd.ntmps11
  go_wp2_with fail
  refine (isBits_any _ _).mono ?_
  rintro e w1 ⟨rfl, rfl⟩
  go_wp2
  go_ret2
  exact ⟨rfl, Below.refl _ _⟩
set_option maxHeartbeats 400000 in
theorem count_noS (n s : Int) (w : World) (h : okN n = true) (k : okS n s = false) :
    Calls Tryd.prog 11 #[.int .i64 n, .int .i64 s] w fun e w' => e = .returned (.tuple #[.int .i64 0, .int .i64 0]) ∧ Below w.heap.size w w' := by
  go_enter Tryd.func11, Tryd.ntmps11
  go_wp2_with fail
  refine (isBits_any _ _).mono ?_
  rintro e w1 ⟨rfl, rfl⟩
  go_wp2_with fail
  refine (isWeight_any _ _ _).mono ?_
  rintro e w1 ⟨rfl, rfl⟩
  go_wp2
  go_ret2
  exact ⟨rfl, Below.refl _ _⟩
/-- n over s, for whole numbers. -/
def chI (n s : Int) : Int := if okS n s = true then (ch n.toNat s.toNat : Int) else 0
/-- What Count answers. -/
def cntA (n s : Int) : Int := if okN n = true then chI n s else 0
def cntE (n : Int) : Int := if okN n = true then 0 else 20
theorem okN_nat {n : Int} (h : okN n = true) : ∃ a : Nat, n = a ∧ a ≤ 64 := by
  simp [okN] at h
  exact ⟨n.toNat, by omega, by omega⟩
theorem okS_nat {n s : Int} (h : okS n s = true) : ∃ b : Nat, s = b ∧ (b : Int) ≤ n := by
  simp [okS] at h
  exact ⟨s.toNat, by omega, by omega⟩
theorem chI_nat (n s : Nat) : chI n s = ch n s := by
  unfold chI
  by_cases h : s ≤ n
  · rw [if_pos (by simp [okS]; omega)]; simp
  · rw [if_neg (by simp [okS]; omega), ch_big n s (by omega)]; rfl
theorem count_all (n s : Int) (w : World) :
    Calls Tryd.prog 11 #[.int .i64 n, .int .i64 s] w fun e w' => e = .returned (.tuple #[.int .i64 (cntA n s), .int .i64 (cntE n)]) ∧ Below w.heap.size w w' := by
  unfold cntA cntE chI
  cases h : okN n
  · simp only [Bool.false_eq_true, if_false]; exact count_noN n s w h
  · cases k : okS n s
    · simp only [Bool.false_eq_true, if_false, if_true]; exact count_noS n s w h k
    · obtain ⟨a, rfl, ha⟩ := okN_nat h
      obtain ⟨b, rfl, hb⟩ := okS_nat k
      simp only [if_true]
      exact count_yes a b w ha (by omega)
set_option maxHeartbeats 400000 in
theorem num_any (e : Int) (w : World) : Calls Tryd.prog 12 #[.int .i64 e] w fun r w' => r = .returned (.int .i64 e) ∧ w' = w := by
  go_enter Tryd.func12, Tryd.ntmps12
  go_wp2
  go_ret
  exact ⟨rfl, rfl⟩
end Go.Proofs.YteiaopjpnfhbgabDoor
