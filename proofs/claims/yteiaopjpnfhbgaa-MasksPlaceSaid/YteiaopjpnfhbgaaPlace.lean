/-
  DERIVED. MasksPlace's walk.
-/
import Derived.Test.YteiaopjpnfhbgaaHelp
namespace Go.Proofs.Yteiaopjpnfhbgaa
open Go.RowKit Go.Proofs.MaskMath
set_option maxRecDepth 100000 in
set_option maxHeartbeats 2000000 in
theorem law_place (z : Int) (a b : Nat) (w : World) (ha : a < 18446744073709551616) (hb : b < 18446744073709551616) :
    Calls Try.prog 7 #[.int .i64 z, .int .u64 a, .int .u64 b] w fun e w' => e = .returned (.bool true) ∧ Below w.heap.size w w' := by
  go_enter Try.func7, Try.ntmps7
  go_wp2_with fail
  refine (pick_any z 65 _ (by omega) (by omega)).mono ?_
  rintro e w1 ⟨⟨n, hn, rfl⟩, rfl⟩
  obtain ⟨x, hx, ex⟩ : ∃ x, x < 2 ^ n ∧ a % 2 ^ n = x := ⟨_, Nat.mod_lt _ (Nat.two_pow_pos n), rfl⟩
  obtain ⟨y, hy, ey⟩ : ∃ y, y < 2 ^ n ∧ b % 2 ^ n = y := ⟨_, Nat.mod_lt _ (Nat.two_pow_pos n), rfl⟩
  have EX : Hid (a % 2 ^ n = x) := ex
  have EY : Hid (b % 2 ^ n = y) := ey
  have hp := pow_le64 (j := n) (by omega)
  clear ex ey
  obtain ⟨s, hs⟩ : ∃ s, wt 64 x = s := ⟨_, rfl⟩
  obtain ⟨R, hR⟩ : ∃ R, rk 64 x = R := ⟨_, rfl⟩
  obtain ⟨C, hC⟩ : ∃ C, ch n s = C := ⟨_, rfl⟩
  have hwx : wt n x = s := (wt_more hx 64 (by omega)).symm.trans hs
  have hrx : rk n x = R := (rk_more hx 64 (by omega)).symm.trans hR
  have hwl : s ≤ n := by rw [← hwx]; exact wt_le x n
  have HRC : Hid (R < ch n s) := by show R < ch n s; rw [← hrx, ← hwx]; exact rk_lt x n
  have hRC : R < C := by rw [← hC]; exact HRC.out
  have HUN : Hid (unr n s R = x) := by show _ = _; rw [← hwx, ← hrx]; exact unr_rk n x hx
  have hCl : C < 9223372036854775808 := by rw [← hC]; exact ch_lt n s (by omega)
  have HORD : Hid (wt 64 y = s → (R < rk 64 y ↔ x < y) ∧ (R = rk 64 y ↔ x = y)) := fun h => by
    have hwy := wt_more hy 64 (by omega)
    have hry := rk_more hy 64 (by omega)
    rw [hry, ← hrx]
    exact rk_order hx hy (by omega)
  have HC : Hid (ch n s = C) := hC
  have HS : Hid (wt 64 x = s) := hs
  have HR : Hid (rk 64 x = R) := hR
  have hx64 : x < 18446744073709551616 := by omega
  have hy64 : y < 18446744073709551616 := by omega
  clear hs hR hC hwx hrx hx hy hp
  go_wp2_with fail
  refine (low_any n a _ ha (by omega)).mono ?_
  rintro e w1 ⟨rfl, rfl⟩
  rw [EX.out]
  go_wp2_with fail
  refine (low_any n b _ hb (by omega)).mono ?_
  rintro e w1 ⟨rfl, rfl⟩
  rw [EY.out]
  go_wp2_with fail
  refine (weight_any x _ hx64).mono ?_
  rintro e w1 ⟨rfl, rfl⟩
  rw [HS.out]
  go_wp2_with fail
  refine (count_yes n s _ (by omega) hwl).mono ?_
  rintro e w2 ⟨rfl, b2⟩
  rw [HC.out]
  go_wp2_with fail
  refine (rank_any x _ hx64).mono ?_
  rintro e w3 ⟨rfl, b3⟩
  have b3' := chain b2 b3 (Nat.le_refl _)
  clear b2 b3
  rw [HR.out]
  go_wp2_with fail
  refine (unrank_yes n s R _ (by omega) hwl HRC.out).mono ?_
  rintro e w4 ⟨rfl, b4⟩
  have b4' := chain b3' b4 (Nat.le_refl _)
  clear b3' b4
  rw [HUN.out]
  go_wp2_with fail
  refine (unrank_noR n s C _ (by omega) (by unfold okR; rw [chI_nat, HC.out]; simp)).mono ?_
  rintro e w5 ⟨rfl, b5⟩
  have b5' := chain b4' b5 (Nat.le_refl _)
  clear b4' b5
  have hr0 : ¬ (R : Int) < 0 := by omega
  have hr1 : ¬ (C : Int) ≤ (R : Int) := by omega
  have hr2 : ¬ C ≤ R := by omega
  go_wp2_with (go_at_call 10; refine (num_any _ _).mono ?_; rintro e w' ⟨rfl, rfl⟩)
  refine (weight_any y _ hy64).mono ?_
  rintro e w6 ⟨rfl, rfl⟩
  by_cases hw : wt 64 y = s
  · have ho := HORD.out hw
    rw [hw]
    obtain ⟨Q, hQ⟩ : ∃ Q, rk 64 y = Q := ⟨_, rfl⟩
    have HQ : Hid (rk 64 y = Q) := hQ
    rw [hQ] at ho
    clear hQ hw
    go_wp2_with fail
    refine (rank_any y _ hy64).mono ?_
    rintro e w7 ⟨rfl, b7⟩
    have b7' := chain b5' b7 (Nat.le_refl _)
    rw [HQ.out]
    clear b7 b5'
    rcases Nat.lt_trichotomy x y with h | h | h
    · have h1 : R < Q := ho.1.2 h
      clear ho
      go_wp2
      go_ret
      have a3 : ((R : Int) == (Q : Int)) = false := by simp; omega
      have a4 : ((x : Int) == (y : Int)) = false := by simp; omega
      exact ⟨ret_bool (by simp [a3, a4]), b7'⟩
    · have h1 : R = Q := ho.2.2 h
      subst h1
      subst h
      clear ho
      go_wp2
      go_ret
      exact ⟨rfl, b7'⟩
    · have h1 : Q < R := by have := ho.1; have := ho.2; omega
      clear ho
      go_wp2
      go_ret
      have a3 : ((R : Int) == (Q : Int)) = false := by simp; omega
      have a4 : ((x : Int) == (y : Int)) = false := by simp; omega
      exact ⟨ret_bool (by simp [a3, a4]), b7'⟩
  · have hw1 : ((wt 64 y : Int) != (s : Int)) = true := by simp; omega
    generalize wt 64 y = t at *
    go_wp2
    go_ret
    exact ⟨rfl, b5'⟩
end Go.Proofs.Yteiaopjpnfhbgaa
