/-
  DERIVED. fits, First, math/bits.TrailingZeros64 by its table, Next.
-/
import Derived.Test.YteiaopjpnfhbgabDoorHelp
import Derived.Test.YteiaopjpnfhbgabDoorBinC
namespace Go.Proofs.YteiaopjpnfhbgabDoor
open Go.RowKit Go.Proofs.MaskMath
/-- The library's table lies in its variable. -/
def Tab (w : World) : Prop := ∀ j, j < 64 → w.cell? ⟨0, j, none⟩ = some (.int .u8 (Lib.deBruijn64tab.getD j 0))
theorem Tab.below {w w' : World} {B : Nat} (h : Tab w) (hb : Below B w w') (hB : 0 < B) : Tab w' := fun i hi => (hb.cell (p := ⟨0, i, none⟩) hB).trans (h i hi)
theorem tz_key (x a : Nat) (hx : x < 18446744073709551616) (hx0 : x ≠ 0) (hlow : x &&& (18446744073709551616 - x) = a) :
    IntKind.u64.wrap (bits BinOp.and IntKind.u64 (x : Int) (IntKind.u64.wrap (-(x : Int))) * 285870213051353865) / 288230376151711744 = ((a * 285870213051353865 % 18446744073709551616 / 288230376151711744 : Nat) : Int) := by
  have e1 : IntKind.u64.wrap (-(x : Int)) = ((18446744073709551616 - x : Nat) : Int) := by rw [IntKind.wrap_u64]; omega
  rw [e1, u64_and_nat x _ hx (by omega), hlow, IntKind.wrap_u64]
  omega
set_option maxHeartbeats 1000000 in
theorem tz_core (x k idx : Nat) (w : World) (hx0 : ((x : Int) == 0) = false)
    (key : IntKind.u64.wrap (bits BinOp.and IntKind.u64 (x : Int) (IntKind.u64.wrap (-(x : Int))) * 285870213051353865) / 288230376151711744 = (idx : Int))
    (hi : idx < 64) (hk : k < 64) (hcell : w.cell? ⟨0, idx, none⟩ = some (.int .u8 k)) :
    Calls Tryd.prog 21 #[.int .u64 x] w fun e w' => e = .returned (.int .i64 k) ∧ w' = w := by
  go_enter Tryd.func21, Tryd.ntmps21
  go_wp2_with (simp only [key])
  go_ret
  exact ⟨rfl, rfl⟩
/-- The lowest one's place, and what the mask is by it. -/
theorem tz_any (x : Nat) (w : World) (hx : x < 18446744073709551616) (h0 : 0 < x) (ht : Tab w) :
    Calls Tryd.prog 21 #[.int .u64 x] w fun e w' => (∃ l c : Nat, l < 64 ∧ x = 2 ^ l * (2 * c + 1) ∧ e = .returned (.int .i64 l)) ∧ w' = w := by
  have hx0 : x ≠ 0 := by omega
  obtain ⟨hlow, hk⟩ := Lib.lowest_bit 64 x hx0 hx
  obtain ⟨hi, htab⟩ := Lib.deBruijn64_at _ hk
  have hcell := ht _ hi
  rw [htab] at hcell
  obtain ⟨m, hm, _⟩ := Lib.ctzFrom_spec 64 x h0 hx
  have e : Lib.ctz 64 x = Lib.ctzFrom 64 x := by simp [Lib.ctz, hx0]
  refine (tz_core x _ _ w (by simp; omega) (tz_key x _ hx hx0 hlow) hi hk hcell).mono ?_
  rintro r w' ⟨rfl, rfl⟩
  exact ⟨⟨Lib.ctz 64 x, m, hk, by rw [e]; exact hm, rfl⟩, rfl⟩
set_option maxHeartbeats 400000 in
theorem tz_zero (w : World) : Calls Tryd.prog 21 #[.int .u64 0] w fun e w' => e = .returned (.int .i64 64) ∧ w' = w := by
  go_enter Tryd.func21, Tryd.ntmps21
  go_wp2
  go_ret
  exact ⟨rfl, rfl⟩
set_option maxHeartbeats 400000 in
theorem fits_any (n m : Nat) (w : World) (hm : m < 18446744073709551616) (hn : n ≤ 64) :
    Calls Tryd.prog 20 #[.int .i64 n, .int .u64 m] w fun e w' => e = .returned (.bool (decide (m < 2 ^ n))) ∧ w' = w := by
  have hpi : ((m : Int) / 2 ^ n) = ((m / 2 ^ n : Nat) : Int) := by simp
  have hq : m < 2 ^ n ↔ m / 2 ^ n = 0 := (Nat.div_eq_zero_iff_lt (Nat.two_pow_pos n)).symm
  by_cases h64 : n = 64
  · subst h64
    have hd : decide (m < 2 ^ 64) = true := by simpa using hm
    rw [hd]
    clear hpi hq hd
    go_enter Tryd.func20, Tryd.ntmps20
    go_wp2
    go_ret
    exact ⟨ret_bool (by simp; omega), rfl⟩
  · have hn1 : (n : Int) < 64 := by omega
    have hd : decide (m < 2 ^ n) = (((m / 2 ^ n : Nat) : Int) == 0) := by
      by_cases h : m < 2 ^ n
      · rw [decide_eq_true h, hq.1 h]; rfl
      · have := mt hq.2 h
        rw [decide_eq_false h]; symm; simp; omega
    rw [hd]
    clear hd hq
    generalize m / 2 ^ n = q at *
    go_enter Tryd.func20, Tryd.ntmps20
    go_wp2
    go_ret
    exact ⟨rfl, rfl⟩
set_option maxHeartbeats 400000 in
theorem next_noN (n : Int) (m : Nat) (w : World) (h : okN n = false) :
    Calls Tryd.prog 8 #[.int .i64 n, .int .u64 m] w fun e w' => e = .returned (.tuple #[.int .u64 0, .bool false]) ∧ w' = w := by
  go_enter Tryd.func8, Tryd.ntmps8
  go_wp2_with fail
  refine (isBits_any _ _).mono ?_
  rintro e w1 ⟨rfl, rfl⟩
  go_wp2
  go_ret2
  exact ⟨rfl, rfl⟩
set_option maxHeartbeats 400000 in
theorem next_noM (n m : Nat) (w : World) (hm : m < 18446744073709551616) (hn : n ≤ 64) (h : ¬ m < 2 ^ n) :
    Calls Tryd.prog 8 #[.int .i64 n, .int .u64 m] w fun e w' => e = .returned (.tuple #[.int .u64 0, .bool false]) ∧ w' = w := by
  have hok : okN (n : Int) = true := by simp [okN]; omega
  go_enter Tryd.func8, Tryd.ntmps8
  go_wp2_with fail
  refine (isBits_any _ _).mono ?_
  rintro e w1 ⟨rfl, rfl⟩
  go_wp2_with fail
  refine (fits_any n m _ hm hn).mono ?_
  rintro e w1 ⟨rfl, rfl⟩
  rw [decide_eq_false h]
  clear h
  go_wp2
  go_ret2
  exact ⟨rfl, rfl⟩
set_option maxHeartbeats 400000 in
theorem next_zero (n : Nat) (w : World) (hn : n ≤ 64) :
    Calls Tryd.prog 8 #[.int .i64 n, .int .u64 0] w fun e w' => e = .returned (.tuple #[.int .u64 0, .bool false]) ∧ w' = w := by
  have hok : okN (n : Int) = true := by simp [okN]; omega
  have HP : Hid (0 < 2 ^ n) := Nat.two_pow_pos n
  go_enter Tryd.func8, Tryd.ntmps8
  go_wp2_with fail
  refine (isBits_any _ _).mono ?_
  rintro e w1 ⟨rfl, rfl⟩
  go_wp2_with fail
  refine (fits_any n 0 _ (by omega) hn).mono ?_
  rintro e w1 ⟨rfl, rfl⟩
  rw [decide_eq_true HP.out]
  go_wp2_with fail
  refine (tz_zero _).mono ?_
  rintro e w1 ⟨rfl, rfl⟩
  go_wp2
  go_ret2
  exact ⟨rfl, rfl⟩
set_option maxRecDepth 100000 in
set_option maxHeartbeats 1000000 in
theorem next_pos (n m : Nat) (w : World) (ht : Tab w) (hm : m < 18446744073709551616) (h0 : 0 < m) (hn : n ≤ 64) (hmn : m < 2 ^ n) :
    Calls Tryd.prog 8 #[.int .i64 n, .int .u64 m] w fun e w' => (∃ d l k, 0 < k ∧ m = mk d l k ∧ e = .returned (.tuple #[.int .u64 (if nx d l k < 2 ^ n then nx d l k else 0 : Nat), .bool (decide (nx d l k < 2 ^ n))])) ∧ w' = w := by
  have hok : okN (n : Int) = true := by simp [okN]; omega
  have HM : Hid (m < 2 ^ n) := hmn
  clear hmn
  go_enter Tryd.func8, Tryd.ntmps8
  go_wp2_with fail
  refine (isBits_any _ _).mono ?_
  rintro e w1 ⟨rfl, rfl⟩
  go_wp2_with fail
  refine (fits_any n m _ hm hn).mono ?_
  rintro e w1 ⟨rfl, rfl⟩
  rw [decide_eq_true HM.out]
  go_wp2_with fail
  refine (tz_any m _ hm h0 ht).mono ?_
  rintro e w1 ⟨⟨l, c, hl, hx, rfl⟩, rfl⟩
  obtain ⟨d, k, hk, hmk, hR⟩ := mk_split hx
  obtain ⟨R, eR⟩ : ∃ R, R = 2 ^ (l + k + 1) * d + 2 ^ (l + k) := ⟨_, rfl⟩
  obtain ⟨P, eP⟩ : ∃ P, 2 ^ l = P := ⟨_, rfl⟩
  have hP : P < 18446744073709551616 := by rw [← eP]; exact pow_lt64 hl
  have hR64 : R ≤ 18446744073709551616 := by
    have hd : 2 ^ l ∣ 2 ^ 64 := Nat.pow_dvd_pow 2 (by omega)
    obtain ⟨z, hz⟩ := hd
    rw [eR, ← hR, hx]
    have h1 : 2 ^ l * (2 * c + 1) < 2 ^ l * z := by rw [← hz, ← hx]; simpa using hm
    have h2 := Nat.lt_of_mul_lt_mul_left h1
    have h3 : 2 ^ l * (2 * c + 1 + 1) ≤ 2 ^ l * z := Nat.mul_le_mul_left _ h2
    rw [← hz] at h3
    rw [Nat.mul_succ] at h3
    simpa using h3
  have hsum : m + P = R := by rw [eR, ← hR, eP]
  have hpi : (2 : Int) ^ l = (P : Int) := by rw [← eP]; simp
  have hl64 : (l : Int) < 64 := by omega
  have hge : R ≤ nx d l k := by rw [eR]; unfold nx; omega
  have h2n := pow_le64 hn
  by_cases hov : R = 18446744073709551616
  · have HN : Hid (¬ nx d l k < 2 ^ n) := by show ¬ _; omega
    have HK : Hid (m = mk d l k) := hmk
    have hsI : (m : Int) + (P : Int) = 18446744073709551616 := by omega
    have hw : IntKind.u64.wrap ((m : Int) + (P : Int)) = 0 := by rw [hsI]; decide
    clear hsum eR eP hx hR hge h2n hov hR64 hmk
    go_wp2
    go_ret2
    refine ⟨⟨d, l, k, hk, HK.out, ?_⟩, rfl⟩
    rw [decide_eq_false HN.out, if_neg HN.out]; rfl
  · have hRl : R < 18446744073709551616 := by omega
    have hR0 : 0 < R := by omega
    have hxor := u64_xor_nat m R hm hRl
    have hpart : (m ^^^ R) / 2 ^ (l + 2) = 2 ^ (k - 1) - 1 := by rw [eR, hmk]; exact xor_part d l k hk
    obtain ⟨X, eX⟩ : ∃ X, m ^^^ R = X := ⟨_, rfl⟩
    obtain ⟨Y, eY⟩ : ∃ Y, 2 ^ (k - 1) - 1 = Y := ⟨_, rfl⟩
    have hXl : X < 18446744073709551616 := by rw [← eX]; exact Nat.xor_lt_two_pow (n := 64) hm hRl
    rw [eX] at hxor hpart
    rw [eY] at hpart
    have hYl : Y < 18446744073709551616 := by rw [← hpart]; exact Nat.lt_of_le_of_lt (Nat.div_le_self _ _) hXl
    have hsh : (X : Int) / 2 ^ (l + 2) = (Y : Int) := by rw [← hpart]; simp
    have hor := u64_or_nat R Y hRl hYl
    have hnx : R ||| Y = nx d l k := by rw [eR, ← eY]; exact or_part d l k
    obtain ⟨V, eV⟩ : ∃ V, nx d l k = V := ⟨_, rfl⟩
    rw [hnx, eV] at hor
    have hVl : V < 18446744073709551616 := by rw [← eV, ← hnx]; exact Nat.or_lt_two_pow (n := 64) hRl hYl
    have HV : Hid (nx d l k = V) := eV
    have HK : Hid (m = mk d l k) := hmk
    have hsI : (m : Int) + (P : Int) = (R : Int) := by omega
    have hR1 : ((R : Int) == 0) = false := by simp; omega
    have hlk : l + k < 64 := by
      have h1 : 2 ^ (l + k) < 2 ^ 64 := by
        have : 2 ^ (l + k) ≤ R := by rw [eR]; omega
        simpa using Nat.lt_of_le_of_lt this hRl
      exact (Nat.pow_lt_pow_iff_right (by omega)).1 h1
    have hl2 : (l : Int) + 2 ≤ 64 := by omega
    have htn : ((l : Int) + 2).toNat = l + 2 := by omega
    clear eV hnx eY eX hpart hge eR hmk hx hR hsum eP h2n hR64 hov hlk
    go_wp2_with fail
    refine (fits_any n V _ hVl hn).mono ?_
    rintro e w1 ⟨rfl, rfl⟩
    rw [← HV.out]
    by_cases hf : nx d l k < 2 ^ n
    · have HF : Hid (nx d l k < 2 ^ n) := hf
      rw [decide_eq_true hf]
      clear hf
      go_wp2
      go_ret2
      refine ⟨⟨d, l, k, hk, HK.out, ?_⟩, rfl⟩
      rw [decide_eq_true HF.out, if_pos HF.out, HV.out]; rfl
    · have HF : Hid (¬ nx d l k < 2 ^ n) := hf
      rw [decide_eq_false hf]
      clear hf
      go_wp2
      go_ret2
      refine ⟨⟨d, l, k, hk, HK.out, ?_⟩, rfl⟩
      rw [decide_eq_false HF.out, if_neg HF.out]; rfl
end Go.Proofs.YteiaopjpnfhbgabDoor
