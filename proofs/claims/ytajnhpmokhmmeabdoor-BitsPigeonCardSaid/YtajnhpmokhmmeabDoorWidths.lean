/-
  DERIVED. The helpers of the statements on chunks: widths.
-/
import Derived.Test.YtajnhpmokhmmeabDoorMathD
namespace Go.Proofs.YtajnhpmokhmmeabDoor
open Go.RowKit Go.Shelf Go.Proofs.BitMath
theorem i64_and_pow (n : Int) (k : Nat) (hk : k < 63) : bits .and .i64 n (2 ^ k - 1) = n % 2 ^ k := by
  have hp : (2 : Nat) ^ k < 2 ^ 63 := Nat.pow_lt_pow_right (by omega) hk
  have hp0 : 0 < (2 : Nat) ^ k := Nat.pow_pos (by omega)
  have e : ((2 : Int) ^ k - 1) = ((2 ^ k - 1 : Nat) : Int) := by
    have : ((2 ^ k : Nat) : Int) = (2 : Int) ^ k := by simp
    omega
  have hm : (BitVec.ofInt 64 ((2 : Int) ^ k - 1)).toNat = 2 ^ k - 1 := by rw [e, BitVec.toNat_ofInt]; omega
  have key : (BitVec.ofInt 64 n &&& BitVec.ofInt 64 ((2 : Int) ^ k - 1)).toNat = (n % ((2 ^ 64 : Nat) : Int)).toNat % 2 ^ k := by
    rw [BitVec.toNat_and, BitVec.toNat_ofInt, hm, Nat.and_two_pow_sub_one_eq_mod]
  show IntKind.i64.wrap ((BitVec.ofInt 64 n &&& BitVec.ofInt 64 ((2 : Int) ^ k - 1)).toNat : Nat) = n % 2 ^ k
  rw [key]
  have h64 : ((n % ((2 ^ 64 : Nat) : Int)).toNat : Int) = n % ((2 ^ 64 : Nat) : Int) := Int.toNat_of_nonneg (Int.emod_nonneg _ (by decide))
  have hd : ((2 ^ k : Nat) : Int) ∣ ((2 ^ 64 : Nat) : Int) := Int.natCast_dvd_natCast.2 (Nat.pow_dvd_pow 2 (by omega))
  have hlt : (((n % ((2 ^ 64 : Nat) : Int)).toNat % 2 ^ k : Nat) : Int) = n % 2 ^ k := by
    rw [Int.natCast_emod, h64, Int.emod_emod_of_dvd _ hd]; simp
  rw [i64_in _ (Int.natCast_nonneg _) (by have := Nat.mod_lt ((n % ((2 ^ 64 : Nat) : Int)).toNat) hp0; omega), hlt]
theorem and15 (n : Int) : ∃ a : Nat, a < 16 ∧ bits .and .i64 n 15 = a := ⟨(n % 16).toNat, by omega, by have := i64_and_pow n 4 (by decide); rw [show (2 : Int) ^ 4 - 1 = 15 by decide, show (2 : Int) ^ 4 = 16 by decide] at this; rw [this]; omega⟩
theorem and31 (n : Int) : ∃ a : Nat, a < 2147483648 ∧ bits .and .i64 n 2147483647 = a := ⟨(n % 2147483648).toNat, by omega, by have := i64_and_pow n 31 (by decide); rw [show (2 : Int) ^ 31 - 1 = 2147483647 by decide, show (2 : Int) ^ 31 = 2147483648 by decide] at this; rw [this]; omega⟩
set_option maxRecDepth 100000 in
set_option maxHeartbeats 400000 in
theorem widths_any (p q : Int) (w : World) :
    Calls Tryd.prog 4 #[.int .i64 p, .int .i64 q] w fun e w' => (∃ x m : Nat, OkC x m ∧ e = .returned (.tuple #[.int .i64 x, .int .i64 m])) ∧ Drew w w' := by
  obtain ⟨a, ha, ea⟩ := and15 p
  obtain ⟨b, hb, eb⟩ := and31 q
  have hm : b % (64 * (1 + a) / 8 - (64 * (1 + a) + 31) / 32 + 1) < 64 * (1 + a) / 8 - (64 * (1 + a) + 31) / 32 + 1 := Nat.mod_lt _ (by omega)
  have er : (b : Int) % ((64 : Int) * (1 + (a : Int)) / 8 - (64 * (1 + (a : Int)) + 31) / 32 + 1) = ((b % (64 * (1 + a) / 8 - (64 * (1 + a) + 31) / 32 + 1) : Nat) : Int) := by
    rw [show ((64 : Int) * (1 + (a : Int)) / 8 - (64 * (1 + (a : Int)) + 31) / 32 + 1) = ((64 * (1 + a) / 8 - (64 * (1 + a) + 31) / 32 + 1 : Nat) : Int) by omega]; rfl
  have HM : Hid _ := hm
  have HR : Hid _ := er
  clear hm er
  go_enter Tryd.func4, Tryd.ntmps4
  go_wp2_with fail
  go_quiet (fail)
  go_wp2
  refine bodyPost_ret (results_tmp2 rfl _ _ _) rfl ?_
  have hm := HM.out
  have hr := HR.out
  generalize b % (64 * (1 + a) / 8 - (64 * (1 + a) + 31) / 32 + 1) = c at *
  refine ⟨⟨64 * (1 + a), (64 * (1 + a) + 31) / 32 + c, ⟨by omega, by omega, by omega, by omega, by omega⟩, ret2 (ival (by omega)) (ival ?_)⟩, ⟨nq, rfl⟩⟩
  rw [hr]; unfold wrap64; omega
end Go.Proofs.YtajnhpmokhmmeabDoor
