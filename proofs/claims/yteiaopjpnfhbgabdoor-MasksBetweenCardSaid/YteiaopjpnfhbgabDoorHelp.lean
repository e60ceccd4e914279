/-
  DERIVED. The statements' own helpers: pick, low, weight.
-/
import Derived.Test.YteiaopjpnfhbgabDoorUnrank
import Derived.Test.YteiaopjpnfhbgabDoorBinB
namespace Go.Proofs.YteiaopjpnfhbgabDoor
open Go.RowKit Go.Proofs.MaskMath
set_option maxHeartbeats 400000 in
theorem pick_any (k : Int) (n : Nat) (w : World) (hn : 0 < n) (hn2 : n ≤ 4611686018427387904) :
    Calls Tryd.prog 10 #[.int .i64 k, .int .i64 n] w fun e w' => (∃ r : Nat, r < n ∧ e = .returned (.int .i64 r)) ∧ w' = w := by
  have h0 : ¬ (n : Int) = 0 := by omega
  have hb1 : -(n : Int) < k.tmod n := Int.lt_tmod_of_pos k (by omega)
  have hb2 : k.tmod n < n := Int.tmod_lt_of_pos k (by omega)
  by_cases hneg : k.tmod n < 0
  · go_enter Tryd.func10, Tryd.ntmps10
    go_wp2
    go_ret
    exact ⟨⟨(k.tmod n + n).toNat, by omega, ret_int (by omega)⟩, rfl⟩
  · go_enter Tryd.func10, Tryd.ntmps10
    go_wp2
    go_ret
    exact ⟨⟨(k.tmod n).toNat, by omega, ret_int (by omega)⟩, rfl⟩
theorem and_low (m n : Nat) (hm : m < 18446744073709551616) (hn : n < 64) : bits .and .u64 (m : Int) ((2 : Int) ^ n - 1) = ((m % 2 ^ n : Nat) : Int) := by
  have hp := pow_lt64 hn
  have h1 := u64_and_nat m (2 ^ n - 1) hm (by omega)
  rw [Nat.and_two_pow_sub_one_eq_mod] at h1
  have e : ((2 : Int) ^ n - 1) = ((2 ^ n - 1 : Nat) : Int) := by
    have := Nat.two_pow_pos n
    rw [Int.natCast_sub (by omega)]; simp
  rw [e, h1]
set_option maxHeartbeats 400000 in
theorem low_any (n m : Nat) (w : World) (hm : m < 18446744073709551616) (hn : n ≤ 64) :
    Calls Tryd.prog 14 #[.int .i64 n, .int .u64 m] w fun e w' => e = .returned (.int .u64 (m % 2 ^ n : Nat)) ∧ w' = w := by
  by_cases h : n = 64
  · subst h
    go_enter Tryd.func14, Tryd.ntmps14
    go_wp2
    go_ret
    exact ⟨ret_int (by rw [Nat.mod_eq_of_lt (by simpa using hm)]), rfl⟩
  · have ha := and_low m n hm (by omega)
    have hn1 : ((n : Int) == 64) = false := by simp; omega
    have hn2 : (n : Int) < 64 := by omega
    have hp : 2 ^ n < 18446744073709551616 := pow_lt64 (by omega)
    have hp0 := Nat.two_pow_pos n
    have hpi : (2 : Int) ^ n = ((2 ^ n : Nat) : Int) := by simp
    rw [hpi] at ha
    generalize m % 2 ^ n = q at *
    generalize 2 ^ n = P at *
    go_enter Tryd.func14, Tryd.ntmps14
    go_wp2
    go_ret
    exact ⟨rfl, rfl⟩
set_option maxHeartbeats 400000 in
theorem weight_any (m : Nat) (w : World) (hm : m < 18446744073709551616) :
    Calls Tryd.prog 13 #[.int .u64 m] w fun e w' => e = .returned (.int .i64 (wt 64 m)) ∧ w' = w := by
  go_enter Tryd.func13, Tryd.ntmps13
  go_wp2
  go_loopw [0, 3] (fun u v wr => ∃ c k : Nat, c < 2 ^ 64 ∧ u = .int .u64 c ∧ v = .int .i64 k ∧ wt 64 c + k = wt 64 m ∧ wr = w) (fun u _ _ => (intOf u).toNat)
  case atStart => exact ⟨m, 0, by simpa using hm, rfl, rfl, rfl, rfl⟩
  case round =>
    obtain ⟨c, k, hc, rfl, rfl, hk, rfl⟩ := hrel
    have hw := wt_le m 64
    by_cases h0 : 0 < c
    · have HW : Hid (wt 64 (c &&& (c - 1)) + 1 = wt 64 c) := wt_clear 64 c h0 hc
      have HC : Hid (c &&& (c - 1) < 2 ^ 64) := and_lt hc
      have hlt : c &&& (c - 1) ≤ c - 1 := Nat.and_le_right
      have hcb : c < 18446744073709551616 := by simpa using hc
      have ha := u64_and_nat c (c - 1) hcb (by omega)
      have hkb : k ≤ 64 := by omega
      have HK : Hid (wt 64 c + k = wt 64 m) := hk
      have e1 : ((c - 1 : Nat) : Int) = (c : Int) - 1 := by omega
      rw [e1] at ha
      clear hk hw hc
      generalize c &&& (c - 1) = q at *
      go_wp2
      exact ⟨⟨q, k + 1, HC.out, rfl, by go_num, by rw [← HK.out, ← HW.out]; omega, trivial⟩, by show ((q : Nat) : Int).toNat < ((c : Nat) : Int).toNat; omega⟩
    · have e : c = 0 := by omega
      subst e
      have HK : Hid (k = wt 64 m) := by show _ = _; rw [← hk, wt_zero]; omega
      clear hk hw
      go_wp2
      go_ret
      exact ⟨ret_int (by rw [HK.out]), rfl⟩
end Go.Proofs.YteiaopjpnfhbgabDoor
