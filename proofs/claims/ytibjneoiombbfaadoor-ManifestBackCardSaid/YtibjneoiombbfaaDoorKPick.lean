/-
  DERIVED. The laws' pick.
-/
import Derived.Test.YtibjneoiombbfaaDoorSBase
set_option linter.unusedVariables false
set_option linter.unusedSimpArgs false
namespace Go.Proofs.YtibjneoiombbfaaDoor
open Go.RowKit
theorem tmod_gt (k : Int) (n : Nat) (hn : 1 ≤ n) : -(n : Int) < k.tmod n := by
  have h : (-k).tmod n < n := Int.tmod_lt_of_pos _ (by omega)
  rw [Int.neg_tmod] at h
  omega
set_option maxHeartbeats 1000000 in
set_option maxRecDepth 100000 in
theorem pick_any (k : Int) (n : Nat) (w : World) (hn : 1 ≤ n) (hn2 : n ≤ 1152921504606846976) (hk : -9223372036854775808 ≤ k ∧ k < 9223372036854775808) :
    Calls Tryd.prog 14 #[.int .i64 k, .int .i64 n] w fun e w' => e = .returned (.int .i64 (k % (n : Int))) ∧ w' = w := by
  have hm : k % (n : Int) = if k.tmod n < 0 then k.tmod n + n else k.tmod n := by
    have h1 := Int.tmod_add_mul_tdiv k n
    have h2 := Int.emod_emod_of_dvd k (Int.dvd_refl (n : Int))
    have hn0 : (0 : Int) < n := by omega
    have h3 : k.tmod n % n = k % n := by
      have : k % n = (k.tmod n + n * k.tdiv n) % n := by rw [h1]
      rw [this, Int.add_mul_emod_self_left]
    have h4 : -(n : Int) < k.tmod n := tmod_gt k n hn
    have h5 : k.tmod n < n := Int.tmod_lt_of_pos k hn0
    split
    · have h6 : (k.tmod n + n) % n = k.tmod n % n := by rw [Int.add_emod, Int.emod_self, Int.add_zero, Int.emod_emod_of_dvd _ (Int.dvd_refl _)]
      rw [← h3, ← h6]
      exact Int.emod_eq_of_lt (by omega) (by omega)
    · rw [← h3]
      exact Int.emod_eq_of_lt (by omega) h5
  go_enter Tryd.func14, Tryd.ntmps14
  go_wp2
  · go_ret
    have h4 : -(n : Int) < k.tmod n := tmod_gt k n hn
    rw [if_pos ‹_›] at hm
    exact ⟨ret_int (by rw [hm]; unfold wrap64; omega), rfl⟩
  · go_ret
    rw [if_neg (by omega)] at hm
    exact ⟨ret_int hm.symm, rfl⟩
end Go.Proofs.YtibjneoiombbfaaDoor
