/-
  DERIVED. Numbers in so many bytes: Fix; the document's own.
-/
import Derived.Test.YtkoannkecojhmaaGreatDoorSFix
namespace Go.Proofs.YtkoannkecojhmaaGreatDoor
open Go.RowKit Go.Proofs.SealMath
theorem isPlace_any (b : ByteArray) (p : Int) (w : World) :
    Calls Tryz.prog 102 #[.string b, .int .i64 p] w fun e w' => e = .returned (.bool (decide (0 ≤ p ∧ p ≤ b.size))) ∧ w' = w := by
  by_cases h1 : 0 ≤ p
  · by_cases h2 : p ≤ (b.size : Int)
    · go_enter Tryz.func102, Tryz.ntmps102
      go_wp2
      go_ret
      exact ⟨ret_bool (by simp [h1, h2]), rfl⟩
    · go_enter Tryz.func102, Tryz.ntmps102
      go_wp2
      go_ret
      exact ⟨ret_bool (by simp [h2]), rfl⟩
  · go_enter Tryz.func102, Tryz.ntmps102
    go_wp2
    go_ret
    exact ⟨ret_bool (by rw [decide_eq_false (show ¬ 0 ≤ p by omega)]; rfl), rfl⟩
theorem or_add (v c : Nat) (hc : c < 256) : v * 256 ||| c = 256 * v + c := by
  have := Nat.two_pow_add_eq_or_of_lt (i := 8) (b := c) (by omega) v
  rw [Nat.mul_comm v 256]; exact this.symm
theorem numL_bound (b : ByteArray) (a n m : Nat) (h : a + n ≤ b.size) (hm : n ≤ m) (h8 : m ≤ 8) : numL (sub b a n) < 18446744073709551616 := by
  have := numL_sub_lt b a n 8 h (by omega); simpa using this
set_option maxRecDepth 100000 in
set_option maxHeartbeats 4000000 in
theorem fix_ok (b : ByteArray) (a n : Nat) (w : World) (hb : b.size < 4611686018427387904) (h1 : 1 ≤ n) (h8 : n ≤ 8) (hs : a + n ≤ b.size) :
    Calls Tryz.prog 113 #[.string b, .int .i64 a, .int .i64 n] w fun e w' => e = .returned (.tuple #[.int .u64 (numL (sub b a n)), .int .i64 0]) ∧ w' = w := by
  go_enter Tryz.func113, Tryz.ntmps113
  go_wp2_with fail
  refine (isSize_any _ _).mono ?_
  rintro e w1 ⟨rfl, rfl⟩
  rw [decide_eq_true (by omega : 1 ≤ (n : Int) ∧ (n : Int) ≤ 8)]
  go_wp2_with fail
  refine (isPlace_any _ _ _).mono ?_
  rintro e w1 ⟨rfl, rfl⟩
  rw [decide_eq_true (by omega : 0 ≤ (a : Int) ∧ (a : Int) ≤ b.size)]
  go_wp2
  go_loopw [8, 26] (fun x u wr => ∃ i : Nat, u = .int .i64 i ∧ x = .int .u64 (numL (sub b a i)) ∧ i ≤ n ∧ wr = w1) (fun _ u _ => n - (intOf u).toNat)
  case atStart => exact ⟨0, rfl, rfl, Nat.zero_le _, rfl⟩
  case round =>
    obtain ⟨i, rfl, rfl, hi, rfl⟩ := hrel
    by_cases hlt : i < n
    · have hc := (b[a + i]).toNat_lt
      have HV : Hid (numL (sub b a (i + 1)) = 256 * numL (sub b a i) + (b[a + i]).toNat) := by
        show _ = _; rw [sub_snoc b a i (by omega), numL_snoc]
      have hB := numL_bound b a (i + 1) n (by omega) hlt h8
      rw [HV.out] at hB
      have ho := u64_or_nat (numL (sub b a i) * 256) (b[a + i]).toNat (by omega) (by omega)
      rw [or_add _ _ hc] at ho
      generalize numL (sub b a i) = V at *
      rw [show ((V * 256 : Nat) : Int) = (V : Int) * 256 by simp] at ho
      go_wp2
      refine ⟨⟨i + 1, rfl, ?_, hlt, trivial⟩, by simp only [intOf]; omega⟩
      rw [HV.out]; rfl
    · have e : i = n := by omega
      subst e
      go_wp2
      go_ret2
      exact ⟨rfl, rfl⟩
/-- What Fix answers. -/
def fxE (b : ByteArray) (p n : Int) : Int := if 1 ≤ n ∧ n ≤ 8 then if 0 ≤ p ∧ p ≤ b.size then if n ≤ b.size - p then 0 else 31 else 13 else 13
def fxV (b : ByteArray) (p n : Int) : Nat := if fxE b p n = 0 then numL (sub b p.toNat n.toNat) else 0
theorem fxE_ok {b : ByteArray} {p n : Int} (h : 1 ≤ n ∧ n ≤ 8) (k : 0 ≤ p ∧ p ≤ b.size) (l : n ≤ b.size - p) : fxE b p n = 0 := by unfold fxE; rw [if_pos h, if_pos k, if_pos l]
theorem fxE_31 {b : ByteArray} {p n : Int} (h : 1 ≤ n ∧ n ≤ 8) (k : 0 ≤ p ∧ p ≤ b.size) (l : ¬ n ≤ b.size - p) : fxE b p n = 31 := by unfold fxE; rw [if_pos h, if_pos k, if_neg l]
theorem fxE_13 {b : ByteArray} {p n : Int} (h : 1 ≤ n ∧ n ≤ 8) (k : ¬ (0 ≤ p ∧ p ≤ b.size)) : fxE b p n = 13 := by unfold fxE; rw [if_pos h, if_neg k]
theorem fxE_13' {b : ByteArray} {p n : Int} (h : ¬ (1 ≤ n ∧ n ≤ 8)) : fxE b p n = 13 := by unfold fxE; rw [if_neg h]
set_option maxRecDepth 100000 in
set_option maxHeartbeats 1000000 in
theorem fix_any (b : ByteArray) (p n : Int) (w : World) (hb : b.size < 4611686018427387904) :
    Calls Tryz.prog 113 #[.string b, .int .i64 p, .int .i64 n] w fun e w' => e = .returned (.tuple #[.int .u64 (fxV b p n), .int .i64 (fxE b p n)]) ∧ w' = w := by
  by_cases h : 1 ≤ n ∧ n ≤ 8
  · by_cases k : 0 ≤ p ∧ p ≤ b.size
    · by_cases l : n ≤ b.size - p
      · obtain ⟨a, rfl⟩ : ∃ a : Nat, n = a := ⟨n.toNat, by omega⟩
        obtain ⟨q, rfl⟩ : ∃ a : Nat, p = a := ⟨p.toNat, by omega⟩
        unfold fxV; rw [if_pos (fxE_ok h k l), fxE_ok h k l]
        exact fix_ok b q a w hb (by omega) (by omega) (by omega)
      · unfold fxV; rw [fxE_31 h k l, if_neg (by decide)]
        go_enter Tryz.func113, Tryz.ntmps113
        go_wp2_with fail
        refine (isSize_any _ _).mono ?_
        rintro e w1 ⟨rfl, rfl⟩
        rw [decide_eq_true h]
        go_wp2_with fail
        refine (isPlace_any _ _ _).mono ?_
        rintro e w1 ⟨rfl, rfl⟩
        rw [decide_eq_true k]
        obtain ⟨k1, k2⟩ := k
        obtain ⟨h1, h2⟩ := h
        go_wp2
        go_ret2
        exact ⟨rfl, rfl⟩
    · unfold fxV; rw [fxE_13 h k, if_neg (by decide)]
      go_enter Tryz.func113, Tryz.ntmps113
      go_wp2_with fail
      refine (isSize_any _ _).mono ?_
      rintro e w1 ⟨rfl, rfl⟩
      rw [decide_eq_true h]
      go_wp2_with fail
      refine (isPlace_any _ _ _).mono ?_
      rintro e w1 ⟨rfl, rfl⟩
      rw [decide_eq_false k]
      clear h k
      go_wp2
      go_ret2
      exact ⟨rfl, rfl⟩
  · unfold fxV; rw [fxE_13' h, if_neg (by decide)]
    go_enter Tryz.func113, Tryz.ntmps113
    go_wp2_with fail
    refine (isSize_any _ _).mono ?_
    rintro e w1 ⟨rfl, rfl⟩
    rw [decide_eq_false h]
    clear h
    go_wp2
    go_ret2
    exact ⟨rfl, rfl⟩
theorem fixL_take (v n j : Nat) (h : j < n) : (fixL v n).take (j + 1) = (fixL v n).take j ++ [UInt8.ofNat (fxB v n j)] := by
  rw [List.take_succ_eq_append_getElem (by rw [fixL_len]; exact h), fixL_at v n j h]
end Go.Proofs.YtkoannkecojhmaaGreatDoor
