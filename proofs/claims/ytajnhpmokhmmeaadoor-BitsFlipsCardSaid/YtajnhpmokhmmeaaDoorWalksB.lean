/-
  DERIVED. Contracts: the document's own answers bit, Width, Check, Weight, Distance; isWidth, Check.
-/
import Derived.Test.YtajnhpmokhmmeaaDoorWalks
import Derived.Deep.RegionWith
namespace Go.Proofs.YtajnhpmokhmmeaaDoor
open Go.RowKit Go.Proofs.BitMath
theorem i64_in (n : Int) (h0 : 0 ≤ n) (h1 : n < 2 ^ 63) : IntKind.i64.wrap n = n := by rw [IntKind.wrap_i64]; omega
theorem i64_and1 (x : Int) (h0 : 0 ≤ x) (h1 : x < 2 ^ 63) : bits .and .i64 x 1 = x % 2 := by
  have := bits_mask .i64 63 (by decide) i64_in 1 (by decide) x h0 h1
  simpa using this
theorem div_pow_le (a k : Nat) : (0 : Int) ≤ (a : Int) / 2 ^ k ∧ (a : Int) / 2 ^ k ≤ (a : Int) := by
  have e : ((a : Int) / 2 ^ k) = ((a / 2 ^ k : Nat) : Int) := by simp
  rw [e]; exact ⟨Int.natCast_nonneg _, Int.ofNat_le.2 (Nat.div_le_self a (2 ^ k))⟩
set_option maxHeartbeats 400000 in
theorem rbit_any (s : ByteArray) (i : Nat) (w : World) (hs : s.size ≤ 140737488351232) (hi : i < 8 * s.size) :
    Calls Tryd.prog 22 #[.string s, .int .i64 i] w fun e w' => e = .returned (.int .i64 (bitL s.data.toList i)) ∧ w' = w := by
  have h8 : i / 8 < s.size := by omega
  have hc := (s[i / 8]).toNat_lt
  have hq := div_pow_le (s[i / 8]).toNat (7 - i % 8)
  have ha := i64_and1 ((s[i / 8]).toNat / 2 ^ (7 - i % 8)) hq.1 (by omega)
  go_enter Tryd.func22, Tryd.ntmps22
  go_wp2
  go_ret
  refine ⟨ret_int ?_, rfl⟩
  unfold bitL bt
  rw [List.getD_eq_getElem?_getD, List.getElem?_eq_getElem (by simpa using h8)]
  simp; rfl

/-- Is this number a width? -/
def isW (x : Int) : Bool := decide (64 ≤ x) && (decide (x ≤ 1024) && (x % 64 == 0))
theorem isW_pos {x : Int} (h1 : 64 ≤ x) (h2 : x ≤ 1024) : isW x = (x % 64 == 0) := by simp [isW, h1, h2]
theorem isW_big {x : Int} (h2 : 1024 < x) : isW x = false := by simp [isW]; omega
theorem isW_small {x : Int} (h2 : x < 64) : isW x = false := by simp [isW]; omega
theorem ret_bool {a b : Bool} (h : a = b) : Ending.returned (.bool a) = .returned (.bool b) := by rw [h]
set_option maxHeartbeats 400000 in
theorem isWidth_any (x : Int) (w : World) :
    Calls Tryd.prog 20 #[.int .i64 x] w fun e w' => e = .returned (.bool (isW x)) ∧ w' = w := by
  go_enter Tryd.func20, Tryd.ntmps20
  go_wp2
  all_goals go_ret
  · exact ⟨ret_bool (isW_pos ‹_› ‹_›).symm, rfl⟩
  · exact ⟨ret_bool (isW_big ‹_›).symm, rfl⟩
  · exact ⟨ret_bool (isW_small ‹_›).symm, rfl⟩
set_option maxHeartbeats 400000 in
theorem rWidth_any (x : Int) (w : World) :
    Calls Tryd.prog 21 #[.int .i64 x] w fun e w' => e = .returned (.bool (isW x)) ∧ w' = w := by
  go_enter Tryd.func21, Tryd.ntmps21
  go_wp2
  all_goals go_ret
  · exact ⟨ret_bool (isW_pos ‹_› ‹_›).symm, rfl⟩
  · exact ⟨ret_bool (isW_big ‹_›).symm, rfl⟩
  · exact ⟨ret_bool (isW_small ‹_›).symm, rfl⟩

/-- What Check answers. -/
def chk (x : Int) (n : Nat) : Int := if isW x = true then (if (n : Int) = x / 8 then 0 else 11) else 10
theorem isW_bd {x : Int} (h : isW x = true) : 64 ≤ x ∧ x ≤ 1024 := by simp [isW] at h; omega
theorem chk10 {x : Int} {n : Nat} (h : isW x = false) : chk x n = 10 := by simp [chk, h]
theorem chk11 {x : Int} {n : Nat} (h : isW x = true) (k : ((n : Int) != x / 8) = true) : chk x n = 11 := by
  have : ¬ (n : Int) = x / 8 := by simpa using k
  simp [chk, h, this]
theorem chk0 {x : Int} {n : Nat} (h : isW x = true) (k : ((n : Int) != x / 8) = false) : chk x n = 0 := by
  have : (n : Int) = x / 8 := by simpa using k
  simp [chk, h, this]
set_option maxHeartbeats 400000 in
theorem check_any (x : Int) (s : ByteArray) (w : World) :
    Calls Tryd.prog 12 #[.int .i64 x, .string s] w fun e w' => e = .returned (.int .i64 (chk x s.size)) ∧ w' = w := by
  cases hW : isW x
  · have HW : Hid (isW x = false) := hW
    go_enter Tryd.func12, Tryd.ntmps12
    go_wp2_with (go_at_call 20; refine (isWidth_any _ _).mono ?_; rintro e w' ⟨rfl, rfl⟩)
    go_ret
    exact ⟨ret_int (chk10 HW.out).symm, rfl⟩
  · have HW : Hid (isW x = true) := hW
    have hb := isW_bd hW
    cases hn : ((s.size : Int) != x / 8)
    · have Hn : Hid (((s.size : Int) != x / 8) = false) := hn
      go_enter Tryd.func12, Tryd.ntmps12
      go_wp2_with (go_at_call 20; refine (isWidth_any _ _).mono ?_; rintro e w' ⟨rfl, rfl⟩)
      go_ret
      exact ⟨ret_int (chk0 HW.out Hn.out).symm, rfl⟩
    · have Hn : Hid (((s.size : Int) != x / 8) = true) := hn
      go_enter Tryd.func12, Tryd.ntmps12
      go_wp2_with (go_at_call 20; refine (isWidth_any _ _).mono ?_; rintro e w' ⟨rfl, rfl⟩)
      go_ret
      exact ⟨ret_int (chk11 HW.out Hn.out).symm, rfl⟩
set_option maxHeartbeats 400000 in
theorem rcheck_any (x : Int) (s : ByteArray) (w : World) :
    Calls Tryd.prog 13 #[.int .i64 x, .string s] w fun e w' => e = .returned (.int .i64 (chk x s.size)) ∧ w' = w := by
  cases hW : isW x
  · have HW : Hid (isW x = false) := hW
    go_enter Tryd.func13, Tryd.ntmps13
    go_wp2_with (go_at_call 21; refine (rWidth_any _ _).mono ?_; rintro e w' ⟨rfl, rfl⟩)
    go_ret
    exact ⟨ret_int (chk10 HW.out).symm, rfl⟩
  · have HW : Hid (isW x = true) := hW
    have hb := isW_bd hW
    cases hn : ((s.size : Int) != x / 8)
    · have Hn : Hid (((s.size : Int) != x / 8) = false) := hn
      go_enter Tryd.func13, Tryd.ntmps13
      go_wp2_with (go_at_call 21; refine (rWidth_any _ _).mono ?_; rintro e w' ⟨rfl, rfl⟩)
      go_ret
      exact ⟨ret_int (chk0 HW.out Hn.out).symm, rfl⟩
    · have Hn : Hid (((s.size : Int) != x / 8) = true) := hn
      go_enter Tryd.func13, Tryd.ntmps13
      go_wp2_with (go_at_call 21; refine (rWidth_any _ _).mono ?_; rintro e w' ⟨rfl, rfl⟩)
      go_ret
      exact ⟨ret_int (chk11 HW.out Hn.out).symm, rfl⟩

set_option maxHeartbeats 400000 in
theorem rweight_any (s : ByteArray) (w : World) (hs : s.size ≤ 140737488351232) :
    Calls Tryd.prog 14 #[.string s] w fun e w' => e = .returned (.int .i64 (wt s.data.toList)) ∧ w' = w := by
  go_enter Tryd.func14, Tryd.ntmps14
  go_wp2
  go_loop [3, 4] (fun n i => ∃ k : Nat, k ≤ 8 * s.size ∧ i = .int .i64 k ∧ n = .int .i64 (sumTo (bitL s.data.toList) k)) (fun _ i => 8 * s.size - (intOf i).toNat)
  case atStart => exact ⟨0, Nat.zero_le _, rfl, rfl⟩
  case round =>
    obtain ⟨k, hk, rfl, rfl⟩ := hrel
    have hd := sumTo_le (bitL s.data.toList) (bitL_le _) k
    by_cases hlt : k < 8 * s.size
    · have HS : Hid (sumTo (bitL s.data.toList) (k + 1) = sumTo (bitL s.data.toList) k + bitL s.data.toList k) := rfl
      have hp := bitL_le s.data.toList k
      go_wp2_with (go_at_call 22; refine (rbit_any _ _ _ hs hlt).mono ?_; rintro e w1 ⟨rfl, rfl⟩)
      exact ⟨⟨k + 1, hlt, by go_num, by rw [HS.out]; go_num⟩, by simp [intOf]; omega⟩
    · go_wp2
      go_ret
      refine ⟨ret_int ?_, rfl⟩
      have e : k = 8 * s.size := by omega
      have h2 := sumTo_bits s.data.toList s.size (Nat.le_refl _)
      rw [e, h2, List.take_of_length_le (by simp)]

set_option maxHeartbeats 400000 in
theorem rdistance_no (a b : ByteArray) (w : World) (h : a.size ≠ b.size) :
    Calls Tryd.prog 15 #[.string a, .string b] w fun e w' => e = .returned (.tuple #[.int .i64 0, .int .i64 11]) ∧ w' = w := by
  have hne : ((a.size : Int) != (b.size : Int)) = true := by rw [bne_iff_ne]; omega
  go_enter Tryd.func15, Tryd.ntmps15
  go_wp2
  go_ret2
  exact ⟨rfl, rfl⟩
set_option maxHeartbeats 400000 in
theorem rdistance_yes (a b : ByteArray) (w : World) (hs : a.size ≤ 140737488351232) (h : a.size = b.size) :
    Calls Tryd.prog 15 #[.string a, .string b] w fun e w' => e = .returned (.tuple #[.int .i64 (wt (xorL a.data.toList b.data.toList)), .int .i64 0]) ∧ w' = w := by
  have hne : ((a.size : Int) != (b.size : Int)) = false := by rw [bne_eq_false_iff_eq]; omega
  have hle : a.size ≤ b.size := by omega
  have hsb : b.size ≤ 140737488351232 := by omega
  have hl : a.data.toList.length = b.data.toList.length := by simpa using h
  have Hl : Hid (a.data.toList.length = b.data.toList.length) := hl
  have Hx : Hid ((xorL a.data.toList b.data.toList).length = a.size) := xorL_length _ _ hl
  clear h hl
  go_enter Tryd.func15, Tryd.ntmps15
  go_wp2
  go_loop [6, 7] (fun n i => ∃ k : Nat, k ≤ 8 * a.size ∧ i = .int .i64 k ∧ n = .int .i64 (sumTo (bitL (xorL a.data.toList b.data.toList)) k)) (fun _ i => 8 * a.size - (intOf i).toNat)
  case atStart => exact ⟨0, Nat.zero_le _, rfl, rfl⟩
  case round =>
    obtain ⟨k, hk, rfl, rfl⟩ := hrel
    have hd := sumTo_le (bitL (xorL a.data.toList b.data.toList)) (bitL_le _) k
    by_cases hlt : k < 8 * a.size
    · have HS : Hid (sumTo (bitL (xorL a.data.toList b.data.toList)) (k + 1) = sumTo (bitL (xorL a.data.toList b.data.toList)) k + (bitL a.data.toList k + bitL b.data.toList k) % 2) := by
        show _ + _ = _; rw [bitL_xor _ _ Hl.out _ (by simpa using hlt)]
      have hp1 := bitL_le a.data.toList k
      have hp2 := bitL_le b.data.toList k
      by_cases he : bitL a.data.toList k = bitL b.data.toList k
      · have hbe : ((bitL a.data.toList k : Int) != (bitL b.data.toList k : Int)) = false := by rw [bne_eq_false_iff_eq]; omega
        have He : Hid (bitL a.data.toList k = bitL b.data.toList k) := he
        clear he
        go_wp2_with fail
        refine (rbit_any a _ _ hs hlt).mono ?_
        rintro e w1 ⟨rfl, rfl⟩
        go_wp2_with fail
        refine (rbit_any b _ _ hsb (by omega)).mono ?_
        rintro e w1 ⟨rfl, rfl⟩
        go_wp2
        exact ⟨⟨k + 1, hlt, by go_num, by rw [HS.out]; have := He.out; exact ival (by omega)⟩, by simp [intOf]; omega⟩
      · have hbe : ((bitL a.data.toList k : Int) != (bitL b.data.toList k : Int)) = true := by rw [bne_iff_ne]; omega
        go_wp2_with fail
        refine (rbit_any a _ _ hs hlt).mono ?_
        rintro e w1 ⟨rfl, rfl⟩
        go_wp2_with fail
        refine (rbit_any b _ _ hsb (by omega)).mono ?_
        rintro e w1 ⟨rfl, rfl⟩
        go_wp2
        exact ⟨⟨k + 1, hlt, by go_num, by rw [HS.out]; exact ival (by omega)⟩, by simp [intOf]; omega⟩
    · go_wp2
      go_ret2
      have e : k = 8 * a.size := by omega
      have h2 := sumTo_bits (xorL a.data.toList b.data.toList) a.size (by rw [Hx.out]; exact Nat.le_refl _)
      exact ⟨ret2 (ival (by rw [e, h2, List.take_of_length_le (by rw [Hx.out]; exact Nat.le_refl _)])) rfl, rfl⟩
end Go.Proofs.YtajnhpmokhmmeaaDoor
