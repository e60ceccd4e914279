/-
  DERIVED. isWidth, Check.
-/
import Derived.Test.YtmdmjjobhkpojaaBase
namespace Go.Proofs.Ytmdmjjobhkpojaa
open Go.RowKit Go.Proofs.BitMath
/-- Is this number a width? -/
def isW (x : Int) : Bool := decide (64 ≤ x) && (decide (x ≤ 1024) && (x % 64 == 0))
theorem isW_pos {x : Int} (h1 : 64 ≤ x) (h2 : x ≤ 1024) : isW x = (x % 64 == 0) := by simp [isW, h1, h2]
theorem isW_big {x : Int} (h2 : 1024 < x) : isW x = false := by simp [isW]; omega
theorem isW_small {x : Int} (h2 : x < 64) : isW x = false := by simp [isW]; omega
set_option maxHeartbeats 400000 in
theorem isWidth_any (x : Int) (w : World) :
    Calls Try.prog 34 #[.int .i64 x] w fun e w' => e = .returned (.bool (isW x)) ∧ w' = w := by
  go_enter Try.func34, Try.ntmps34
  go_wp2
  all_goals go_ret
  · exact ⟨ret_bool (isW_pos ‹_› ‹_›).symm, rfl⟩
  · exact ⟨ret_bool (isW_big ‹_›).symm, rfl⟩
  · exact ⟨ret_bool (isW_small ‹_›).symm, rfl⟩
/-- What Check answers. -/
def chk (x : Int) (n : Nat) : Int := if isW x = true then (if (n : Int) = x / 8 then 0 else 11) else 10
theorem isW_bd {x : Int} (h : isW x = true) : 64 ≤ x ∧ x ≤ 1024 := by simp [isW] at h; omega
theorem chk10 {x : Int} {n : Nat} (h : isW x = false) : chk x n = 10 := by simp [chk, h]
theorem chk11 {x : Int} {n : Nat} (h : isW x = true) (k : ((n : Int) != x / 8) = true) : chk x n = 11 := by
  have : ¬ (n : Int) = x / 8 := by simpa using k
  simp [chk, h, this]
theorem chk0 {x : Int} {n : Nat} (h : isW x = true) (k : ((n : Int) != x / 8) = false) : chk x n = 0 := by
  have : (n : Int) = x / 8 := by simpa using k
  simp [chk, h, this]
set_option maxHeartbeats 400000 in
theorem check_any (x : Int) (s : ByteArray) (w : World) :
    Calls Try.prog 23 #[.int .i64 x, .string s] w fun e w' => e = .returned (.int .i64 (chk x s.size)) ∧ w' = w := by
  cases hW : isW x
  · have HW : Hid (isW x = false) := hW
    go_enter Try.func23, Try.ntmps23
    go_wp2_with (go_at_call 34; refine (isWidth_any _ _).mono ?_; rintro e w' ⟨rfl, rfl⟩)
    go_ret
    exact ⟨ret_int (chk10 HW.out).symm, rfl⟩
  · have HW : Hid (isW x = true) := hW
    have hb := isW_bd hW
    cases hn : ((s.size : Int) != x / 8)
    · have Hn : Hid (((s.size : Int) != x / 8) = false) := hn
      go_enter Try.func23, Try.ntmps23
      go_wp2_with (go_at_call 34; refine (isWidth_any _ _).mono ?_; rintro e w' ⟨rfl, rfl⟩)
      go_ret
      exact ⟨ret_int (chk0 HW.out Hn.out).symm, rfl⟩
    · have Hn : Hid (((s.size : Int) != x / 8) = true) := hn
      go_enter Try.func23, Try.ntmps23
      go_wp2_with (go_at_call 34; refine (isWidth_any _ _).mono ?_; rintro e w' ⟨rfl, rfl⟩)
      go_ret
      exact ⟨ret_int (chk11 HW.out Hn.out).symm, rfl⟩

end Go.Proofs.Ytmdmjjobhkpojaa
