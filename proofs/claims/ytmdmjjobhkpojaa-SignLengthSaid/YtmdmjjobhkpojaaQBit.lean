/-
  DERIVED. bits: one bit.
-/
import Derived.Test.YtmdmjjobhkpojaaBit
namespace Go.Proofs.Ytmdmjjobhkpojaa
open Go.RowKit Go.Proofs.BitMath
set_option maxHeartbeats 400000 in
theorem hasBit_yes (s : ByteArray) (i : Nat) (w : World) (hs : s.size ≤ 140737488351232) (hi : i < 8 * s.size) :
    Calls Try.prog 32 #[.string s, .int .i64 i] w fun e w' => e = .returned (.bool true) ∧ w' = w := by
  have h2 : (i : Int) / 8 < (s.size : Int) := by omega
  go_enter Try.func32, Try.ntmps32
  go_wp2
  go_ret
  exact ⟨rfl, rfl⟩
set_option maxHeartbeats 400000 in
theorem hasBit_no (s : ByteArray) (x : Int) (w : World) (hx : x ≤ 9223372036854775807) (hi : x < 0 ∨ 8 * (s.size : Int) ≤ x) :
    Calls Try.prog 32 #[.string s, .int .i64 x] w fun e w' => e = .returned (.bool false) ∧ w' = w := by
  by_cases h0 : 0 ≤ x
  · have h1 : 8 * (s.size : Int) ≤ x := by omega
    have h2 : ¬ x / 8 < (s.size : Int) := by omega
    clear hi
    go_enter Try.func32, Try.ntmps32
    go_wp2
    go_ret
    exact ⟨rfl, rfl⟩
  · clear hi
    go_enter Try.func32, Try.ntmps32
    go_wp2
    go_ret
    exact ⟨rfl, rfl⟩
set_option maxHeartbeats 400000 in
theorem bit_no (s : ByteArray) (x : Int) (w : World) (hx : x ≤ 9223372036854775807) (hi : x < 0 ∨ 8 * (s.size : Int) ≤ x) :
    Calls Try.prog 22 #[.string s, .int .i64 x] w fun e w' => e = .returned (.tuple #[.int .i64 0, .int .i64 13]) ∧ Drew w w' := by
  go_enter Try.func22, Try.ntmps22
  go_wp2_with (go_at_call 32; refine (hasBit_no _ _ _ hx hi).mono ?_; rintro e w' ⟨rfl, rfl⟩)
  go_ret2
  exact ⟨rfl, Drew.refl _⟩
set_option maxHeartbeats 400000 in
theorem bit_yes (s : ByteArray) (i : Nat) (w : World) (hs : s.size ≤ 140737488351232) (hi : i < 8 * s.size) :
    Calls Try.prog 22 #[.string s, .int .i64 i] w fun e w' => e = .returned (.tuple #[.int .i64 (bitL s.data.toList i), .int .i64 0]) ∧ Drew w w' := by
  have h8 : i / 8 < s.size := by omega
  have ha := u8_and_nat (s[i / 8]).toNat (mkN i) (s[i / 8]).toNat_lt (mkN_lt i)
  have HB : Hid (bitL s.data.toList i = bt (s[i / 8]).toNat (7 - i % 8)) := by
    show bitL _ _ = _; unfold bitL; rw [getD_of (by simpa using h8)]; rfl
  have hle := bt_le (s[i / 8]).toNat (7 - i % 8)
  have hz : (s[i / 8]).toNat &&& mkN i = 0 ↔ bt (s[i / 8]).toNat (7 - i % 8) = 0 := and_bt_zero (s[i / 8]).toNat (7 - i % 8)
  by_cases hb : bt (s[i / 8]).toNat (7 - i % 8) = 0
  · have he : (((s[i / 8]).toNat &&& mkN i : Nat) : Int) = 0 := by rw [hz.2 hb]; rfl
    have HC : Hid (bitL s.data.toList i = 0) := by show _ = _; rw [HB.out, hb]
    rw [he] at ha
    clear hz hb hle he
    go_enter Try.func22, Try.ntmps22
    go_wp2_with fail
    refine (hasBit_yes _ _ _ hs hi).mono ?_
    rintro e w' ⟨rfl, rfl⟩
    go_wp2_with fail
    refine (place_any _ _ (by omega)).mono ?_
    rintro e w' ⟨rfl, hd⟩
    go_wp2
    go_ret2
    exact ⟨ret2 (by rw [HC.out]; rfl) rfl, hd⟩
  · have he : ((((s[i / 8]).toNat &&& mkN i : Nat) : Int) == 0) = false := by
      rw [beq_eq_false_iff_ne]; intro h; exact hb (hz.1 (by omega))
    have HC : Hid (bitL s.data.toList i = 1) := by show _ = _; rw [HB.out]; omega
    clear hz hb hle
    go_enter Try.func22, Try.ntmps22
    go_wp2_with fail
    refine (hasBit_yes _ _ _ hs hi).mono ?_
    rintro e w' ⟨rfl, rfl⟩
    go_wp2_with fail
    refine (place_any _ _ (by omega)).mono ?_
    rintro e w' ⟨rfl, hd⟩
    go_wp2
    go_ret2
    exact ⟨ret2 (by rw [HC.out]; rfl) rfl, hd⟩
end Go.Proofs.Ytmdmjjobhkpojaa
