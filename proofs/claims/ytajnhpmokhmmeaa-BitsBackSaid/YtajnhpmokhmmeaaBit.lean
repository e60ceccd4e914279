/-
  DERIVED. Contracts: place, hasBit, Bit, Flip.
-/
import Derived.Test.YtajnhpmokhmmeaaBase
namespace Go.Proofs.Ytajnhpmokhmmeaa
open Go.RowKit Go.Proofs.BitMath
/-- The mask of bit i, as a number. -/
def mkN (i : Nat) : Nat := 2 ^ (7 - i % 8)
theorem mkN_lt (i : Nat) : mkN i < 256 := mk_lt i
theorem pwI (i : Nat) : (128 : Int) / 2 ^ (i % 8) = (mkN i : Int) := by
  unfold mkN; rw [← pw (i % 8) (by omega)]; simp
set_option maxHeartbeats 400000 in
theorem place_any (i : Nat) (w : World) (hi : i ≤ 9000000000000000) :
    Calls Try.prog 19 #[.int .i64 i] w fun e w' => e = .returned (.tuple #[.int .i64 (i / 8 : Nat), .int .u8 (mkN i)]) ∧ Drew w w' := by
  go_enter Try.func19, Try.ntmps19
  go_wp2
  go_quiet (fail)
  go_wp2
  go_ret2
  exact ⟨ret2 rfl (ival (pwI i)), ⟨_, rfl⟩⟩
set_option maxHeartbeats 400000 in
theorem hasBit_yes (s : ByteArray) (i : Nat) (w : World) (hs : s.size ≤ 140737488351232) (hi : i < 8 * s.size) :
    Calls Try.prog 18 #[.string s, .int .i64 i] w fun e w' => e = .returned (.bool true) ∧ w' = w := by
  have h2 : (i : Int) / 8 < (s.size : Int) := by omega
  go_enter Try.func18, Try.ntmps18
  go_wp2
  go_ret
  exact ⟨rfl, rfl⟩
set_option maxHeartbeats 400000 in
theorem hasBit_no (s : ByteArray) (x : Int) (w : World) (hx : x ≤ 9223372036854775807) (hi : x < 0 ∨ 8 * (s.size : Int) ≤ x) :
    Calls Try.prog 18 #[.string s, .int .i64 x] w fun e w' => e = .returned (.bool false) ∧ w' = w := by
  by_cases h0 : 0 ≤ x
  · have h1 : 8 * (s.size : Int) ≤ x := by omega
    have h2 : ¬ x / 8 < (s.size : Int) := by omega
    clear hi
    go_enter Try.func18, Try.ntmps18
    go_wp2
    go_ret
    exact ⟨rfl, rfl⟩
  · clear hi
    go_enter Try.func18, Try.ntmps18
    go_wp2
    go_ret
    exact ⟨rfl, rfl⟩
set_option maxHeartbeats 400000 in
theorem bit_no (s : ByteArray) (x : Int) (w : World) (hx : x ≤ 9223372036854775807) (hi : x < 0 ∨ 8 * (s.size : Int) ≤ x) :
    Calls Try.prog 7 #[.string s, .int .i64 x] w fun e w' => e = .returned (.tuple #[.int .i64 0, .int .i64 13]) ∧ Drew w w' := by
  go_enter Try.func7, Try.ntmps7
  go_wp2_with (go_at_call 18; refine (hasBit_no _ _ _ hx hi).mono ?_; rintro e w' ⟨rfl, rfl⟩)
  go_ret2
  exact ⟨rfl, Drew.refl _⟩
set_option maxHeartbeats 400000 in
theorem bit_yes (s : ByteArray) (i : Nat) (w : World) (hs : s.size ≤ 140737488351232) (hi : i < 8 * s.size) :
    Calls Try.prog 7 #[.string s, .int .i64 i] w fun e w' => e = .returned (.tuple #[.int .i64 (bitL s.data.toList i), .int .i64 0]) ∧ Drew w w' := by
  have h8 : i / 8 < s.size := by omega
  have ha := u8_and_nat (s[i / 8]).toNat (mkN i) (s[i / 8]).toNat_lt (mkN_lt i)
  have HB : Hid (bitL s.data.toList i = bt (s[i / 8]).toNat (7 - i % 8)) := by
    show bitL _ _ = _; unfold bitL; rw [getD_of (by simpa using h8)]; rfl
  have hle := bt_le (s[i / 8]).toNat (7 - i % 8)
  have hz : (s[i / 8]).toNat &&& mkN i = 0 ↔ bt (s[i / 8]).toNat (7 - i % 8) = 0 := and_bt_zero (s[i / 8]).toNat (7 - i % 8)
  by_cases hb : bt (s[i / 8]).toNat (7 - i % 8) = 0
  · have he : (((s[i / 8]).toNat &&& mkN i : Nat) : Int) = 0 := by rw [hz.2 hb]; rfl
    have HC : Hid (bitL s.data.toList i = 0) := by show _ = _; rw [HB.out, hb]
    rw [he] at ha
    clear hz hb hle he
    go_enter Try.func7, Try.ntmps7
    go_wp2_with fail
    refine (hasBit_yes _ _ _ hs hi).mono ?_
    rintro e w' ⟨rfl, rfl⟩
    go_wp2_with fail
    refine (place_any _ _ (by omega)).mono ?_
    rintro e w' ⟨rfl, hd⟩
    go_wp2
    go_ret2
    exact ⟨ret2 (by rw [HC.out]; rfl) rfl, hd⟩
  · have he : ((((s[i / 8]).toNat &&& mkN i : Nat) : Int) == 0) = false := by
      rw [beq_eq_false_iff_ne]; intro h; exact hb (hz.1 (by omega))
    have HC : Hid (bitL s.data.toList i = 1) := by show _ = _; rw [HB.out]; omega
    clear hz hb hle
    go_enter Try.func7, Try.ntmps7
    go_wp2_with fail
    refine (hasBit_yes _ _ _ hs hi).mono ?_
    rintro e w' ⟨rfl, rfl⟩
    go_wp2_with fail
    refine (place_any _ _ (by omega)).mono ?_
    rintro e w' ⟨rfl, hd⟩
    go_wp2
    go_ret2
    exact ⟨ret2 (by rw [HC.out]; rfl) rfl, hd⟩
set_option maxHeartbeats 400000 in
theorem flip_no (s : ByteArray) (x : Int) (w : World) (hx : x ≤ 9223372036854775807) (hi : x < 0 ∨ 8 * (s.size : Int) ≤ x) :
    Calls Try.prog 9 #[.string s, .int .i64 x] w fun e w' => e = .returned (.tuple #[.string ⟨#[]⟩, .int .i64 13]) ∧ Below w.heap.size w w' := by
  go_enter Try.func9, Try.ntmps9
  go_wp2_with (go_at_call 18; refine (hasBit_no _ _ _ hx hi).mono ?_; rintro e w' ⟨rfl, rfl⟩)
  go_ret2
  exact ⟨rfl, Below.refl _ _⟩
theorem frz_new (w : World) (s : ByteArray) (j : Nat) (hj : j < s.size) : (Lib.bytesWorld w 5 s).frozen? ⟨w.heap.size, j, none⟩ = false := by
  have hsz : s.size ≤ (Lib.bytesCells w 5 s).size := by simp [Lib.bytesCells]
  simp [World.frozen?, Lib.bytesWorld_at_new]; omega
theorem below_bytes (w : World) (s : ByteArray) : Below w.heap.size w (Lib.bytesWorld w 5 s) :=
  ⟨rfl, rfl, rfl, by rw [Lib.bytesWorld_size]; omega, fun k hk => Lib.bytesWorld_at_old w 5 s k hk⟩
theorem flip_conv (W : World) (s : ByteArray) (g cp i : Nat) (hc : ∀ j (hj : j < s.size), W.cell? ⟨g, j, none⟩ = some (.int .u8 (s[j]).toNat)) (h8 : i / 8 < s.size) :
    (convert 55 9 (.slice (some ⟨g, 0, none⟩) s.size cp)).run Try.prog (W.setCell ⟨g, i / 8, none⟩ (.int .u8 ((s[i / 8]).toNat ^^^ mkN i : Nat))) = .ok (.string ⟨(flipL s.data.toList i).toArray⟩) (W.setCell ⟨g, i / 8, none⟩ (.int .u8 ((s[i / 8]).toNat ^^^ mkN i : Nat))) := by
  have hl : (flipL s.data.toList i).length = s.size := flipL_length _ _
  rw [← hl]
  refine run_convert_bytes_back _ 55 9 5 ⟨g, 0, none⟩ cp (flipL s.data.toList i) Try.underlying55 Try.underlying5 Try.underlying9 (fun j hj => ?_)
  have e : (⟨g, 0, none⟩ : Addr).add j = ⟨g, j, none⟩ := by unfold Addr.add; split <;> simp_all
  rw [e]
  have hjs : j < s.size := by rw [hl] at hj; exact hj
  by_cases hj8 : j = i / 8
  · subst hj8
    rw [World.cell?_setCell_same _ _ _ (hc _ h8)]
    simp only [flipL, List.getElem_set_self, UInt8.toNat_xor, mk_toNat]
    rw [getD_of (by simpa using h8)]; rfl
  · rw [World.cell?_setCell_other _ _ _ _ (by intro h; cases h; exact hj8 rfl), hc j hjs]
    simp only [flipL, List.getElem_set, if_neg (fun h => hj8 (Eq.symm h))]; rfl
set_option maxHeartbeats 400000 in
theorem flip_yes (s : ByteArray) (i : Nat) (w : World) (hs : s.size ≤ 140737488351232) (hi : i < 8 * s.size) :
    Calls Try.prog 9 #[.string s, .int .i64 i] w fun e w' => e = .returned (.tuple #[.string ⟨(flipL s.data.toList i).toArray⟩, .int .i64 0]) ∧ Below w.heap.size w w' := by
  have h8 : i / 8 < s.size := by omega
  have h8i : (i : Int) / 8 < (s.size : Int) := by omega
  have hx := u8_xor_nat (s[i / 8]).toNat (mkN i) (s[i / 8]).toNat_lt (mkN_lt i)
  go_enter Try.func9, Try.ntmps9
  go_wp2_with fail
  refine (hasBit_yes _ _ _ hs hi).mono ?_
  rintro e w1 ⟨rfl, rfl⟩
  go_wp2_with fail
  refine (place_any _ _ (by omega)).mono ?_
  rintro e w2 ⟨rfl, hd⟩
  have hcv := Lib.run_convert_string_bytes w2 9 55 5 s Try.underlying9 Try.underlying55 Try.underlying5
  have hc : (Lib.bytesWorld w2 5 s).cell? ⟨w2.heap.size, i / 8, none⟩ = some (.int .u8 (s[i / 8]).toNat) := by
    rw [Lib.bytesWorld_cell w2 5 s _ h8, getD_of (by simpa using h8)]; rfl
  have hf := frz_new w2 s (i / 8) h8
  have hcs : ∀ j (hj : j < s.size), (Lib.bytesWorld w2 5 s).cell? ⟨w2.heap.size, j, none⟩ = some (.int .u8 (s[j]).toNat) := fun j hj => by
    rw [Lib.bytesWorld_cell w2 5 s _ hj, getD_of (by simpa using hj)]; rfl
  have hbl := (hd.below w1.heap.size).trans ((below_bytes w2 s).mono (hd.below w1.heap.size).size)
  have hbs := (hd.below w1.heap.size).size
  generalize grownCap w2 s.size 0 5 = cp at hcv
  generalize Lib.bytesWorld w2 5 s = W at *
  have hcv2 := flip_conv W s w2.heap.size cp i hcs h8
  clear hcs
  go_wp2
  go_ret2
  exact ⟨rfl, hbl.setCell hbs _⟩
end Go.Proofs.Ytajnhpmokhmmeaa
