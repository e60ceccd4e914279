/-
  DERIVED. The document's own Bit and Flip; what Bit, Flip and Slice answer, at all numbers; BitsOne's walk.
-/
import Derived.Test.YtajnhpmokhmmeaaSlice
namespace Go.Proofs.Ytajnhpmokhmmeaa
open Go.RowKit Go.Proofs.BitMath
set_option maxHeartbeats 400000 in
theorem rBit_no (s : ByteArray) (x : Int) (w : World) (hs : s.size ≤ 140737488351232) (hi : x < 0 ∨ 8 * (s.size : Int) ≤ x) :
    Calls Try.prog 8 #[.string s, .int .i64 x] w fun e w' => e = .returned (.tuple #[.int .i64 0, .int .i64 13]) ∧ w' = w := by
  by_cases h0 : x < 0
  · clear hi
    go_enter Try.func8, Try.ntmps8
    go_wp2
    go_ret2
    exact ⟨rfl, rfl⟩
  · have h1 : 8 * (s.size : Int) ≤ x := by omega
    clear hi
    go_enter Try.func8, Try.ntmps8
    go_wp2
    go_ret2
    exact ⟨rfl, rfl⟩
set_option maxHeartbeats 400000 in
theorem rBit_yes (s : ByteArray) (i : Nat) (w : World) (hs : s.size ≤ 140737488351232) (hi : i < 8 * s.size) :
    Calls Try.prog 8 #[.string s, .int .i64 i] w fun e w' => e = .returned (.tuple #[.int .i64 (bitL s.data.toList i), .int .i64 0]) ∧ w' = w := by
  have h1 : ¬ 8 * (s.size : Int) ≤ i := by omega
  go_enter Try.func8, Try.ntmps8
  go_wp2_with fail
  refine (rbit_any s i _ hs hi).mono ?_
  rintro e w1 ⟨rfl, rfl⟩
  go_wp2
  go_ret2
  exact ⟨rfl, rfl⟩
set_option maxHeartbeats 400000 in
theorem rFlip_no (s : ByteArray) (x : Int) (w : World) (hs : s.size ≤ 140737488351232) (hi : x < 0 ∨ 8 * (s.size : Int) ≤ x) :
    Calls Try.prog 10 #[.string s, .int .i64 x] w fun e w' => e = .returned (.tuple #[.string ⟨#[]⟩, .int .i64 13]) ∧ Below w.heap.size w w' := by
  by_cases h0 : x < 0
  · clear hi
    go_enter Try.func10, Try.ntmps10
    go_wp2
    go_ret2
    exact ⟨rfl, Below.refl _ _⟩
  · have h1 : 8 * (s.size : Int) ≤ x := by omega
    clear hi
    go_enter Try.func10, Try.ntmps10
    go_wp2
    go_ret2
    exact ⟨rfl, Below.refl _ _⟩
theorem pw256 (i : Nat) : (2 : Int) ^ (7 - i % 8) % 256 = (mkN i : Int) := by
  have h := mkN_lt i
  have e : (2 : Int) ^ (7 - i % 8) = (mkN i : Int) := by unfold mkN; simp
  rw [e]; omega
set_option maxHeartbeats 400000 in
theorem rFlip_yes (s : ByteArray) (i : Nat) (w : World) (hs : s.size ≤ 140737488351232) (hi : i < 8 * s.size) :
    Calls Try.prog 10 #[.string s, .int .i64 i] w fun e w' => e = .returned (.tuple #[.string ⟨(flipL s.data.toList i).toArray⟩, .int .i64 0]) ∧ Below w.heap.size w w' := by
  have h1 : ¬ 8 * (s.size : Int) ≤ i := by omega
  have h8 : i / 8 < s.size := by omega
  have h8i : (i : Int) / 8 < (s.size : Int) := by omega
  have hx := u8_xor_nat (s[i / 8]).toNat (mkN i) (s[i / 8]).toNat_lt (mkN_lt i)
  have hm := pw256 i
  have hcv := Lib.run_convert_string_bytes w 9 55 5 s Try.underlying9 Try.underlying55 Try.underlying5
  have hc : (Lib.bytesWorld w 5 s).cell? ⟨w.heap.size, i / 8, none⟩ = some (.int .u8 (s[i / 8]).toNat) := by
    rw [Lib.bytesWorld_cell w 5 s _ h8, getD_of (by simpa using h8)]; rfl
  have hf := frz_new w s (i / 8) h8
  have hcs : ∀ j (hj : j < s.size), (Lib.bytesWorld w 5 s).cell? ⟨w.heap.size, j, none⟩ = some (.int .u8 (s[j]).toNat) := fun j hj => by
    rw [Lib.bytesWorld_cell w 5 s _ hj, getD_of (by simpa using hj)]; rfl
  have hbl := below_bytes w s
  generalize grownCap w s.size 0 5 = cp at hcv
  generalize Lib.bytesWorld w 5 s = W at *
  have hcv2 := flip_conv W s w.heap.size cp i hcs h8
  clear hcs
  go_enter Try.func10, Try.ntmps10
  go_wp2
  go_ret2
  exact ⟨rfl, hbl.setCell (Nat.le_refl _) _⟩

/-- What Bit answers. -/
def bitA (s : ByteArray) (x : Int) : Int := if 0 ≤ x ∧ x < 8 * (s.size : Int) then bitL s.data.toList x.toNat else 0
def bitE (s : ByteArray) (x : Int) : Int := if 0 ≤ x ∧ x < 8 * (s.size : Int) then 0 else 13
/-- What Flip answers. -/
def flipA (s : ByteArray) (x : Int) : ByteArray := if 0 ≤ x ∧ x < 8 * (s.size : Int) then ⟨(flipL s.data.toList x.toNat).toArray⟩ else ⟨#[]⟩
/-- What Slice answers. -/
def sliceA (s : ByteArray) (f n : Int) : Int := if 0 ≤ n ∧ n ≤ 64 ∧ 0 ≤ f ∧ f + n ≤ 8 * (s.size : Int) then numN s.data.toList ((List.range n.toNat).map (f.toNat + ·)) else 0
def sliceE (s : ByteArray) (f n : Int) : Int := if 0 ≤ n ∧ n ≤ 64 ∧ 0 ≤ f ∧ f + n ≤ 8 * (s.size : Int) then 0 else 13
theorem bit_all (s : ByteArray) (x : Int) (w : World) (hs : s.size ≤ 140737488351232) (hx : x ≤ 9223372036854775807) :
    Calls Try.prog 7 #[.string s, .int .i64 x] w fun e w' => e = .returned (.tuple #[.int .i64 (bitA s x), .int .i64 (bitE s x)]) ∧ Drew w w' := by
  unfold bitA bitE
  by_cases h : 0 ≤ x ∧ x < 8 * (s.size : Int)
  · rw [if_pos h, if_pos h]
    obtain ⟨i, rfl⟩ := Int.eq_ofNat_of_zero_le h.1
    exact bit_yes s i w hs (by omega)
  · rw [if_neg h, if_neg h]; exact bit_no s x w hx (by omega)
theorem rBit_all (s : ByteArray) (x : Int) (w : World) (hs : s.size ≤ 140737488351232) :
    Calls Try.prog 8 #[.string s, .int .i64 x] w fun e w' => e = .returned (.tuple #[.int .i64 (bitA s x), .int .i64 (bitE s x)]) ∧ w' = w := by
  unfold bitA bitE
  by_cases h : 0 ≤ x ∧ x < 8 * (s.size : Int)
  · rw [if_pos h, if_pos h]
    obtain ⟨i, rfl⟩ := Int.eq_ofNat_of_zero_le h.1
    exact rBit_yes s i w hs (by omega)
  · rw [if_neg h, if_neg h]; exact rBit_no s x w hs (by omega)
theorem flip_all (s : ByteArray) (x : Int) (w : World) (hs : s.size ≤ 140737488351232) (hx : x ≤ 9223372036854775807) :
    Calls Try.prog 9 #[.string s, .int .i64 x] w fun e w' => e = .returned (.tuple #[.string (flipA s x), .int .i64 (bitE s x)]) ∧ Below w.heap.size w w' := by
  unfold flipA bitE
  by_cases h : 0 ≤ x ∧ x < 8 * (s.size : Int)
  · rw [if_pos h, if_pos h]
    obtain ⟨i, rfl⟩ := Int.eq_ofNat_of_zero_le h.1
    exact flip_yes s i w hs (by omega)
  · rw [if_neg h, if_neg h]; exact flip_no s x w hx (by omega)
theorem rFlip_all (s : ByteArray) (x : Int) (w : World) (hs : s.size ≤ 140737488351232) :
    Calls Try.prog 10 #[.string s, .int .i64 x] w fun e w' => e = .returned (.tuple #[.string (flipA s x), .int .i64 (bitE s x)]) ∧ Below w.heap.size w w' := by
  unfold flipA bitE
  by_cases h : 0 ≤ x ∧ x < 8 * (s.size : Int)
  · rw [if_pos h, if_pos h]
    obtain ⟨i, rfl⟩ := Int.eq_ofNat_of_zero_le h.1
    exact rFlip_yes s i w hs (by omega)
  · rw [if_neg h, if_neg h]; exact rFlip_no s x w hs (by omega)
theorem slice_all (s : ByteArray) (f n : Int) (w : World) (hs : s.size ≤ 140737488351232) :
    Calls Try.prog 6 #[.string s, .int .i64 f, .int .i64 n] w fun e w' => e = .returned (.tuple #[.int .u64 (sliceA s f n), .int .i64 (sliceE s f n)]) ∧ Below w.heap.size w w' := by
  unfold sliceA sliceE
  by_cases h : 0 ≤ n ∧ n ≤ 64 ∧ 0 ≤ f ∧ f + n ≤ 8 * (s.size : Int)
  · rw [if_pos h, if_pos h]
    obtain ⟨i, rfl⟩ := Int.eq_ofNat_of_zero_le h.1
    obtain ⟨j, rfl⟩ := Int.eq_ofNat_of_zero_le h.2.2.1
    exact slice_yes s j i w hs (by omega) (by omega)
  · rw [if_neg h, if_neg h]; exact slice_no s f n w hs h
theorem rslice_all (s : ByteArray) (f n : Int) (w : World) (hs : s.size ≤ 140737488351232) :
    Calls Try.prog 11 #[.string s, .int .i64 f, .int .i64 n] w fun e w' => e = .returned (.tuple #[.int .u64 (sliceA s f n), .int .i64 (sliceE s f n)]) ∧ w' = w := by
  unfold sliceA sliceE
  by_cases h : 0 ≤ n ∧ n ≤ 64 ∧ 0 ≤ f ∧ f + n ≤ 8 * (s.size : Int)
  · rw [if_pos h, if_pos h]
    obtain ⟨i, rfl⟩ := Int.eq_ofNat_of_zero_le h.1
    obtain ⟨j, rfl⟩ := Int.eq_ofNat_of_zero_le h.2.2.1
    exact rslice_yes s j i w hs (by omega) (by omega)
  · rw [if_neg h, if_neg h]; exact rslice_no s f n w hs h
set_option maxHeartbeats 1000000 in
theorem one_any (s : ByteArray) (i f n : Int) (w : World) (hs : s.size ≤ 140737488351232) (hi : i ≤ 9223372036854775807) :
    Calls Try.prog 4 #[.string s, .int .i64 i, .int .i64 f, .int .i64 n] w fun e w' => e = .returned (.bool true) ∧ Below w.heap.size w w' := by
  go_enter Try.func4, Try.ntmps4
  go_wp2_with fail
  refine (bit_all s i _ hs hi).mono ?_
  rintro e w1 ⟨rfl, d1⟩
  go_wp2_with fail
  refine (rBit_all s i _ hs).mono ?_
  rintro e w1 ⟨rfl, rfl⟩
  go_wp2_with fail
  refine (flip_all s i _ hs hi).mono ?_
  rintro e w2 ⟨rfl, b2⟩
  have b2' := chain (d1.below _) b2 (Nat.le_refl _)
  go_wp2_with fail
  refine (rFlip_all s i _ hs).mono ?_
  rintro e w3 ⟨rfl, b3⟩
  have b3' := chain b2' b3 (Nat.le_refl _)
  go_wp2_with fail
  refine (slice_all s f n _ hs).mono ?_
  rintro e w4 ⟨rfl, b4⟩
  have b4' := chain b3' b4 (Nat.le_refl _)
  go_wp2_with fail
  refine (rslice_all s f n _ hs).mono ?_
  rintro e w4 ⟨rfl, rfl⟩
  go_wp2
  go_ret
  exact ⟨rfl, b4'⟩
end Go.Proofs.Ytajnhpmokhmmeaa
