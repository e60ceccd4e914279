/-
  DERIVED. Slice; the document's own bit, Bit, Flip, Slice.
-/
import Derived.Test.YtfjbabiobobboaaNumber
namespace Go.Proofs.Ytfjbabiobobboaa
open Go.RowKit Go.Proofs.BitMath
set_option maxHeartbeats 400000 in
theorem rbit_any (s : ByteArray) (i : Nat) (w : World) (hs : s.size ≤ 140737488351232) (hi : i < 8 * s.size) :
    Calls Try.prog 26 #[.string s, .int .i64 i] w fun e w' => e = .returned (.int .i64 (bitL s.data.toList i)) ∧ w' = w := by
  have h8 : i / 8 < s.size := by omega
  have hc := (s[i / 8]).toNat_lt
  have hq := div_pow_le (s[i / 8]).toNat (7 - i % 8)
  have ha := i64_and1 ((s[i / 8]).toNat / 2 ^ (7 - i % 8)) hq.1 (by omega)
  go_enter Try.func26, Try.ntmps26
  go_wp2
  go_ret
  refine ⟨ret_int ?_, rfl⟩
  unfold bitL bt
  rw [List.getD_eq_getElem?_getD, List.getElem?_eq_getElem (by simpa using h8)]
  simp; rfl


set_option maxHeartbeats 400000 in
theorem rslice_no (s : ByteArray) (f n : Int) (w : World) (hs : s.size ≤ 140737488351232) (h : ¬ (0 ≤ n ∧ n ≤ 64 ∧ 0 ≤ f ∧ f + n ≤ 8 * (s.size : Int))) :
    Calls Try.prog 20 #[.string s, .int .i64 f, .int .i64 n] w fun e w' => e = .returned (.tuple #[.int .u64 0, .int .i64 13]) ∧ w' = w := by
  by_cases h1 : n < 0
  · clear h
    go_enter Try.func20, Try.ntmps20
    go_wp2
    go_ret2
    exact ⟨rfl, rfl⟩
  · by_cases h2 : 64 < n
    · clear h
      go_enter Try.func20, Try.ntmps20
      go_wp2
      go_ret2
      exact ⟨rfl, rfl⟩
    · by_cases h3 : f < 0
      · clear h
        go_enter Try.func20, Try.ntmps20
        go_wp2
        go_ret2
        exact ⟨rfl, rfl⟩
      · by_cases h5 : 8 * (s.size : Int) < n
        · clear h
          go_enter Try.func20, Try.ntmps20
          go_wp2
          go_ret2
          exact ⟨rfl, rfl⟩
        · have h4 : 8 * (s.size : Int) - n < f := by omega
          clear h
          go_enter Try.func20, Try.ntmps20
          go_wp2
          go_ret2
          exact ⟨rfl, rfl⟩
theorem range_snoc (fr k : Nat) : (List.range (k + 1)).map (fr + ·) = (List.range k).map (fr + ·) ++ [fr + k] := by rw [List.range_succ, List.map_append]; rfl
set_option maxHeartbeats 400000 in
theorem rslice_yes (s : ByteArray) (fr cnt : Nat) (w : World) (hs : s.size ≤ 140737488351232) (hc : cnt ≤ 64) (hb : fr + cnt ≤ 8 * s.size) :
    Calls Try.prog 20 #[.string s, .int .i64 fr, .int .i64 cnt] w fun e w' => e = .returned (.tuple #[.int .u64 (numN s.data.toList ((List.range cnt).map (fr + ·))), .int .i64 0]) ∧ w' = w := by
  have h4 : ¬ 8 * (s.size : Int) - cnt < fr := by omega
  have h5 : ¬ 8 * (s.size : Int) < cnt := by omega
  go_enter Try.func20, Try.ntmps20
  go_wp2_with fail
  go_loop [9, 10] (fun v i => ∃ k : Nat, k ≤ cnt ∧ i = .int .i64 k ∧ v = .int .u64 (numN s.data.toList ((List.range k).map (fr + ·)))) (fun _ i => cnt - (intOf i).toNat)
  case atStart => exact ⟨0, Nat.zero_le _, rfl, rfl⟩
  case round =>
    obtain ⟨k, hk, rfl, rfl⟩ := hrel
    by_cases hlt : k < cnt
    · have hl := numN_lt s.data.toList ((List.range k).map (fr + ·))
      rw [List.length_map, List.length_range] at hl
      have hp := pow_bd k (by omega)
      have hv : numN s.data.toList ((List.range k).map (fr + ·)) < 9223372036854775808 := by omega
      have HS : Hid (numN s.data.toList ((List.range (k + 1)).map (fr + ·)) = 2 * numN s.data.toList ((List.range k).map (fr + ·)) + bitL s.data.toList (fr + k)) := by
        show _ = _; rw [range_snoc, numN_snoc]
      have hbl := bitL_le s.data.toList (fr + k)
      clear hl hp
      generalize numN s.data.toList ((List.range k).map (fr + ·)) = v at *
      go_wp2_with fail
      rw [show ((fr : Int) + (k : Int)) = ((fr + k : Nat) : Int) from by omega]
      refine (rbit_any s (fr + k) _ hs (by omega)).mono ?_
      rintro e w1 ⟨rfl, rfl⟩
      go_wp2
      exact ⟨⟨k + 1, hlt, by go_num, ival (by rw [HS.out]; omega)⟩, by simp [intOf]; omega⟩
    · have e : k = cnt := by omega
      go_wp2
      go_ret2
      exact ⟨rfl, rfl⟩
end Go.Proofs.Ytfjbabiobobboaa
