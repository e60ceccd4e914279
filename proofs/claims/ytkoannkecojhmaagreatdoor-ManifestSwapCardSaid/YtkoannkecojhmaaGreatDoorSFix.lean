/-
  DERIVED. Numbers in so many bytes: PutFix, Fix; the document's own.
-/
import Derived.Test.YtkoannkecojhmaaGreatDoorSBA
import Derived.Test.YtkoannkecojhmaaGreatDoorSMath
namespace Go.Proofs.YtkoannkecojhmaaGreatDoor
open Go.RowKit Go.Proofs.SealMath
theorem isSize_any (n : Int) (w : World) :
    Calls Tryz.prog 81 #[.int .i64 n] w fun e w' => e = .returned (.bool (decide (1 ≤ n ∧ n ≤ 8))) ∧ w' = w := by
  by_cases h1 : 1 ≤ n
  · by_cases h2 : n ≤ 8
    · go_enter Tryz.func81, Tryz.ntmps81
      go_wp2
      go_ret
      exact ⟨ret_bool (by simp [h1, h2]), rfl⟩
    · go_enter Tryz.func81, Tryz.ntmps81
      go_wp2
      go_ret
      exact ⟨ret_bool (by simp [h2]), rfl⟩
  · go_enter Tryz.func81, Tryz.ntmps81
    go_wp2
    go_ret
    exact ⟨ret_bool (by rw [decide_eq_false (show ¬ 1 ≤ n by omega)]; rfl), rfl⟩
/-- The bytes of a number, the greatest first. -/
def fxB (v n k : Nat) : Nat := v / 256 ^ (n - 1 - k) % 256
def fixL (v n : Nat) : List UInt8 := (List.range n).map fun k => UInt8.ofNat (fxB v n k)
theorem fixL_len (v n : Nat) : (fixL v n).length = n := by simp [fixL]
theorem fixL_at (v n k : Nat) (h : k < n) : (fixL v n)[k]'(by rw [fixL_len]; exact h) = UInt8.ofNat (fxB v n k) := by simp [fixL]
theorem fixL_nat (v n k : Nat) (h : k < n) : ((fixL v n)[k]'(by rw [fixL_len]; exact h)).toNat = fxB v n k := by
  rw [fixL_at v n k h, UInt8.toNat_ofNat']; exact Nat.mod_mod _ _
theorem pow256 (k : Nat) : 256 ^ k = 2 ^ (8 * k) := by rw [Nat.pow_mul]
theorem arr8_slice (W : World) (g n : Nat) (hn : n ≤ 8) :
    (Instr.sliceAt 119 (.pointer (some ⟨g, 0, none⟩)) none (some (.int .i64 n)) none).run Tryz.prog W = .ok (.slice (some ⟨g, 0, none⟩) n 8) W := by
  have hal : Tryz.prog.arrayLen 119 = 8 := by simp [Program.arrayLen, Tryz.underlying119]
  rw [run_sliceAt_array_h W 119 ⟨g, 0, none⟩ (by simp [Program.arrayLen, Program.elem, Tryz.underlying119]) .i64 (n : Int) (by omega) (by rw [hal]; omega)]
  have he : Tryz.prog.elem 119 = 5 := by simp [Program.elem, Tryz.underlying119]
  have hs : (sizeOf 5).run Tryz.prog W = .ok 1 W := by kernel_rfl
  rw [he, hs, hal]
  have ea : (⟨g, 0, none⟩ : Addr).add 0 = ⟨g, 0, none⟩ := by unfold Addr.add; split <;> simp_all
  simp [slicedAt, Result.andThen, ea]
set_option maxRecDepth 100000 in
set_option maxHeartbeats 4000000 in
theorem putfix_ok (v n : Nat) (w : World) (_hv : v < 18446744073709551616) (h1 : 1 ≤ n) (h8 : n ≤ 8) (hs : v < 256 ^ n) :
    Calls Tryz.prog 64 #[.int .u64 v, .int .i64 n] w fun e w' => e = .returned (.tuple #[.string ⟨(fixL v n).toArray⟩, .int .i64 0]) ∧ Below w.heap.size w w' := by
  have hz : ((v : Int) / 2 ^ (8 * n) != 0) = false := by
    have e : ((v : Int) / 2 ^ (8 * n)) = ((v / 2 ^ (8 * n) : Nat) : Int) := by simp
    rw [e, ← pow256, Nat.div_eq_of_lt hs]; rfl
  clear hs
  go_enter Tryz.func64, Tryz.ntmps64
  go_wp2_with fail
  refine (isSize_any _ _).mono ?_
  rintro e w1 ⟨rfl, rfl⟩
  rw [decide_eq_true (by omega : 1 ≤ (n : Int) ∧ (n : Int) ≤ 8)]
  go_wp2
  go_loopw [17] (fun u wr => ∃ i : Nat, u = .int .i64 i ∧ i ≤ n ∧ BA wr w1.heap.size 8 (fun k => if k < i then fxB v n k else 0) ∧ Below w1.heap.size w1 wr) (fun u _ => n - (intOf u).toNat)
  case atStart => exact ⟨0, rfl, Nat.zero_le _, BA.new w1 119 8 _ rfl, (Below.refl _ _).alloc (Nat.le_refl _) _⟩
  case round =>
    obtain ⟨i, rfl, hi, hBA, hbl⟩ := hrel
    by_cases hlt : i < n
    · obtain ⟨hc, hfz⟩ := hBA i (by omega)
      have HB : Hid (BA wr w1.heap.size 8 (fun k => if k < i then fxB v n k else 0)) := hBA
      clear hBA
      go_wp2
      have e : ((v : Int) / 2 ^ (8 * (n - 1 - i)) % 256) = ((fxB v n i : Nat) : Int) := by
        unfold fxB; rw [pow256]; simp
      rw [e]
      refine ⟨⟨i + 1, rfl, hlt, (HB.out.set i (fxB v n i)).ext fun k _ => ?_, hbl.setCell (p := ⟨w1.heap.size, i, none⟩) (Nat.le_refl _) _⟩, by simp only [intOf]; omega⟩
      by_cases e1 : k = i
      · subst e1; rw [if_pos rfl, if_pos (by omega)]
      · by_cases e2 : k < i
        · rw [if_neg e1, if_pos e2, if_pos (by omega)]
        · rw [if_neg e1, if_neg e2, if_neg (by omega)]
    · have e : i = n := by omega
      subst e
      have hcv := hBA.conv (fixL v i) 8 (by rw [fixL_len]; exact h8) (fun k hk => by
        rw [fixL_len] at hk
        rw [fixL_nat v i k hk, if_pos hk])
      rw [fixL_len] at hcv
      clear hBA
      have hsl := arr8_slice wr w1.heap.size i h8
      go_wp2
      go_ret2
      exact ⟨rfl, hbl⟩
/-- What PutFix answers. -/
def pfE (v : Nat) (n : Int) : Int := if 1 ≤ n ∧ n ≤ 8 then if v < 256 ^ n.toNat then 0 else 30 else 13
def pfT (v : Nat) (n : Int) : List UInt8 := if 1 ≤ n ∧ n ≤ 8 then if v < 256 ^ n.toNat then fixL v n.toNat else [] else []
set_option maxRecDepth 100000 in
set_option maxHeartbeats 1000000 in
theorem putfix_any (v : Nat) (n : Int) (w : World) (hv : v < 18446744073709551616) :
    Calls Tryz.prog 64 #[.int .u64 v, .int .i64 n] w fun e w' => e = .returned (.tuple #[.string ⟨(pfT v n).toArray⟩, .int .i64 (pfE v n)]) ∧ Below w.heap.size w w' := by
  unfold pfT pfE
  by_cases h : 1 ≤ n ∧ n ≤ 8
  · rw [if_pos h, if_pos h]
    obtain ⟨a, rfl⟩ : ∃ a : Nat, n = a := ⟨n.toNat, by omega⟩
    rw [Int.toNat_natCast]
    by_cases hs : v < 256 ^ a
    · rw [if_pos hs, if_pos hs]
      exact putfix_ok v a w hv (by omega) (by omega) hs
    · rw [if_neg hs, if_neg hs]
      have ha : 1 ≤ a ∧ a ≤ 8 := by omega
      clear h
      have hz : ((v : Int) / 2 ^ (8 * a) != 0) = true := by
        have e : ((v : Int) / 2 ^ (8 * a)) = ((v / 2 ^ (8 * a) : Nat) : Int) := by simp
        have hp : 0 < v / 2 ^ (8 * a) := Nat.div_pos (by rw [← pow256]; omega) (Nat.two_pow_pos _)
        rw [e]; simp; omega
      clear hs
      go_enter Tryz.func64, Tryz.ntmps64
      go_wp2_with fail
      refine (isSize_any _ _).mono ?_
      rintro e w1 ⟨rfl, rfl⟩
      rw [decide_eq_true (by omega : 1 ≤ (a : Int) ∧ (a : Int) ≤ 8)]
      go_wp2
      go_ret2
      exact ⟨rfl, Below.refl _ _⟩
  · rw [if_neg h, if_neg h]
    go_enter Tryz.func64, Tryz.ntmps64
    go_wp2_with fail
    refine (isSize_any _ _).mono ?_
    rintro e w1 ⟨rfl, rfl⟩
    rw [decide_eq_false h]
    go_wp2
    go_ret2
    exact ⟨rfl, Below.refl _ _⟩
/-- The number of some bytes, the greatest first. -/
def numL (l : List UInt8) : Nat := l.foldl (fun v c => 256 * v + c.toNat) 0
theorem numL_snoc (l : List UInt8) (c : UInt8) : numL (l ++ [c]) = 256 * numL l + c.toNat := by unfold numL; rw [List.foldl_append]; rfl
theorem numL_lt (l : List UInt8) : numL l < 256 ^ l.length := by
  suffices h : ∀ (m : List UInt8), numL m.reverse < 256 ^ m.length by simpa using h l.reverse
  intro m
  induction m with
  | nil => exact Nat.one_pos
  | cons c m ih => rw [List.reverse_cons, numL_snoc, List.length_cons, Nat.pow_succ]; have := c.toNat_lt; omega
/-- The part of a text. -/
def sub (b : ByteArray) (a n : Nat) : List UInt8 := (b.data.toList.drop a).take n
theorem sub_len (b : ByteArray) (a n : Nat) (h : a + n ≤ b.size) : (sub b a n).length = n := by
  unfold sub; rw [List.length_take, List.length_drop]; have : b.data.toList.length = b.size := Array.length_toList
  omega
theorem sub_snoc (b : ByteArray) (a n : Nat) (h : a + n < b.size) : sub b a (n + 1) = sub b a n ++ [b[a + n]] := by
  unfold sub
  have hl : n < (b.data.toList.drop a).length := by rw [List.length_drop]; have : b.data.toList.length = b.size := Array.length_toList
                                                    omega
  rw [List.take_succ_eq_append_getElem hl]; simp; rfl
theorem numL_sub_lt (b : ByteArray) (a n m : Nat) (h : a + n ≤ b.size) (hm : n ≤ m) : numL (sub b a n) < 256 ^ m := by
  have := numL_lt (sub b a n)
  rw [sub_len b a n h] at this
  exact Nat.lt_of_lt_of_le this (Nat.pow_le_pow_right (by decide) hm)
end Go.Proofs.YtkoannkecojhmaaGreatDoor
