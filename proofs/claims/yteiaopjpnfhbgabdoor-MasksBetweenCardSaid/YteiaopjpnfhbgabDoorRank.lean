/-
  DERIVED. Rank, and the document's own; one, Weight.
-/
import Derived.Test.YteiaopjpnfhbgabDoorOver
namespace Go.Proofs.YteiaopjpnfhbgabDoor
open Go.RowKit Go.Proofs.MaskMath
theorem tb_one {m k : Nat} (h : m.testBit k = true) : m / 2 ^ k % 2 = 1 := by simpa [Nat.testBit_eq_decide_div_mod_eq] using h
theorem tb_no {m k : Nat} (h : m.testBit k = false) : m / 2 ^ k % 2 = 0 := by
  have : ¬ m / 2 ^ k % 2 = 1 := by simpa [Nat.testBit_eq_decide_div_mod_eq] using h
  omega
theorem u64_and1 (x : Nat) (h : x < 18446744073709551616) : bits .and .u64 (x : Int) 1 = ((x % 2 : Nat) : Int) := by
  have := u64_and_nat x 1 h (by omega)
  rw [Nat.and_one_is_mod] at this
  exact this
theorem and_yes {m k : Nat} (hm : m < 18446744073709551616) (h : m.testBit k = true) : bits .and .u64 ((m : Int) / 2 ^ k) 1 = 1 := by
  have := u64_and1 (m / 2 ^ k) (Nat.lt_of_le_of_lt (Nat.div_le_self _ _) hm)
  rw [tb_one h] at this
  simpa using this
theorem and_no {m k : Nat} (hm : m < 18446744073709551616) (h : m.testBit k = false) : bits .and .u64 ((m : Int) / 2 ^ k) 1 = 0 := by
  have := u64_and1 (m / 2 ^ k) (Nat.lt_of_le_of_lt (Nat.div_le_self _ _) hm)
  rw [tb_no h] at this
  simpa using this
theorem rk_lt63 (k m : Nat) (h : k ≤ 64) : rk k m < 9223372036854775808 := Nat.lt_trans (rk_lt m k) (ch_lt k _ h)
set_option maxRecDepth 100000 in
set_option maxHeartbeats 2000000 in
theorem rank_any (m : Nat) (w : World) (hm : m < 18446744073709551616) :
    Calls Tryd.prog 15 #[.int .u64 m] w fun e w' => e = .returned (.int .i64 (rk 64 m)) ∧ Below w.heap.size w w' := by
  have hz := zeroG
  go_enter Tryd.func15, Tryd.ntmps15
  go_wp2_with fail
  refine (rows_any 63 _ (by omega)).mono ?_
  rintro e w2 ⟨rfl, hb⟩
  obtain ⟨W0, hA, hB0, hst⟩ := store_newG w2 (gridF 63)
  have hB : Below w.heap.size w W0 := chain hb hB0 (Nat.le_refl _)
  clear hB0 hb
  unfold gridV
  generalize (cellsF (gridF 63) 4225) = cs at *
  go_wp2_with (refine hst rfl _ _ rfl (by rfl) (by rfl) ?_)
  go_loopw [4, 5, 8] (fun r v i wr => ∃ k : Nat, k ≤ 64 ∧ i = .int .i64 k ∧ v = .int .i64 (wt k m) ∧ r = .int .i64 (rk k m) ∧ Arr wr w2.heap.size 4225 (gridF 63) ∧ Below w.heap.size w wr) (fun _ _ i _ => 64 - (intOf i).toNat)
  case atStart => exact ⟨0, Nat.zero_le _, rfl, rfl, rfl, hA, hB⟩
  case round =>
    obtain ⟨k, hk, rfl, rfl, rfl, hA', hB'⟩ := hrel
    clear hst hA hB
    by_cases hlt : k < 64
    · have hwk := wt_le m k
      have hl := rk_lt63 (k + 1) m (by omega)
      have hk1 : (k : Int) < 64 := by omega
      cases hbit : m.testBit k
      · have HW : Hid _ := wt_no hbit
        have HR : Hid _ := rk_no hbit
        have ha := and_no hm hbit
        clear hl hbit
        generalize wt k m = x at *
        generalize rk k m = y at *
        go_wp2
        exact ⟨⟨k + 1, hlt, by go_num, by rw [HW.out], by rw [HR.out], hA', hB'⟩, by show 64 - ((k + 1 : Nat) : Int).toNat < 64 - ((k : Nat) : Int).toNat; omega⟩
      · have HW : Hid _ := wt_yes hbit
        have HR : Hid _ := rk_yes hbit
        have ha := and_yes hm hbit
        rw [HR.out] at hl
        have c : wr.cell? ⟨w2.heap.size, k * 65 + (wt k m + 1), none⟩ = some (.int .i64 (ch k (wt k m + 1))) := by
          have := (hA' (k * 65 + (wt k m + 1)) (by omega)).1
          rwa [gridF_row (by omega) (by omega)] at this
        clear hbit
        generalize wt k m = x at *
        generalize rk k m = y at *
        generalize ch k (x + 1) = z at *
        go_wp2
        exact ⟨⟨k + 1, hlt, by go_num, by rw [HW.out]; rfl, by rw [HR.out]; rfl, hA', hB'⟩, by show 64 - ((k + 1 : Nat) : Int).toNat < 64 - ((k : Nat) : Int).toNat; omega⟩
    · have e : k = 64 := by omega
      subst e
      go_wp2
      go_ret
      exact ⟨rfl, hB'⟩
set_option maxHeartbeats 400000 in
theorem one_any (m k : Nat) (w : World) (hm : m < 18446744073709551616) (hk : k < 64) :
    Calls Tryd.prog 27 #[.int .u64 m, .int .i64 k] w fun e w' => e = .returned (.bool (m.testBit k)) ∧ w' = w := by
  have hk1 : (k : Int) < 64 := by omega
  cases hbit : m.testBit k
  · have ha := and_no hm hbit
    go_enter Tryd.func27, Tryd.ntmps27
    go_wp2
    go_ret
    exact ⟨rfl, rfl⟩
  · have ha := and_yes hm hbit
    go_enter Tryd.func27, Tryd.ntmps27
    go_wp2
    go_ret
    exact ⟨rfl, rfl⟩
set_option maxHeartbeats 400000 in
theorem rWeight_any (m : Nat) (w : World) (hm : m < 18446744073709551616) :
    Calls Tryd.prog 23 #[.int .u64 m] w fun e w' => e = .returned (.int .i64 (wt 64 m)) ∧ w' = w := by
  go_enter Tryd.func23, Tryd.ntmps23
  go_wp2
  go_loopw [3, 4] (fun v i wr => ∃ k : Nat, k ≤ 64 ∧ i = .int .i64 k ∧ v = .int .i64 (wt k m) ∧ wr = w) (fun _ i _ => 64 - (intOf i).toNat)
  case atStart => exact ⟨0, Nat.zero_le _, rfl, rfl, rfl⟩
  case round =>
    obtain ⟨k, hk, rfl, rfl, rfl⟩ := hrel
    by_cases hlt : k < 64
    · have hwk := wt_le m k
      have hk1 : (k : Int) < 64 := by omega
      cases hbit : m.testBit k
      · have HW : Hid _ := wt_no hbit
        go_wp2_with fail
        refine (one_any m k _ hm hlt).mono ?_
        rintro e w1 ⟨rfl, rfl⟩
        rw [hbit]
        clear hbit
        generalize wt k m = x at *
        go_wp2
        exact ⟨⟨k + 1, hlt, by go_num, by rw [HW.out], trivial⟩, by show 64 - ((k + 1 : Nat) : Int).toNat < 64 - ((k : Nat) : Int).toNat; omega⟩
      · have HW : Hid _ := wt_yes hbit
        go_wp2_with fail
        refine (one_any m k _ hm hlt).mono ?_
        rintro e w1 ⟨rfl, rfl⟩
        rw [hbit]
        clear hbit
        generalize wt k m = x at *
        go_wp2
        exact ⟨⟨k + 1, hlt, by go_num, by rw [HW.out]; rfl, trivial⟩, by show 64 - ((k + 1 : Nat) : Int).toNat < 64 - ((k : Nat) : Int).toNat; omega⟩
    · have e : k = 64 := by omega
      subst e
      go_wp2
      go_ret
      exact ⟨rfl, rfl⟩
set_option maxRecDepth 100000 in
set_option maxHeartbeats 1000000 in
theorem rRank_any (m : Nat) (w : World) (hm : m < 18446744073709551616) :
    Calls Tryd.prog 24 #[.int .u64 m] w fun e w' => e = .returned (.int .i64 (rk 64 m)) ∧ Below w.heap.size w w' := by
  have hl := rk_lt63 64 m (by omega)
  go_enter Tryd.func24, Tryd.ntmps24
  go_wp2_with fail
  refine (rWeight_any m _ hm).mono ?_
  rintro e w1 ⟨rfl, rfl⟩
  go_wp2_with fail
  go_loopw [3, 4, 5] (fun r v i wr => ∃ k y : Nat, k ≤ 64 ∧ i = .int .i64 ((k : Int) - 1) ∧ v = .int .i64 (wt k m) ∧ r = .int .i64 y ∧ y + rk k m = rk 64 m ∧ Below w1.heap.size w1 wr) (fun _ _ i _ => (intOf i + 1).toNat)
  case atStart => exact ⟨64, 0, Nat.le_refl _, rfl, rfl, rfl, Nat.zero_add _, Below.refl _ _⟩
  case round =>
    obtain ⟨k, y, hk, rfl, rfl, rfl, hy, hB⟩ := hrel
    by_cases hlt : 0 < k
    · obtain ⟨j, rfl⟩ : ∃ j, k = j + 1 := ⟨k - 1, by omega⟩
      have hwk := wt_le m j
      have ej : (((j + 1 : Nat) : Int) - 1) = (j : Int) := by omega
      rw [ej]
      cases hbit : m.testBit j
      · have HW : Hid _ := wt_no hbit
        have HR : Hid _ := rk_no hbit
        rw [HW.out]
        go_wp2_with fail
        refine (one_any m j _ hm (by omega)).mono ?_
        rintro e w2 ⟨rfl, rfl⟩
        rw [hbit]
        have HY : Hid (y + rk j m = rk 64 m) := by show _ = _; rw [← HR.out]; exact hy
        clear hbit hy HW HR
        generalize hwt : wt j m = x at *
        have H1 : Hid _ := hwt
        clear hwt
        go_wp2
        exact ⟨⟨j, y, by omega, by go_num, by rw [H1.out], rfl, HY.out, hB⟩, by show ((j : Int) - 1 + 1).toNat < ((j : Int) + 1).toNat; omega⟩
      · have HW : Hid _ := wt_yes hbit
        have HR : Hid _ := rk_yes hbit
        have hc := chI_nat j (wt j m + 1)
        rw [HW.out]
        go_wp2_with fail
        refine (one_any m j _ hm (by omega)).mono ?_
        rintro e w2 ⟨rfl, rfl⟩
        rw [hbit]
        have HY : Hid (y + ch j (wt j m + 1) + rk j m = rk 64 m) := by show _ = _; rw [← hy, HR.out]; omega
        have hlim : y + ch j (wt j m + 1) < 9223372036854775808 := by have := HY.out; omega
        clear hbit hy HW HR
        generalize hwt : wt j m = x at *
        have H1 : Hid _ := hwt
        clear hwt
        go_wp2_with fail
        refine (over_all j (x + 1 : Nat) _ (by omega)).mono ?_
        rintro e w3 ⟨rfl, b3⟩
        have hB3 := chain hB b3 (Nat.le_refl _)
        rw [hc]
        clear hc b3 hB
        generalize ch j (x + 1) = z at *
        go_wp2
        exact ⟨⟨j, y + z, by omega, by go_num, by rw [H1.out], by go_num, HY.out, hB3⟩, by show ((j : Int) - 1 + 1).toNat < ((j : Int) + 1).toNat; omega⟩
    · have e : k = 0 := by omega
      subst e
      have HY : Hid (rk 64 m = y) := by show _ = _; rw [← hy]; rfl
      clear hy
      go_wp2
      go_ret
      exact ⟨ret_int (by rw [HY.out]), hB⟩
end Go.Proofs.YteiaopjpnfhbgabDoor
