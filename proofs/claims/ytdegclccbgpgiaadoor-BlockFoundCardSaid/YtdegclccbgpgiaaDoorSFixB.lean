/-
  DERIVED. Numbers in so many bytes: Fix; the document's own.
-/
import Derived.Test.YtdegclccbgpgiaaDoorSFix
namespace Go.Proofs.YtdegclccbgpgiaaDoor
open Go.RowKit Go.Proofs.SealMath
theorem isPlace_any (b : ByteArray) (p : Int) (w : World) :
    Calls Tryd.prog 86 #[.string b, .int .i64 p] w fun e w' => e = .returned (.bool (decide (0 ≤ p ∧ p ≤ b.size))) ∧ w' = w := by
  by_cases h1 : 0 ≤ p
  · by_cases h2 : p ≤ (b.size : Int)
    · go_enter Tryd.func86, Tryd.ntmps86
      go_wp2
      go_ret
      exact ⟨ret_bool (by simp [h1, h2]), rfl⟩
    · go_enter Tryd.func86, Tryd.ntmps86
      go_wp2
      go_ret
      exact ⟨ret_bool (by simp [h2]), rfl⟩
  · go_enter Tryd.func86, Tryd.ntmps86
    go_wp2
    go_ret
    exact ⟨ret_bool (by rw [decide_eq_false (show ¬ 0 ≤ p by omega)]; rfl), rfl⟩
theorem or_add (v c : Nat) (hc : c < 256) : v * 256 ||| c = 256 * v + c := by
  have := Nat.two_pow_add_eq_or_of_lt (i := 8) (b := c) (by omega) v
  rw [Nat.mul_comm v 256]; exact this.symm
theorem numL_bound (b : ByteArray) (a n m : Nat) (h : a + n ≤ b.size) (hm : n ≤ m) (h8 : m ≤ 8) : numL (sub b a n) < 18446744073709551616 := by
  have := numL_sub_lt b a n 8 h (by omega); simpa using this
set_option maxRecDepth 100000 in
set_option maxHeartbeats 4000000 in
theorem fix_ok (b : ByteArray) (a n : Nat) (w : World) (hb : b.size < 4611686018427387904) (h1 : 1 ≤ n) (h8 : n ≤ 8) (hs : a + n ≤ b.size) :
    Calls Tryd.prog 56 #[.string b, .int .i64 a, .int .i64 n] w fun e w' => e = .returned (.tuple #[.int .u64 (numL (sub b a n)), .int .i64 0]) ∧ w' = w := by
  go_enter Tryd.func56, Tryd.ntmps56
  go_wp2_with fail
  refine (isSize_any _ _).mono ?_
  rintro e w1 ⟨rfl, rfl⟩
  rw [decide_eq_true (by omega : 1 ≤ (n : Int) ∧ (n : Int) ≤ 8)]
  go_wp2_with fail
  refine (isPlace_any _ _ _).mono ?_
  rintro e w1 ⟨rfl, rfl⟩
  rw [decide_eq_true (by omega : 0 ≤ (a : Int) ∧ (a : Int) ≤ b.size)]
  go_wp2
  go_loopw [8, 26] (fun x u wr => ∃ i : Nat, u = .int .i64 i ∧ x = .int .u64 (numL (sub b a i)) ∧ i ≤ n ∧ wr = w1) (fun _ u _ => n - (intOf u).toNat)
  case atStart => exact ⟨0, rfl, rfl, Nat.zero_le _, rfl⟩
  case round =>
    obtain ⟨i, rfl, rfl, hi, rfl⟩ := hrel
    by_cases hlt : i < n
    · have hc := (b[a + i]).toNat_lt
      have HV : Hid (numL (sub b a (i + 1)) = 256 * numL (sub b a i) + (b[a + i]).toNat) := by
        show _ = _; rw [sub_snoc b a i (by omega), numL_snoc]
      have hB := numL_bound b a (i + 1) n (by omega) hlt h8
      rw [HV.out] at hB
      have ho := u64_or_nat (numL (sub b a i) * 256) (b[a + i]).toNat (by omega) (by omega)
      rw [or_add _ _ hc] at ho
      generalize numL (sub b a i) = V at *
      rw [show ((V * 256 : Nat) : Int) = (V : Int) * 256 by simp] at ho
      go_wp2
      refine ⟨⟨i + 1, rfl, ?_, hlt, trivial⟩, by simp only [intOf]; omega⟩
      rw [HV.out]; rfl
    · have e : i = n := by omega
      subst e
      go_wp2
      go_ret2
      exact ⟨rfl, rfl⟩
/-- What Fix answers. -/
def fxE (b : ByteArray) (p n : Int) : Int := if 1 ≤ n ∧ n ≤ 8 then if 0 ≤ p ∧ p ≤ b.size then if n ≤ b.size - p then 0 else 31 else 13 else 13
def fxV (b : ByteArray) (p n : Int) : Nat := if fxE b p n = 0 then numL (sub b p.toNat n.toNat) else 0
theorem fxE_ok {b : ByteArray} {p n : Int} (h : 1 ≤ n ∧ n ≤ 8) (k : 0 ≤ p ∧ p ≤ b.size) (l : n ≤ b.size - p) : fxE b p n = 0 := by unfold fxE; rw [if_pos h, if_pos k, if_pos l]
theorem fxE_31 {b : ByteArray} {p n : Int} (h : 1 ≤ n ∧ n ≤ 8) (k : 0 ≤ p ∧ p ≤ b.size) (l : ¬ n ≤ b.size - p) : fxE b p n = 31 := by unfold fxE; rw [if_pos h, if_pos k, if_neg l]
theorem fxE_13 {b : ByteArray} {p n : Int} (h : 1 ≤ n ∧ n ≤ 8) (k : ¬ (0 ≤ p ∧ p ≤ b.size)) : fxE b p n = 13 := by unfold fxE; rw [if_pos h, if_neg k]
theorem fxE_13' {b : ByteArray} {p n : Int} (h : ¬ (1 ≤ n ∧ n ≤ 8)) : fxE b p n = 13 := by unfold fxE; rw [if_neg h]
set_option maxRecDepth 100000 in
set_option maxHeartbeats 1000000 in
theorem fix_any (b : ByteArray) (p n : Int) (w : World) (hb : b.size < 4611686018427387904) :
    Calls Tryd.prog 56 #[.string b, .int .i64 p, .int .i64 n] w fun e w' => e = .returned (.tuple #[.int .u64 (fxV b p n), .int .i64 (fxE b p n)]) ∧ w' = w := by
  by_cases h : 1 ≤ n ∧ n ≤ 8
  · by_cases k : 0 ≤ p ∧ p ≤ b.size
    · by_cases l : n ≤ b.size - p
      · obtain ⟨a, rfl⟩ : ∃ a : Nat, n = a := ⟨n.toNat, by omega⟩
        obtain ⟨q, rfl⟩ : ∃ a : Nat, p = a := ⟨p.toNat, by omega⟩
        unfold fxV; rw [if_pos (fxE_ok h k l), fxE_ok h k l]
        exact fix_ok b q a w hb (by omega) (by omega) (by omega)
      · unfold fxV; rw [fxE_31 h k l, if_neg (by decide)]
        go_enter Tryd.func56, Tryd.ntmps56
        go_wp2_with fail
        refine (isSize_any _ _).mono ?_
        rintro e w1 ⟨rfl, rfl⟩
        rw [decide_eq_true h]
        go_wp2_with fail
        refine (isPlace_any _ _ _).mono ?_
        rintro e w1 ⟨rfl, rfl⟩
        rw [decide_eq_true k]
        obtain ⟨k1, k2⟩ := k
        obtain ⟨h1, h2⟩ := h
        go_wp2
        go_ret2
        exact ⟨rfl, rfl⟩
    · unfold fxV; rw [fxE_13 h k, if_neg (by decide)]
      go_enter Tryd.func56, Tryd.ntmps56
      go_wp2_with fail
      refine (isSize_any _ _).mono ?_
      rintro e w1 ⟨rfl, rfl⟩
      rw [decide_eq_true h]
      go_wp2_with fail
      refine (isPlace_any _ _ _).mono ?_
      rintro e w1 ⟨rfl, rfl⟩
      rw [decide_eq_false k]
      clear h k
      go_wp2
      go_ret2
      exact ⟨rfl, rfl⟩
  · unfold fxV; rw [fxE_13' h, if_neg (by decide)]
    go_enter Tryd.func56, Tryd.ntmps56
    go_wp2_with fail
    refine (isSize_any _ _).mono ?_
    rintro e w1 ⟨rfl, rfl⟩
    rw [decide_eq_false h]
    clear h
    go_wp2
    go_ret2
    exact ⟨rfl, rfl⟩
set_option maxRecDepth 100000 in
set_option maxHeartbeats 4000000 in
theorem number_ok (b : ByteArray) (a n : Nat) (w : World) (hb : b.size < 4611686018427387904) (h8 : n ≤ 8) (hs : a + n ≤ b.size) :
    Calls Tryd.prog 106 #[.string b, .int .i64 a, .int .i64 n] w fun e w' => e = .returned (.int .u64 (numL (sub b a n))) ∧ w' = w := by
  go_enter Tryd.func106, Tryd.ntmps106
  go_wp2
  go_loopw [7, 8] (fun x u wr => ∃ i : Nat, u = .int .i64 i ∧ x = .int .u64 (numL (sub b a i)) ∧ i ≤ n ∧ wr = w) (fun _ u _ => n - (intOf u).toNat)
  case atStart => exact ⟨0, rfl, rfl, Nat.zero_le _, rfl⟩
  case round =>
    obtain ⟨i, rfl, rfl, hi, rfl⟩ := hrel
    by_cases hlt : i < n
    · have hc := (b[a + i]).toNat_lt
      have HV : Hid (numL (sub b a (i + 1)) = 256 * numL (sub b a i) + (b[a + i]).toNat) := by
        show _ = _; rw [sub_snoc b a i (by omega), numL_snoc]
      have hB := numL_bound b a (i + 1) n (by omega) hlt h8
      rw [HV.out] at hB
      generalize numL (sub b a i) = V at *
      go_wp2
      refine ⟨⟨i + 1, rfl, ?_, hlt, trivial⟩, by simp only [intOf]; omega⟩
      rw [HV.out]; rfl
    · have e : i = n := by omega
      subst e
      go_wp2
      go_ret
      exact ⟨rfl, rfl⟩
set_option maxRecDepth 100000 in
set_option maxHeartbeats 1000000 in
theorem rfix_any (b : ByteArray) (p n : Int) (w : World) (hb : b.size < 4611686018427387904) :
    Calls Tryd.prog 97 #[.string b, .int .i64 p, .int .i64 n] w fun e w' => e = .returned (.tuple #[.int .u64 (fxV b p n), .int .i64 (fxE b p n)]) ∧ w' = w := by
  by_cases h : 1 ≤ n
  · by_cases h' : n ≤ 8
    · by_cases k : 0 ≤ p
      · by_cases k' : p ≤ b.size
        · by_cases l : n ≤ b.size - p
          · obtain ⟨a, rfl⟩ : ∃ a : Nat, n = a := ⟨n.toNat, by omega⟩
            obtain ⟨q, rfl⟩ : ∃ a : Nat, p = a := ⟨p.toNat, by omega⟩
            unfold fxV; rw [if_pos (fxE_ok ⟨h, h'⟩ ⟨k, k'⟩ l), fxE_ok ⟨h, h'⟩ ⟨k, k'⟩ l]
            go_enter Tryd.func97, Tryd.ntmps97
            go_wp2_with fail
            refine (number_ok b q a _ hb (by omega) (by omega)).mono ?_
            rintro e w1 ⟨rfl, rfl⟩
            go_wp2
            go_ret2
            exact ⟨rfl, rfl⟩
          · unfold fxV; rw [fxE_31 ⟨h, h'⟩ ⟨k, k'⟩ l, if_neg (by decide)]
            go_enter Tryd.func97, Tryd.ntmps97
            go_wp2
            go_ret2
            exact ⟨rfl, rfl⟩
        · unfold fxV; rw [fxE_13 ⟨h, h'⟩ (by omega), if_neg (by decide)]
          go_enter Tryd.func97, Tryd.ntmps97
          go_wp2
          go_ret2
          exact ⟨rfl, rfl⟩
      · unfold fxV; rw [fxE_13 ⟨h, h'⟩ (by omega), if_neg (by decide)]
        go_enter Tryd.func97, Tryd.ntmps97
        go_wp2
        go_ret2
        exact ⟨rfl, rfl⟩
    · unfold fxV; rw [fxE_13' (by omega), if_neg (by decide)]
      go_enter Tryd.func97, Tryd.ntmps97
      go_wp2
      go_ret2
      exact ⟨rfl, rfl⟩
  · unfold fxV; rw [fxE_13' (by omega), if_neg (by decide)]
    go_enter Tryd.func97, Tryd.ntmps97
    go_wp2
    go_ret2
    exact ⟨rfl, rfl⟩
theorem fixL_take (v n j : Nat) (h : j < n) : (fixL v n).take (j + 1) = (fixL v n).take j ++ [UInt8.ofNat (fxB v n j)] := by
  rw [List.take_succ_eq_append_getElem (by rw [fixL_len]; exact h), fixL_at v n j h]
set_option maxRecDepth 100000 in
set_option maxHeartbeats 4000000 in
theorem fixed_ok (v n : Nat) (w : World) (_hv : v < 18446744073709551616) (h1 : 1 ≤ n) (h8 : n ≤ 8) :
    Calls Tryd.prog 109 #[.int .u64 v, .int .i64 n] w fun e w' => e = .returned (.string ⟨(fixL v n).toArray⟩) ∧ Below w.heap.size w w' := by
  obtain ⟨i0, hi, hz0, hz1, hz2⟩ := info_parts Tryd.info5
  go_enter Tryd.func109, Tryd.ntmps109
  go_wp2
  go_loopw [5, 6] (fun s u wr => ∃ j m : Nat, j + m = n ∧ u = .int .i64 ((m : Int) - 1) ∧ wr.ownsRow w.heap.size 5 1 s j (((fixL v n).take j).map BV) ∧ Below w.heap.size w wr) (fun _ u _ => ((intOf u) + 1).toNat)
  case atStart => exact ⟨0, n, Nat.zero_add _, rfl, ⟨rfl, .inl ⟨rfl, rfl⟩⟩, Below.refl _ _⟩
  case round =>
    obtain ⟨j, m, hj, rfl, hown, hb⟩ := hrel
    rcases m with _ | q
    · have e : j = n := by omega
      subst e
      rw [List.take_of_length_le (by rw [fixL_len]; exact Nat.le_refl _)] at hown
      have hcv := conv_own (fixL v j) (by rw [fixL_len]; exact hown)
      rw [show ((0 : Nat) : Int) - 1 = -1 by rfl]
      clear hown
      go_wp2
      go_ret
      exact ⟨rfl, hb⟩
    · rw [show ((q + 1 : Nat) : Int) - 1 = (q : Int) by omega]
      have hq : q ≤ 7 := by omega
      have HJ : Hid (j + (q + 1) = n) := hj
      have HL : Hid (((fixL v n).take (j + 1)).map BV = ((fixL v n).take j).map BV ++ [.int .u8 ((v : Int) / 2 ^ (8 * q) % 256)]) := by
        show _ = _
        rw [fixL_take v n j (by omega), List.map_append]
        have e : n - 1 - j = q := by omega
        have e2 : (((v / 256 ^ q % 256) % 2 ^ 8 : Nat) : Int) = (v : Int) / 2 ^ (8 * q) % 256 := by
          rw [pow256]; simp
        simp only [List.map_cons, List.map_nil, BV, UInt8.toNat_ofNat', fxB, e, e2]
      have hjn : j ≤ 8 := by omega
      clear hj h1 h8
      go_wp2_with (at_builtin; refine wpList_append_own _ rfl _ _ 29 rfl w.heap.size 5 i0 (.int .u8 0) 1 1 Tryd.underlying29 hi hz0 hz1 hz2 rfl (by decide) _ _ _ rfl (hown.alloc _) ⟨wr.heap.size, 0, none⟩ 1 1 [.int .u8 ((v : Int) / 2 ^ (8 * q) % 256)] ?_ rfl (cell_one_new _ _ _) (fun x hx => by simp at hx; subst hx; rfl) (by unfold maxLen; omega) (by omega) (by have := hb.size; simp; omega) ?_; go_simp; intro v' w3 hown' hgrow3 hnil3)
      clear hnil3
      have hgr : (wr.alloc (Obj.cells #[Value.int IntKind.u8 ((v : Int) / 2 ^ (8 * q) % 256)] 5)).grownBy w3 u5.ownBlock := hgrow3
      clear hgrow3
      have hb3 : Below w.heap.size w w3 := (hb.alloc hb.size _).grown hgr (by have := hb.size; simp; omega) (fun k hk => (hown.lt k hk).1)
      have hJ := HJ.out
      refine ⟨⟨j + 1, q, by omega, rfl, ?_, hb3⟩, by simp only [intOf]; omega⟩
      rw [HL.out]; exact hown'
set_option maxRecDepth 100000 in
set_option maxHeartbeats 1000000 in
theorem rputfix_any (v : Nat) (n : Int) (w : World) (hv : v < 18446744073709551616) :
    Calls Tryd.prog 100 #[.int .u64 v, .int .i64 n] w fun e w' => e = .returned (.tuple #[.string ⟨(pfT v n).toArray⟩, .int .i64 (pfE v n)]) ∧ Below w.heap.size w w' := by
  unfold pfT pfE
  by_cases h : 1 ≤ n
  · by_cases h' : n ≤ 8
    · have hh : 1 ≤ n ∧ n ≤ 8 := ⟨h, h'⟩
      rw [if_pos hh, if_pos hh]
      clear hh
      obtain ⟨a, rfl⟩ : ∃ a : Nat, n = a := ⟨n.toNat, by omega⟩
      rw [Int.toNat_natCast]
      have ha : 1 ≤ a ∧ a ≤ 8 := by omega
      have e : ((v : Int) / 2 ^ (8 * a)) = ((v / 2 ^ (8 * a) : Nat) : Int) := by simp
      by_cases hs : v < 256 ^ a
      · rw [if_pos hs, if_pos hs]
        have hz : ((v : Int) / 2 ^ (8 * a) != 0) = false := by rw [e, ← pow256, Nat.div_eq_of_lt hs]; rfl
        clear hs e
        by_cases h8 : a < 8
        all_goals
          go_enter Tryd.func100, Tryd.ntmps100
          go_wp2_with fail
          refine (fixed_ok v a _ hv ha.1 ha.2).mono ?_
          rintro e w1 ⟨rfl, hb⟩
          go_wp2
          go_ret2
          exact ⟨rfl, hb⟩
      · rw [if_neg hs, if_neg hs]
        have h8 : a < 8 := by
          by_cases h8 : a = 8
          · subst h8; simp at hs; omega
          · omega
        have hz : ((v : Int) / 2 ^ (8 * a) != 0) = true := by
          have hp : 0 < v / 2 ^ (8 * a) := Nat.div_pos (by rw [← pow256]; omega) (Nat.two_pow_pos _)
          rw [e]; simp; omega
        clear hs e
        go_enter Tryd.func100, Tryd.ntmps100
        go_wp2
        go_ret2
        exact ⟨rfl, Below.refl _ _⟩
    · have hh : ¬ (1 ≤ n ∧ n ≤ 8) := by omega
      rw [if_neg hh, if_neg hh]
      clear hh
      go_enter Tryd.func100, Tryd.ntmps100
      go_wp2
      go_ret2
      exact ⟨rfl, Below.refl _ _⟩
  · have hh : ¬ (1 ≤ n ∧ n ≤ 8) := by omega
    rw [if_neg hh, if_neg hh]
    clear hh
    go_enter Tryd.func100, Tryd.ntmps100
    go_wp2
    go_ret2
    exact ⟨rfl, Below.refl _ _⟩
end Go.Proofs.YtdegclccbgpgiaaDoor
