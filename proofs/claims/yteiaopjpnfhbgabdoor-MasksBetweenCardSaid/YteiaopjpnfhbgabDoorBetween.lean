/-
  DERIVED. MasksBetween's walk.
-/
import Derived.Test.YteiaopjpnfhbgabDoorShell
namespace Go.Proofs.YteiaopjpnfhbgabDoor
open Go.RowKit Go.Proofs.MaskMath
set_option maxRecDepth 100000 in
set_option maxHeartbeats 4000000 in
theorem law_between (z : Int) (a b : Nat) (w : World) (ha : a < 18446744073709551616) (hb : b < 18446744073709551616) (ht : Tab w) (hg0 : 0 < w.heap.size) :
    Calls Tryd.prog 5 #[.int .i64 z, .int .u64 a, .int .u64 b] w fun e w' => e = .returned (.bool true) ∧ Below w.heap.size w w' := by
  go_enter Tryd.func5, Tryd.ntmps5
  go_wp2_with fail
  refine (pick_any z 65 _ (by omega) (by omega)).mono ?_
  rintro e w1 ⟨⟨n, hn, rfl⟩, rfl⟩
  have hn64 : n ≤ 64 := by omega
  obtain ⟨m, hm, em⟩ : ∃ x, x < 2 ^ n ∧ a % 2 ^ n = x := ⟨_, Nat.mod_lt _ (Nat.two_pow_pos n), rfl⟩
  obtain ⟨y, hy, ey⟩ : ∃ y, y < 2 ^ n ∧ b % 2 ^ n = y := ⟨_, Nat.mod_lt _ (Nat.two_pow_pos n), rfl⟩
  have EM : Hid (a % 2 ^ n = m) := em
  have EY : Hid (b % 2 ^ n = y) := ey
  have hp := pow_le64 hn64
  have hm64 : m < 18446744073709551616 := by omega
  have hy64 : y < 18446744073709551616 := by omega
  obtain ⟨s, hs⟩ : ∃ s, wt 64 m = s := ⟨_, rfl⟩
  obtain ⟨R, hR⟩ : ∃ R, rk 64 m = R := ⟨_, rfl⟩
  obtain ⟨t, hT⟩ : ∃ t, wt 64 y = t := ⟨_, rfl⟩
  have hwm : wt n m = s := (wt_more hm 64 hn64).symm.trans hs
  have hrm : rk n m = R := (rk_more hm 64 hn64).symm.trans hR
  have hwy : wt n y = t := (wt_more hy 64 hn64).symm.trans hT
  have hsn : s ≤ n := by rw [← hwm]; exact wt_le m n
  have hRC : R < ch n s := by rw [← hrm, ← hwm]; exact rk_lt m n
  have hun : unr n s R = m := by rw [← hwm, ← hrm]; exact unr_rk n m hm
  obtain ⟨f1, f2, f3, f4, f5, f6⟩ := place_facts n s R hn64 hRC
  rw [hun] at f1 f2 f3 f4 f5 f6
  have hyC : t = s → rk n y < ch n s := fun h => by have := rk_lt y n; rw [hwy, h] at this; exact this
  have hord : t = s → (rk n m < rk n y ↔ m < y) ∧ (rk n m = rk n y ↔ m = y) := fun h => rk_order hm hy (by omega)
  have HS : Hid (wt 64 m = s) := hs
  have HT : Hid (wt 64 y = t) := hT
  have HR : Hid (rk 64 m = R) := hR
  have HU : Hid (unr n s R = m) := hun
  have HRC : Hid (R < ch n s) := hRC
  have hRl : R < 9223372036854775808 := Nat.lt_trans hRC (ch_lt n s hn64)
  have H4 : Hid (nxB (n : Int) m = decide (R + 1 < ch n s)) := f4
  have H5 : Hid (nxA (n : Int) m = if R + 1 < ch n s then unr n s (R + 1) else 0) := f5
  by_cases hc : R + 1 < ch n s
  · obtain ⟨g1, g2, g3, _, _, _⟩ := place_facts n s (R + 1) hn64 hc
    obtain ⟨K, hK⟩ : ∃ K, unr n s (R + 1) = K := ⟨_, rfl⟩
    have hmK := f6 hc
    rw [hK] at g1 g2 g3 hmK
    have hK64 : K < 18446744073709551616 := by omega
    have hrK : rk n K = R + 1 := (rk_more g1 64 hn64).symm.trans g3
    have hwK : wt n K = s := (wt_more g1 64 hn64).symm.trans g2
    have hfin : t = s → y ≤ m ∨ K ≤ y := fun h => by
      have o1 := hord h
      have o2 := rk_order hy g1 (by omega)
      omega
    have HK : Hid (nxA (n : Int) m = K) := by show _ = _; rw [H5.out, if_pos hc, hK]
    have HKB : Hid (nxB (n : Int) m = true) := by show _ = _; rw [H4.out]; exact decide_eq_true hc
    have HWK : Hid (wt 64 K = s) := g2
    have HRK : Hid (rk 64 K = R + 1) := g3
    have HLK : Hid (K % 2 ^ n = K) := Nat.mod_eq_of_lt g1
    have HFIN : Hid (t = s → y ≤ m ∨ K ≤ y) := hfin
    have hR1 : R + 1 < 9223372036854775808 := Nat.lt_trans hc (ch_lt n s hn64)
    clear em ey hp hs hR hT hwm hrm hwy hRC hun f1 f2 f3 f4 f5 f6 hyC hord hm hy g1 g2 g3 hrK hwK hfin hK hc H4 H5
    go_wp2_with fail
    refine (low_any n a _ ha hn64).mono ?_
    rintro e w1 ⟨rfl, rfl⟩
    rw [EM.out]
    go_wp2_with fail
    refine (low_any n b _ hb hn64).mono ?_
    rintro e w1 ⟨rfl, rfl⟩
    rw [EY.out]
    go_wp2_with fail
    refine (next_all n m _ ht hm64).mono ?_
    rintro e w1 ⟨rfl, rfl⟩
    rw [HK.out, HKB.out]
    go_wp2_with fail
    refine (rank_any m _ hm64).mono ?_
    rintro e w2 ⟨rfl, b2⟩
    rw [HR.out]
    have hle : ¬ (K : Int) ≤ (m : Int) := by omega
    have hle2 : ¬ K ≤ m := by omega
    go_wp2_with fail
    refine (weight_any K _ hK64).mono ?_
    rintro e w3 ⟨rfl, rfl⟩
    rw [HWK.out]
    go_wp2_with fail
    refine (weight_any m _ hm64).mono ?_
    rintro e w3 ⟨rfl, rfl⟩
    rw [HS.out]
    go_wp2_with fail
    refine (low_any n K _ hK64 hn64).mono ?_
    rintro e w3 ⟨rfl, rfl⟩
    rw [HLK.out]
    go_wp2_with fail
    refine (rank_any K _ hK64).mono ?_
    rintro e w4 ⟨rfl, b4⟩
    have b4' := chain b2 b4 (Nat.le_refl _)
    rw [HRK.out]
    clear b2 b4
    go_wp2_with fail
    refine (weight_any y _ hy64).mono ?_
    rintro e w5 ⟨rfl, rfl⟩
    rw [HT.out]
    go_wp2_with fail
    refine (weight_any m _ hm64).mono ?_
    rintro e w5 ⟨rfl, rfl⟩
    rw [HS.out]
    by_cases h1 : t = s
    · have h2 := HFIN.out h1
      subst h1
      by_cases h3 : y ≤ m
      · go_wp2
        go_ret
        exact ⟨rfl, b4'⟩
      · have h4 : K ≤ y := by omega
        have h5 : ¬ (y : Int) ≤ (m : Int) := by omega
        have h6 : (K : Int) ≤ (y : Int) := by omega
        clear h2
        go_wp2
        go_ret
        exact ⟨rfl, b4'⟩
    · have h2 : ((t : Int) != (s : Int)) = true := by simp; omega
      go_wp2
      go_ret
      exact ⟨rfl, b4'⟩
  · have hfin : t = s → y ≤ m := fun h => by
      have o1 := hord h
      have o2 := hyC h
      omega
    have HK : Hid (nxA (n : Int) m = 0) := by show _ = _; rw [H5.out, if_neg hc]
    have HKB : Hid (nxB (n : Int) m = false) := by show _ = _; rw [H4.out]; exact decide_eq_false hc
    have HFIN : Hid (t = s → y ≤ m) := hfin
    clear em ey hp hs hR hT hwm hrm hwy hRC hun f1 f2 f3 f4 f5 f6 hyC hord hm hy hfin hc H4 H5
    go_wp2_with fail
    refine (low_any n a _ ha hn64).mono ?_
    rintro e w1 ⟨rfl, rfl⟩
    rw [EM.out]
    go_wp2_with fail
    refine (low_any n b _ hb hn64).mono ?_
    rintro e w1 ⟨rfl, rfl⟩
    rw [EY.out]
    go_wp2_with fail
    refine (next_all n m _ ht hm64).mono ?_
    rintro e w1 ⟨rfl, rfl⟩
    rw [HK.out, HKB.out]
    go_wp2_with fail
    refine (rank_any m _ hm64).mono ?_
    rintro e w2 ⟨rfl, b2⟩
    rw [HR.out]
    go_wp2_with fail
    refine (weight_any m _ hm64).mono ?_
    rintro e w3 ⟨rfl, rfl⟩
    rw [HS.out]
    go_wp2_with fail
    refine (unrank_yes n s R _ hn64 hsn HRC.out).mono ?_
    rintro e w4 ⟨rfl, b4⟩
    have b4' := chain b2 b4 (Nat.le_refl _)
    rw [HU.out]
    clear b2 b4
    go_wp2_with fail
    refine (num_any _ _).mono ?_
    rintro e w5 ⟨rfl, rfl⟩
    go_wp2_with fail
    refine (weight_any y _ hy64).mono ?_
    rintro e w5 ⟨rfl, rfl⟩
    rw [HT.out]
    go_wp2_with fail
    refine (weight_any m _ hm64).mono ?_
    rintro e w5 ⟨rfl, rfl⟩
    rw [HS.out]
    by_cases h1 : t = s
    · have h2 := HFIN.out h1
      subst h1
      go_wp2
      go_ret
      exact ⟨rfl, b4'⟩
    · have h2 : ((t : Int) != (s : Int)) = true := by simp; omega
      go_wp2
      go_ret
      exact ⟨rfl, b4'⟩
end Go.Proofs.YteiaopjpnfhbgabDoor
