/-
  DERIVED. MasksShell's walk.
-/
import Derived.Test.YteiaopjpnfhbgabDoorWalk
namespace Go.Proofs.YteiaopjpnfhbgabDoor
open Go.RowKit Go.Proofs.MaskMath
/-- All that is known of the mask at a place. -/
theorem place_facts (n s i : Nat) (hn : n ≤ 64) (hi : i < ch n s) :
    unr n s i < 2 ^ n ∧ wt 64 (unr n s i) = s ∧ rk 64 (unr n s i) = i ∧ nxB n (unr n s i) = decide (i + 1 < ch n s) ∧ nxA n (unr n s i) = (if i + 1 < ch n s then unr n s (i + 1) else 0) ∧ (i + 1 < ch n s → unr n s i < unr n s (i + 1)) := by
  obtain ⟨h1, h2, h3⟩ := unr_spec n s i hi
  have hw := wt_more h1 64 hn
  have hr := rk_more h1 64 hn
  have hok : okN (n : Int) = true := by simp [okN]; omega
  have eb : nxB n (unr n s i) = decide (i + 1 < ch n s) := by
    unfold nxB
    rw [hok, hw, hr, h2, h3]
    simp [h1]
  refine ⟨h1, by omega, by omega, eb, ?_, fun h => ?_⟩
  · unfold nxA
    rw [eb, hw, hr, h2, h3]
    simp
  · obtain ⟨k1, k2, k3⟩ := unr_spec n s (i + 1) h
    exact (rk_order h1 k1 (by omega)).1.1 (by omega)
set_option maxRecDepth 100000 in
set_option maxHeartbeats 4000000 in
theorem law_shell (p q : Int) (w : World) (ht : Tab w) (hg0 : 0 < w.heap.size) :
    Calls Tryd.prog 4 #[.int .i64 p, .int .i64 q] w fun e w' => e = .returned (.bool true) ∧ Below w.heap.size w w' := by
  go_enter Tryd.func4, Tryd.ntmps4
  go_wp2_with fail
  refine (pick_any p 65 _ (by omega) (by omega)).mono ?_
  rintro e w1 ⟨⟨n, hn, rfl⟩, rfl⟩
  go_wp2_with fail
  rw [show (n : Int) + 1 = ((n + 1 : Nat) : Int) by omega]
  refine (pick_any q (n + 1) _ (by omega) (by omega)).mono ?_
  rintro e w1 ⟨⟨s, hs, rfl⟩, rfl⟩
  have hn64 : n ≤ 64 := by omega
  obtain ⟨C, hC⟩ : ∃ C, ch n s = C := ⟨_, rfl⟩
  have HC : Hid (ch n s = C) := hC
  have hC0 : 0 < C := by rw [← hC]; exact ch_pos n s (by omega)
  have hCl : C < 9223372036854775808 := by rw [← hC]; exact ch_lt n s hn64
  have HB : Hid (fiB (n : Int) (s : Int) = true) := by show _ = _; simp [fiB, okN, okS]; omega
  have HF : Hid (fiA (n : Int) (s : Int) = unr n s 0) := by
    show _ = _
    unfold fiA; rw [if_pos HB.out, unr_first (by omega)]; simp
  clear hC
  go_wp2_with fail
  refine (count_yes n s _ hn64 (by omega)).mono ?_
  rintro e w2 ⟨rfl, b2⟩
  rw [HC.out]
  go_wp2_with fail
  refine (first_all n s _).mono ?_
  rintro e w3 ⟨rfl, rfl⟩
  rw [HB.out, HF.out]
  obtain ⟨X, hX⟩ : ∃ X, unr n s 0 = X := ⟨_, rfl⟩
  have HX : Hid (unr n s 0 = X) := hX
  rw [hX]
  clear hX HF HB
  have hC1 : ¬ (C : Int) < 1 := by omega
  have hC2 : ¬ C < 1 := by omega
  go_wp2_with (go_at_call 12; refine (num_any _ _).mono ?_; rintro e w' ⟨rfl, rfl⟩)
  go_loopw [9, 11] (fun v iv wr => ∃ i x : Nat, i ≤ 1000 ∧ i < C ∧ iv = .int .i64 i ∧ v = .int .u64 x ∧ unr n s i = x ∧ Below w1.heap.size w1 wr) (fun _ iv _ => 1000 - (intOf iv).toNat)
  case atStart => exact ⟨0, X, by omega, hC0, rfl, rfl, HX.out, b2⟩
  case round =>
    obtain ⟨i, x, hi, hiC, rfl, rfl, hx, hB⟩ := hrel
    clear b2
    by_cases hlt : i < 1000
    · obtain ⟨f1, f2, f3, f4, f5, f6⟩ := place_facts n s i hn64 (by rw [HC.out]; exact hiC)
      rw [hx] at f1 f2 f3 f4 f5 f6
      rw [HC.out] at f4 f5 f6
      have hp := pow_le64 hn64
      have hx64 : x < 18446744073709551616 := by omega
      have HW : Hid (wt 64 x = s) := f2
      have HR : Hid (rk 64 x = i) := f3
      have HL : Hid (x % 2 ^ n = x) := Nat.mod_eq_of_lt f1
      have hi1 : (i : Int) < 1000 := by omega
      have ht' := ht.below hB hg0
      clear hx f1 f2 f3 hp
      go_wp2_with fail
      refine (weight_any x _ hx64).mono ?_
      rintro e w4 ⟨rfl, rfl⟩
      rw [HW.out]
      go_wp2_with fail
      refine (low_any n x _ hx64 hn64).mono ?_
      rintro e w4 ⟨rfl, rfl⟩
      rw [HL.out]
      go_wp2_with fail
      refine (rank_any x _ hx64).mono ?_
      rintro e w5 ⟨rfl, b5⟩
      rw [HR.out]
      have ht5 := ht'.below b5 (by have := hB.size; omega)
      have hB5 := chain hB b5 (Nat.le_refl _)
      clear b5 hB ht'
      go_wp2_with fail
      refine (next_all n x _ ht5 hx64).mono ?_
      rintro e w6 ⟨rfl, rfl⟩
      rw [f4, f5]
      by_cases hm : i + 1 < C
      · obtain ⟨Y, hY⟩ : ∃ Y, unr n s (i + 1) = Y := ⟨_, rfl⟩
        have HY : Hid (unr n s (i + 1) = Y) := hY
        rw [if_pos hm, decide_eq_true hm, hY]
        have hxy : x < Y := by rw [← hY]; exact f6 hm
        have hm1 : (i : Int) + 1 < (C : Int) := by omega
        clear f4 f5 f6 hY
        go_wp2
        exact ⟨⟨i + 1, Y, by omega, hm, by go_num, rfl, HY.out, hB5⟩, by show 1000 - ((i + 1 : Nat) : Int).toNat < 1000 - ((i : Nat) : Int).toNat; omega⟩
      · rw [if_neg hm, decide_eq_false hm]
        have hm1 : ¬ (i : Int) + 1 < (C : Int) := by omega
        clear f4 f5 f6
        go_wp2
        go_ret
        exact ⟨rfl, hB5⟩
    · have e : i = 1000 := by omega
      subst e
      have hc : (1000 : Int) < (C : Int) := by omega
      go_wp2
      go_ret
      exact ⟨rfl, hB⟩
end Go.Proofs.YteiaopjpnfhbgabDoor
