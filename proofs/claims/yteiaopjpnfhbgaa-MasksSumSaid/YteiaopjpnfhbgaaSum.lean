/-
  DERIVED. MasksSum's walk.
-/
import Derived.Test.YteiaopjpnfhbgaaHelp
import Derived.Test.YteiaopjpnfhbgaaUpto
namespace Go.Proofs.Yteiaopjpnfhbgaa
open Go.RowKit Go.Proofs.MaskMath
theorem upto_nat (n : Nat) (s : Int) (m : Nat) (k : Nat) (w : World) (hn : n ≤ 64) (hs : -9223372036854775808 ≤ s) (hm : m ≤ 4611686018427387904) (hk : shl n s = k) :
    Calls Try.prog 13 #[.int .i64 n, .int .i64 s, .int .i64 m] w fun e w' => e = .returned (.tuple #[.int .i64 (min (sm n k) m : Nat), .int .i64 0]) ∧ Below w.heap.size w w' := by
  have := upto_yes n s m w hn hs hm
  rw [hk, show min (sm n k : Int) m = ((min (sm n k) m : Nat) : Int) by omega] at this
  exact this
theorem count_nat (n : Nat) (s : Int) (c : Nat) (w : World) (hn : n ≤ 64) (hc : chI n s = c) :
    Calls Try.prog 9 #[.int .i64 n, .int .i64 s] w fun e w' => e = .returned (.tuple #[.int .i64 c, .int .i64 0]) ∧ Below w.heap.size w w' := by
  have := count_all n s w
  have hok : okN (n : Int) = true := by simp [okN]; omega
  unfold cntA cntE at this
  rw [if_pos hok, if_pos hok, hc] at this
  exact this
set_option maxRecDepth 100000 in
set_option maxHeartbeats 2000000 in
theorem law_sum (p q r : Int) (w : World) :
    Calls Try.prog 5 #[.int .i64 p, .int .i64 q, .int .i64 r] w fun e w' => e = .returned (.bool true) ∧ Below w.heap.size w w' := by
  go_enter Try.func5, Try.ntmps5
  go_wp2_with fail
  refine (pick_any p 64 _ (by omega) (by omega)).mono ?_
  rintro e w1 ⟨⟨t, ht, rfl⟩, rfl⟩
  go_wp2_with fail
  obtain ⟨n, hn, hnt⟩ : ∃ n : Nat, n = t + 1 ∧ (1 : Int) + (t : Int) = n := ⟨t + 1, rfl, by omega⟩
  have hnt1 : (n : Int) - 1 = (t : Int) := by omega
  rw [hnt, show (n : Int) + 1 = ((n + 1 : Nat) : Int) by omega]
  refine (pick_any q (n + 1) _ (by omega) (by omega)).mono ?_
  rintro e w1 ⟨⟨s, hs, rfl⟩, rfl⟩
  obtain ⟨A, hA⟩ : ∃ A, ch n s = A := ⟨_, rfl⟩
  obtain ⟨B, hB⟩ : ∃ B, ch t s = B := ⟨_, rfl⟩
  obtain ⟨C, hC, hABC⟩ : ∃ C : Nat, chI (t : Int) ((s : Int) - 1) = C ∧ A = B + C := by
    rw [← hA, ← hB, hn]
    cases s with
    | zero => exact ⟨0, by unfold chI; rw [if_neg (by simp [okS])]; rfl, by rw [ch_zero, ch_zero]⟩
    | succ j => exact ⟨ch t j, by rw [show ((j + 1 : Nat) : Int) - 1 = (j : Int) by omega, chI_nat], by rw [ch_succ]; omega⟩
  have HA : Hid (chI (n : Int) (s : Int) = A) := by show _ = _; rw [chI_nat, hA]
  have HB : Hid (chI (t : Int) (s : Int) = B) := by show _ = _; rw [chI_nat, hB]
  have HC : Hid (chI (t : Int) ((s : Int) - 1) = C) := hC
  have HD : Hid (chI (n : Int) ((n : Int) - (s : Int)) = A) := by
    show _ = _
    rw [show (n : Int) - (s : Int) = ((n - s : Nat) : Int) by omega, chI_nat, ch_symm (by omega), hA]
  have hA1 : 1 ≤ A := by rw [← hA]; exact ch_pos _ _ (by omega)
  have hAl : A < 9223372036854775808 := by rw [← hA]; exact ch_lt _ _ (by omega)
  have HT : Hid ((n : Int) - 1 = (t : Int)) := hnt1
  -- the sums
  obtain ⟨K, hK, eK⟩ : ∃ K, K = min (2 ^ n) 4611686018427387904 ∧ min (sm n (n + 1)) 4611686018427387904 = K := ⟨_, rfl, by rw [sm_all]⟩
  obtain ⟨S, hS⟩ : ∃ S, sm n s = S := ⟨_, rfl⟩
  have hS1 : sm n (s + 1) = S + A := by rw [← hS, ← hA]; rfl
  have hS2 : S + A ≤ 2 ^ n := by rw [← hS1, ← sm_all n]; exact sm_mono n (by omega)
  have HK : Hid (min (sm n (n + 1)) 4611686018427387904 = K) := eK
  have HS : Hid (sm n s = S) := hS
  have HS1 : Hid (sm n (s + 1) = S + A) := hS1
  have hpow : (62 ≤ n ∧ K = 4611686018427387904) ∨ (n < 62 ∧ K = 2 ^ n ∧ S + A < 4611686018427387904 ∧ K < 4611686018427387904) := by
    by_cases h : 62 ≤ n
    · have := Nat.pow_le_pow_right (n := 2) (by omega) h
      exact .inl ⟨h, by rw [hK]; omega⟩
    · have := Nat.pow_lt_pow_right (a := 2) (by omega) (show n < 62 by omega)
      exact .inr ⟨by omega, by rw [hK]; omega, by omega, by omega⟩
  have HP : Hid _ := hpow
  have hn64 : n ≤ 64 := by omega
  have hn1 : 1 ≤ n := by omega
  clear hn
  clear hA hB hC hK eK hS hS1 hS2 hpow hnt hnt1
  go_wp2_with fail
  refine (count_nat n s A _ (by omega) HA.out).mono ?_
  rintro e w2 ⟨rfl, b2⟩
  go_wp2_with fail
  rw [HT.out]
  refine (count_nat t s B _ (by omega) HB.out).mono ?_
  rintro e w3 ⟨rfl, b3⟩
  have b3' := chain b2 b3 (Nat.le_refl _)
  go_wp2_with fail
  rw [HT.out]
  refine (count_nat t _ C _ (by omega) HC.out).mono ?_
  rintro e w4 ⟨rfl, b4⟩
  have b4' := chain b3' b4 (Nat.le_refl _)
  go_wp2_with fail
  refine (count_nat n _ A _ (by omega) HD.out).mono ?_
  rintro e w5 ⟨rfl, b5⟩
  have b5' := chain b4' b5 (Nat.le_refl _)
  clear b2 b3 b3' b4 b4' b5
  go_wp2_with (go_at_call 10; refine (num_any _ _).mono ?_; rintro e w' ⟨rfl, rfl⟩)
  refine (upto_nat n n 4611686018427387904 (n + 1) _ hn64 (by omega) (by omega) (by unfold shl; omega)).mono ?_
  rintro e w6 ⟨rfl, b6⟩
  have b6' := chain b5' b6 (Nat.le_refl _)
  rw [HK.out]
  obtain ⟨L, hL⟩ : ∃ L, min (S + A) 4611686018427387904 = L := ⟨_, rfl⟩
  obtain ⟨O, hO⟩ : ∃ O, min S 4611686018427387904 = O := ⟨_, rfl⟩
  have HL : Hid (min (sm n (s + 1)) 4611686018427387904 = L) := by show _ = _; rw [HS1.out, hL]
  have HO : Hid (min (sm n s) 4611686018427387904 = O) := by show _ = _; rw [HS.out, hO]
  have HL2 : Hid (min (S + A) 4611686018427387904 = L) := hL
  have HO2 : Hid (min S 4611686018427387904 = O) := hO
  clear hL hO b5' b6
  go_wp2_with fail
  refine (upto_nat n s 4611686018427387904 (s + 1) _ hn64 (by omega) (by omega) (by unfold shl; omega)).mono ?_
  rintro e w7 ⟨rfl, b7⟩
  have b7' := chain b6' b7 (Nat.le_refl _)
  rw [HL.out]
  clear b6' b7
  go_wp2_with fail
  refine (upto_nat n ((s : Int) - 1) 4611686018427387904 s _ hn64 (by omega) (by omega) (by unfold shl; omega)).mono ?_
  rintro e w8 ⟨rfl, b8⟩
  have b8' := chain b7' b8 (Nat.le_refl _)
  rw [HO.out]
  clear b7' b8
  go_wp2_with fail
  refine (pick_any r 4611686018427387904 _ (by omega) (by omega)).mono ?_
  rintro e w9 ⟨⟨b, hb, rfl⟩, rfl⟩
  go_wp2_with fail
  refine (upto_nat n s b (s + 1) _ hn64 (by omega) (by omega) (by unfold shl; omega)).mono ?_
  rintro e w10 ⟨rfl, b10⟩
  have b10' := chain b8' b10 (Nat.le_refl _)
  clear b8' b10
  have HQ : Hid (min (sm n (s + 1)) b = min L b) := by show _ = _; rw [HS1.out, ← HL2.out]; omega
  rw [HQ.out]
  have hKb : K ≤ 4611686018427387904 := by have := HP.out; omega
  have hLb : L ≤ 4611686018427387904 := by have := HL2.out; omega
  have hOL : O ≤ L := by have h1 := HL2.out; have h2 := HO2.out; omega
  have hmin : (L ≤ b ∧ min L b = L) ∨ (b < L ∧ min L b = b) := by omega
  have H10 : Hid _ := hABC
  have hAB : B + C < 9223372036854775808 := by omega
  have HA1 : Hid _ := hA1
  clear hABC hA1 hAl
  rcases HP.out with ⟨h62, hK⟩ | ⟨h62, hK, hSA, hKl⟩
  · subst hK
    rcases hmin with ⟨h1, h2⟩ | ⟨h1, h2⟩
    all_goals
      rw [h2]
      clear h2
      go_wp2_with (go_at_call 10; refine (num_any _ _).mono ?_; rintro e w' ⟨rfl, rfl⟩)
      go_ret
      exact ⟨ret_bool (decide_eq_true (by omega)), b10'⟩
  · have hpi : (2 : Int) ^ n = (K : Int) := by rw [hK]; simp
    have hLO : (L : Int) = (O : Int) + ((B : Int) + (C : Int)) := by have h1 := HL2.out; have h2 := HO2.out; have h3 := H10.out; omega
    have hn62 : ¬ (62 : Int) ≤ (n : Int) := by omega
    have hn62' : ¬ 62 ≤ n := by omega
    have hOb : O ≤ 4611686018427387904 := by omega
    clear hK
    rcases hmin with ⟨h1, h2⟩ | ⟨h1, h2⟩
    all_goals
      rw [h2]
      clear h2
      have HLO : Hid _ := hLO
      have hlim : O + (B + C) ≤ 4611686018427387904 := by omega
      clear hLO
      have hn2 : (n : Int) < 64 := by omega
      clear hOL hKb h62
      go_wp2_with fail
      refine (num_any _ _).mono ?_
      rintro e w' ⟨rfl, rfl⟩
      go_wp2_with fail
      refine (num_any _ _).mono ?_
      rintro e w' ⟨rfl, rfl⟩
      go_wp2_with fail
      refine (num_any _ _).mono ?_
      rintro e w' ⟨rfl, rfl⟩
      go_wp2_with fail
      refine (num_any _ _).mono ?_
      rintro e w' ⟨rfl, rfl⟩
      have he : ((L : Int) == (O : Int) + ((B : Int) + (C : Int))) = true := by rw [← HLO.out]; simp
      clear hAB hs hb hn1 ht hOb
      go_wp2
      go_ret
      exact ⟨rfl, b10'⟩
end Go.Proofs.Yteiaopjpnfhbgaa
