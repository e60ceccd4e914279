/-
  DERIVED. What Next and First answer at all numbers; the document's own; MasksWalk's walk.
-/
import Derived.Test.YteiaopjpnfhbgabDoorNext
import Derived.Test.YteiaopjpnfhbgabDoorRUnrank
namespace Go.Proofs.YteiaopjpnfhbgabDoor
open Go.RowKit Go.Proofs.MaskMath
/-- Is there a mask behind it? -/
def nxB (n : Int) (m : Nat) : Bool := okN n && (decide (m < 2 ^ n.toNat) && decide (rk 64 m + 1 < ch n.toNat (wt 64 m)))
/-- Which one. -/
def nxA (n : Int) (m : Nat) : Nat := if nxB n m = true then unr n.toNat (wt 64 m) (rk 64 m + 1) else 0
theorem rk_zero : ∀ n, rk n 0 = 0
  | 0 => rfl
  | n + 1 => by rw [rk_no (by simp), rk_zero n]
theorem next_all (n : Int) (m : Nat) (w : World) (ht : Tab w) (hm : m < 18446744073709551616) :
    Calls Tryd.prog 8 #[.int .i64 n, .int .u64 m] w fun e w' => e = .returned (.tuple #[.int .u64 (nxA n m), .bool (nxB n m)]) ∧ w' = w := by
  cases h : okN n
  · have e1 : nxB n m = false := by simp [nxB, h]
    have e2 : nxA n m = 0 := by simp [nxA, e1]
    rw [e1, e2]; exact next_noN n m w h
  · obtain ⟨a, rfl, ha⟩ := okN_nat h
    by_cases hf : m < 2 ^ a
    · have e0 : nxB (a : Int) m = decide (rk 64 m + 1 < ch a (wt 64 m)) := by simp [nxB, h, hf]
      by_cases h0 : m = 0
      · subst h0
        have e1 : nxB (a : Int) 0 = false := by rw [e0, wt_zero, rk_zero, ch_zero]; rfl
        have e2 : nxA (a : Int) 0 = 0 := by simp [nxA, e1]
        rw [e1, e2]; exact next_zero a w ha
      · refine (next_pos a m w ht hm (by omega) ha hf).mono ?_
        rintro e w' ⟨⟨d, l, k, hk, hmk, rfl⟩, rfl⟩
        have hp := nx_place hk (n := a) (by rw [← hmk]; exact hf)
        rw [← hmk] at hp
        rw [wt_more hf 64 ha, rk_more hf 64 ha] at e0
        have e2 : nxA (a : Int) m = if nxB (a : Int) m = true then unr a (wt a m) (rk a m + 1) else 0 := by
          unfold nxA; rw [wt_more hf 64 ha, rk_more hf 64 ha]; rfl
        refine ⟨?_, rfl⟩
        by_cases hx : nx d l k < 2 ^ a
        · obtain ⟨p1, p2⟩ := hp.1 hx
          have e3 : nxB (a : Int) m = true := by rw [e0]; exact decide_eq_true p1
          rw [if_pos e3, p2] at e2
          rw [e2, e3, if_pos hx, decide_eq_true hx]
        · have p1 := hp.2 (by omega)
          have e3 : nxB (a : Int) m = false := by rw [e0]; exact decide_eq_false (by omega)
          rw [if_neg (by simp [e3])] at e2
          rw [e2, e3, if_neg hx, decide_eq_false hx]
    · have e1 : nxB (a : Int) m = false := by simp [nxB, hf]
      have e2 : nxA (a : Int) m = 0 := by simp [nxA, e1]
      rw [e1, e2]; exact next_noM a m w hm ha hf
/-- What First answers. -/
def fiB (n s : Int) : Bool := okN n && okS n s
def fiA (n s : Int) : Nat := if fiB n s = true then 2 ^ s.toNat - 1 else 0
set_option maxHeartbeats 1000000 in
theorem first_all (n s : Int) (w : World) :
    Calls Tryd.prog 6 #[.int .i64 n, .int .i64 s] w fun e w' => e = .returned (.tuple #[.int .u64 (fiA n s), .bool (fiB n s)]) ∧ w' = w := by
  unfold fiA fiB
  cases h : okN n
  · simp only [Bool.false_and, Bool.false_eq_true, if_false]
    go_enter Tryd.func6, Tryd.ntmps6
    go_wp2_with fail
    refine (isBits_any _ _).mono ?_
    rintro e w1 ⟨rfl, rfl⟩
    go_wp2
    go_ret2
    exact ⟨rfl, rfl⟩
  · cases k : okS n s
    · simp only [Bool.and_false, Bool.false_eq_true, if_false]
      go_enter Tryd.func6, Tryd.ntmps6
      go_wp2_with fail
      refine (isBits_any _ _).mono ?_
      rintro e w1 ⟨rfl, rfl⟩
      go_wp2_with fail
      refine (isWeight_any _ _ _).mono ?_
      rintro e w1 ⟨rfl, rfl⟩
      go_wp2
      go_ret2
      exact ⟨rfl, rfl⟩
    · obtain ⟨a, rfl, ha⟩ := okN_nat h
      obtain ⟨b, rfl, hb⟩ := okS_nat k
      simp only [Bool.and_self, if_true, Int.toNat_natCast]
      by_cases h64 : b = 64
      · subst h64
        have k' : okS (a : Int) 64 = true := by simpa using k
        go_enter Tryd.func6, Tryd.ntmps6
        go_wp2_with fail
        refine (isBits_any _ _).mono ?_
        rintro e w1 ⟨rfl, rfl⟩
        go_wp2_with fail
        refine (isWeight_any _ _ _).mono ?_
        rintro e w1 ⟨rfl, rfl⟩
        go_wp2
        go_ret2
        exact ⟨rfl, rfl⟩
      · obtain ⟨P, eP⟩ : ∃ P, 2 ^ b = P := ⟨_, rfl⟩
        have hP : P < 18446744073709551616 := by rw [← eP]; exact pow_lt64 (by omega)
        have hP0 : 0 < P := by rw [← eP]; exact Nat.two_pow_pos b
        have hpi : (2 : Int) ^ b = (P : Int) := by rw [← eP]; simp
        have hb64 : (b : Int) < 64 := by omega
        rw [eP]
        clear eP
        go_enter Tryd.func6, Tryd.ntmps6
        go_wp2_with fail
        refine (isBits_any _ _).mono ?_
        rintro e w1 ⟨rfl, rfl⟩
        go_wp2_with fail
        refine (isWeight_any _ _ _).mono ?_
        rintro e w1 ⟨rfl, rfl⟩
        go_wp2
        go_ret2
        exact ⟨ret2 (ival (by omega)) rfl, rfl⟩
set_option maxHeartbeats 400000 in
theorem within_any (n m : Nat) (w : World) (hm : m < 18446744073709551616) (hn : n ≤ 64) :
    Calls Tryd.prog 22 #[.int .i64 n, .int .u64 m] w fun e w' => e = .returned (.bool (decide (m < 2 ^ n))) ∧ w' = w := by
  by_cases h64 : n = 64
  · subst h64
    have hd : decide (m < 2 ^ 64) = true := by simpa using hm
    rw [hd]
    clear hd
    go_enter Tryd.func22, Tryd.ntmps22
    go_wp2
    go_ret
    exact ⟨rfl, rfl⟩
  · have hpi : ((m : Int) / 2 ^ n) = ((m / 2 ^ n : Nat) : Int) := by simp
    have hq : m < 2 ^ n ↔ m / 2 ^ n = 0 := (Nat.div_eq_zero_iff_lt (Nat.two_pow_pos n)).symm
    have hn1 : (n : Int) < 64 := by omega
    have hn2 : ((n : Int) == 64) = false := by simp; omega
    have hd : decide (m < 2 ^ n) = (((m / 2 ^ n : Nat) : Int) == 0) := by
      by_cases h : m < 2 ^ n
      · rw [decide_eq_true h, hq.1 h]; rfl
      · have := mt hq.2 h
        rw [decide_eq_false h]; symm; simp; omega
    rw [hd]
    clear hd hq
    generalize m / 2 ^ n = q at *
    go_enter Tryd.func22, Tryd.ntmps22
    go_wp2
    go_ret
    exact ⟨rfl, rfl⟩
theorem unA_nat (a s r : Nat) (ha : a ≤ 64) : unA a s r = ((if r < ch a s then unr a s r else 0 : Nat) : Int) ∧ unE a s r = if r < ch a s then 0 else 21 := by
  have hok : okN (a : Int) = true := by simp [okN]; omega
  unfold unA unE
  rw [if_pos hok, if_pos hok]
  by_cases h : r < ch a s
  · have hr : okR (a : Int) (s : Int) (r : Int) = true := by unfold okR; rw [chI_nat]; simp; omega
    rw [if_pos hr, if_pos hr, if_pos h, if_pos h]; simp
  · have hr : ¬ okR (a : Int) (s : Int) (r : Int) = true := by unfold okR; rw [chI_nat]; simp; omega
    rw [if_neg hr, if_neg hr, if_neg h, if_neg h]; simp
set_option maxHeartbeats 1000000 in
theorem rNext_all (n : Int) (m : Nat) (w : World) (hm : m < 18446744073709551616) :
    Calls Tryd.prog 9 #[.int .i64 n, .int .u64 m] w fun e w' => e = .returned (.tuple #[.int .u64 (nxA n m), .bool (nxB n m)]) ∧ Below w.heap.size w w' := by
  cases h : okN n
  · have e1 : nxB n m = false := by simp [nxB, h]
    have e2 : nxA n m = 0 := by simp [nxA, e1]
    rw [e1, e2]
    have h' : n < 0 ∨ 64 < n := by simp [okN] at h; omega
    clear h e1 e2
    by_cases h0 : n < 0
    all_goals
      go_enter Tryd.func9, Tryd.ntmps9
      go_wp2
      go_ret2
      exact ⟨rfl, Below.refl _ _⟩
  · obtain ⟨a, rfl, ha⟩ := okN_nat h
    have hn1 : ¬ (a : Int) < 0 := by omega
    have hn2 : ¬ 64 < (a : Int) := by omega
    have hn3 : ¬ 64 < a := by omega
    by_cases hf : m < 2 ^ a
    · have e0 : nxB (a : Int) m = decide (rk 64 m + 1 < ch a (wt 64 m)) := by simp [nxB, h, hf]
      have e2 : nxA (a : Int) m = if rk 64 m + 1 < ch a (wt 64 m) then unr a (wt 64 m) (rk 64 m + 1) else 0 := by
        unfold nxA; rw [e0]; simp
      have hu := unA_nat a (wt 64 m) (rk 64 m + 1) ha
      rw [← e2] at hu
      have hrl := rk_lt63 64 m (by omega)
      have hc := ch_lt 64 (wt 64 m) (by omega)
      have hrc := rk_lt m 64
      have HF : Hid (m < 2 ^ a) := hf
      have E0 : Hid (nxB (a : Int) m = (unE (a : Int) (wt 64 m : Int) ((rk 64 m + 1 : Nat) : Int) == 0)) := by
        show _ = _
        rw [e0, hu.2]
        by_cases hh : rk 64 m + 1 < ch a (wt 64 m)
        · rw [if_pos hh, decide_eq_true hh]; rfl
        · rw [if_neg hh, decide_eq_false hh]; rfl
      have E1 : Hid (unA (a : Int) (wt 64 m : Int) ((rk 64 m + 1 : Nat) : Int) = (nxA (a : Int) m : Int)) := hu.1
      have hlim : rk 64 m + 1 < 9223372036854775808 := by omega
      clear e0 e2 hu hf hrc hc hrl h
      rw [E0.out]
      obtain ⟨s, hs⟩ : ∃ s, wt 64 m = s := ⟨_, rfl⟩
      obtain ⟨r, hr⟩ : ∃ r, rk 64 m = r := ⟨_, rfl⟩
      have HS : Hid (wt 64 m = s) := hs
      have HR : Hid (rk 64 m = r) := hr
      rw [hs, hr]
      rw [hr] at hlim
      have E2 : Hid (unA (a : Int) (s : Int) ((r + 1 : Nat) : Int) = (nxA (a : Int) m : Int)) := by show _ = _; rw [← hs, ← hr]; exact E1.out
      clear hs hr E0 E1
      go_enter Tryd.func9, Tryd.ntmps9
      go_wp2_with fail
      refine (within_any a m _ hm ha).mono ?_
      rintro e w1 ⟨rfl, rfl⟩
      rw [decide_eq_true HF.out]
      go_wp2_with fail
      refine (rWeight_any m _ hm).mono ?_
      rintro e w1 ⟨rfl, rfl⟩
      rw [HS.out]
      go_wp2_with fail
      refine (rRank_any m _ hm).mono ?_
      rintro e w2 ⟨rfl, b2⟩
      rw [HR.out]
      go_wp2_with fail
      rw [show (r : Int) + 1 = ((r + 1 : Nat) : Int) by omega]
      refine (rUnrank_all a s (r + 1 : Nat) _).mono ?_
      rintro e w3 ⟨rfl, b3⟩
      have b3' := chain b2 b3 (Nat.le_refl _)
      rw [E2.out]
      obtain ⟨X, hX⟩ : ∃ X, nxA (a : Int) m = X := ⟨_, rfl⟩
      obtain ⟨E, hE⟩ : ∃ E, unE (a : Int) (s : Int) ((r + 1 : Nat) : Int) = E := ⟨_, rfl⟩
      have HX : Hid (nxA (a : Int) m = X) := hX
      have HE : Hid (unE (a : Int) (s : Int) ((r + 1 : Nat) : Int) = E) := hE
      rw [hX, hE]
      clear hX hE
      go_wp2
      go_ret2
      exact ⟨ret2 (by rw [HX.out]; rfl) (by rw [HE.out]; rfl), b3'⟩
    · have e1 : nxB (a : Int) m = false := by simp [nxB, hf]
      have e2 : nxA (a : Int) m = 0 := by simp [nxA, e1]
      rw [e1, e2]
      have HF : Hid (¬ m < 2 ^ a) := hf
      clear e1 e2 hf h
      go_enter Tryd.func9, Tryd.ntmps9
      go_wp2_with fail
      refine (within_any a m _ hm ha).mono ?_
      rintro e w1 ⟨rfl, rfl⟩
      rw [decide_eq_false HF.out]
      go_wp2
      go_ret2
      exact ⟨rfl, Below.refl _ _⟩
set_option maxHeartbeats 1000000 in
theorem rFirst_all (n s : Int) (w : World) :
    Calls Tryd.prog 7 #[.int .i64 n, .int .i64 s] w fun e w' => e = .returned (.tuple #[.int .u64 (fiA n s), .bool (fiB n s)]) ∧ Below w.heap.size w w' := by
  cases h : fiB n s
  · have e2 : fiA n s = 0 := by simp [fiA, h]
    rw [e2]
    have h' : n < 0 ∨ (¬ n < 0 ∧ 64 < n) ∨ (¬ n < 0 ∧ ¬ 64 < n ∧ s < 0) ∨ (¬ n < 0 ∧ ¬ 64 < n ∧ ¬ s < 0 ∧ n < s) := by simp [fiB, okN, okS] at h; omega
    clear h e2
    rcases h' with h | ⟨h1, h2⟩ | ⟨h1, h2, h3⟩ | ⟨h1, h2, h3, h4⟩
    all_goals
      go_enter Tryd.func7, Tryd.ntmps7
      go_wp2
      go_ret2
      exact ⟨rfl, Below.refl _ _⟩
  · have h' := h
    simp only [fiB, Bool.and_eq_true] at h'
    obtain ⟨a, rfl, ha⟩ := okN_nat h'.1
    obtain ⟨b, rfl, hb⟩ := okS_nat h'.2
    have e2 : (fiA (a : Int) (b : Int) : Int) = unA (a : Int) (b : Int) 0 := by
      have h1 := (unA_nat a b 0 ha).1
      have h2 := ch_pos a b (by omega)
      rw [if_pos h2, unr_first (by omega)] at h1
      simp only [fiA, h, if_true, Int.toNat_natCast]
      exact h1.symm
    rw [e2]
    have hn1 : ¬ (a : Int) < 0 := by omega
    have hn2 : ¬ 64 < (a : Int) := by omega
    have hn3 : ¬ 64 < a := by omega
    have hs1 : ¬ (b : Int) < 0 := by omega
    have hs2 : ¬ (a : Int) < (b : Int) := by omega
    have hs3 : ¬ a < b := by omega
    clear e2 h h'
    go_enter Tryd.func7, Tryd.ntmps7
    go_wp2_with fail
    refine (rUnrank_all a b 0 _).mono ?_
    rintro e w1 ⟨rfl, b1⟩
    go_wp2
    go_ret2
    exact ⟨rfl, b1⟩
set_option maxHeartbeats 1000000 in
theorem law_walk (n s : Int) (m : Nat) (w : World) (hm : m < 18446744073709551616) (ht : Tab w) (hg0 : 0 < w.heap.size) :
    Calls Tryd.prog 3 #[.int .i64 n, .int .i64 s, .int .u64 m] w fun e w' => e = .returned (.bool true) ∧ Below w.heap.size w w' := by
  go_enter Tryd.func3, Tryd.ntmps3
  go_wp2_with fail
  refine (first_all n s _).mono ?_
  rintro e w1 ⟨rfl, rfl⟩
  go_wp2_with fail
  refine (rFirst_all n s _).mono ?_
  rintro e w2 ⟨rfl, b2⟩
  have ht2 := ht.below b2 hg0
  go_wp2_with fail
  refine (next_all n m _ ht2 hm).mono ?_
  rintro e w3 ⟨rfl, rfl⟩
  go_wp2_with fail
  refine (rNext_all n m _ hm).mono ?_
  rintro e w4 ⟨rfl, b4⟩
  have b4' := chain b2 b4 (Nat.le_refl _)
  go_wp2
  go_ret
  exact ⟨rfl, b4'⟩
end Go.Proofs.YteiaopjpnfhbgabDoor
