/-
  DERIVED. The document's own Unrank; MasksRank's walk.
-/
import Derived.Test.YteiaopjpnfhbgabDoorUnrank
namespace Go.Proofs.YteiaopjpnfhbgabDoor
open Go.RowKit Go.Proofs.MaskMath
set_option maxHeartbeats 400000 in
theorem rUnrank_noN (n s r : Int) (w : World) (h : okN n = false) :
    Calls Tryd.prog 19 #[.int .i64 n, .int .i64 s, .int .i64 r] w fun e w' => e = .returned (.tuple #[.int .u64 0, .int .i64 20]) ∧ Below w.heap.size w w' := by
  have h' : n < 0 ∨ 64 < n := by simp [okN] at h; omega
  clear h
  by_cases h0 : n < 0
  all_goals
    go_enter Tryd.func19, Tryd.ntmps19
    go_wp2
    go_ret2
    exact ⟨rfl, Below.refl _ _⟩
set_option maxRecDepth 100000 in
set_option maxHeartbeats 1000000 in
theorem rUnrank_noR (n : Nat) (s r : Int) (w : World) (hn : n ≤ 64) (h : okR n s r = false) :
    Calls Tryd.prog 19 #[.int .i64 n, .int .i64 s, .int .i64 r] w fun e w' => e = .returned (.tuple #[.int .u64 0, .int .i64 21]) ∧ Below w.heap.size w w' := by
  have hn1 : ¬ (n : Int) < 0 := by omega
  have hn2 : ¬ 64 < (n : Int) := by omega
  have hn3 : ¬ 64 < n := by omega
  by_cases h0 : r < 0
  · clear h
    go_enter Tryd.func19, Tryd.ntmps19
    go_wp2
    go_ret2
    exact ⟨rfl, Below.refl _ _⟩
  · have h1 : chI n s ≤ r := by simp only [okR, Bool.and_eq_false_iff, decide_eq_false_iff_not] at h; omega
    clear h
    go_enter Tryd.func19, Tryd.ntmps19
    go_wp2_with fail
    refine (over_all n s _ hn).mono ?_
    rintro e w1 ⟨rfl, b1⟩
    generalize chI n s = z at *
    go_wp2
    go_ret2
    exact ⟨rfl, b1⟩
set_option maxRecDepth 100000 in
set_option maxHeartbeats 2000000 in
theorem rUnrank_yes (n s r : Nat) (w : World) (hn : n ≤ 64) (hr : r < ch n s) :
    Calls Tryd.prog 19 #[.int .i64 n, .int .i64 s, .int .i64 r] w fun e w' => e = .returned (.tuple #[.int .u64 (unr n s r), .int .i64 0]) ∧ Below w.heap.size w w' := by
  have hn1 : ¬ (n : Int) < 0 := by omega
  have hn2 : ¬ 64 < (n : Int) := by omega
  have hn3 : ¬ 64 < n := by omega
  have HR : Hid (r < ch n s) := hr
  have hr1 : ¬ (r : Int) < 0 := by omega
  have hr2 : ¬ (ch n s : Int) ≤ r := by omega
  have hr3 : ¬ ch n s ≤ r := by omega
  have hrl : r < 9223372036854775808 := Nat.lt_trans hr (ch_lt n s hn)
  have hcn := chI_nat n s
  clear hr
  go_enter Tryd.func19, Tryd.ntmps19
  go_wp2_with fail
  refine (over_all n s _ hn).mono ?_
  rintro e w1 ⟨rfl, b1⟩
  rw [hcn]
  clear hcn
  obtain ⟨Z, hZ⟩ : ∃ Z, ch n s = Z := ⟨_, rfl⟩
  rw [hZ] at hr2 hr3
  rw [hZ]
  clear hZ
  go_wp2
  go_loopw [1, 2, 8, 9] (fun sv rv mv iv wr => ∃ k a c q : Nat, Un n s r k a c q ∧ iv = .int .i64 ((k : Int) - 1) ∧ sv = .int .i64 a ∧ rv = .int .i64 c ∧ mv = .int .u64 (q * 2 ^ k : Nat) ∧ Below w.heap.size w wr) (fun _ _ _ iv _ => (intOf iv + 1).toNat)
  case atStart => exact ⟨n, s, r, 0, Un.start n s r HR.out, by go_num, rfl, rfl, by simp, b1⟩
  case round =>
    obtain ⟨k, a, d, q, hU, rfl, rfl, rfl, rfl, hB'⟩ := hrel
    clear b1
    by_cases hlt : 0 < k
    · obtain ⟨j, rfl⟩ : ∃ j, k = j + 1 := ⟨k - 1, by omega⟩
      have hjn := hU.1
      have hak := hU.ones
      have ej : (((j + 1 : Nat) : Int) - 1) = (j : Int) := by omega
      rw [ej]
      have hd : d < 9223372036854775808 := Nat.lt_trans hU.2.1 (ch_lt _ _ (by omega))
      have hj2 : (j : Int) < 64 := by omega
      have hcn := chI_nat j a
      have HU : Hid (Un n s r (j + 1) a d q) := hU
      clear hU
      generalize hM : q * 2 ^ (j + 1) = M at *
      have HM : Hid (q * 2 ^ (j + 1) = M) := hM
      clear hM
      go_wp2_with fail
      refine (over_all j a _ (by omega)).mono ?_
      rintro e w2 ⟨rfl, b2⟩
      have hB2 := chain hB' b2 (Nat.le_refl _)
      rw [hcn]
      clear hcn b2 hB'
      by_cases hge : ch j a ≤ d
      · obtain ⟨b, rfl, hU2⟩ := Un.yes HU.out hge
        have hM := hU2.lt HR.out hn
        have eM : (q * 2 + 1) * 2 ^ j = q * 2 ^ (j + 1) + 2 ^ j := by rw [Nat.pow_succ, Nat.add_mul, Nat.mul_assoc, Nat.mul_comm 2 (2 ^ j)]; omega
        have ho := or_bit q j (by omega)
        have HU : Hid (Un n s r j b (d - ch j (b + 1)) (q * 2 + 1)) := hU2
        have HE : Hid ((M : Int) + ((2 ^ j : Nat) : Int) = (((q * 2 + 1) * 2 ^ j : Nat) : Int)) := by show _ = _; rw [← HM.out, eM]; omega
        rw [eM] at hM
        have hp : 2 ^ j < 18446744073709551616 := pow_lt64 (by omega)
        rw [HM.out] at ho hM
        clear hU2 eM
        have hpi : (2 : Int) ^ j = ((2 ^ j : Nat) : Int) := by simp
        obtain ⟨P, hP⟩ : ∃ P, 2 ^ j = P := ⟨_, rfl⟩
        have HP : Hid (2 ^ j = P) := hP
        rw [hP] at hpi hp hM ho
        clear hP
        go_wp2
        refine ⟨⟨j, b, d - ch j (b + 1), q * 2 + 1, HU.out, by go_num, rfl, ival (by omega), ival (by rw [← HE.out, HP.out]), hB2⟩, by show ((j : Int) - 1 + 1).toNat < ((j : Int) + 1).toNat; omega⟩
      · have HU2 : Hid (Un n s r j a d (q * 2)) := Un.no HU.out (by omega)
        have HE : Hid (M = q * 2 * 2 ^ j) := by show _ = _; rw [← HM.out, Nat.pow_succ, Nat.mul_assoc, Nat.mul_comm 2 (2 ^ j)]
        clear HM
        go_wp2
        exact ⟨⟨j, a, d, q * 2, HU2.out, by go_num, rfl, rfl, by rw [HE.out], hB2⟩, by show ((j : Int) - 1 + 1).toNat < ((j : Int) + 1).toNat; omega⟩
    · have e : k = 0 := by omega
      subst e
      have HE : Hid _ := hU.end
      clear hU
      go_wp2
      go_ret2
      exact ⟨ret2 (ival (by rw [← HE.out]; simp)) rfl, hB'⟩
theorem rUnrank_all (n s r : Int) (w : World) :
    Calls Tryd.prog 19 #[.int .i64 n, .int .i64 s, .int .i64 r] w fun e w' => e = .returned (.tuple #[.int .u64 (unA n s r), .int .i64 (unE n s r)]) ∧ Below w.heap.size w w' := by
  unfold unA unE
  cases h : okN n
  · simp only [Bool.false_eq_true, if_false]; exact rUnrank_noN n s r w h
  · obtain ⟨a, rfl, ha⟩ := okN_nat h
    cases k : okR a s r
    · simp only [Bool.false_eq_true, if_false, if_true]; exact rUnrank_noR a s r w ha k
    · obtain ⟨b, c, rfl, rfl, hb, hc⟩ := okR_nat k
      simp only [if_true]
      exact rUnrank_yes a b c w ha hc
end Go.Proofs.YteiaopjpnfhbgabDoor
