/-
  DERIVED. Unrank, and the document's own.
-/
import Derived.Test.YteiaopjpnfhbgabDoorRank
namespace Go.Proofs.YteiaopjpnfhbgabDoor
open Go.RowKit Go.Proofs.MaskMath
/-- Is it a place? -/
def okR (n s r : Int) : Bool := decide (0 ≤ r) && decide (r < chI n s)
/-- What Unrank answers. -/
def unA (n s r : Int) : Int := if okN n = true then (if okR n s r = true then (unr n.toNat s.toNat r.toNat : Int) else 0) else 0
def unE (n s r : Int) : Int := if okN n = true then (if okR n s r = true then 0 else 21) else 20
theorem okR_nat {n s r : Int} (h : okR n s r = true) : ∃ b c : Nat, s = b ∧ r = c ∧ (b : Int) ≤ n ∧ c < ch n.toNat b := by
  simp only [okR, Bool.and_eq_true, decide_eq_true_eq] at h
  obtain ⟨h0, h1⟩ := h
  unfold chI at h1
  by_cases hk : okS n s = true
  · obtain ⟨b, rfl, hb⟩ := okS_nat hk
    rw [if_pos hk] at h1
    exact ⟨b, r.toNat, rfl, by omega, hb, by simp at h1; omega⟩
  · rw [if_neg hk] at h1; omega
/-- A one more, above all that is left. -/
theorem or_bit (q j : Nat) (h : q * 2 ^ (j + 1) + 2 ^ j < 18446744073709551616) : bits .or .u64 ((q * 2 ^ (j + 1) : Nat) : Int) ((2 ^ j : Nat) : Int) = ((q * 2 ^ (j + 1) + 2 ^ j : Nat) : Int) := by
  have hp : 2 ^ j < 2 ^ (j + 1) := by rw [Nat.pow_succ]; have := Nat.two_pow_pos j; omega
  rw [u64_or_nat _ _ (by omega) (by omega)]
  have := Nat.two_pow_add_eq_or_of_lt hp q
  rw [Nat.mul_comm] at this
  rw [← this]
set_option maxHeartbeats 400000 in
theorem unrank_noN (n s r : Int) (w : World) (h : okN n = false) :
    Calls Tryd.prog 16 #[.int .i64 n, .int .i64 s, .int .i64 r] w fun e w' => e = .returned (.tuple #[.int .u64 0, .int .i64 20]) ∧ Below w.heap.size w w' := by
  go_enter Tryd.func16, Tryd.ntmps16
  go_wp2_with fail
  refine (isBits_any _ _).mono ?_
  rintro e w1 ⟨rfl, rfl⟩
  go_wp2
  go_ret2
  exact ⟨rfl, Below.refl _ _⟩
set_option maxRecDepth 100000 in
set_option maxHeartbeats 1000000 in
theorem unrank_noR (n : Nat) (s r : Int) (w : World) (hn : n ≤ 64) (h : okR n s r = false) :
    Calls Tryd.prog 16 #[.int .i64 n, .int .i64 s, .int .i64 r] w fun e w' => e = .returned (.tuple #[.int .u64 0, .int .i64 21]) ∧ Below w.heap.size w w' := by
  have hok : okN (n : Int) = true := by simp [okN]; omega
  have hz := zeroG
  go_enter Tryd.func16, Tryd.ntmps16
  go_wp2_with fail
  refine (isBits_any _ _).mono ?_
  rintro e w1 ⟨rfl, rfl⟩
  go_wp2_with fail
  refine (rows_any n _ hn).mono ?_
  rintro e w2 ⟨rfl, hb⟩
  obtain ⟨W0, hA, hB0, hst⟩ := store_newG w2 (gridF n)
  have hB : Below w1.heap.size w1 W0 := chain hb hB0 (Nat.le_refl _)
  clear hB0 hb
  unfold gridV
  generalize (cellsF (gridF n) 4225) = cs at *
  go_wp2_with (refine hst rfl _ _ rfl (by rfl) (by rfl) ?_)
  refine (isWeight_any _ _ _).mono ?_
  rintro e w3 ⟨rfl, rfl⟩
  clear hst hz
  cases hk : okS n s
  · clear h hA
    go_wp2
    go_ret2
    exact ⟨rfl, hB⟩
  · have hk' := hk
    obtain ⟨b, rfl, hb⟩ := okS_nat hk
    simp [okR, chI, hk] at h
    clear hk
    by_cases h0 : r < 0
    · clear h hA
      go_wp2
      go_ret2
      exact ⟨rfl, hB⟩
    · have h1 : (ch n b : Int) ≤ r := h (by omega)
      have c : w3.cell? ⟨w2.heap.size, n * 65 + b, none⟩ = some (.int .i64 (ch n b)) := by
        have := (hA (n * 65 + b) (by omega)).1
        rwa [gridF_row (by omega) (by omega)] at this
      have hn1 : (n : Int) < 65 := by omega
      have hb1 : (b : Int) < 65 := by omega
      clear h hA
      generalize ch n b = z at *
      go_wp2
      go_ret2
      exact ⟨rfl, hB⟩
theorem pow_lt64 {j : Nat} (h : j < 64) : 2 ^ j < 18446744073709551616 := by
  have := Nat.pow_lt_pow_right (a := 2) (by omega) h
  simpa using this
theorem pow_le64 {j : Nat} (h : j ≤ 64) : 2 ^ j ≤ 18446744073709551616 := by
  have := Nat.pow_le_pow_right (n := 2) (by omega) h
  simpa using this
/-- What a round of Unrank keeps: so many bits are left, the ones, the place and what was laid. -/
def Un (n s r k a c q : Nat) : Prop := k ≤ n ∧ c < ch k a ∧ q * 2 ^ k + unr k a c = unr n s r
theorem Un.start (n s r : Nat) (h : r < ch n s) : Un n s r n s r 0 := ⟨Nat.le_refl _, h, by simp⟩
theorem Un.yes {n s r j a c q : Nat} (h : Un n s r (j + 1) a c q) (k : ch j a ≤ c) : ∃ b, a = b + 1 ∧ Un n s r j b (c - ch j a) (q * 2 + 1) := by
  obtain ⟨h1, h2, h3⟩ := h
  cases a with
  | zero => rw [ch_zero] at h2 k; omega
  | succ b =>
    rw [ch_succ] at h2
    rw [unr, if_pos k, Nat.pow_succ] at h3
    refine ⟨b, rfl, by omega, by omega, ?_⟩
    rw [← h3, Nat.add_mul, Nat.mul_assoc, Nat.mul_comm 2 (2 ^ j), show b + 1 - 1 = b from rfl]; omega
theorem Un.no {n s r j a c q : Nat} (h : Un n s r (j + 1) a c q) (k : c < ch j a) : Un n s r j a c (q * 2) := by
  obtain ⟨h1, h2, h3⟩ := h
  rw [unr, if_neg (by omega), Nat.pow_succ] at h3
  exact ⟨by omega, k, by rw [← h3, Nat.mul_assoc, Nat.mul_comm 2 (2 ^ j)]⟩
theorem Un.lt {n s r k a c q : Nat} (h : Un n s r k a c q) (hr : r < ch n s) (hn : n ≤ 64) : q * 2 ^ k < 18446744073709551616 := by
  have h1 := (unr_spec n s r hr).1
  have h2 : 2 ^ n ≤ 18446744073709551616 := pow_le64 hn
  have := h.2.2
  omega
theorem Un.end {n s r a c q : Nat} (h : Un n s r 0 a c q) : q = unr n s r := by have := h.2.2; simpa [unr] using this
theorem Un.ones {n s r k a c q : Nat} (h : Un n s r k a c q) : a ≤ k := by
  by_cases hk : a ≤ k
  · exact hk
  · have := h.2.1; rw [ch_big k a (by omega)] at this; omega
set_option maxRecDepth 100000 in
set_option maxHeartbeats 2000000 in
theorem unrank_yes (n s r : Nat) (w : World) (hn : n ≤ 64) (hs : s ≤ n) (hr : r < ch n s) :
    Calls Tryd.prog 16 #[.int .i64 n, .int .i64 s, .int .i64 r] w fun e w' => e = .returned (.tuple #[.int .u64 (unr n s r), .int .i64 0]) ∧ Below w.heap.size w w' := by
  have hok : okN (n : Int) = true := by simp [okN]; omega
  have hoks : okS (n : Int) (s : Int) = true := by simp [okS]; omega
  have hz := zeroG
  go_enter Tryd.func16, Tryd.ntmps16
  go_wp2_with fail
  refine (isBits_any _ _).mono ?_
  rintro e w1 ⟨rfl, rfl⟩
  go_wp2_with fail
  refine (rows_any n _ hn).mono ?_
  rintro e w2 ⟨rfl, hb⟩
  obtain ⟨W0, hA, hB0, hst⟩ := store_newG w2 (gridF n)
  have hB : Below w1.heap.size w1 W0 := chain hb hB0 (Nat.le_refl _)
  clear hB0 hb
  unfold gridV
  generalize (cellsF (gridF n) 4225) = cs at *
  go_wp2_with (refine hst rfl _ _ rfl (by rfl) (by rfl) ?_)
  refine (isWeight_any _ _ _).mono ?_
  rintro e w3 ⟨rfl, rfl⟩
  clear hst hz
  have c : w3.cell? ⟨w2.heap.size, n * 65 + s, none⟩ = some (.int .i64 (ch n s)) := by
    have := (hA (n * 65 + s) (by omega)).1
    rwa [gridF_row (by omega) (by omega)] at this
  have hn1 : (n : Int) < 65 := by omega
  have hs1 : (s : Int) < 65 := by omega
  have HR : Hid (r < ch n s) := hr
  have hr1 : ¬ (r : Int) < 0 := by omega
  have hr2 : ¬ (ch n s : Int) ≤ r := by omega
  have hr3 : ¬ ch n s ≤ r := by omega
  have hrl : r < 9223372036854775808 := Nat.lt_trans hr (ch_lt n s hn)
  clear hr
  obtain ⟨Z, hZ⟩ : ∃ Z, ch n s = Z := ⟨_, rfl⟩
  have HZ : Hid _ := hZ
  rw [hZ] at c hr2 hr3
  clear hZ
  go_wp2
  go_loopw [1, 2, 9, 10] (fun sv rv mv iv wr => ∃ k a c q : Nat, Un n s r k a c q ∧ iv = .int .i64 ((k : Int) - 1) ∧ sv = .int .i64 a ∧ rv = .int .i64 c ∧ mv = .int .u64 (q * 2 ^ k : Nat) ∧ Arr wr w2.heap.size 4225 (gridF n) ∧ Below w1.heap.size w1 wr) (fun _ _ _ iv _ => (intOf iv + 1).toNat)
  case atStart => exact ⟨n, s, r, 0, Un.start n s r HR.out, by go_num, rfl, rfl, by simp, hA, hB⟩
  case round =>
    obtain ⟨k, a, d, q, hU, rfl, rfl, rfl, rfl, hA', hB'⟩ := hrel
    clear hA hB c
    by_cases hlt : 0 < k
    · obtain ⟨j, rfl⟩ : ∃ j, k = j + 1 := ⟨k - 1, by omega⟩
      have hjn := hU.1
      have hak := hU.ones
      have ej : (((j + 1 : Nat) : Int) - 1) = (j : Int) := by omega
      rw [ej]
      have c : wr.cell? ⟨w2.heap.size, j * 65 + a, none⟩ = some (.int .i64 (ch j a)) := by
        have := (hA' (j * 65 + a) (by omega)).1
        rwa [gridF_row (by omega) (by omega)] at this
      have hj1 : (j : Int) < 65 := by omega
      have ha1 : (a : Int) < 65 := by omega
      have hd : d < 9223372036854775808 := Nat.lt_trans hU.2.1 (ch_lt _ _ (by omega))
      have hj2 : (j : Int) < 64 := by omega
      by_cases hge : ch j a ≤ d
      · obtain ⟨b, rfl, hU2⟩ := hU.yes hge
        have hM := hU2.lt HR.out hn
        have eM : (q * 2 + 1) * 2 ^ j = q * 2 ^ (j + 1) + 2 ^ j := by rw [Nat.pow_succ, Nat.add_mul, Nat.mul_assoc, Nat.mul_comm 2 (2 ^ j)]; omega
        have ho := or_bit q j (by omega)
        have HU : Hid (Un n s r j b (d - ch j (b + 1)) (q * 2 + 1)) := hU2
        have HE : Hid (((q * 2 ^ (j + 1) : Nat) : Int) + ((2 ^ j : Nat) : Int) = (((q * 2 + 1) * 2 ^ j : Nat) : Int)) := by show _ = _; rw [eM]; omega
        rw [eM] at hM
        have hp : 2 ^ j < 18446744073709551616 := pow_lt64 (by omega)
        clear hU hU2 eM
        generalize q * 2 ^ (j + 1) = M at *
        have hpi : (2 : Int) ^ j = ((2 ^ j : Nat) : Int) := by simp
        obtain ⟨P, hP⟩ : ∃ P, 2 ^ j = P := ⟨_, rfl⟩
        have HP : Hid (2 ^ j = P) := hP
        rw [hP] at hpi hp hM ho
        clear hP
        go_wp2
        refine ⟨⟨j, b, d - ch j (b + 1), q * 2 + 1, HU.out, by go_num, rfl, ival (by omega), ival (by rw [← HE.out, HP.out]), hA', hB'⟩, by show ((j : Int) - 1 + 1).toNat < ((j : Int) + 1).toNat; omega⟩
      · have HU : Hid (Un n s r j a d (q * 2)) := hU.no (by omega)
        have HE : Hid (q * 2 ^ (j + 1) = q * 2 * 2 ^ j) := by show _ = _; rw [Nat.pow_succ, Nat.mul_assoc, Nat.mul_comm 2 (2 ^ j)]
        clear hU
        generalize q * 2 ^ (j + 1) = M at *
        go_wp2
        exact ⟨⟨j, a, d, q * 2, HU.out, by go_num, rfl, rfl, by rw [HE.out], hA', hB'⟩, by show ((j : Int) - 1 + 1).toNat < ((j : Int) + 1).toNat; omega⟩
    · have e : k = 0 := by omega
      subst e
      have HE : Hid _ := hU.end
      clear hU
      go_wp2
      go_ret2
      exact ⟨ret2 (ival (by rw [← HE.out]; simp)) rfl, hB'⟩
theorem unrank_all (n s r : Int) (w : World) :
    Calls Tryd.prog 16 #[.int .i64 n, .int .i64 s, .int .i64 r] w fun e w' => e = .returned (.tuple #[.int .u64 (unA n s r), .int .i64 (unE n s r)]) ∧ Below w.heap.size w w' := by
  unfold unA unE
  cases h : okN n
  · simp only [Bool.false_eq_true, if_false]; exact unrank_noN n s r w h
  · obtain ⟨a, rfl, ha⟩ := okN_nat h
    cases k : okR a s r
    · simp only [Bool.false_eq_true, if_false, if_true]; exact unrank_noR a s r w ha k
    · obtain ⟨b, c, rfl, rfl, hb, hc⟩ := okR_nat k
      simp only [if_true]
      exact unrank_yes a b c w ha (by omega) hc
end Go.Proofs.YteiaopjpnfhbgabDoor
