/-
  DERIVED. Upto, and the document's own.
-/
import Derived.Test.YteiaopjpnfhbgaaOver
namespace Go.Proofs.Yteiaopjpnfhbgaa
open Go.RowKit Go.Proofs.MaskMath
/-- Is it a bound? -/
def okM (m : Int) : Bool := decide (0 ≤ m) && decide (m ≤ 4611686018427387904)
/-- How many shells are counted. -/
def shl (n s : Int) : Nat := (min s n + 1).toNat
/-- What Upto answers. -/
def upA (n s m : Int) : Int := if okN n = true then (if okM m = true then min (sm n.toNat (shl n s) : Int) m else 0) else 0
def upE (n m : Int) : Int := if okN n = true then (if okM m = true then 0 else 13) else 20
set_option maxHeartbeats 400000 in
theorem upto_noN (n s m : Int) (w : World) (h : okN n = false) :
    Calls Try.prog 13 #[.int .i64 n, .int .i64 s, .int .i64 m] w fun e w' => e = .returned (.tuple #[.int .i64 0, .int .i64 20]) ∧ Below w.heap.size w w' := by
  go_enter Try.func13, Try.ntmps13
  go_wp2_with fail
  refine (isBits_any _ _).mono ?_
  rintro e w1 ⟨rfl, rfl⟩
  go_wp2
  go_ret2
  exact ⟨rfl, Below.refl _ _⟩
set_option maxHeartbeats 400000 in
theorem upto_noM (n s m : Int) (w : World) (h : okN n = true) (k : okM m = false) :
    Calls Try.prog 13 #[.int .i64 n, .int .i64 s, .int .i64 m] w fun e w' => e = .returned (.tuple #[.int .i64 0, .int .i64 13]) ∧ Below w.heap.size w w' := by
  have hm : m < 0 ∨ 4611686018427387904 < m := by simp [okM] at k; omega
  clear k
  by_cases h0 : m < 0
  · clear hm
    go_enter Try.func13, Try.ntmps13
    go_wp2_with fail
    refine (isBits_any _ _).mono ?_
    rintro e w1 ⟨rfl, rfl⟩
    go_wp2
    go_ret2
    exact ⟨rfl, Below.refl _ _⟩
  · have h1 : 4611686018427387904 < m := by omega
    clear hm
    go_enter Try.func13, Try.ntmps13
    go_wp2_with fail
    refine (isBits_any _ _).mono ?_
    rintro e w1 ⟨rfl, rfl⟩
    go_wp2
    go_ret2
    exact ⟨rfl, Below.refl _ _⟩
set_option maxRecDepth 100000 in
set_option maxHeartbeats 2000000 in
theorem upto_yes (n : Nat) (s : Int) (m : Nat) (w : World) (hn : n ≤ 64) (hs : -9223372036854775808 ≤ s) (hm : m ≤ 4611686018427387904) :
    Calls Try.prog 13 #[.int .i64 n, .int .i64 s, .int .i64 m] w fun e w' => e = .returned (.tuple #[.int .i64 (min (sm n (shl n s) : Int) m), .int .i64 0]) ∧ Below w.heap.size w w' := by
  have hok : okN (n : Int) = true := by simp [okN]; omega
  have hx := fun w => index_grid n n w (Nat.le_refl n) hn
  have hz := zeroR
  have hm1 : ¬ (m : Int) < 0 := by omega
  have hm2 : ¬ 4611686018427387904 < (m : Int) := by omega
  have hm3 : ¬ 4611686018427387904 < m := by omega
  go_enter Try.func13, Try.ntmps13
  go_wp2_with fail
  refine (isBits_any _ _).mono ?_
  rintro e w1 ⟨rfl, rfl⟩
  go_wp2_with fail
  refine (rows_any n _ hn).mono ?_
  rintro e w2 ⟨rfl, hb⟩
  obtain ⟨W0, hA, hB0, hst⟩ := store_newR w2 (fun k => (ch n k : Int))
  have hB : Below w1.heap.size w1 W0 := chain hb hB0 (Nat.le_refl _)
  unfold rowV at hx
  generalize cellsF (fun k => (ch n k : Int)) 65 = cs at *
  clear hB0 hb
  have hcase : (min s (n : Int) = s ∧ s < 0 ∧ shl n s = 0) ∨ (min s (n : Int) = s ∧ 0 ≤ s ∧ s ≤ n ∧ (shl n s : Int) = s + 1) ∨ (min s (n : Int) = n ∧ (n : Int) < s ∧ shl n s = n + 1) := by unfold shl; omega
  obtain ⟨L, hLs⟩ : ∃ L, L = shl n s := ⟨_, rfl⟩
  rw [← hLs] at hcase
  have HLs : Hid (L = shl n s) := hLs
  clear hLs
  rcases hcase with ⟨hmin, hsn, hL⟩ | ⟨hmin, hsn, hsm, hL⟩ | ⟨hmin, hsn, hL⟩
  all_goals
    have HL : Hid _ := hL
    have hLn : L ≤ n + 1 := by omega
    clear hL
    go_wp2_with (refine hst rfl _ _ rfl (by rfl) (by rfl) ?_)
    go_loopw [9, 28] (fun v i wr => ∃ k : Nat, k ≤ L ∧ i = .int .i64 k ∧ v = .int .i64 (min (sm n k : Int) m) ∧ Arr wr w2.heap.size 65 (fun k => (ch n k : Int)) ∧ Below w1.heap.size w1 wr) (fun _ i _ => L - (intOf i).toNat)
    case atStart => exact ⟨0, Nat.zero_le _, rfl, by have : min (sm n 0 : Int) m = 0 := (by show min (0 : Int) m = 0; omega); rw [this], hA, hB⟩
    case round =>
      obtain ⟨k, hk, rfl, rfl, hA', hB'⟩ := hrel
      clear hst hA hB
      by_cases hlt : k < L
      · obtain ⟨x, hx1, hx2⟩ : ∃ x : Nat, min (sm n k : Int) m = x ∧ x ≤ m := ⟨min (sm n k) m, by omega, by omega⟩
        have c : wr.cell? ⟨w2.heap.size, k, none⟩ = some (.int .i64 (ch n k)) := (hA' k (by omega)).1
        have hc := ch_lt62 n k hn
        have HS : Hid (min (sm n (k + 1) : Int) m = min ((x : Int) + (ch n k : Int)) m) := by show _ = _; rw [← hx1]; show min ((sm n k + ch n k : Nat) : Int) m = _; omega
        rw [hx1]
        have H1 : Hid _ := hx1
        clear hx1
        generalize ch n k = y at *
        have hk2 : (k : Int) < 65 := by omega
        first
          | (have hkL : (k : Int) < s + 1 := by have := HL.out; omega)
          | (have hkL : (k : Int) < (n : Int) + 1 := by have := HL.out; omega)
        by_cases hmn : (x : Int) + (y : Int) ≤ m
        all_goals
          go_wp2
          exact ⟨⟨k + 1, hlt, by go_num, ival (by rw [HS.out]; omega), hA', hB'⟩, by show L - ((k + 1 : Nat) : Int).toNat < L - ((k : Nat) : Int).toNat; omega⟩
      · have e : k = L := by omega
        first
          | (have hkL : ¬ (k : Int) < s + 1 := by have := HL.out; omega)
          | (have hkL : ¬ (k : Int) < (n : Int) + 1 := by have := HL.out; omega)
        have HE : Hid (min (sm n (shl n s) : Int) m = min (sm n k : Int) m) := by show _ = _; rw [← HLs.out, e]
        clear e hlt hk
        generalize min (sm n k : Int) m = x at *
        go_wp2
        go_ret2
        exact ⟨ret2 (ival HE.out.symm) rfl, hB'⟩
theorem okM_nat {m : Int} (h : okM m = true) : ∃ a : Nat, m = a ∧ a ≤ 4611686018427387904 := by
  simp [okM] at h
  exact ⟨m.toNat, by omega, by omega⟩
theorem upto_all (n s m : Int) (w : World) (hs : -9223372036854775808 ≤ s) :
    Calls Try.prog 13 #[.int .i64 n, .int .i64 s, .int .i64 m] w fun e w' => e = .returned (.tuple #[.int .i64 (upA n s m), .int .i64 (upE n m)]) ∧ Below w.heap.size w w' := by
  unfold upA upE
  cases h : okN n
  · simp only [Bool.false_eq_true, if_false]; exact upto_noN n s m w h
  · cases k : okM m
    · simp only [Bool.false_eq_true, if_false, if_true]; exact upto_noM n s m w h k
    · obtain ⟨a, rfl, ha⟩ := okN_nat h
      obtain ⟨b, rfl, hb⟩ := okM_nat k
      simp only [if_true]
      exact upto_yes a s b w ha hs hb
set_option maxHeartbeats 400000 in
theorem rUpto_no (n s m : Int) (w : World) (h : okN n = false ∨ okM m = false) :
    Calls Try.prog 14 #[.int .i64 n, .int .i64 s, .int .i64 m] w fun e w' => e = .returned (.tuple #[.int .i64 0, .int .i64 (upE n m)]) ∧ Below w.heap.size w w' := by
  have hc : (n < 0 ∧ upE n m = 20) ∨ (¬ n < 0 ∧ 64 < n ∧ upE n m = 20) ∨ (¬ n < 0 ∧ ¬ 64 < n ∧ m < 0 ∧ upE n m = 13) ∨ (¬ n < 0 ∧ ¬ 64 < n ∧ ¬ m < 0 ∧ 4611686018427387904 < m ∧ upE n m = 13) := by
    unfold upE
    cases hn : okN n
    · simp [okN] at hn; simp; omega
    · simp [okN] at hn
      rcases h with h | h
      · simp [okN] at h; omega
      · rw [if_pos rfl, if_neg (by simp [h])]
        simp [okM] at h
        omega
  clear h
  rcases hc with ⟨h1, h2⟩ | ⟨h1, h2, h3⟩ | ⟨h1, h2, h3, h4⟩ | ⟨h1, h2, h3, h4, h5⟩
  all_goals
    go_enter Try.func14, Try.ntmps14
    go_wp2
    go_ret2
    exact ⟨ret2 rfl (ival (by omega)), Below.refl _ _⟩
set_option maxRecDepth 100000 in
set_option maxHeartbeats 2000000 in
theorem rUpto_yes (n : Nat) (s : Int) (m : Nat) (w : World) (hn : n ≤ 64) (hs : -9223372036854775808 ≤ s) (hm : m ≤ 4611686018427387904) :
    Calls Try.prog 14 #[.int .i64 n, .int .i64 s, .int .i64 m] w fun e w' => e = .returned (.tuple #[.int .i64 (min (sm n (shl n s) : Int) m), .int .i64 0]) ∧ Below w.heap.size w w' := by
  have hn1 : ¬ (n : Int) < 0 := by omega
  have hn2 : ¬ 64 < (n : Int) := by omega
  have hn3 : ¬ 64 < n := by omega
  have hm1 : ¬ (m : Int) < 0 := by omega
  have hm2 : ¬ 4611686018427387904 < (m : Int) := by omega
  have hm3 : ¬ 4611686018427387904 < m := by omega
  have hcase : (min s (n : Int) = s ∧ s < 0 ∧ shl n s = 0) ∨ (min s (n : Int) = s ∧ 0 ≤ s ∧ s ≤ n ∧ (shl n s : Int) = s + 1) ∨ (min s (n : Int) = n ∧ (n : Int) < s ∧ shl n s = n + 1) := by unfold shl; omega
  obtain ⟨L, hLs⟩ : ∃ L, L = shl n s := ⟨_, rfl⟩
  rw [← hLs] at hcase
  have HLs : Hid (L = shl n s) := hLs
  clear hLs
  rcases hcase with ⟨hmin, hsn, hL⟩ | ⟨hmin, hsn, hsm, hL⟩ | ⟨hmin, hsn, hL⟩
  all_goals
    have HL : Hid _ := hL
    have hLn : L ≤ n + 1 := by omega
    clear hL
    go_enter Try.func14, Try.ntmps14
    go_wp2
    go_loopw [8, 9] (fun v i wr => ∃ k : Nat, k ≤ L ∧ i = .int .i64 k ∧ v = .int .i64 (sm n k) ∧ sm n k ≤ m ∧ Below w.heap.size w wr) (fun _ i _ => L - (intOf i).toNat)
    case atStart => exact ⟨0, Nat.zero_le _, rfl, rfl, Nat.zero_le _, Below.refl _ _⟩
    case round =>
      obtain ⟨k, hk, rfl, rfl, hsmk, hB⟩ := hrel
      by_cases hlt : k < L
      · first
          | (exfalso; have := HL.out; omega)
          | (
            have hc := ch_lt62 n k hn
            have HS : Hid (sm n (k + 1) = sm n k + ch n k) := rfl
            have HM : Hid (sm n (k + 1) ≤ sm n L) := sm_mono n hlt
            have hcn := chI_nat n k
            first
              | (have hkL : (k : Int) ≤ s := by have := HL.out; omega)
              | (have hkL : (k : Int) ≤ (n : Int) := by have := HL.out; omega)
            generalize hx : sm n k = x at *
            have HX : Hid _ := hx
            clear hx
            go_wp2_with fail
            refine (over_all n k _ hn).mono ?_
            rintro e w1 ⟨rfl, b1⟩
            have hB1 := chain hB b1 (Nat.le_refl _)
            rw [hcn]
            clear hcn b1
            generalize ch n k = y at *
            by_cases hge : (m : Int) - x ≤ y
            · go_wp2
              go_ret2
              exact ⟨ret2 (ival (by have h1 := HS.out; have h2 := HM.out; rw [HLs.out] at h2; omega)) rfl, hB1⟩
            · go_wp2
              exact ⟨⟨k + 1, hlt, by go_num, ival (by rw [HS.out]; omega), by rw [HS.out]; omega, hB1⟩, by show L - ((k + 1 : Nat) : Int).toNat < L - ((k : Nat) : Int).toNat; omega⟩)
      · have e : k = L := by omega
        first
          | (have hkL : ¬ (k : Int) ≤ s := by have := HL.out; omega)
          | (have hkL : ¬ (k : Int) ≤ (n : Int) := by have := HL.out; omega)
        have HE : Hid (min (sm n (shl n s) : Int) m = sm n k) := by show _ = _; rw [← HLs.out, ← e]; omega
        clear e hlt hk hsmk
        generalize sm n k = x at *
        go_wp2
        go_ret2
        exact ⟨ret2 (ival HE.out.symm) rfl, hB⟩
theorem rUpto_all (n s m : Int) (w : World) (hs : -9223372036854775808 ≤ s) :
    Calls Try.prog 14 #[.int .i64 n, .int .i64 s, .int .i64 m] w fun e w' => e = .returned (.tuple #[.int .i64 (upA n s m), .int .i64 (upE n m)]) ∧ Below w.heap.size w w' := by
  unfold upA
  cases h : okN n
  · simp only [Bool.false_eq_true, if_false]; exact rUpto_no n s m w (.inl h)
  · cases k : okM m
    · simp only [Bool.false_eq_true, if_false, if_true]; exact rUpto_no n s m w (.inr k)
    · obtain ⟨a, rfl, ha⟩ := okN_nat h
      obtain ⟨b, rfl, hb⟩ := okM_nat k
      unfold upE
      simp only [h, k, if_true]
      exact rUpto_yes a s b w ha hs hb
set_option maxHeartbeats 400000 in
theorem law_upto (n s m : Int) (w : World) (hs : -9223372036854775808 ≤ s) :
    Calls Try.prog 6 #[.int .i64 n, .int .i64 s, .int .i64 m] w fun e w' => e = .returned (.bool true) ∧ Below w.heap.size w w' := by
  go_enter Try.func6, Try.ntmps6
  go_wp2_with fail
  refine (upto_all n s m _ hs).mono ?_
  rintro e w1 ⟨rfl, b1⟩
  go_wp2_with fail
  refine (rUpto_all n s m _ hs).mono ?_
  rintro e w2 ⟨rfl, b2⟩
  have b2' := chain b1 b2 (Nat.le_refl _)
  go_wp2_with fail
  refine (num_any _ _).mono ?_
  rintro e w3 ⟨rfl, rfl⟩
  go_wp2
  go_ret
  exact ⟨rfl, b2'⟩
end Go.Proofs.Yteiaopjpnfhbgaa
