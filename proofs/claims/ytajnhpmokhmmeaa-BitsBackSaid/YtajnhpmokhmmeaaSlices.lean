/-
  DERIVED. BitsSlices: its walk.
-/
import Derived.Test.YtajnhpmokhmmeaaOne
namespace Go.Proofs.Ytajnhpmokhmmeaa
open Go.RowKit Go.Proofs.BitMath
theorem numG_app (l : List UInt8) (js : List Nat) : ∀ v, js.foldl (fun v j => 2 * v + bitL l j) v = v * 2 ^ js.length + numN l js := by
  induction js with
  | nil => intro v; simp [numN]
  | cons j js ih =>
    intro v
    have h0 : numN l (j :: js) = js.foldl (fun v j => 2 * v + bitL l j) (2 * 0 + bitL l j) := rfl
    rw [h0, List.foldl_cons, ih, ih, List.length_cons, Nat.pow_succ, Nat.add_mul, Nat.add_mul]
    have e : 2 * v * 2 ^ js.length = v * (2 ^ js.length * 2) := by rw [Nat.mul_comm 2 v, Nat.mul_assoc, Nat.mul_comm 2]
    simp only [Nat.mul_zero, Nat.zero_mul]
    omega
theorem numN_app (l : List UInt8) (js ks : List Nat) : numN l (js ++ ks) = numN l js * 2 ^ ks.length + numN l ks := by
  have : numN l (js ++ ks) = ks.foldl (fun v j => 2 * v + bitL l j) (numN l js) := by simp [numN]
  rw [this, numG_app]
/-- The number of n bits from fr on. -/
def numR (l : List UInt8) (fr n : Nat) : Nat := numN l ((List.range n).map (fr + ·))
theorem numR_split (l : List UInt8) (fr k m : Nat) : numR l fr (k + m) = numR l fr k * 2 ^ m + numR l (fr + k) m := by
  unfold numR
  have e : (List.range (k + m)).map (fr + ·) = (List.range k).map (fr + ·) ++ (List.range m).map (fr + k + ·) := by
    rw [List.range_add, List.map_append, List.map_map]; congr 1; apply List.map_congr_left; intro a _; simp; omega
  rw [e, numN_app]; simp
theorem numR_lt (l : List UInt8) (fr n : Nat) : numR l fr n < 2 ^ n := by have := numN_lt l ((List.range n).map (fr + ·)); unfold numR; simpa using this
theorem numR_succ (l : List UInt8) (fr k : Nat) : numR l fr (k + 1) = 2 * numR l fr k + bitL l (fr + k) := by unfold numR; rw [range_snoc, numN_snoc]
/-- The two halves, shifted and joined, are the whole. -/
theorem halves (l : List UInt8) (fr k m : Nat) (h : k + m ≤ 64) :
    IntKind.u64.wrap ((numR l fr k : Int) * 2 ^ m) = ((numR l fr k * 2 ^ m : Nat) : Int) ∧ bits .or .u64 ((numR l fr k * 2 ^ m : Nat) : Int) (numR l (fr + k) m : Int) = (numR l fr (k + m) : Int) := by
  have h1 := numR_lt l fr (k + m)
  have h2 := numR_lt l (fr + k) m
  have h3 := numR_split l fr k m
  have h4 : 2 ^ (k + m) ≤ 2 ^ 64 := Nat.pow_le_pow_right (by omega) h
  have h5 : numR l fr k * 2 ^ m < 18446744073709551616 := by omega
  constructor
  · have e : ((numR l fr k : Int) * 2 ^ m) = ((numR l fr k * 2 ^ m : Nat) : Int) := by simp
    rw [e, IntKind.wrap_u64]; omega
  · rw [u64_or_nat _ _ h5 (by omega), h3]
    have := Nat.two_pow_add_eq_or_of_lt h2 (numR l fr k)
    rw [Nat.mul_comm (numR l fr k), ← this]
theorem one_slice : numN (ByteArray.mk #[128]).data.toList ((List.range 1).map (0 + ·)) = 1 := by decide
set_option maxHeartbeats 1000000 in
theorem slices_no (s : ByteArray) (f n k : Int) (w : World) (hs : s.size ≤ 140737488351232) (h : ¬ (0 ≤ n ∧ n ≤ 64 ∧ 0 ≤ f ∧ f + n ≤ 8 * (s.size : Int))) :
    Calls Try.prog 3 #[.string s, .int .i64 f, .int .i64 n, .int .i64 k] w fun e w' => e = .returned (.bool true) ∧ Below w.heap.size w w' := by
  have Hh : Hid _ := h
  clear h
  go_enter Try.func3, Try.ntmps3
  go_wp2_with fail
  refine (slice_no s f n _ hs Hh.out).mono ?_
  rintro e w1 ⟨rfl, b1⟩
  go_wp2_with fail
  refine (slice_yes ⟨#[128]⟩ 0 1 _ (by decide) (by decide) (by decide)).mono ?_
  rintro e w2 ⟨rfl, b2⟩
  rw [one_slice]
  have b2' := chain b1 b2 (Nat.le_refl _)
  go_wp2
  go_ret
  exact ⟨rfl, b2'⟩
set_option maxHeartbeats 2000000 in
set_option maxRecDepth 100000 in
theorem slices_yes (s : ByteArray) (fr n : Nat) (k : Int) (w : World) (hs : s.size ≤ 140737488351232) (hn : n ≤ 64) (hb : fr + n ≤ 8 * s.size) :
    Calls Try.prog 3 #[.string s, .int .i64 fr, .int .i64 n, .int .i64 k] w fun e w' => e = .returned (.bool true) ∧ Below w.heap.size w w' := by
  go_enter Try.func3, Try.ntmps3
  go_wp2_with fail
  refine (slice_yes s fr n _ hs hn hb).mono ?_
  rintro e w1 ⟨rfl, b1⟩
  change Below w.heap.size w w1 at b1
  have HV : Hid (numN s.data.toList ((List.range n).map (fr + ·)) = numR s.data.toList fr n) := rfl
  rw [HV.out]
  go_wp2_with fail
  refine (slice_yes ⟨#[128]⟩ 0 1 _ (by decide) (by decide) (by decide)).mono ?_
  rintro e w2 ⟨rfl, b2⟩
  rw [one_slice]
  have b2' := chain b1 b2 (Nat.le_refl _)
  clear b1 b2
  go_wp2_with fail
  go_loopw [13, 14] (fun v i wr => ∃ j : Nat, j ≤ n ∧ i = .int .i64 j ∧ v = .int .u64 (numR s.data.toList fr j) ∧ Below w.heap.size w wr) (fun _ i _ => n - (intOf i).toNat)
  case atStart => exact ⟨0, Nat.zero_le _, rfl, rfl, b2'⟩
  case round =>
    clear b2'
    obtain ⟨j, hj, rfl, rfl, bw⟩ := hrel
    by_cases hlt : j < n
    · have hl := numR_lt s.data.toList fr j
      have hp := pow_bd j (by omega)
      have hv : numR s.data.toList fr j < 9223372036854775808 := by omega
      have HS : Hid _ := numR_succ s.data.toList fr j
      have hbl := bitL_le s.data.toList (fr + j)
      clear hl hp
      go_wp2_with fail
      rw [show ((fr : Int) + (j : Int)) = ((fr + j : Nat) : Int) from by omega]
      refine (bit_yes s (fr + j) _ hs (by omega)).mono ?_
      rintro e w3 ⟨rfl, d3⟩
      have b3 := bw.trans (d3.below _)
      go_wp2
      exact ⟨⟨j + 1, hlt, by go_num, ival (by rw [HS.out]; omega), b3⟩, by simp [intOf]; omega⟩
    · have e : n = j := by omega
      subst e
      clear hlt hj
      have hqm : ∃ q m : Nat, q + m = n ∧ ((k < 0 ∧ (n : Int) / 2 = (q : Int)) ∨ (¬ k < 0 ∧ (n : Int) < k ∧ (n : Int) / 2 = (q : Int)) ∨ (¬ k < 0 ∧ ¬ (n : Int) < k ∧ k = (q : Int))) := by
        by_cases h1 : k < 0
        · exact ⟨n / 2, n - n / 2, by omega, .inl ⟨h1, by omega⟩⟩
        · by_cases h2 : (n : Int) < k
          · exact ⟨n / 2, n - n / 2, by omega, .inr (.inl ⟨h1, h2, by omega⟩)⟩
          · exact ⟨k.toNat, n - k.toNat, by omega, .inr (.inr ⟨h1, h2, by omega⟩)⟩
      obtain ⟨q, m, hqm, hk⟩ := hqm
      have hm : (n : Int) - (q : Int) = (m : Int) := by omega
      have hle : q ≤ n := by omega
      have hme : m ≤ n := by omega
      have HQ : Hid (q + m = n) := hqm
      clear hqm
      rcases hk with ⟨hk0, hk2⟩ | ⟨hk0, hk1, hk2⟩ | ⟨hk0, hk1, hk2⟩
      all_goals
        have H3 : Hid (numN s.data.toList ((List.range q).map (fr + ·)) = numR s.data.toList fr q) := rfl
        go_wp2_with fail
        refine (slice_yes s fr q _ hs (by omega) (by have := HQ.out; omega)).mono ?_
        rintro e w3 ⟨rfl, b3⟩
        rw [H3.out]
        have b3' := chain bw b3 (Nat.le_refl _)
        go_wp2_with fail
        rw [show ((fr : Int) + (q : Int)) = ((fr + q : Nat) : Int) from by omega]
        refine (slice_yes s (fr + q) m _ hs (by omega) (by have := HQ.out; omega)).mono ?_
        rintro e w4 ⟨rfl, b4⟩
        have H4 : Hid (numN s.data.toList ((List.range m).map (fr + q + ·)) = numR s.data.toList (fr + q) m) := rfl
        rw [H4.out]
        have b4' := chain b3' b4 (Nat.le_refl _)
        have HV2 := halves s.data.toList fr q m (by have := HQ.out; omega)
        by_cases h64 : m = 64
        · have hm64 : ((m : Int) == 64) = true := by rw [beq_iff_eq]; omega
          have H0 : Hid (numR s.data.toList (fr + q) m = numR s.data.toList fr n) := by
            show _ = _; have := HQ.out; rw [show q = 0 from by omega, show n = m from by omega]; rfl
          have hbe : ((numR s.data.toList (fr + q) m : Int) == (numR s.data.toList fr n : Int)) = true := by rw [beq_iff_eq, H0.out]
          clear HV2 h64 b3 b4 b3'
          go_wp2
          go_ret
          exact ⟨rfl, b4'⟩
        · have hm64 : ((m : Int) == 64) = false := by rw [beq_eq_false_iff_ne]; omega
          have hmlt : m < 64 := by omega
          rw [show q + m = n from HQ.out] at HV2
          obtain ⟨hv1, hv2⟩ := HV2
          clear h64 b3 b4 b3'
          have HV3 : Hid _ := hv2
          clear hv2
          go_wp2
          go_ret
          refine ⟨ret_bool ?_, b4'⟩
          have e5 : ((numR s.data.toList fr q : Int) * 2 ^ m) = ((numR s.data.toList fr q * 2 ^ m : Nat) : Int) := by simp
          rw [e5, HV3.out]; exact beq_self_eq_true _
end Go.Proofs.Ytajnhpmokhmmeaa
