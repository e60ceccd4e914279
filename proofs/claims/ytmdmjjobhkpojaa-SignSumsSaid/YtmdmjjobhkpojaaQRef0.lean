/-
  DERIVED. sign: the document's own New, Unit, times, fits.
-/
import Derived.Test.YtmdmjjobhkpojaaQLaw0
set_option linter.unusedVariables false
set_option linter.unusedSimpArgs false
namespace Go.Proofs.Ytmdmjjobhkpojaa
open Go.RowKit Go.Shelf Go.Proofs.BitMath Go.Proofs.FloatMath
set_option maxHeartbeats 400000 in
theorem rwidth_any (x : Int) (w : World) :
    Calls Try.prog 24 #[.int .i64 x] w fun e w' => e = .returned (.bool (isW x)) ∧ w' = w := by
  go_enter Try.func24, Try.ntmps24
  go_wp2
  all_goals go_ret
  · exact ⟨ret_bool (isW_pos ‹_› ‹_›).symm, rfl⟩
  · exact ⟨ret_bool (isW_big ‹_›).symm, rfl⟩
  · exact ⟨ret_bool (isW_small ‹_›).symm, rfl⟩
set_option maxHeartbeats 1000000 in
theorem rnew_any (x d sd : Int) (w : World) (R : Ending → World → Prop) (h0 : nwE x d ≠ 0 → R (.returned (.tuple #[.pointer none, .int .i64 (nwE x d)])) w)
    (h1 : nwE x d = 0 → R (.returned (.tuple #[.pointer (some ⟨w.heap.size, 0, none⟩), .int .i64 0])) (w.alloc (.cells #[.int .i64 x, .int .i64 d, .int .u64 sd] 63))) :
    Calls Try.prog 15 #[.int .i64 x, .int .i64 d, .int .u64 sd] w R := by
  have hc := rwidth_any x
  cases hW : isW x
  · have HN : Hid (nwE x d = 10) := by show nwE x d = 10; simp [nwE, hW]
    rw [hW] at hc
    have H0 := Hid.mk h0
    clear h0 h1 hW
    go_enter Try.func15, Try.ntmps15
    go_wp2_with (go_at_call 24; refine (hc _).mono ?_; rintro e w' ⟨rfl, rfl⟩)
    have := H0.out (by rw [HN.out]; decide)
    rw [HN.out] at this
    exact this
  · rw [hW] at hc
    by_cases hd : 1 ≤ d ∧ d ≤ 1024
    · have HN : Hid (nwE x d = 0) := by show nwE x d = 0; simp [nwE, hW, hd]
      have d1 : ¬ d < 1 := by omega
      have d2 : ¬ 1024 < d := by omega
      have H1 := Hid.mk h1
      clear h0 h1 hW hd
      go_enter Try.func15, Try.ntmps15
      go_wp2_with (go_at_call 24; refine (hc _).mono ?_; rintro e w' ⟨rfl, rfl⟩)
      exact H1.out HN.out
    · have HN : Hid (nwE x d = 190) := by show nwE x d = 190; simp [nwE, hW]; omega
      have H0 := Hid.mk h0
      clear h0 h1 hW
      by_cases d1 : d < 1
      · clear hd
        go_enter Try.func15, Try.ntmps15
        go_wp2_with (go_at_call 24; refine (hc _).mono ?_; rintro e w' ⟨rfl, rfl⟩)
        have := H0.out (by rw [HN.out]; decide)
        rw [HN.out] at this
        exact this
      · have d2 : 1024 < d := by omega
        clear hd
        go_enter Try.func15, Try.ntmps15
        go_wp2_with (go_at_call 24; refine (hc _).mono ?_; rintro e w' ⟨rfl, rfl⟩)
        have := H0.out (by rw [HN.out]; decide)
        rw [HN.out] at this
        exact this
theorem rfits_any (n : Int) (w : World) :
    Calls Try.prog 28 #[.int .i64 n] w fun e w' => e = .returned (.bool (isBd n)) ∧ w' = w := by
  go_enter Try.func28, Try.ntmps28
  go_wp2
  all_goals go_ret
  · exact ⟨ret_bool (isBd_1 ‹_›).symm, rfl⟩
  · exact ⟨ret_bool (isBd_2 ‹_›).symm, rfl⟩
theorem bits_u64 (a b : Int) : 0 ≤ bits .xor .u64 a b ∧ bits .xor .u64 a b < 18446744073709551616 := by
  unfold bits
  simp [IntKind.wrap, IntKind.bits, IntKind.signed]
  omega
theorem uq_bd (sd n : Int) : 0 ≤ uq sd n ∧ uq sd n < 4 := by
  have h := bits_u64 (m3 (m2 (m1 sd n))) (m3 (m2 (m1 sd n)) / 2147483648)
  unfold uq m4
  omega
set_option maxHeartbeats 1000000 in
theorem runit_any (sd : Int) (j k : Nat) (w : World) (hj : j ≤ 512) (hk : k < 1024) :
    Calls Try.prog 30 #[.int .u64 sd, .int .i64 j, .int .i64 k] w fun e w' => e = .returned (.int .i64 (uq sd (1024 * (j : Int) + k + 1))) ∧ w' = w := by
  have a1 := i64_1024 j hj
  have a2 : IntKind.i64.wrap (1024 * (j : Int) + k) = 1024 * (j : Int) + k := i64_sg _ (by omega) (by omega)
  have a3 : IntKind.i64.wrap (1024 * (j : Int) + k + 1) = 1024 * (j : Int) + k + 1 := i64_sg _ (by omega) (by omega)
  have a4 : IntKind.u64.wrap (1024 * (j : Int) + k + 1) = 1024 * (j : Int) + k + 1 := u64_in _ (by omega) (by omega)
  obtain ⟨X, eX⟩ : ∃ X, 1024 * (j : Int) + k + 1 = X := ⟨_, rfl⟩
  rw [eX] at a3 a4 ⊢
  have hb := uq_bd sd X
  have a5 : wrap64 (uq sd X) = uq sd X := by unfold wrap64; omega
  have HU := Hid.mk a5
  clear hb a5
  go_enter Try.func30, Try.ntmps30
  go_wp2
  go_ret
  exact ⟨ret_int HU.out, rfl⟩
set_option maxHeartbeats 2000000 in
theorem rtimes_any (p : Zp) (u : Int) (w : World) (h1 : p.1.natAbs ≤ 1048576) (h2 : p.2.natAbs ≤ 1048576) :
    Calls Try.prog 29 #[.agg #[.int .i64 p.1, .int .i64 p.2], .int .i64 u] w fun e w' => e = .returned (.agg #[.int .i64 (cm p u).1, .int .i64 (cm p u).2]) ∧ Below w.heap.size w w' := by
  have a1 : IntKind.i64.wrap (-p.1) = -p.1 := i64_sg _ (by omega) (by omega)
  have a2 : IntKind.i64.wrap (-p.2) = -p.2 := i64_sg _ (by omega) (by omega)
  have bb : ∀ o1 o2, Below w.heap.size w ((w.alloc o1).alloc o2) := fun o1 o2 => ((Below.refl _ w).alloc (Nat.le_refl _) _).alloc (by simp) _
  cases e0 : (u == 0)
  · cases e1 : (u == 1)
    · cases e2 : (u == 2)
      · have HC : Hid (cm p u = (p.2, -p.1)) := by show _ = _; simp [cm, e0, e1, e2]
        go_enter Try.func29, Try.ntmps29
        go_wp2
        rw [HC.out]
        refine bodyPost_ret (v := .agg #[.int .i64 p.2, .int .i64 (-p.1)]) (by simp [results, Try.results29, go_sem]; try rfl) rfl ?_
        exact ⟨rfl, bb _ _⟩
      · have HC : Hid (cm p u = (-p.1, -p.2)) := by show _ = _; simp [cm, e0, e1, e2]
        go_enter Try.func29, Try.ntmps29
        go_wp2
        rw [HC.out]
        refine bodyPost_ret (v := .agg #[.int .i64 (-p.1), .int .i64 (-p.2)]) (by simp [results, Try.results29, go_sem]; try rfl) rfl ?_
        exact ⟨rfl, bb _ _⟩
    · have HC : Hid (cm p u = (-p.2, p.1)) := by show _ = _; simp [cm, e0, e1]
      go_enter Try.func29, Try.ntmps29
      go_wp2
      rw [HC.out]
      refine bodyPost_ret (v := .agg #[.int .i64 (-p.2), .int .i64 p.1]) (by simp [results, Try.results29, go_sem]; try rfl) rfl ?_
      exact ⟨rfl, bb _ _⟩
  · have HC : Hid (cm p u = p) := by show _ = _; simp [cm, e0]
    go_enter Try.func29, Try.ntmps29
    go_wp2
    rw [HC.out]
    refine bodyPost_ret (v := .agg #[.int .i64 p.1, .int .i64 p.2]) (by simp [results, Try.results29, go_sem]; try rfl) rfl ?_
    exact ⟨rfl, bb _ _⟩
end Go.Proofs.Ytmdmjjobhkpojaa
