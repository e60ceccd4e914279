/-
  DERIVED. The document's own names; lists of texts held against one another.
-/
import Derived.Test.YtnmhpbgiljchkaaDoorRTabW
set_option linter.unusedVariables false
set_option linter.unusedSimpArgs false
namespace Go.Proofs.YtnmhpbgiljchkaaDoor
open Go.RowKit Go.Proofs.BitMath
set_option maxHeartbeats 1000000 in
set_option maxRecDepth 100000 in
theorem rname_any (n : Int) (j : Nat) (w : World) (h0 : 0 ≤ n) (h1 : n ≤ 1099511627776) (hj : j ≤ 128) (ht : Pow w) : Calls Tryd.prog 10 #[.int .i64 n, .int .i64 j] w fun e w' => e = .returned (.string (nmR n j)) ∧ Below w.heap.size w w' := by
  have d1 := dg_sz n h0 h1
  have d2 := dg_sz (j : Int) (by omega) (by omega)
  have HT := Hid.mk ht
  clear ht
  go_enter Tryd.func10, Tryd.ntmps10
  go_wp2_with first
    | (go_at_call 12; refine (itoa_any n _ h0 h1 HT.out).mono ?_; rintro e w5 ⟨rfl, b5⟩; have HP5 := Hid.mk (HT.out.lat b5))
    | (go_at_call 12; refine (itoa_any (j : Int) _ (by omega) (by omega) HP5.out).mono ?_; rintro e w6 ⟨rfl, b6⟩)
    | go_in
  go_ret
  exact ⟨rfl, chain b5 b6 (Nat.le_refl _)⟩
theorem goE_ref (W C M : Int) : goE W C M = if W < 64 ∨ 1024 < W ∨ W % 64 ≠ 0 then 10 else if M ≠ 1 ∧ M ≠ 2 then 81 else if M = 2 ∧ C ≠ 0 ∨ M = 1 ∧ (C < W / 32 ∨ W / 8 < C) then 12 else 0 := by
  unfold goE cc
  by_cases hw : W < 64 ∨ 1024 < W ∨ W % 64 ≠ 0
  · have : isW W = false := by simp [isW]; omega
    rw [if_pos hw, this]; simp
  · have hw' : isW W = true := by simp [isW]; omega
    rw [if_neg hw, hw', if_pos rfl]
    by_cases h1 : M = 1
    · subst h1
      simp
      split <;> split <;> omega
    · by_cases h2 : M = 2
      · subst h2
        by_cases hc : C = 0 <;> simp [hc]
      · simp [h1, h2]
set_option maxHeartbeats 2000000 in
set_option maxRecDepth 100000 in
theorem rGoes_any (W C M : Int) (w : World) : Calls Tryd.prog 13 #[optV W C M] w fun e w' => e = .returned (.int .i64 (goE W C M)) ∧ Below w.heap.size w w' := by
  have hE := goE_ref W C M
  obtain ⟨E, hE2⟩ : ∃ E, E = goE W C M := ⟨_, rfl⟩
  rw [← hE2] at hE ⊢
  have HE := Hid.mk hE
  clear hE hE2
  go_enter Tryd.func13, Tryd.ntmps13
  go_wp2
  all_goals
    go_ret
    refine ⟨ret_int ?_, (Below.refl _ _).alloc (Nat.le_refl _) _⟩
    rw [HE.out]
    simp only [Bool.and_eq_true, Bool.or_eq_true, decide_eq_true_eq, bne_iff_ne, beq_iff_eq, ne_eq, Bool.not_eq_true, Classical.not_not, bne_eq_false_iff_eq, beq_eq_false_iff_ne, Bool.and_eq_false_iff, Bool.or_eq_false_iff, decide_eq_false_iff_not] at *
    repeat' split
    all_goals first | rfl | (exfalso; omega)
set_option maxHeartbeats 1000000 in
set_option maxRecDepth 100000 in
theorem rgoes_any (n W C M : Int) (w : World) : Calls Tryd.prog 8 #[.int .i64 n, optV W C M] w fun e w' => e = .returned (.int .i64 (tbE n W C M)) ∧ Below w.heap.size w w' := by
  unfold tbE isN
  by_cases hN : 1 ≤ n ∧ n ≤ 1099511627776
  · rw [if_pos (decide_eq_true hN)]
    obtain ⟨n1, n2⟩ := hN
    go_enter Tryd.func8, Tryd.ntmps8
    go_wp2_with first
      | (go_at_call 13; refine (rGoes_any _ _ _ _).mono ?_; rintro e w5 ⟨rfl, b5⟩)
      | go_in
    all_goals first
      | (go_ret; exact ⟨rfl, chain ((Below.refl _ w).alloc (Nat.le_refl _) _) b5 (Nat.le_refl _)⟩)
      | (exfalso; omega)
  · rw [if_neg (by simp; omega)]
    go_enter Tryd.func8, Tryd.ntmps8
    go_wp2_with first
      | (go_at_call 13; refine (rGoes_any _ _ _ _).mono ?_; rintro e w5 ⟨rfl, b5⟩)
      | go_in
    all_goals first
      | (go_ret; exact ⟨rfl, (Below.refl _ w).alloc (Nat.le_refl _) _⟩)
      | (exfalso; omega)
set_option maxHeartbeats 1000000 in
set_option maxRecDepth 100000 in
theorem rtables_any (W C M : Int) (w : World) : Calls Tryd.prog 9 #[optV W C M] w fun e w' => e = .returned (.int .i64 (if M = 2 then 1 else C)) ∧ Below w.heap.size w w' := by
  by_cases hM : M = 2
  · subst hM
    rw [if_pos rfl]
    go_enter Tryd.func9, Tryd.ntmps9
    go_wp2
    go_ret
    exact ⟨rfl, (Below.refl _ w).alloc (Nat.le_refl _) _⟩
  · rw [if_neg hM]
    have hM2 : (M == 2) = false := by simpa using hM
    go_enter Tryd.func9, Tryd.ntmps9
    go_wp2
    go_ret
    exact ⟨rfl, (Below.refl _ w).alloc (Nat.le_refl _) _⟩
/-- How many tables there are. -/
theorem goL_count {W C M : Int} (h : goE W C M = 0) : ((goL W C M).length : Int) = if M = 2 then 1 else C := by
  have hr := goE_ref W C M
  unfold goL
  rw [if_pos h]
  by_cases h1 : M = 1
  · subst h1
    rw [if_pos rfl, if_neg (by decide)]
    have hc : cc W C = 0 := by
      unfold goE at h
      split at h
      · simpa using h
      · cases h
    obtain ⟨X, K, rfl, rfl, ok⟩ := cc_nat hc
    rw [chA_yes ok]
    simp [chL]
  · rw [if_neg h1]
    rw [h] at hr
    have h2 : M = 2 := by
      split at hr
      · cases hr
      · split at hr
        · cases hr
        · omega
    rw [if_pos h2]; rfl
theorem nmL_eq {n W C M : Int} (h : tbE n W C M = 0) : nmL n W C M = (List.range (goL W C M).length).map (nmR n) := by
  unfold nmL tbL
  rw [if_pos h]
  apply List.ext_getElem
  · simp [tbJ]
  · intro i h1 h2
    have : i < (goL W C M).length := by simpa using h2
    simp [tbJ, this, tb]
theorem tb_go {n W C M : Int} (h : tbE n W C M = 0) : 1 ≤ n ∧ n ≤ 1099511627776 ∧ goE W C M = 0 := by
  unfold tbE isN at h
  split at h
  · next hh => exact ⟨(of_decide_eq_true hh).1, (of_decide_eq_true hh).2, h⟩
  · cases h
set_option maxHeartbeats 1000000 in
set_option maxRecDepth 100000 in
theorem rnames_any (n W C M : Int) (w : World) (ht : Pow w) : Calls Tryd.prog 5 #[.int .i64 n, optV W C M] w fun e w' => ∃ v, e = .returned v ∧ ES.Row w' v (nmL n W C M) ∧ (∀ k, v.ownBlock = some k → w.heap.size ≤ k) ∧ Below w.heap.size w w' := by
  have hg := fun w => rgoes_any n W C M w
  have ht2 := fun w => rtables_any W C M w
  by_cases hE : tbE n W C M = 0
  · obtain ⟨n1, n2, n3⟩ := tb_go hE
    rw [nmL_eq hE]
    have hcnt := goL_count n3
    have hlen := goL_len W C M
    rw [← hcnt] at ht2
    rw [hE] at hg
    obtain ⟨m, hm⟩ : ∃ m, m = (goL W C M).length := ⟨_, rfl⟩
    rw [← hm] at ht2 hlen ⊢
    clear hE n3 hcnt hm
    have HT := Hid.mk ht
    clear ht
    go_enter Tryd.func5, Tryd.ntmps5
    go_wp2_with first
      | (go_at_call 8; refine (hg _).mono ?_; rintro e w1 ⟨rfl, b1⟩)
      | go_in
    obtain ⟨WA, hWA⟩ : ∃ WA, WA = w.alloc (.cells #[.int .i64 W, .int .i64 C, .int .i64 M] 23) := ⟨_, rfl⟩
    have o0 : WA.cell? ⟨w.heap.size, 0, none⟩ = some (.int .i64 W) := by rw [hWA]; go_simp
    have o1 : WA.cell? ⟨w.heap.size, 1, none⟩ = some (.int .i64 C) := by rw [hWA]; go_simp
    have o2 : WA.cell? ⟨w.heap.size, 2, none⟩ = some (.int .i64 M) := by rw [hWA]; go_simp
    have hbA : Below w.heap.size w WA := by rw [hWA]; exact (Below.refl _ w).alloc (Nat.le_refl _) _
    have hs : WA.heap.size = w.heap.size + 1 := by rw [hWA]; simp
    rw [← hWA] at b1
    have HI := Hid.mk (And.intro o0 (And.intro o1 (And.intro o2 (And.intro hbA (And.intro hs (And.intro b1 hWA))))))
    clear hWA o0 o1 o2 hbA b1 hs
    go_loopw [6, 7] (fun v u wr => ∃ i : Nat, u = .int .i64 i ∧ i ≤ m ∧ Hid (ES.Row wr v ((List.range i).map (nmR n)) ∧ (∀ k, v.ownBlock = some k → w.heap.size + 1 ≤ k) ∧ Below WA.heap.size WA wr)) (fun _ u _ => m - (intOf u).toNat)
    case atStart => exact ⟨0, rfl, Nat.zero_le _, Hid.mk ⟨El.Row.nil _ _, fun k hk => (by cases hk), HI.out.2.2.2.2.2.1⟩⟩
    case round =>
      obtain ⟨i, rfl, hi, HJ⟩ := hrel
      have c0 := cell_lat HJ.out.2.2 HI.out.1
      have c1 := cell_lat HJ.out.2.2 HI.out.2.1
      have c2 := cell_lat HJ.out.2.2 HI.out.2.2.1
      have HB := Hid.mk (chain HI.out.2.2.2.1 HJ.out.2.2 (Nat.le_refl _))
      by_cases hlt : i < m
      · have i1 : (i : Int) < (m : Int) := by omega
        have i2 : (0 : Int) ≤ (i : Int) := by omega
        have hwi : IntKind.i64.wrap ((i : Int) + 1) = ((i + 1 : Nat) : Int) := by rw [IntKind.wrap_i64]; omega
        go_wp2_with first
          | (go_at_call 9; refine (ht2 _).mono ?_; rintro e w3 ⟨rfl, b3⟩)
          | (go_at_call 10; refine (rname_any n i _ (by omega) n2 (by omega) ((HT.out.lat HB.out).lat b3)).mono ?_; rintro e w4 ⟨rfl, b4⟩; have b34 := chain b3 b4 (Nat.le_refl _); obtain ⟨v5, w5, hap, hr5, st5, loc5⟩ := El.app1 okS w4 _ _ (El.Row.below HJ.out.1 b34) (nmR n i) (by simp; omega) (by simp; omega); have HA := Hid.mk hap; clear hap)
          | (at_builtin; refine wpList_append_eq rfl _ _ _ _ rfl _ _ _ _ rfl rfl HA.out ?_)
          | go_in
        refine ⟨⟨i + 1, by push_cast; rfl, hlt, Hid.mk ⟨by rw [List.range_succ, List.map_append]; exact hr5, fun k hk => ?_, ?_⟩⟩, by simp only [intOf]; omega⟩
        · have hsz := b34.size
          have hsz2 := HJ.out.2.2.size
          have hsz3 := HI.out.2.2.2.2.1
          rcases loc5 k hk with e | e
          · exact HJ.out.2.1 k e
          · omega
        · have hb5 := chain HJ.out.2.2 b34 (Nat.le_refl _)
          exact hb5.trans (st5.toBelow (fun k hk e => by have := HJ.out.2.1 k e; have := HI.out.2.2.2.2.1; omega) hb5.size)
      · have i1 : ¬ (i : Int) < (m : Int) := by omega
        have hiL : i = m := by omega
        subst hiL
        go_wp2_with first
          | (go_at_call 9; refine (ht2 _).mono ?_; rintro e w3 ⟨rfl, b3⟩)
          | go_in
        go_ret
        exact ⟨_, rfl, El.Row.below HJ.out.1 b3, fun k hk => Nat.le_of_succ_le (HJ.out.2.1 k hk), chain HB.out b3 (Nat.le_refl _)⟩
  · have hL : nmL n W C M = [] := by unfold nmL tbL; rw [if_neg hE]; rfl
    rw [hL]
    obtain ⟨E, hE2⟩ : ∃ E, E = tbE n W C M := ⟨_, rfl⟩
    rw [← hE2] at hg hE
    have hE1 : (E != 0) = true := by simpa using hE
    clear hE hE2 hL
    go_enter Tryd.func5, Tryd.ntmps5
    go_wp2_with first
      | (go_at_call 8; refine (hg _).mono ?_; rintro e w1 ⟨rfl, b1⟩)
      | go_in
    go_ret
    exact ⟨_, rfl, El.Row.nil _ _, fun k hk => (by cases hk), chain ((Below.refl _ w).alloc (Nat.le_refl _) _) b1 (Nat.le_refl _)⟩
end Go.Proofs.YtnmhpbgiljchkaaDoor
