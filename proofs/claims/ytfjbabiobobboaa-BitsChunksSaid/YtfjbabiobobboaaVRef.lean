/-
  DERIVED. The document's own Chunks and Split.
-/
import Derived.Test.YtfjbabiobobboaaVProg
import Derived.Test.YtfjbabiobobboaaSlice
import Derived.Deep.RegionHeld
set_option linter.unusedVariables false
set_option linter.unusedSimpArgs false
namespace Go.Proofs.Ytfjbabiobobboaa
open Go.RowKit Go.Proofs.BitMath
set_option maxHeartbeats 400000 in
theorem rwidth_any (x : Int) (w : World) : Calls Try.prog 17 #[.int .i64 x] w fun e w' => e = .returned (.bool (isW x)) ∧ w' = w := by
  go_enter Try.func17, Try.ntmps17
  go_wp2
  all_goals go_ret
  · exact ⟨ret_bool (isW_pos ‹_› ‹_›).symm, rfl⟩
  · exact ⟨ret_bool (isW_big ‹_›).symm, rfl⟩
  · exact ⟨ret_bool (isW_small ‹_›).symm, rfl⟩
def RC1 (w : World) (X M : Nat) (uo ua uj : Value) (wr : World) : Prop := ∃ (j : Nat) (a : Option Addr) (c : Nat), uo = .slice a j c ∧ ua = .int .i64 (frC X M j : Nat) ∧ uj = .int .i64 j ∧ j ≤ M ∧ Hid (EC.Row wr (.slice a j c) ((chL X M).take j) ∧ (∀ k, (Value.slice a j c).ownBlock = some k → w.heap.size ≤ k) ∧ Below w.heap.size w wr)
set_option maxHeartbeats 2000000 in
set_option maxRecDepth 100000 in
theorem rchunks_all (x m : Int) (w : World) : Calls Try.prog 7 #[.int .i64 x, .int .i64 m] w fun e w' => ∃ v, e = .returned (.tuple #[v, .int .i64 (cc x m)]) ∧ EC.Row w' v (chA x m) ∧ (∀ k, v.ownBlock = some k → w.heap.size ≤ k) ∧ Below w.heap.size w w' := by
  have hwd := rwidth_any x w
  cases hW : isW x
  · have hA : chA x m = [] := by unfold chA cc; simp [hW]
    have hC : cc x m = 10 := by unfold cc; simp [hW]
    rw [hA, hC]
    rw [hW] at hwd
    clear hA hC hW
    go_enter Try.func7, Try.ntmps7
    go_wp2_with (go_at_call 17; refine hwd.mono ?_; clear hwd; rintro e w' ⟨rfl, rfl⟩)
    go_ret2
    exact ⟨_, rfl, El.Row.nil _ _, fun k hk => (by cases hk), Below.refl _ _⟩
  · have hb := isW_bd hW
    have h64 : x % 64 = 0 := by simp [isW] at hW; omega
    have hw31 : IntKind.i64.wrap (x + 31) = x + 31 := by rw [IntKind.wrap_i64]; omega
    have hd : (x + 31).tdiv 32 = x / 32 := by rw [Int.tdiv_eq_ediv_of_nonneg (by omega)]; omega
    have hd8 : x.tdiv 8 = x / 8 := by rw [Int.tdiv_eq_ediv_of_nonneg (by omega)]
    rw [hW] at hwd
    by_cases hm1 : m < x / 32
    · have hC : cc x m = 12 := by unfold cc; rw [if_pos hW, if_neg (by omega)]
      have hA : chA x m = [] := by unfold chA; rw [hC]; rfl
      rw [hA, hC]
      clear hA hC hW h64
      go_enter Try.func7, Try.ntmps7
      go_wp2_with (go_at_call 17; refine hwd.mono ?_; clear hwd; rintro e w' ⟨rfl, rfl⟩)
      go_ret2
      exact ⟨_, rfl, El.Row.nil _ _, fun k hk => (by cases hk), Below.refl _ _⟩
    · by_cases hm2 : x / 8 < m
      · have hC : cc x m = 12 := by unfold cc; rw [if_pos hW, if_neg (by omega)]
        have hA : chA x m = [] := by unfold chA; rw [hC]; rfl
        rw [hA, hC]
        clear hA hC hW h64
        go_enter Try.func7, Try.ntmps7
        go_wp2_with (go_at_call 17; refine hwd.mono ?_; clear hwd; rintro e w' ⟨rfl, rfl⟩)
        go_ret2
        exact ⟨_, rfl, El.Row.nil _ _, fun k hk => (by cases hk), Below.refl _ _⟩
      · have hC : cc x m = 0 := by unfold cc; rw [if_pos hW, if_pos (by omega)]
        obtain ⟨X, M, rfl, rfl, ok⟩ := cc_nat hC
        have hp := ok.pos
        have hle := ok.le
        have hX := ok.2.1
        rw [hC, chA_yes ok]
        have hq : (X : Int).tdiv (M : Int) = ((X / M : Nat) : Int) := by rw [Int.tdiv_eq_ediv_of_nonneg (by omega)]; rfl
        have hr : (X : Int).tmod (M : Int) = ((X % M : Nat) : Int) := by rw [Int.tmod_eq_emod_of_nonneg (by omega)]; rfl
        have hM0 : ¬ (M : Int) = 0 := by omega
        have hqb : X / M ≤ 1024 := Nat.le_trans (Nat.div_le_self _ _) hX
        obtain ⟨Q, hQ⟩ : ∃ Q, Q = X / M := ⟨_, rfl⟩
        obtain ⟨Rm, hRm⟩ : ∃ Rm, Rm = X % M := ⟨_, rfl⟩
        rw [← hQ] at hq hqb
        have hwq : IntKind.i64.wrap (Q : Int) = (Q : Int) := by rw [IntKind.wrap_i64]; omega
        rw [← hRm] at hr
        have HO := Hid.mk (And.intro ok (And.intro hQ hRm))
        clear hC hW h64 hQ hRm
        go_enter Try.func7, Try.ntmps7
        go_wp2_with (go_at_call 17; refine hwd.mono ?_; clear hwd; rintro e w' ⟨rfl, rfl⟩)
        obtain ⟨w0, rfl⟩ : ∃ w0, w0 = w' := ⟨_, rfl⟩
        go_loopw [7, 8, 9] (fun uo ua uj wr => RC1 w0 X M uo ua uj wr) (fun _ _ u _ => M - (intOf u).toNat)
        case atStart => exact ⟨0, none, 0, rfl, by rw [frC_zero]; rfl, rfl, Nat.zero_le _, El.Row.nil _ _, fun k hk => (by cases hk), Below.refl _ _⟩
        case round =>
          obtain ⟨j, a, c, rfl, rfl, rfl, hj, HR⟩ := hrel
          by_cases hlt : j < M
          · have j1 : (j : Int) < (M : Int) := by omega
            have hwj : IntKind.i64.wrap ((j : Int) + 1) = ((j + 1 : Nat) : Int) := by rw [IntKind.wrap_i64]; omega
            have hlen : ((chL X M).take j).length = j := by simp [chL]; omega
            obtain ⟨v', W', hap, ho, st, hloc⟩ := El.app1 okC wr ((chL X M).take j) (.slice a j c) (by exact HR.out.1) ((frC X M j : Int), (btC X M j : Int)) (by rw [hlen]; show (j + 1) * 16 ≤ _; omega) (by omega)
            have htk : (chL X M).take j ++ [((frC X M j : Int), (btC X M j : Int))] = (chL X M).take (j + 1) := by
              rw [List.take_succ_eq_append_getElem (by simp [chL]; omega)]; simp [chL]
            rw [htk] at ho
            obtain ⟨a', c', e', -⟩ := slice_form ho
            have hlen' : ((chL X M).take (j + 1)).length = j + 1 := by simp [chL]; omega
            rw [hlen'] at e'
            subst e'
            have HN : Hid (RC1 w0 X M (.slice a' (j + 1) c') (.int .i64 (frC X M (j + 1) : Nat)) (.int .i64 ((j + 1 : Nat) : Int)) W') := by
              refine ⟨j + 1, a', c', rfl, rfl, rfl, hlt, ho, fun k hk => ?_, HR.out.2.2.trans (st.toBelow (fun k hk e => by have := HR.out.2.1 k e; omega) HR.out.2.2.size)⟩
              rcases hloc k hk with e | e
              · exact HR.out.2.1 k e
              · exact Nat.le_trans HR.out.2.2.size e
            have hfr : frC X M j ≤ 1024 := by
              have h1 := frC_succ X M j
              have h2 := HO.out.1.2.1
              unfold frC
              have h3 : j * (X / M) + min j (X % M) ≤ M * (X / M) + X % M := Nat.add_le_add (Nat.mul_le_mul_right _ (by omega)) (Nat.min_le_right _ _)
              rw [Nat.div_add_mod] at h3
              omega
            have hfs := frC_succ X M j
            dsimp only [EC] at hap
            obtain ⟨F, hF⟩ : ∃ F, F = frC X M j := ⟨_, rfl⟩
            rw [← hF] at hap hfr hfs ⊢
            by_cases hjr : j < Rm
            · have j2 : (j : Int) < (Rm : Int) := by omega
              have hbt : btC X M j = Q + 1 := by unfold btC; rw [if_pos (by rw [← HO.out.2.2]; exact hjr), ← HO.out.2.1]
              rw [hbt] at hap hfs
              rw [hfs] at HN
              have hq1 : IntKind.i64.wrap ((Q : Int) + 1) = ((Q + 1 : Nat) : Int) := by rw [IntKind.wrap_i64]; omega
              have hf1 : IntKind.i64.wrap ((F : Int) + ((Q + 1 : Nat) : Int)) = ((F + (Q + 1) : Nat) : Int) := by rw [IntKind.wrap_i64]; omega
              obtain ⟨Q1, hQ1⟩ : ∃ Q1, Q1 = Q + 1 := ⟨_, rfl⟩
              rw [← hQ1] at hap HN hq1 hf1
              clear hQ1 hfs hbt hF htk ho st hloc hlen hlen' HR HO hfr
              go_wp2_with (at_builtin; refine wpList_append_eq rfl _ _ _ _ rfl _ _ _ _ rfl rfl hap ?_; clear hap)
              exact ⟨HN.out, by simp only [intOf]; omega⟩
            · have j2 : ¬ (j : Int) < (Rm : Int) := by omega
              have hbt : btC X M j = Q := by unfold btC; rw [if_neg (by rw [← HO.out.2.2]; exact hjr), ← HO.out.2.1]
              rw [hbt] at hap hfs
              rw [hfs] at HN
              have hf1 : IntKind.i64.wrap ((F : Int) + (Q : Int)) = ((F + Q : Nat) : Int) := by rw [IntKind.wrap_i64]; omega
              clear hfs hbt hF htk ho st hloc hlen hlen' HR HO hfr
              go_wp2_with (at_builtin; refine wpList_append_eq rfl _ _ _ _ rfl _ _ _ _ rfl rfl hap ?_; clear hap)
              exact ⟨HN.out, by simp only [intOf]; omega⟩
          · have j1 : ¬ (j : Int) < (M : Int) := by omega
            have hjM : j = M := by omega
            have HE : Hid (EC.Row wr (.slice a j c) (chL X M) ∧ (∀ k, (Value.slice a j c).ownBlock = some k → w0.heap.size ≤ k) ∧ Below w0.heap.size w0 wr) := by
              have h9 := HR.out
              rw [List.take_of_length_le (by simp [chL]; omega)] at h9
              exact h9
            clear HR HO hjM
            go_wp2
            go_ret2
            exact ⟨_, rfl, HE.out⟩
def RS1 (w : World) (s : ByteArray) (X M : Nat) (uo uj : Value) (wr : World) : Prop := ∃ (j : Nat) (a : Option Addr) (c : Nat), uo = .slice a j c ∧ uj = .int .i64 j ∧ j ≤ M ∧ Hid (EI.Row wr (.slice a j c) ((spL s.data.toList X M).take j) ∧ (∀ k, (Value.slice a j c).ownBlock = some k → w.heap.size ≤ k) ∧ Below w.heap.size w wr)
set_option maxHeartbeats 2000000 in
set_option maxRecDepth 100000 in
theorem rsplit_all (x m : Int) (s : ByteArray) (w : World) : Calls Try.prog 11 #[.int .i64 x, .int .i64 m, .string s] w fun e w' => ∃ v, e = .returned (.tuple #[v, .int .i64 (spE x m s.size)]) ∧ EI.Row w' v (spA s.data.toList x m) ∧ (∀ k, v.ownBlock = some k → w.heap.size ≤ k) ∧ Below w.heap.size w w' := by
  have hsz : s.data.toList.length = s.size := by simp
  have hc := rchunks_all x m w
  by_cases h : cc x m = 0
  · obtain ⟨X, M, rfl, rfl, ok⟩ := cc_nat h
    have hX := ok.1
    have hd8 : (X : Int).tdiv 8 = ((X / 8 : Nat) : Int) := by rw [Int.tdiv_eq_ediv_of_nonneg (by omega)]; rfl
    have hisW : isW (X : Int) = true := by
      unfold cc at h
      split at h
      · assumption
      · cases h
    by_cases h2 : s.size = X / 8
    · have hE : spE X M s.size = 0 := by unfold spE chk; rw [if_pos h, if_pos hisW, if_pos (by rw [h2]; rfl)]
      have hs : s.size ≤ 140737488351232 := by have := ok.2.1; omega
      have e1 : spA s.data.toList X M = spL s.data.toList X M := by unfold spA; rw [hsz, if_pos hE]; simp
      rw [hE, e1]
      rw [h, chA_yes ok] at hc
      have hp := ok.pos
      have hle := ok.le
      have hne : ((s.size : Int) != wrap64 ((X : Int) / 8)) = false := by
        have h8 : wrap64 ((X : Int) / 8) = ((X / 8 : Nat) : Int) := by
          have := ok.2.1
          unfold wrap64; omega
        rw [h8, h2]; simp
      have HO := Hid.mk (And.intro ok h2)
      clear hE e1 h hisW h2 hsz hd8
      go_enter Try.func11, Try.ntmps11
      go_wp2_with (go_at_call 7; refine hc.mono ?_; clear hc; rintro e w1 ⟨v1, rfl, r1, n1, b1⟩)
      have HR1 := Hid.mk (And.intro r1 b1)
      obtain ⟨av, cv, hv1, -⟩ := slice_form r1
      rw [show (chL X M).length = M by simp [chL]] at hv1
      subst hv1
      clear r1 n1 b1 hne
      go_loopw [10, 11] (fun uo uj wr => RS1 w1 s X M uo uj wr) (fun _ u _ => M - (intOf u).toNat)
      case atStart => exact ⟨0, none, 0, rfl, rfl, Nat.zero_le _, El.Row.nil _ _, fun k hk => (by cases hk), Below.refl _ _⟩
      case round =>
        obtain ⟨j, a, c, rfl, rfl, hj, HR⟩ := hrel
        by_cases hlt : j < M
        · have j1 : (j : Int) < (M : Int) := by omega
          have j2 : (0 : Int) ≤ (j : Int) := by omega
          have hwj : IntKind.i64.wrap ((j : Int) + 1) = ((j + 1 : Nat) : Int) := by rw [IntKind.wrap_i64]; omega
          have hlC : (chL X M).length = M := by simp [chL]
          obtain ⟨g, cap, e1, x0, x1, -⟩ := chRow (El.Row.below HR1.out.1 HR.out.2.2) j (by omega)
          rw [hlC] at e1
          simp only [Value.slice.injEq] at e1
          obtain ⟨rfl, -, rfl⟩ := e1
          have ec : (chL X M)[j]'(by omega) = ((frC X M j : Int), (btC X M j : Int)) := by simp [chL]
          rw [ec] at x0 x1
          have hbb := btC_bd HO.out.1 j
          have htop : frC X M j + btC X M j ≤ 8 * s.size := by
            rw [← frC_succ]
            have h3 : (j + 1) * (X / M) + min (j + 1) (X % M) ≤ M * (X / M) + X % M := Nat.add_le_add (Nat.mul_le_mul_right _ (by omega)) (Nat.min_le_right _ _)
            rw [Nat.div_add_mod] at h3
            have h5 := HO.out.2
            have h6 := HO.out.1.2.2.1
            unfold frC
            omega
          have hsl := fun W => rslice_yes s (frC X M j) (btC X M j) W hs (by omega) htop
          have hval : numN s.data.toList ((List.range (btC X M j)).map (frC X M j + ·)) = valC s.data.toList X M j := rfl
          rw [hval] at hsl
          have hvb : valC s.data.toList X M j < 4294967296 := by
            have h1 := numR_lt s.data.toList (frC X M j) (btC X M j)
            have h2 : 2 ^ btC X M j ≤ 2 ^ 32 := Nat.pow_le_pow_right (by decide) hbb.2
            have h3 : (2 : Nat) ^ 32 = 4294967296 := rfl
            unfold valC; omega
          have hlen : ((spL s.data.toList X M).take j).length = j := by simp [spL]; omega
          obtain ⟨v', W', hap, ho, st, hloc⟩ := El.app1 okI wr.drew ((spL s.data.toList X M).take j) (.slice a j c) (El.Row.below HR.out.1 (b_drew wr)) (valC s.data.toList X M j : Int) (by rw [hlen]; show (j + 1) * 8 ≤ _; omega) (by omega)
          have htk : (spL s.data.toList X M).take j ++ [(valC s.data.toList X M j : Int)] = (spL s.data.toList X M).take (j + 1) := by
            rw [List.take_succ_eq_append_getElem (by simp [spL]; omega)]; simp [spL]
          rw [htk] at ho
          obtain ⟨a', c', e', -⟩ := slice_form ho
          have hlen' : ((spL s.data.toList X M).take (j + 1)).length = j + 1 := by simp [spL]; omega
          rw [hlen'] at e'
          subst e'
          have HN : Hid (RS1 w1 s X M (.slice a' (j + 1) c') (.int .i64 ((j + 1 : Nat) : Int)) W') := by
            refine ⟨j + 1, a', c', rfl, rfl, hlt, ho, fun k hk => ?_, HR.out.2.2.drew.trans (st.toBelow (fun k hk e => by have := HR.out.2.1 k e; omega) HR.out.2.2.size)⟩
            rcases hloc k hk with e | e
            · exact HR.out.2.1 k e
            · exact Nat.le_trans HR.out.2.2.size e
          dsimp only [EI] at hap
          obtain ⟨V, hV⟩ : ∃ V, V = valC s.data.toList X M j := ⟨_, rfl⟩
          obtain ⟨F, hF⟩ : ∃ F, F = frC X M j := ⟨_, rfl⟩
          obtain ⟨B, hB⟩ : ∃ B, B = btC X M j := ⟨_, rfl⟩
          rw [← hV] at hap hvb hsl
          rw [← hF] at x0 hsl
          rw [← hB] at x1 hsl
          have hwV : IntKind.i64.wrap (V : Int) = (V : Int) := by rw [IntKind.wrap_i64]; omega
          clear hV hF hB hval htop hbb ec hlen hlen' htk ho st hloc HR HO hlC
          go_wp2
          go_region_held (fun w' => w'.cell? ⟨g, j * 2, none⟩ = some (.int .i64 (F : Int)) ∧ w'.cell? ⟨g, j * 2 + 1, none⟩ = some (.int .i64 (B : Int)))
            (exact ⟨x0, x1⟩)
            ((go_at_call 20; refine (hsl _).mono ?_; clear hsl; rintro e w5 ⟨rfl, rfl⟩))
          all_goals
            go_wp2_with (at_builtin; refine wpList_append_eq rfl _ _ _ _ rfl _ _ _ _ rfl rfl hap ?_; clear hap)
            exact ⟨HN.out, by simp only [intOf]; omega⟩
        · have j1 : ¬ (j : Int) < (M : Int) := by omega
          have hjM : j = M := by omega
          have HE : Hid (EI.Row wr (.slice a j c) (spL s.data.toList X M) ∧ (∀ k, (Value.slice a j c).ownBlock = some k → w.heap.size ≤ k) ∧ Below w.heap.size w wr) := by
            have h9 := HR.out
            rw [List.take_of_length_le (by simp [spL]; omega)] at h9
            exact ⟨h9.1, fun k hk => Nat.le_trans HR1.out.2.size (h9.2.1 k hk), HR1.out.2.trans (h9.2.2.mono HR1.out.2.size)⟩
          clear HR HO hjM
          go_wp2
          go_ret2
          exact ⟨_, rfl, HE.out⟩
    · have h3 : ¬ (s.size : Int) = (X : Int) / 8 := by omega
      have hE : spE X M s.size = 11 := by unfold spE chk; rw [if_pos h, if_pos hisW, if_neg h3]
      have e1 : spA s.data.toList X M = [] := by unfold spA; rw [hsz, hE]; rfl
      rw [hE, e1]
      rw [h] at hc
      have hne : ((s.size : Int) != wrap64 ((X : Int) / 8)) = true := by
        have h8 : wrap64 ((X : Int) / 8) = (X : Int) / 8 := by
          have := ok.2.1
          unfold wrap64; omega
        rw [h8]; simpa using h3
      clear hE e1 h hisW h2 hsz hd8 h3
      go_enter Try.func11, Try.ntmps11
      go_wp2_with (go_at_call 7; refine hc.mono ?_; clear hc; rintro e w1 ⟨v1, rfl, r1, n1, b1⟩)
      go_ret2
      exact ⟨_, rfl, El.Row.nil _ _, fun k hk => (by cases hk), b1⟩
  · have hE : spE x m s.size = cc x m := by unfold spE; rw [if_neg h]
    have hA : spA s.data.toList x m = [] := by unfold spA; rw [hsz, hE, if_neg h]
    rw [hE, hA]
    obtain ⟨y, hy⟩ : ∃ y, y = cc x m := ⟨_, rfl⟩
    rw [← hy] at hc h ⊢
    have h3 : (y != 0) = true := by simpa using h
    clear hA hE hy hsz
    go_enter Try.func11, Try.ntmps11
    go_wp2_with (go_at_call 7; refine hc.mono ?_; clear hc; rintro e w1 ⟨v1, rfl, r1, n1, b1⟩)
    go_ret2
    exact ⟨_, rfl, El.Row.nil _ _, fun k hk => (by cases hk), b1⟩
end Go.Proofs.Ytfjbabiobobboaa
