/-
  DERIVED. What stands ahead of a frame's payload.
-/
import Derived.Test.YtdegclccbgpgiaaDoorSNext
import Derived.OwnWalk
namespace Go.Proofs.YtdegclccbgpgiaaDoor
open Go.RowKit Go.Proofs.SealMath
/-- Four results. -/
theorem results_tmp4 {fn : Func} {t u v x : Tmp} (h : fn.results = #[.tmp t, .tmp u, .tmp v, .tmp x]) (tmps : Array Value) (P : Program) (w : World) :
    (results fn tmps).run P w = .ok (.tuple #[tmps.getD t undef, tmps.getD u undef, tmps.getD v undef, tmps.getD x undef]) w := by
  simp [results, h]
theorem toL (T : ByteArray) : T.toList = T.data.toList := ByteArray.toList_eq T
set_option maxRecDepth 100000 in
set_option maxHeartbeats 4000000 in
theorem head_31 (b : ByteArray) (a g B : Nat) (w : World) (hF : Fld w b a g) (ha : a = b.size) (hb : b.size < 4611686018427387904) (hB : B ≤ g) :
    Calls Tryd.prog 88 #[lit g] w fun e w' => e = .returned (.tuple #[.int .i64 0, .int .i64 0, .int .u32 0, .int .i64 31]) ∧ Below B w w' := by
  have hT : (nxT b a 1).toList = [] := by rw [nxT_no b a 1 (by omega), toL]
  go_enter Tryd.func88, Tryd.ntmps88
  go_wp2_with fail
  refine (next_any b a 1 g B _ hF (by omega) hb (by omega) hB).mono ?_
  rintro e w1 ⟨rfl, f1, b1, s1⟩
  generalize nxT b a 1 = T1 at *
  go_wp2
  refine bodyPost_ret (results_tmp4 rfl _ _ _) rfl ?_
  exact ⟨rfl, b1⟩
set_option maxRecDepth 100000 in
set_option maxHeartbeats 4000000 in
theorem head_33 (b : ByteArray) (a g B : Nat) (w : World) (hF : Fld w b a g) (ha : a < b.size) (h1 : sub b a 1 ≠ [167]) (hb : b.size < 4611686018427387904) (hB : B ≤ g) :
    Calls Tryd.prog 88 #[lit g] w fun e w' => e = .returned (.tuple #[.int .i64 0, .int .i64 0, .int .u32 0, .int .i64 33]) ∧ Below B w w' := by
  have hT0 : (nxT b a 1).toList = sub b a 1 := by rw [toL, nxT_list b a 1 (by omega)]
  have hT : ((nxT b a 1).toList == [167]) = false := by rw [hT0, beq_eq_false_iff_ne]; exact h1
  have hE : (nxT b a 1).toList.isEmpty = false := by
    rw [hT0]; have := sub_len b a 1 (by omega)
    cases h : sub b a 1 with
    | nil => rw [h] at this; simp at this
    | cons c l => rfl
  clear hT0 h1
  go_enter Tryd.func88, Tryd.ntmps88
  go_wp2_with fail
  refine (next_any b a 1 g B _ hF (by omega) hb (by omega) hB).mono ?_
  rintro e w1 ⟨rfl, f1, b1, s1⟩
  generalize nxT b a 1 = T1 at *
  go_wp2
  refine bodyPost_ret (results_tmp4 rfl _ _ _) rfl ?_
  exact ⟨rfl, b1⟩
set_option maxRecDepth 100000 in
set_option maxHeartbeats 4000000 in
theorem head_31b (b : ByteArray) (a g B : Nat) (w : World) (hF : Fld w b a g) (ha : a < b.size) (h1 : sub b a 1 = [167]) (h10 : b.size < a + 10) (hb : b.size < 4611686018427387904) (hB : B ≤ g) :
    Calls Tryd.prog 88 #[lit g] w fun e w' => e = .returned (.tuple #[.int .i64 0, .int .i64 0, .int .u32 0, .int .i64 31]) ∧ Below B w w' := by
  have hT : (nxT b a 1).toList = [167] := by rw [toL, nxT_list b a 1 (by omega), h1]
  have hD : (nxT b (nxA b (nxA b (a + 1) 1) 4) 4).toList = [] := by rw [told_none b (a + 1) 1 4 4 (by omega) (by omega), toL]
  clear h1
  go_enter Tryd.func88, Tryd.ntmps88
  go_wp2_with fail
  refine (next_any b a 1 g B _ hF (by omega) hb (by omega) hB).mono ?_
  rintro e w1 ⟨rfl, f1, b1, s1⟩
  generalize nxT b a 1 = T1 at *
  go_wp2_with fail
  refine (next_any b (a + 1) 1 g B _ (by rw [nxA_yes b a 1 (by omega)] at f1; exact f1) (by omega) hb (by omega) hB).mono ?_
  rintro e w2 ⟨rfl, f2, b2, s2⟩
  have hn2 := nxA_le b (a + 1) 1
  generalize nxT b (a + 1) 1 = T2 at *
  generalize nxA b (a + 1) 1 = a2 at *
  go_wp2_with fail
  refine (next_any b a2 4 g B _ f2 hn2 hb (by omega) hB).mono ?_
  rintro e w3 ⟨rfl, f3, b3, s3⟩
  have hn3 := nxA_le b a2 4
  generalize nxT b a2 4 = T3 at *
  generalize nxA b a2 4 = a3 at *
  go_wp2_with fail
  refine (next_any b a3 4 g B _ f3 hn3 hb (by omega) hB).mono ?_
  rintro e w4 ⟨rfl, f4, b4, s4⟩
  generalize nxT b a3 4 = T4 at *
  go_wp2
  refine bodyPost_ret (results_tmp4 rfl _ _ _) rfl ?_
  exact ⟨rfl, ((b1.trans b2).trans b3).trans b4⟩
theorem sub_one (b : ByteArray) (a : Nat) (h : a + 1 ≤ b.size) : ∃ c, sub b a 1 = [c] := by
  have := sub_len b a 1 h
  cases hs : sub b a 1 with
  | nil => rw [hs] at this; simp at this
  | cons c l => rw [hs] at this; simp at this; rw [this]; exact ⟨c, rfl⟩
theorem sub_whole (T : ByteArray) (l : List UInt8) (h : T.data.toList = l) (n : Nat) (hn : l.length = n) : sub T 0 n = l := by
  unfold sub; rw [h, List.drop_zero, List.take_of_length_le (by omega)]
set_option maxRecDepth 100000 in
set_option maxHeartbeats 8000000 in
theorem head_10 (b : ByteArray) (a g B : Nat) (w : World) (hF : Fld w b a g) (ha : a + 10 ≤ b.size) (h1 : sub b a 1 = [167]) (hb : b.size < 4611686018427387904) (hB : B ≤ g) (ht : Tab w) (hB0 : 0 < B) (R : Nat × Nat × Nat × Int)
    (hR : R = if sub b (a + 6) 4 = lowL (crc 0 (sub b a 6)) then
      if numL (sub b (a + 1) 1) = 0 then (0, 0, 0, 35)
      else if numL (sub b (a + 2) 4) ≤ 65536 then (numL (sub b (a + 1) 1), numL (sub b (a + 2) 4), crc 0 (sub b a 6), 0)
      else (0, 0, 0, 36)
    else (0, 0, 0, 34)) :
    Calls Tryd.prog 88 #[lit g] w fun e w' => e = .returned (.tuple #[.int .i64 R.1, .int .i64 R.2.1, .int .u32 R.2.2.1, .int .i64 R.2.2.2]) ∧ Fld w' b (a + 10) g ∧ Below B w w' := by
  have hT : (nxT b a 1).toList = [167] := by rw [toL, nxT_list b a 1 (by omega), h1]
  have H1 : Hid (sub b a 1 = [167]) := h1
  have HR : Hid (R = if sub b (a + 6) 4 = lowL (crc 0 (sub b a 6)) then
      if numL (sub b (a + 1) 1) = 0 then (0, 0, 0, 35)
      else if numL (sub b (a + 2) 4) ≤ 65536 then (numL (sub b (a + 1) 1), numL (sub b (a + 2) 4), crc 0 (sub b a 6), 0)
      else (0, 0, 0, 36)
    else (0, 0, 0, 34)) := hR
  clear h1 hR
  go_enter Tryd.func88, Tryd.ntmps88
  go_wp2_with fail
  refine (next_any b a 1 g B _ hF (by omega) hb (by omega) hB).mono ?_
  rintro e w1 ⟨rfl, f1, b1, s1⟩
  rw [nxA_yes b a 1 (by omega)] at f1
  generalize nxT b a 1 = T1 at *
  go_wp2_with fail
  refine (next_any b (a + 1) 1 g B _ f1 (by omega) hb (by omega) hB).mono ?_
  rintro e w2 ⟨rfl, f2, b2, s2⟩
  rw [nxA_yes b (a + 1) 1 (by omega)] at f2
  have l2 := nxT_list b (a + 1) 1 (by omega)
  obtain ⟨c, hc⟩ := sub_one b (a + 1) (by omega)
  rw [hc] at l2
  have e2 := one_ba _ c l2
  rw [e2]
  clear l2 e2
  go_wp2_with fail
  refine (next_any b (a + 2) 4 g B _ f2 (by omega) hb (by omega) hB).mono ?_
  rintro e w3 ⟨rfl, f3, b3, s3⟩
  rw [nxA_yes b (a + 2) 4 (by omega)] at f3
  obtain ⟨T3, e3⟩ : ∃ T, T = nxT b (a + 2) 4 := ⟨_, rfl⟩
  have L3 : Hid (T3.data.toList = sub b (a + 2) 4) := by show _ = _; rw [e3]; exact nxT_list b (a + 2) 4 (by omega)
  have s3' : T3.size = 4 := by rw [e3]; exact nxT_size b (a + 2) 4 (by omega)
  rw [← e3]
  clear e3
  go_wp2_with fail
  refine (next_any b (a + 6) 4 g B _ f3 (by omega) hb (by omega) hB).mono ?_
  rintro e w4 ⟨rfl, f4, b4, s4⟩
  rw [nxA_yes b (a + 6) 4 (by omega)] at f4
  obtain ⟨T4, e4⟩ : ∃ T, T = nxT b (a + 6) 4 := ⟨_, rfl⟩
  have L4 : Hid (T4.toList = sub b (a + 6) 4) := by show _ = _; rw [e4, toL]; exact nxT_list b (a + 6) 4 (by omega)
  have s4' : T4.toList.isEmpty = false := by
    have := nxT_size b (a + 6) 4 (by omega)
    rw [ba_size, ← toL, ← e4] at this
    cases h : T4.toList with
    | nil => rw [h] at this; simp at this
    | cons c l => rfl
  rw [← e4]
  clear e4
  have b14 := ((b1.trans b2).trans b3).trans b4
  go_wp2_with fail
  obtain ⟨S, hS⟩ : ∃ S : ByteArray, S = ⟨#[167]⟩ ++ ⟨#[c]⟩ ++ T3 := ⟨_, rfl⟩
  rw [← hS]
  have hSl : S.data.toList = sub b a 6 := by
    rw [hS, ByteArray.data_append, ByteArray.data_append, Array.toList_append, Array.toList_append, L3.out, sub_add b a 1 5, H1.out, sub_add b (a + 1) 1 4, hc]; rfl
  have hSs : S.size = 6 := by rw [ba_size, hSl, sub_len b a 6 (by omega)]
  clear hS
  have HC : Hid (sub b (a + 1) 1 = [c]) := hc
  clear hc
  refine (sum_any S w4 (ht.below b14 hB0) (by omega)).mono ?_
  rintro e w5 ⟨rfl, rfl⟩
  rw [hSl]
  clear hSl
  have hsl := crc_lt (s := 0) (sub b a 6) (by omega)
  obtain ⟨s, hs⟩ : ∃ s, s = crc 0 (sub b a 6) := ⟨_, rfl⟩
  rw [← hs]
  rw [← hs] at hsl
  have HS : Hid (s = crc 0 (sub b a 6)) := hs
  clear hs
  go_wp2_with fail
  refine (low_any s w5 hsl).mono ?_
  rintro e w6 ⟨rfl, b6⟩
  have hgz := f4.size
  have f6 := f4.below b6 hgz
  have b16 := b14.trans (b6.mono (by omega))
  have hn6 := numL_sub_lt b (a + 2) 4 4 (by omega) (by omega)
  have hR := HR.out
  have hc0 : ((⟨#[c]⟩ : ByteArray)[0]'(Nat.lt_succ_self 0)).toNat = c.toNat := rfl
  have hcl := c.toNat_lt
  have hcn : numL (sub b (a + 1) 1) = c.toNat := by rw [HC.out]; simp [numL]
  rw [hcn] at hR
  clear HR hcn
  by_cases hq : sub b (a + 6) 4 = lowL (crc 0 (sub b a 6))
  · rw [if_pos hq] at hR
    have hEq : T4.toList = lowL s := by rw [L4.out, hq, HS.out]
    clear hq
    by_cases hz : c.toNat = 0
    · rw [if_pos hz] at hR
      subst hR
      go_wp2
      refine bodyPost_ret (results_tmp4 rfl _ _ _) rfl ?_
      exact ⟨rfl, f6, b16⟩
    · rw [if_neg hz] at hR
      go_wp2_with fail
      refine (fix_ok T3 0 4 w6 (by omega) (by omega) (by omega) (by omega)).mono ?_
      rintro e w7 ⟨rfl, rfl⟩
      rw [sub_whole T3 _ L3.out 4 (sub_len b (a + 2) 4 (by omega))]
      have hn : numL (sub b (a + 2) 4) < 4294967296 := hn6
      clear hn6
      obtain ⟨n, hnE⟩ : ∃ n, n = numL (sub b (a + 2) 4) := ⟨_, rfl⟩
      rw [← hnE] at hR hn ⊢
      clear hnE
      by_cases h6 : n ≤ 65536
      · rw [if_pos h6, ← HS.out] at hR
        subst hR
        go_wp2
        refine bodyPost_ret (results_tmp4 rfl _ _ _) rfl ?_
        exact ⟨rfl, f6, b16⟩
      · rw [if_neg h6] at hR
        subst hR
        go_wp2
        refine bodyPost_ret (results_tmp4 rfl _ _ _) rfl ?_
        exact ⟨rfl, f6, b16⟩
  · rw [if_neg hq] at hR
    subst hR
    have hEq : (T4.toList == lowL s) = false := by
      rw [L4.out, beq_eq_false_iff_ne, HS.out]; exact hq
    go_wp2
    refine bodyPost_ret (results_tmp4 rfl _ _ _) rfl ?_
    exact ⟨rfl, f6, b16⟩
/-- Behind head: where the literal stands, if it tells a payload's size. -/
theorem head_any (b : ByteArray) (a g B : Nat) (w : World) (hF : Fld w b a g) (ha : a ≤ b.size) (hb : b.size < 4611686018427387904) (hB : B ≤ g) (ht : Tab w) (hB0 : 0 < B) :
    Calls Tryd.prog 88 #[lit g] w fun e w' => e = .returned (.tuple #[.int .i64 (hdA b a).1, .int .i64 (hdA b a).2.1, .int .u32 (hdA b a).2.2.1, .int .i64 (hdA b a).2.2.2]) ∧ ((hdA b a).2.2.2 = 0 → Fld w' b (a + 10) g) ∧ Below B w w' := by
  unfold hdA
  by_cases h0 : b.size ≤ a
  · rw [if_pos h0]
    refine (head_31 b a g B w hF (by omega) hb hB).mono ?_
    rintro e w' ⟨rfl, b1⟩
    exact ⟨rfl, fun h => by simp at h, b1⟩
  · rw [if_neg h0]
    by_cases h1 : sub b a 1 = [167]
    · rw [if_pos h1]
      by_cases h10 : b.size < a + 10
      · rw [if_pos h10]
        refine (head_31b b a g B w hF (by omega) h1 h10 hb hB).mono ?_
        rintro e w' ⟨rfl, b1⟩
        exact ⟨rfl, fun h => by simp at h, b1⟩
      · rw [if_neg h10]
        refine (head_10 b a g B w hF (by omega) h1 hb hB ht hB0 _ rfl).mono ?_
        rintro e w' ⟨rfl, f1, b1⟩
        exact ⟨rfl, fun _ => f1, b1⟩
    · rw [if_neg h1]
      refine (head_33 b a g B w hF (by omega) h1 hb hB).mono ?_
      rintro e w' ⟨rfl, b1⟩
      exact ⟨rfl, fun h => by simp at h, b1⟩
end Go.Proofs.YtdegclccbgpgiaaDoor
