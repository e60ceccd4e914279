/-
  DERIVED. SHead, SClone, SParse, as one text.
-/
import Derived.Test.YtjkhhjboejkafaaDoorLzAJ
import Derived.OwnWalk
import Derived.Lib.UnsafeStr
import Derived.Lib.BufferWrite
import Derived.Laws.MakeOwn
namespace Go.Proofs.YtjkhhjboejkafaaDoor
open Go.RowKit Go.Proofs.SealMath
/-- Four results. -/
theorem results_tmp4 {fn : Func} {t u v x : Tmp} (h : fn.results = #[.tmp t, .tmp u, .tmp v, .tmp x]) (tmps : Array Value) (P : Program) (w : World) :
    (results fn tmps).run P w = .ok (.tuple #[tmps.getD t undef, tmps.getD u undef, tmps.getD v undef, tmps.getD x undef]) w := by
  simp [results, h]
theorem toL (T : ByteArray) : T.toList = T.data.toList := ByteArray.toList_eq T
set_option maxRecDepth 100000 in
set_option maxHeartbeats 4000000 in
theorem head_31 (b : ByteArray) (a g B : Nat) (w : World) (hF : Fld w b a g) (ha : a = b.size) (hb : b.size < 4611686018427387904) (hB : B ≤ g) :
    Calls Tryd.prog 57 #[lit g] w fun e w' => e = .returned (.tuple #[.int .i64 0, .int .i64 0, .int .u32 0, .int .i64 31]) ∧ Below B w w' := by
  have hT : (nxT b a 1).toList = [] := by rw [nxT_no b a 1 (by omega), toL]
  go_enter Tryd.func57, Tryd.ntmps57
  go_wp2_with fail
  refine (next_any b a 1 g B _ hF (by omega) hb (by omega) hB).mono ?_
  rintro e w1 ⟨rfl, f1, b1, s1⟩
  generalize nxT b a 1 = T1 at *
  go_wp2
  refine bodyPost_ret (results_tmp4 rfl _ _ _) rfl ?_
  exact ⟨rfl, b1⟩
set_option maxRecDepth 100000 in
set_option maxHeartbeats 4000000 in
theorem head_33 (b : ByteArray) (a g B : Nat) (w : World) (hF : Fld w b a g) (ha : a < b.size) (h1 : sub b a 1 ≠ [167]) (hb : b.size < 4611686018427387904) (hB : B ≤ g) :
    Calls Tryd.prog 57 #[lit g] w fun e w' => e = .returned (.tuple #[.int .i64 0, .int .i64 0, .int .u32 0, .int .i64 33]) ∧ Below B w w' := by
  have hT0 : (nxT b a 1).toList = sub b a 1 := by rw [toL, nxT_list b a 1 (by omega)]
  have hT : ((nxT b a 1).toList == [167]) = false := by rw [hT0, beq_eq_false_iff_ne]; exact h1
  have hE : (nxT b a 1).toList.isEmpty = false := by
    rw [hT0]; have := sub_len b a 1 (by omega)
    cases h : sub b a 1 with
    | nil => rw [h] at this; simp at this
    | cons c l => rfl
  clear hT0 h1
  go_enter Tryd.func57, Tryd.ntmps57
  go_wp2_with fail
  refine (next_any b a 1 g B _ hF (by omega) hb (by omega) hB).mono ?_
  rintro e w1 ⟨rfl, f1, b1, s1⟩
  generalize nxT b a 1 = T1 at *
  go_wp2
  refine bodyPost_ret (results_tmp4 rfl _ _ _) rfl ?_
  exact ⟨rfl, b1⟩
set_option maxRecDepth 100000 in
set_option maxHeartbeats 4000000 in
theorem head_31b (b : ByteArray) (a g B : Nat) (w : World) (hF : Fld w b a g) (ha : a < b.size) (h1 : sub b a 1 = [167]) (h10 : b.size < a + 10) (hb : b.size < 4611686018427387904) (hB : B ≤ g) :
    Calls Tryd.prog 57 #[lit g] w fun e w' => e = .returned (.tuple #[.int .i64 0, .int .i64 0, .int .u32 0, .int .i64 31]) ∧ Below B w w' := by
  have hT : (nxT b a 1).toList = [167] := by rw [toL, nxT_list b a 1 (by omega), h1]
  have hD : (nxT b (nxA b (nxA b (a + 1) 1) 4) 4).toList = [] := by rw [told_none b (a + 1) 1 4 4 (by omega) (by omega), toL]
  clear h1
  go_enter Tryd.func57, Tryd.ntmps57
  go_wp2_with fail
  refine (next_any b a 1 g B _ hF (by omega) hb (by omega) hB).mono ?_
  rintro e w1 ⟨rfl, f1, b1, s1⟩
  generalize nxT b a 1 = T1 at *
  go_wp2_with fail
  refine (next_any b (a + 1) 1 g B _ (by rw [nxA_yes b a 1 (by omega)] at f1; exact f1) (by omega) hb (by omega) hB).mono ?_
  rintro e w2 ⟨rfl, f2, b2, s2⟩
  have hn2 := nxA_le b (a + 1) 1
  generalize nxT b (a + 1) 1 = T2 at *
  generalize nxA b (a + 1) 1 = a2 at *
  go_wp2_with fail
  refine (next_any b a2 4 g B _ f2 hn2 hb (by omega) hB).mono ?_
  rintro e w3 ⟨rfl, f3, b3, s3⟩
  have hn3 := nxA_le b a2 4
  generalize nxT b a2 4 = T3 at *
  generalize nxA b a2 4 = a3 at *
  go_wp2_with fail
  refine (next_any b a3 4 g B _ f3 hn3 hb (by omega) hB).mono ?_
  rintro e w4 ⟨rfl, f4, b4, s4⟩
  generalize nxT b a3 4 = T4 at *
  go_wp2
  refine bodyPost_ret (results_tmp4 rfl _ _ _) rfl ?_
  exact ⟨rfl, ((b1.trans b2).trans b3).trans b4⟩
theorem sub_one (b : ByteArray) (a : Nat) (h : a + 1 ≤ b.size) : ∃ c, sub b a 1 = [c] := by
  have := sub_len b a 1 h
  cases hs : sub b a 1 with
  | nil => rw [hs] at this; simp at this
  | cons c l => rw [hs] at this; simp at this; rw [this]; exact ⟨c, rfl⟩
theorem sub_whole (T : ByteArray) (l : List UInt8) (h : T.data.toList = l) (n : Nat) (hn : l.length = n) : sub T 0 n = l := by
  unfold sub; rw [h, List.drop_zero, List.take_of_length_le (by omega)]
set_option maxRecDepth 100000 in
set_option maxHeartbeats 8000000 in
theorem head_10 (b : ByteArray) (a g B : Nat) (w : World) (hF : Fld w b a g) (ha : a + 10 ≤ b.size) (h1 : sub b a 1 = [167]) (hb : b.size < 4611686018427387904) (hB : B ≤ g) (ht : Tab w) (hB0 : 0 < B) (R : Nat × Nat × Nat × Int)
    (hR : R = if sub b (a + 6) 4 = lowL (crc 0 (sub b a 6)) then
      if numL (sub b (a + 1) 1) = 0 then (0, 0, 0, 35)
      else if numL (sub b (a + 2) 4) ≤ 65536 then (numL (sub b (a + 1) 1), numL (sub b (a + 2) 4), crc 0 (sub b a 6), 0)
      else (0, 0, 0, 36)
    else (0, 0, 0, 34)) :
    Calls Tryd.prog 57 #[lit g] w fun e w' => e = .returned (.tuple #[.int .i64 R.1, .int .i64 R.2.1, .int .u32 R.2.2.1, .int .i64 R.2.2.2]) ∧ Fld w' b (a + 10) g ∧ Below B w w' := by
  have hT : (nxT b a 1).toList = [167] := by rw [toL, nxT_list b a 1 (by omega), h1]
  have H1 : Hid (sub b a 1 = [167]) := h1
  have HR : Hid (R = if sub b (a + 6) 4 = lowL (crc 0 (sub b a 6)) then
      if numL (sub b (a + 1) 1) = 0 then (0, 0, 0, 35)
      else if numL (sub b (a + 2) 4) ≤ 65536 then (numL (sub b (a + 1) 1), numL (sub b (a + 2) 4), crc 0 (sub b a 6), 0)
      else (0, 0, 0, 36)
    else (0, 0, 0, 34)) := hR
  clear h1 hR
  go_enter Tryd.func57, Tryd.ntmps57
  go_wp2_with fail
  refine (next_any b a 1 g B _ hF (by omega) hb (by omega) hB).mono ?_
  rintro e w1 ⟨rfl, f1, b1, s1⟩
  rw [nxA_yes b a 1 (by omega)] at f1
  generalize nxT b a 1 = T1 at *
  go_wp2_with fail
  refine (next_any b (a + 1) 1 g B _ f1 (by omega) hb (by omega) hB).mono ?_
  rintro e w2 ⟨rfl, f2, b2, s2⟩
  rw [nxA_yes b (a + 1) 1 (by omega)] at f2
  have l2 := nxT_list b (a + 1) 1 (by omega)
  obtain ⟨c, hc⟩ := sub_one b (a + 1) (by omega)
  rw [hc] at l2
  have e2 := one_ba _ c l2
  rw [e2]
  clear l2 e2
  go_wp2_with fail
  refine (next_any b (a + 2) 4 g B _ f2 (by omega) hb (by omega) hB).mono ?_
  rintro e w3 ⟨rfl, f3, b3, s3⟩
  rw [nxA_yes b (a + 2) 4 (by omega)] at f3
  obtain ⟨T3, e3⟩ : ∃ T, T = nxT b (a + 2) 4 := ⟨_, rfl⟩
  have L3 : Hid (T3.data.toList = sub b (a + 2) 4) := by show _ = _; rw [e3]; exact nxT_list b (a + 2) 4 (by omega)
  have s3' : T3.size = 4 := by rw [e3]; exact nxT_size b (a + 2) 4 (by omega)
  rw [← e3]
  clear e3
  go_wp2_with fail
  refine (next_any b (a + 6) 4 g B _ f3 (by omega) hb (by omega) hB).mono ?_
  rintro e w4 ⟨rfl, f4, b4, s4⟩
  rw [nxA_yes b (a + 6) 4 (by omega)] at f4
  obtain ⟨T4, e4⟩ : ∃ T, T = nxT b (a + 6) 4 := ⟨_, rfl⟩
  have L4 : Hid (T4.toList = sub b (a + 6) 4) := by show _ = _; rw [e4, toL]; exact nxT_list b (a + 6) 4 (by omega)
  have s4' : T4.toList.isEmpty = false := by
    have := nxT_size b (a + 6) 4 (by omega)
    rw [ba_size, ← toL, ← e4] at this
    cases h : T4.toList with
    | nil => rw [h] at this; simp at this
    | cons c l => rfl
  rw [← e4]
  clear e4
  have b14 := ((b1.trans b2).trans b3).trans b4
  go_wp2_with fail
  obtain ⟨S, hS⟩ : ∃ S : ByteArray, S = ⟨#[167]⟩ ++ ⟨#[c]⟩ ++ T3 := ⟨_, rfl⟩
  rw [← hS]
  have hSl : S.data.toList = sub b a 6 := by
    rw [hS, ByteArray.data_append, ByteArray.data_append, Array.toList_append, Array.toList_append, L3.out, sub_add b a 1 5, H1.out, sub_add b (a + 1) 1 4, hc]; rfl
  have hSs : S.size = 6 := by rw [ba_size, hSl, sub_len b a 6 (by omega)]
  clear hS
  have HC : Hid (sub b (a + 1) 1 = [c]) := hc
  clear hc
  refine (sum_any S w4 (ht.below b14 hB0) (by omega)).mono ?_
  rintro e w5 ⟨rfl, rfl⟩
  rw [hSl]
  clear hSl
  have hsl := crc_lt (s := 0) (sub b a 6) (by omega)
  obtain ⟨s, hs⟩ : ∃ s, s = crc 0 (sub b a 6) := ⟨_, rfl⟩
  rw [← hs]
  rw [← hs] at hsl
  have HS : Hid (s = crc 0 (sub b a 6)) := hs
  clear hs
  go_wp2_with fail
  refine (low_any s w5 hsl).mono ?_
  rintro e w6 ⟨rfl, b6⟩
  have hgz := f4.size
  have f6 := f4.below b6 hgz
  have b16 := b14.trans (b6.mono (by omega))
  have hn6 := numL_sub_lt b (a + 2) 4 4 (by omega) (by omega)
  have hR := HR.out
  have hc0 : ((⟨#[c]⟩ : ByteArray)[0]'(Nat.lt_succ_self 0)).toNat = c.toNat := rfl
  have hcl := c.toNat_lt
  have hcn : numL (sub b (a + 1) 1) = c.toNat := by rw [HC.out]; simp [numL]
  rw [hcn] at hR
  clear HR hcn
  by_cases hq : sub b (a + 6) 4 = lowL (crc 0 (sub b a 6))
  · rw [if_pos hq] at hR
    have hEq : T4.toList = lowL s := by rw [L4.out, hq, HS.out]
    clear hq
    by_cases hz : c.toNat = 0
    · rw [if_pos hz] at hR
      subst hR
      go_wp2
      refine bodyPost_ret (results_tmp4 rfl _ _ _) rfl ?_
      exact ⟨rfl, f6, b16⟩
    · rw [if_neg hz] at hR
      go_wp2_with fail
      refine (fix_ok T3 0 4 w6 (by omega) (by omega) (by omega) (by omega)).mono ?_
      rintro e w7 ⟨rfl, rfl⟩
      rw [sub_whole T3 _ L3.out 4 (sub_len b (a + 2) 4 (by omega))]
      have hn : numL (sub b (a + 2) 4) < 4294967296 := hn6
      clear hn6
      obtain ⟨n, hnE⟩ : ∃ n, n = numL (sub b (a + 2) 4) := ⟨_, rfl⟩
      rw [← hnE] at hR hn ⊢
      clear hnE
      by_cases h6 : n ≤ 65536
      · rw [if_pos h6, ← HS.out] at hR
        subst hR
        go_wp2
        refine bodyPost_ret (results_tmp4 rfl _ _ _) rfl ?_
        exact ⟨rfl, f6, b16⟩
      · rw [if_neg h6] at hR
        subst hR
        go_wp2
        refine bodyPost_ret (results_tmp4 rfl _ _ _) rfl ?_
        exact ⟨rfl, f6, b16⟩
  · rw [if_neg hq] at hR
    subst hR
    have hEq : (T4.toList == lowL s) = false := by
      rw [L4.out, beq_eq_false_iff_ne, HS.out]; exact hq
    go_wp2
    refine bodyPost_ret (results_tmp4 rfl _ _ _) rfl ?_
    exact ⟨rfl, f6, b16⟩
/-- Behind head: where the literal stands, if it tells a payload's size. -/
theorem head_any (b : ByteArray) (a g B : Nat) (w : World) (hF : Fld w b a g) (ha : a ≤ b.size) (hb : b.size < 4611686018427387904) (hB : B ≤ g) (ht : Tab w) (hB0 : 0 < B) :
    Calls Tryd.prog 57 #[lit g] w fun e w' => e = .returned (.tuple #[.int .i64 (hdA b a).1, .int .i64 (hdA b a).2.1, .int .u32 (hdA b a).2.2.1, .int .i64 (hdA b a).2.2.2]) ∧ ((hdA b a).2.2.2 = 0 → Fld w' b (a + 10) g) ∧ Below B w w' := by
  unfold hdA
  by_cases h0 : b.size ≤ a
  · rw [if_pos h0]
    refine (head_31 b a g B w hF (by omega) hb hB).mono ?_
    rintro e w' ⟨rfl, b1⟩
    exact ⟨rfl, fun h => by simp at h, b1⟩
  · rw [if_neg h0]
    by_cases h1 : sub b a 1 = [167]
    · rw [if_pos h1]
      by_cases h10 : b.size < a + 10
      · rw [if_pos h10]
        refine (head_31b b a g B w hF (by omega) h1 h10 hb hB).mono ?_
        rintro e w' ⟨rfl, b1⟩
        exact ⟨rfl, fun h => by simp at h, b1⟩
      · rw [if_neg h10]
        refine (head_10 b a g B w hF (by omega) h1 hb hB ht hB0 _ rfl).mono ?_
        rintro e w' ⟨rfl, f1, b1⟩
        exact ⟨rfl, fun _ => f1, b1⟩
    · rw [if_neg h1]
      refine (head_33 b a g B w hF (by omega) h1 hb hB).mono ?_
      rintro e w' ⟨rfl, b1⟩
      exact ⟨rfl, fun h => by simp at h, b1⟩
end Go.Proofs.YtjkhhjboejkafaaDoor
namespace Go.Proofs.YtjkhhjboejkafaaDoor
open Go.RowKit
set_option maxHeartbeats 4000000 in
set_option maxRecDepth 100000 in
theorem lite_any (s : ByteArray) (w : World) (hs : s.size ≤ 65536) :
    Calls Tryd.prog 38 #[.string s] w fun e w' => e = .returned (.string s) ∧ Below w.heap.size w w' := by
  by_cases h0 : s.size = 0
  · obtain rfl : s = ⟨#[]⟩ := ByteArray.ext (Array.eq_empty_of_size_eq_zero h0)
    go_enter Tryd.func38, Tryd.ntmps38
    go_wp2
    go_ret
    exact ⟨rfl, Below.refl _ _⟩
  · obtain ⟨i0, hi, hz0, hz1, hz2⟩ := info_parts Tryd.info5
    obtain ⟨M, hM⟩ : ∃ M, M = madeCells (Value.int .u8 0).cells (((s.size : Nat) : Int).toNat * i0.size) := ⟨_, rfl⟩
    have hMs : M.size = s.size := by rw [hM, size_madeCells, hz1]; simp
    have hmk : ∀ W : World, (Instr.makeSlice 50 (.int .i64 (s.size : Int)) (.int .i64 (s.size : Int))).run Tryd.prog W = .ok (.slice (some ⟨W.heap.size, 0, none⟩) s.size s.size) (W.alloc (.cells M 5)) := fun W => by
      have h := run_make (P := Tryd.prog) W 50 5 i0 (.int .u8 0) Tryd.underlying50 hi hz0 .i64 .i64 (s.size : Int) (s.size : Int) (by omega) (by omega) (by rw [hz2]; omega) (by omega)
      rw [← hM] at h
      simpa using h
    clear hM
    have hcp := Lib.run_copy_row_string (P := Tryd.prog) (w.alloc (.cells M 5)) 50 9 3 5 w.heap.size 0 s.size s.size s M 5 Tryd.underlying50 (by rw [hi]; simp [hz1]) (heap_alloc_new w _) (Nat.le_refl _) (by omega)
    obtain ⟨Y, hY⟩ : ∃ Y, Y = (M.toList.take 0 ++ Lib.byteCells s.data.toList ++ M.toList.drop (0 + s.size)).toArray := ⟨_, rfl⟩
    rw [← hY] at hcp
    have hYl : Y.toList = Lib.byteCells s.data.toList := by
      rw [hY, List.toList_toArray, List.take_zero, List.nil_append, List.drop_of_length_le (by rw [Array.length_toList]; omega), List.append_nil]
    have hYs : Y.size = s.size := by rw [← Array.length_toList, hYl, Lib.byteCells_length, ← Lib.size_eq]
    have hgY : ((w.alloc (.cells M 5)).setRow w.heap.size Y).heap[w.heap.size]? = some (.cells Y 5 (0, 0)) := setRow_heap _ _ M _ 5 (0, 0) (heap_alloc_new w _)
    have hUS := Lib.run_unsafeString_row (P := Tryd.prog) ((w.alloc (.cells M 5)).setRow w.heap.size Y) 89 3 9 5 Tryd.underlying89 (by simp [Program.cellsOf, hi, hz1]) w.heap.size Y.size (by unfold World.shape?; rw [hgY]) s.data.toList (fun e => h0 (by rw [Lib.size_eq, e]; rfl)) (by rw [← Lib.size_eq]; omega) (by rw [← Lib.size_eq]; omega)
      (fun j x hx => Lib.cells_of_row hgY Y.size j _ (by rw [List.take_of_length_le (by rw [Array.length_toList]; exact Nat.le_refl _), hYl]; simp [Lib.byteCells, hx]))
    rw [← Lib.size_eq] at hUS
    clear hY
    go_enter Tryd.func38, Tryd.ntmps38
    go_wp2
    go_ret
    have hb2 : Below w.heap.size (w.alloc (.cells M 5)) ((w.alloc (.cells M 5)).setRow w.heap.size Y) := ⟨rfl, rfl, rfl, by simp, fun k hk => setRow_other _ _ _ _ (by omega)⟩
    exact ⟨rfl, Lib.below_freeze (((Below.refl _ w).alloc (Nat.le_refl _) _).trans hb2) (p := ⟨w.heap.size, 0, none⟩) (Nat.le_refl _) _⟩
theorem clone_any (s : ByteArray) (w : World) (hs : s.size ≤ 65536) :
    Calls Tryd.prog 18 #[.string s] w fun e w' => e = .returned (.string s) ∧ Below w.heap.size w w' := by
  go_enter Tryd.func18, Tryd.ntmps18
  go_wp2_with fail
  refine (lite_any s _ hs).mono ?_
  rintro e w1 ⟨rfl, b1⟩
  go_wp2
  go_ret
  exact ⟨rfl, b1⟩
end Go.Proofs.YtjkhhjboejkafaaDoor
namespace Go.Proofs.YtjkhhjboejkafaaDoor
open Go.RowKit Go.Proofs.SealMath
theorem ret4 {a b c d e f g h : Value} (h1 : a = e) (h2 : b = f) (h3 : c = g) (h4 : d = h) : Ending.returned (.tuple #[a, b, c, d]) = .returned (.tuple #[e, f, g, h]) := by rw [h1, h2, h3, h4]
theorem fld_new (w : World) (b : ByteArray) (a : Nat) : Fld ((w.alloc (Obj.cells #[Value.string b] 9)).alloc (Obj.cells #[Value.int IntKind.i64 a] 3)) b a w.heap.size := by
  have h1 := heap_alloc_last w (Obj.cells #[Value.string b] 9)
  have h2 := heap_alloc_last (w.alloc (Obj.cells #[Value.string b] 9)) (Obj.cells #[Value.int IntKind.i64 a] 3)
  have e : (w.alloc (Obj.cells #[Value.string b] 9)).heap.size = w.heap.size + 1 := by simp
  rw [e] at h2
  refine ⟨?_, ?_, frozen_of_row _ _ _ _ _ h2⟩
  · rw [World.cell?_alloc_lt _ _ _ (by simp), cell_of_row _ _ 0 _ 9 (0, 0) h1]; rfl
  · rw [cell_of_row _ _ 0 _ 3 (0, 0) h2]; rfl
set_option maxRecDepth 100000 in
theorem fields_any (b : ByteArray) (a : Nat) (w : World) :
    Calls Tryd.prog 56 #[.string b, .int .i64 a] w fun e w' => e = .returned (lit w.heap.size) ∧ Fld w' b a w.heap.size ∧ Below w.heap.size w w' := by
  have hmf : ∀ (fn : Fn) (first cap : Array Value) (w : World), (Instr.makeFunc fn first cap).run Tryd.prog w = .ok (.func fn first cap) w := fun _ _ _ _ => rfl
  go_enter Tryd.func56, Tryd.ntmps56
  go_wp2
  go_ret
  exact ⟨rfl, fld_new w b a, ((Below.refl _ w).alloc (Nat.le_refl _) _).alloc (by simp) _⟩
/-- What Parse answers at a place. -/
def psA (b : ByteArray) (a : Nat) : Nat × List UInt8 × Nat × Int :=
  if (hdA b a).2.2.2 = 0 then
    if b.size < a + 14 + (hdA b a).2.1 then (0, [], 0, 31)
    else if sub b (a + 10 + (hdA b a).2.1) 4 = lowL (crc (hdA b a).2.2.1 (sub b (a + 10) (hdA b a).2.1)) then ((hdA b a).1, sub b (a + 10) (hdA b a).2.1, a + 14 + (hdA b a).2.1, 0)
    else (0, [], 0, 34)
  else (0, [], 0, (hdA b a).2.2.2)
theorem hdA_ok (b : ByteArray) (a : Nat) (h : (hdA b a).2.2.2 = 0) : a + 10 ≤ b.size ∧ (hdA b a).2.1 ≤ 65536 ∧ (hdA b a).1 ≤ 255 ∧ (hdA b a).2.2.1 < 4294967296 := by
  unfold hdA at h ⊢
  split at h
  · simp at h
  · split at h
    · split at h
      · simp at h
      · split at h
        · split at h
          · simp at h
          · split at h
            · rename_i h1 h2 h3 h4 h5 h6
              rw [if_neg h1, if_pos h2, if_neg h3, if_pos h4, if_neg h5, if_pos h6]
              have := numL_sub_lt b (a + 1) 1 1 (by omega) (by omega)
              exact ⟨by omega, h6, by show numL _ ≤ 255; omega, crc_lt _ (by omega)⟩
            · simp at h
        · simp at h
    · simp at h
set_option maxRecDepth 100000 in
set_option maxHeartbeats 8000000 in
theorem parse_ok (b : ByteArray) (a : Nat) (R : Nat × List UInt8 × Nat × Int) (w : World) (ht : Tab w) (hg : 0 < w.heap.size) (hb : b.size < 4611686018427387904) (ha : a ≤ b.size) (hR : R = psA b a) :
    Calls Tryd.prog 48 #[.string b, .int .i64 a] w fun e w' => e = .returned (.tuple #[.int .i64 R.1, .string ⟨R.2.1.toArray⟩, .int .i64 R.2.2.1, .int .i64 R.2.2.2]) ∧ Below w.heap.size w w' := by
  have HR : Hid (R = psA b a) := hR
  clear hR
  go_enter Tryd.func48, Tryd.ntmps48
  go_wp2_with fail
  refine (isPlace_any _ _ _).mono ?_
  rintro e w0 ⟨rfl, rfl⟩
  rw [decide_eq_true (by omega : 0 ≤ (a : Int) ∧ (a : Int) ≤ b.size)]
  go_wp2_with fail
  refine (fields_any b a w0).mono ?_
  rintro e w1 ⟨rfl, f1, b1⟩
  go_wp2_with fail
  refine (head_any b a w0.heap.size w0.heap.size w1 f1 ha hb (Nat.le_refl _) (ht.below b1 hg) hg).mono ?_
  rintro e w2 ⟨rfl, f2, b2⟩
  have hok := hdA_ok b a
  have hR := HR.out
  unfold psA at hR
  clear HR
  obtain ⟨⟨k, n, s, x⟩, hH⟩ : ∃ H, H = hdA b a := ⟨_, rfl⟩
  rw [← hH] at hR hok f2 ⊢
  clear hH
  dsimp only at hR hok f2 ⊢
  have b12 := b1.trans b2
  by_cases hx : x = 0
  · subst hx
    rw [if_pos rfl] at hR
    obtain ⟨ha10, hn, hk, hs⟩ := hok rfl
    have f2' := f2 rfl
    clear hok f2
    go_wp2_with fail
    refine (next_any b (a + 10) n w0.heap.size w0.heap.size _ f2' (by omega) hb (by omega) (Nat.le_refl _)).mono ?_
    rintro e w3 ⟨rfl, f3, b3, s3⟩
    by_cases h14 : b.size < a + 14 + n
    · rw [if_pos h14] at hR
      subst hR
      have hD : (nxT b (nxA b (a + 10) n) 4).toList = [] := by rw [told_none2 b (a + 10) n 4 (by omega) (by omega), toL]
      have hn3 := nxA_le b (a + 10) n
      generalize nxT b (a + 10) n = T1 at *
      generalize nxA b (a + 10) n = a3 at *
      go_wp2_with fail
      refine (next_any b a3 4 w0.heap.size w0.heap.size _ f3 hn3 hb (by omega) (Nat.le_refl _)).mono ?_
      rintro e w4 ⟨rfl, f4, b4, s4⟩
      generalize nxT b a3 4 = T2 at *
      go_wp2
      refine bodyPost_ret (results_tmp4 rfl _ _ _) rfl ?_
      exact ⟨rfl, (b12.trans b3).trans b4⟩
    · rw [if_neg h14] at hR
      rw [nxA_yes b (a + 10) n (by omega)] at f3
      obtain ⟨T1, e1⟩ : ∃ T, T = nxT b (a + 10) n := ⟨_, rfl⟩
      have L1 := nxT_list b (a + 10) n (by omega)
      have s1 := nxT_size b (a + 10) n (by omega)
      rw [← e1] at L1 s1 ⊢
      clear e1
      go_wp2_with fail
      refine (next_any b (a + 10 + n) 4 w0.heap.size w0.heap.size _ f3 (by omega) hb (by omega) (Nat.le_refl _)).mono ?_
      rintro e w4 ⟨rfl, f4, b4, s4⟩
      obtain ⟨T2, e2⟩ : ∃ T, T = nxT b (a + 10 + n) 4 := ⟨_, rfl⟩
      have L2 : Hid (T2.toList = sub b (a + 10 + n) 4) := by show _ = _; rw [e2, toL]; exact nxT_list b (a + 10 + n) 4 (by omega)
      have s2 : T2.toList.isEmpty = false := by
        have := nxT_size b (a + 10 + n) 4 (by omega)
        rw [ba_size, ← toL, ← e2] at this
        cases h : T2.toList with
        | nil => rw [h] at this; simp at this
        | cons c l => rfl
      rw [← e2]
      clear e2
      have b14 := (b12.trans b3).trans b4
      have HL1 : Hid (T1.data.toList = sub b (a + 10) n) := L1
      clear L1
      go_wp2_with fail
      refine (on_any s T1 w4 (ht.below b14 hg) hs (by omega)).mono ?_
      rintro e w5 ⟨rfl, rfl⟩
      rw [HL1.out]
      have htl := crc_lt (s := s) (sub b (a + 10) n) hs
      obtain ⟨t, hts⟩ : ∃ t, t = crc s (sub b (a + 10) n) := ⟨_, rfl⟩
      rw [← hts] at htl hR ⊢
      clear hts
      go_wp2_with fail
      refine (low_any t w5 htl).mono ?_
      rintro e w6 ⟨rfl, b6⟩
      have b16 := chain b14 b6 (Nat.le_refl _)
      by_cases hq : sub b (a + 10 + n) 4 = lowL t
      · rw [if_pos hq] at hR
        have hEq : T2.toList = lowL t := by rw [L2.out, hq]
        rw [← HL1.out] at hR
        subst hR
        clear hq
        go_wp2_with fail
        refine (clone_any T1 w6 (by omega)).mono ?_
        rintro e w7 ⟨rfl, b7⟩
        go_wp2
        refine bodyPost_ret (results_tmp4 rfl _ _ _) rfl ?_
        refine ⟨ret4 rfl rfl (ival ?_) rfl, chain b16 b7 (Nat.le_refl _)⟩
        show (a : Int) + 10 + n + 4 = ((a + 14 + n : Nat) : Int)
        omega
      · rw [if_neg hq] at hR
        subst hR
        have hEq : (T2.toList == lowL t) = false := by rw [L2.out, beq_eq_false_iff_ne]; exact hq
        go_wp2
        refine bodyPost_ret (results_tmp4 rfl _ _ _) rfl ?_
        exact ⟨rfl, b16⟩
  · rw [if_neg hx] at hR
    subst hR
    go_wp2
    refine bodyPost_ret (results_tmp4 rfl _ _ _) rfl ?_
    exact ⟨rfl, b12⟩
/-- What Parse answers. -/
def prA (b : ByteArray) (p : Int) : Nat × List UInt8 × Nat × Int := if 0 ≤ p ∧ p ≤ b.size then psA b p.toNat else (0, [], 0, 13)
set_option maxRecDepth 100000 in
set_option maxHeartbeats 1000000 in
theorem parse_any (b : ByteArray) (p : Int) (w : World) (ht : Tab w) (hg : 0 < w.heap.size) (hb : b.size < 4611686018427387904) :
    Calls Tryd.prog 48 #[.string b, .int .i64 p] w fun e w' => e = .returned (.tuple #[.int .i64 (prA b p).1, .string ⟨(prA b p).2.1.toArray⟩, .int .i64 (prA b p).2.2.1, .int .i64 (prA b p).2.2.2]) ∧ Below w.heap.size w w' := by
  unfold prA
  by_cases h : 0 ≤ p ∧ p ≤ b.size
  · rw [if_pos h]
    obtain ⟨a, rfl⟩ : ∃ a : Nat, p = a := ⟨p.toNat, by omega⟩
    exact parse_ok b a _ w ht hg hb (by omega) rfl
  · rw [if_neg h]
    go_enter Tryd.func48, Tryd.ntmps48
    go_wp2_with fail
    refine (isPlace_any _ _ _).mono ?_
    rintro e w1 ⟨rfl, rfl⟩
    rw [decide_eq_false h]
    clear h
    go_wp2
    refine bodyPost_ret (results_tmp4 rfl _ _ _) rfl ?_
    exact ⟨rfl, Below.refl _ _⟩
end Go.Proofs.YtjkhhjboejkafaaDoor
