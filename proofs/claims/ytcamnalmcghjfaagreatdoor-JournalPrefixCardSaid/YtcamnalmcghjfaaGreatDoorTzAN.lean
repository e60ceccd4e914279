/-
  DERIVED. SNext, SHead, SClone, SParse, SPm, as one text.
-/
import Derived.Test.YtcamnalmcghjfaaGreatDoorTzAK
import Derived.OwnWalk
import Derived.Lib.UnsafeStr
import Derived.Lib.BufferWrite
import Derived.Laws.MakeOwn
namespace Go.Proofs.YtcamnalmcghjfaaGreatDoor
open Go.RowKit Go.Proofs.SealMath
/-- The text and the place that the literal holds. -/
structure Fld (W : World) (b : ByteArray) (a g : Nat) : Prop where
  text : W.cell? ⟨g, 0, none⟩ = some (.string b)
  place : W.cell? ⟨g + 1, 0, none⟩ = some (.int .i64 a)
  free : W.frozen? ⟨g + 1, 0, none⟩ = false
theorem Fld.below {W W' : World} {b : ByteArray} {a g B : Nat} (h : Fld W b a g) (hb : Below B W W') (hg : g + 1 < B) : Fld W' b a g :=
  ⟨(hb.cell (p := ⟨g, 0, none⟩) (by show g < B; omega)).trans h.text, (hb.cell (p := ⟨g + 1, 0, none⟩) hg).trans h.place, (hb.frozen (p := ⟨g + 1, 0, none⟩) hg).trans h.free⟩
theorem Fld.size {W : World} {b : ByteArray} {a g : Nat} (h : Fld W b a g) : g + 1 < W.heap.size := World.block_lt_of_cell? W _ h.place
theorem Fld.set {W : World} {b : ByteArray} {a g : Nat} (h : Fld W b a g) (c : Nat) : Fld (W.setCell ⟨g + 1, 0, none⟩ (.int .i64 c)) b c g :=
  ⟨(World.cell?_setCell_other _ _ _ _ (fun he => by cases he)).trans h.text, World.cell?_setCell_same _ _ _ h.place, (World.frozen?_setCell _ _ _ _).trans h.free⟩
/-- Where the literal stands behind a field of n bytes; what it tells. -/
def nxA (b : ByteArray) (a n : Nat) : Nat := if a + n ≤ b.size then a + n else b.size
def nxT (b : ByteArray) (a n : Nat) : ByteArray := if a + n ≤ b.size then b.extract a (a + n) else ⟨#[]⟩
abbrev lit (g : Nat) : Value := .func (.func 107) #[] #[.pointer (some ⟨g, 0, none⟩), .pointer (some ⟨g + 1, 0, none⟩)]
set_option maxRecDepth 100000 in
set_option maxHeartbeats 1000000 in
theorem next_any (b : ByteArray) (a n g B : Nat) (w : World) (hF : Fld w b a g) (ha : a ≤ b.size) (hb : b.size < 4611686018427387904) (hn : n < 4611686018427387904) (hB : B ≤ g) :
    Calls Tryz.prog 107 #[.int .i64 n, .pointer (some ⟨g, 0, none⟩), .pointer (some ⟨g + 1, 0, none⟩)] w fun e w' => e = .returned (.string (nxT b a n)) ∧ Fld w' b (nxA b a n) g ∧ Below B w w' ∧ w'.heap.size = w.heap.size := by
  have h1 := hF.text
  have h2 := hF.place
  have h3 := hF.free
  unfold nxT nxA
  by_cases h : a + n ≤ b.size
  · rw [if_pos h, if_pos h]
    go_enter Tryz.func107, Tryz.ntmps107
    go_wp2
    go_ret
    exact ⟨rfl, hF.set (a + n), (Below.refl _ w).setCell (p := ⟨g + 1, 0, none⟩) (by show B ≤ g + 1; omega) _, by simp⟩
  · rw [if_neg h, if_neg h]
    go_enter Tryz.func107, Tryz.ntmps107
    go_wp2
    go_ret
    exact ⟨rfl, hF.set b.size, (Below.refl _ w).setCell (p := ⟨g + 1, 0, none⟩) (by show B ≤ g + 1; omega) _, by simp⟩
theorem nxA_le (b : ByteArray) (a n : Nat) : nxA b a n ≤ b.size := by unfold nxA; split <;> omega
theorem nxT_list (b : ByteArray) (a n : Nat) (h : a + n ≤ b.size) : (nxT b a n).data.toList = sub b a n := by
  unfold nxT sub; rw [if_pos h, ByteArray.data_extract, Array.toList_extract, List.extract_eq_take_drop]
  congr 1; omega
theorem ba_size (T : ByteArray) : T.size = T.data.toList.length := Array.length_toList.symm
theorem nxT_size (b : ByteArray) (a n : Nat) (h : a + n ≤ b.size) : (nxT b a n).size = n := by rw [ba_size, nxT_list b a n h, sub_len b a n h]
theorem nxA_yes (b : ByteArray) (a n : Nat) (h : a + n ≤ b.size) : nxA b a n = a + n := by unfold nxA; rw [if_pos h]
theorem nxT_no (b : ByteArray) (a n : Nat) (h : ¬ a + n ≤ b.size) : nxT b a n = ⟨#[]⟩ := by unfold nxT; rw [if_neg h]
theorem told_none (b : ByteArray) (a m n o : Nat) (h : b.size < a + m + n + o) (ho : 0 < o) : nxT b (nxA b (nxA b a m) n) o = ⟨#[]⟩ := by
  apply nxT_no
  unfold nxA
  split <;> split <;> omega
theorem told_none2 (b : ByteArray) (a m o : Nat) (h : b.size < a + m + o) (ho : 0 < o) : nxT b (nxA b a m) o = ⟨#[]⟩ := by
  apply nxT_no
  unfold nxA
  split <;> omega
theorem sub_add (b : ByteArray) (a m n : Nat) : sub b a (m + n) = sub b a m ++ sub b (a + m) n := by
  unfold sub; rw [List.take_add, List.drop_drop]
/-- What head answers. -/
def hdA (b : ByteArray) (a : Nat) : Nat × Nat × Nat × Int :=
  if b.size ≤ a then (0, 0, 0, 31)
  else if sub b a 1 = [167] then
    if b.size < a + 10 then (0, 0, 0, 31)
    else if sub b (a + 6) 4 = lowL (crc 0 (sub b a 6)) then
      if numL (sub b (a + 1) 1) = 0 then (0, 0, 0, 35)
      else if numL (sub b (a + 2) 4) ≤ 65536 then (numL (sub b (a + 1) 1), numL (sub b (a + 2) 4), crc 0 (sub b a 6), 0)
      else (0, 0, 0, 36)
    else (0, 0, 0, 34)
  else (0, 0, 0, 33)
theorem one_ba (T : ByteArray) (c : UInt8) (h : T.data.toList = [c]) : T = ⟨#[c]⟩ := ba_ext (by rw [h])
end Go.Proofs.YtcamnalmcghjfaaGreatDoor
namespace Go.Proofs.YtcamnalmcghjfaaGreatDoor
open Go.RowKit Go.Proofs.SealMath
/-- Four results. -/
theorem results_tmp4 {fn : Func} {t u v x : Tmp} (h : fn.results = #[.tmp t, .tmp u, .tmp v, .tmp x]) (tmps : Array Value) (P : Program) (w : World) :
    (results fn tmps).run P w = .ok (.tuple #[tmps.getD t undef, tmps.getD u undef, tmps.getD v undef, tmps.getD x undef]) w := by
  simp [results, h]
theorem toL (T : ByteArray) : T.toList = T.data.toList := ByteArray.toList_eq T
set_option maxRecDepth 100000 in
set_option maxHeartbeats 4000000 in
theorem head_31 (b : ByteArray) (a g B : Nat) (w : World) (hF : Fld w b a g) (ha : a = b.size) (hb : b.size < 4611686018427387904) (hB : B ≤ g) :
    Calls Tryz.prog 90 #[lit g] w fun e w' => e = .returned (.tuple #[.int .i64 0, .int .i64 0, .int .u32 0, .int .i64 31]) ∧ Below B w w' := by
  have hT : (nxT b a 1).toList = [] := by rw [nxT_no b a 1 (by omega), toL]
  go_enter Tryz.func90, Tryz.ntmps90
  go_wp2_with fail
  refine (next_any b a 1 g B _ hF (by omega) hb (by omega) hB).mono ?_
  rintro e w1 ⟨rfl, f1, b1, s1⟩
  generalize nxT b a 1 = T1 at *
  go_wp2
  refine bodyPost_ret (results_tmp4 rfl _ _ _) rfl ?_
  exact ⟨rfl, b1⟩
set_option maxRecDepth 100000 in
set_option maxHeartbeats 4000000 in
theorem head_33 (b : ByteArray) (a g B : Nat) (w : World) (hF : Fld w b a g) (ha : a < b.size) (h1 : sub b a 1 ≠ [167]) (hb : b.size < 4611686018427387904) (hB : B ≤ g) :
    Calls Tryz.prog 90 #[lit g] w fun e w' => e = .returned (.tuple #[.int .i64 0, .int .i64 0, .int .u32 0, .int .i64 33]) ∧ Below B w w' := by
  have hT0 : (nxT b a 1).toList = sub b a 1 := by rw [toL, nxT_list b a 1 (by omega)]
  have hT : ((nxT b a 1).toList == [167]) = false := by rw [hT0, beq_eq_false_iff_ne]; exact h1
  have hE : (nxT b a 1).toList.isEmpty = false := by
    rw [hT0]; have := sub_len b a 1 (by omega)
    cases h : sub b a 1 with
    | nil => rw [h] at this; simp at this
    | cons c l => rfl
  clear hT0 h1
  go_enter Tryz.func90, Tryz.ntmps90
  go_wp2_with fail
  refine (next_any b a 1 g B _ hF (by omega) hb (by omega) hB).mono ?_
  rintro e w1 ⟨rfl, f1, b1, s1⟩
  generalize nxT b a 1 = T1 at *
  go_wp2
  refine bodyPost_ret (results_tmp4 rfl _ _ _) rfl ?_
  exact ⟨rfl, b1⟩
set_option maxRecDepth 100000 in
set_option maxHeartbeats 4000000 in
theorem head_31b (b : ByteArray) (a g B : Nat) (w : World) (hF : Fld w b a g) (ha : a < b.size) (h1 : sub b a 1 = [167]) (h10 : b.size < a + 10) (hb : b.size < 4611686018427387904) (hB : B ≤ g) :
    Calls Tryz.prog 90 #[lit g] w fun e w' => e = .returned (.tuple #[.int .i64 0, .int .i64 0, .int .u32 0, .int .i64 31]) ∧ Below B w w' := by
  have hT : (nxT b a 1).toList = [167] := by rw [toL, nxT_list b a 1 (by omega), h1]
  have hD : (nxT b (nxA b (nxA b (a + 1) 1) 4) 4).toList = [] := by rw [told_none b (a + 1) 1 4 4 (by omega) (by omega), toL]
  clear h1
  go_enter Tryz.func90, Tryz.ntmps90
  go_wp2_with fail
  refine (next_any b a 1 g B _ hF (by omega) hb (by omega) hB).mono ?_
  rintro e w1 ⟨rfl, f1, b1, s1⟩
  generalize nxT b a 1 = T1 at *
  go_wp2_with fail
  refine (next_any b (a + 1) 1 g B _ (by rw [nxA_yes b a 1 (by omega)] at f1; exact f1) (by omega) hb (by omega) hB).mono ?_
  rintro e w2 ⟨rfl, f2, b2, s2⟩
  have hn2 := nxA_le b (a + 1) 1
  generalize nxT b (a + 1) 1 = T2 at *
  generalize nxA b (a + 1) 1 = a2 at *
  go_wp2_with fail
  refine (next_any b a2 4 g B _ f2 hn2 hb (by omega) hB).mono ?_
  rintro e w3 ⟨rfl, f3, b3, s3⟩
  have hn3 := nxA_le b a2 4
  generalize nxT b a2 4 = T3 at *
  generalize nxA b a2 4 = a3 at *
  go_wp2_with fail
  refine (next_any b a3 4 g B _ f3 hn3 hb (by omega) hB).mono ?_
  rintro e w4 ⟨rfl, f4, b4, s4⟩
  generalize nxT b a3 4 = T4 at *
  go_wp2
  refine bodyPost_ret (results_tmp4 rfl _ _ _) rfl ?_
  exact ⟨rfl, ((b1.trans b2).trans b3).trans b4⟩
theorem sub_one (b : ByteArray) (a : Nat) (h : a + 1 ≤ b.size) : ∃ c, sub b a 1 = [c] := by
  have := sub_len b a 1 h
  cases hs : sub b a 1 with
  | nil => rw [hs] at this; simp at this
  | cons c l => rw [hs] at this; simp at this; rw [this]; exact ⟨c, rfl⟩
theorem sub_whole (T : ByteArray) (l : List UInt8) (h : T.data.toList = l) (n : Nat) (hn : l.length = n) : sub T 0 n = l := by
  unfold sub; rw [h, List.drop_zero, List.take_of_length_le (by omega)]
set_option maxRecDepth 100000 in
set_option maxHeartbeats 8000000 in
theorem head_10 (b : ByteArray) (a g B : Nat) (w : World) (hF : Fld w b a g) (ha : a + 10 ≤ b.size) (h1 : sub b a 1 = [167]) (hb : b.size < 4611686018427387904) (hB : B ≤ g) (ht : Tab w) (hB0 : 0 < B) (R : Nat × Nat × Nat × Int)
    (hR : R = if sub b (a + 6) 4 = lowL (crc 0 (sub b a 6)) then
      if numL (sub b (a + 1) 1) = 0 then (0, 0, 0, 35)
      else if numL (sub b (a + 2) 4) ≤ 65536 then (numL (sub b (a + 1) 1), numL (sub b (a + 2) 4), crc 0 (sub b a 6), 0)
      else (0, 0, 0, 36)
    else (0, 0, 0, 34)) :
    Calls Tryz.prog 90 #[lit g] w fun e w' => e = .returned (.tuple #[.int .i64 R.1, .int .i64 R.2.1, .int .u32 R.2.2.1, .int .i64 R.2.2.2]) ∧ Fld w' b (a + 10) g ∧ Below B w w' := by
  have hT : (nxT b a 1).toList = [167] := by rw [toL, nxT_list b a 1 (by omega), h1]
  have H1 : Hid (sub b a 1 = [167]) := h1
  have HR : Hid (R = if sub b (a + 6) 4 = lowL (crc 0 (sub b a 6)) then
      if numL (sub b (a + 1) 1) = 0 then (0, 0, 0, 35)
      else if numL (sub b (a + 2) 4) ≤ 65536 then (numL (sub b (a + 1) 1), numL (sub b (a + 2) 4), crc 0 (sub b a 6), 0)
      else (0, 0, 0, 36)
    else (0, 0, 0, 34)) := hR
  clear h1 hR
  go_enter Tryz.func90, Tryz.ntmps90
  go_wp2_with fail
  refine (next_any b a 1 g B _ hF (by omega) hb (by omega) hB).mono ?_
  rintro e w1 ⟨rfl, f1, b1, s1⟩
  rw [nxA_yes b a 1 (by omega)] at f1
  generalize nxT b a 1 = T1 at *
  go_wp2_with fail
  refine (next_any b (a + 1) 1 g B _ f1 (by omega) hb (by omega) hB).mono ?_
  rintro e w2 ⟨rfl, f2, b2, s2⟩
  rw [nxA_yes b (a + 1) 1 (by omega)] at f2
  have l2 := nxT_list b (a + 1) 1 (by omega)
  obtain ⟨c, hc⟩ := sub_one b (a + 1) (by omega)
  rw [hc] at l2
  have e2 := one_ba _ c l2
  rw [e2]
  clear l2 e2
  go_wp2_with fail
  refine (next_any b (a + 2) 4 g B _ f2 (by omega) hb (by omega) hB).mono ?_
  rintro e w3 ⟨rfl, f3, b3, s3⟩
  rw [nxA_yes b (a + 2) 4 (by omega)] at f3
  obtain ⟨T3, e3⟩ : ∃ T, T = nxT b (a + 2) 4 := ⟨_, rfl⟩
  have L3 : Hid (T3.data.toList = sub b (a + 2) 4) := by show _ = _; rw [e3]; exact nxT_list b (a + 2) 4 (by omega)
  have s3' : T3.size = 4 := by rw [e3]; exact nxT_size b (a + 2) 4 (by omega)
  rw [← e3]
  clear e3
  go_wp2_with fail
  refine (next_any b (a + 6) 4 g B _ f3 (by omega) hb (by omega) hB).mono ?_
  rintro e w4 ⟨rfl, f4, b4, s4⟩
  rw [nxA_yes b (a + 6) 4 (by omega)] at f4
  obtain ⟨T4, e4⟩ : ∃ T, T = nxT b (a + 6) 4 := ⟨_, rfl⟩
  have L4 : Hid (T4.toList = sub b (a + 6) 4) := by show _ = _; rw [e4, toL]; exact nxT_list b (a + 6) 4 (by omega)
  have s4' : T4.toList.isEmpty = false := by
    have := nxT_size b (a + 6) 4 (by omega)
    rw [ba_size, ← toL, ← e4] at this
    cases h : T4.toList with
    | nil => rw [h] at this; simp at this
    | cons c l => rfl
  rw [← e4]
  clear e4
  have b14 := ((b1.trans b2).trans b3).trans b4
  go_wp2_with fail
  obtain ⟨S, hS⟩ : ∃ S : ByteArray, S = ⟨#[167]⟩ ++ ⟨#[c]⟩ ++ T3 := ⟨_, rfl⟩
  rw [← hS]
  have hSl : S.data.toList = sub b a 6 := by
    rw [hS, ByteArray.data_append, ByteArray.data_append, Array.toList_append, Array.toList_append, L3.out, sub_add b a 1 5, H1.out, sub_add b (a + 1) 1 4, hc]; rfl
  have hSs : S.size = 6 := by rw [ba_size, hSl, sub_len b a 6 (by omega)]
  clear hS
  have HC : Hid (sub b (a + 1) 1 = [c]) := hc
  clear hc
  refine (sum_any S w4 (ht.below b14 hB0) (by omega)).mono ?_
  rintro e w5 ⟨rfl, rfl⟩
  rw [hSl]
  clear hSl
  have hsl := crc_lt (s := 0) (sub b a 6) (by omega)
  obtain ⟨s, hs⟩ : ∃ s, s = crc 0 (sub b a 6) := ⟨_, rfl⟩
  rw [← hs]
  rw [← hs] at hsl
  have HS : Hid (s = crc 0 (sub b a 6)) := hs
  clear hs
  go_wp2_with fail
  refine (low_any s w5 hsl).mono ?_
  rintro e w6 ⟨rfl, b6⟩
  have hgz := f4.size
  have f6 := f4.below b6 hgz
  have b16 := b14.trans (b6.mono (by omega))
  have hn6 := numL_sub_lt b (a + 2) 4 4 (by omega) (by omega)
  have hR := HR.out
  have hc0 : ((⟨#[c]⟩ : ByteArray)[0]'(Nat.lt_succ_self 0)).toNat = c.toNat := rfl
  have hcl := c.toNat_lt
  have hcn : numL (sub b (a + 1) 1) = c.toNat := by rw [HC.out]; simp [numL]
  rw [hcn] at hR
  clear HR hcn
  by_cases hq : sub b (a + 6) 4 = lowL (crc 0 (sub b a 6))
  · rw [if_pos hq] at hR
    have hEq : T4.toList = lowL s := by rw [L4.out, hq, HS.out]
    clear hq
    by_cases hz : c.toNat = 0
    · rw [if_pos hz] at hR
      subst hR
      go_wp2
      refine bodyPost_ret (results_tmp4 rfl _ _ _) rfl ?_
      exact ⟨rfl, f6, b16⟩
    · rw [if_neg hz] at hR
      go_wp2_with fail
      refine (fix_ok T3 0 4 w6 (by omega) (by omega) (by omega) (by omega)).mono ?_
      rintro e w7 ⟨rfl, rfl⟩
      rw [sub_whole T3 _ L3.out 4 (sub_len b (a + 2) 4 (by omega))]
      have hn : numL (sub b (a + 2) 4) < 4294967296 := hn6
      clear hn6
      obtain ⟨n, hnE⟩ : ∃ n, n = numL (sub b (a + 2) 4) := ⟨_, rfl⟩
      rw [← hnE] at hR hn ⊢
      clear hnE
      by_cases h6 : n ≤ 65536
      · rw [if_pos h6, ← HS.out] at hR
        subst hR
        go_wp2
        refine bodyPost_ret (results_tmp4 rfl _ _ _) rfl ?_
        exact ⟨rfl, f6, b16⟩
      · rw [if_neg h6] at hR
        subst hR
        go_wp2
        refine bodyPost_ret (results_tmp4 rfl _ _ _) rfl ?_
        exact ⟨rfl, f6, b16⟩
  · rw [if_neg hq] at hR
    subst hR
    have hEq : (T4.toList == lowL s) = false := by
      rw [L4.out, beq_eq_false_iff_ne, HS.out]; exact hq
    go_wp2
    refine bodyPost_ret (results_tmp4 rfl _ _ _) rfl ?_
    exact ⟨rfl, f6, b16⟩
/-- Behind head: where the literal stands, if it tells a payload's size. -/
theorem head_any (b : ByteArray) (a g B : Nat) (w : World) (hF : Fld w b a g) (ha : a ≤ b.size) (hb : b.size < 4611686018427387904) (hB : B ≤ g) (ht : Tab w) (hB0 : 0 < B) :
    Calls Tryz.prog 90 #[lit g] w fun e w' => e = .returned (.tuple #[.int .i64 (hdA b a).1, .int .i64 (hdA b a).2.1, .int .u32 (hdA b a).2.2.1, .int .i64 (hdA b a).2.2.2]) ∧ ((hdA b a).2.2.2 = 0 → Fld w' b (a + 10) g) ∧ Below B w w' := by
  unfold hdA
  by_cases h0 : b.size ≤ a
  · rw [if_pos h0]
    refine (head_31 b a g B w hF (by omega) hb hB).mono ?_
    rintro e w' ⟨rfl, b1⟩
    exact ⟨rfl, fun h => by simp at h, b1⟩
  · rw [if_neg h0]
    by_cases h1 : sub b a 1 = [167]
    · rw [if_pos h1]
      by_cases h10 : b.size < a + 10
      · rw [if_pos h10]
        refine (head_31b b a g B w hF (by omega) h1 h10 hb hB).mono ?_
        rintro e w' ⟨rfl, b1⟩
        exact ⟨rfl, fun h => by simp at h, b1⟩
      · rw [if_neg h10]
        refine (head_10 b a g B w hF (by omega) h1 hb hB ht hB0 _ rfl).mono ?_
        rintro e w' ⟨rfl, f1, b1⟩
        exact ⟨rfl, fun _ => f1, b1⟩
    · rw [if_neg h1]
      refine (head_33 b a g B w hF (by omega) h1 hb hB).mono ?_
      rintro e w' ⟨rfl, b1⟩
      exact ⟨rfl, fun h => by simp at h, b1⟩
end Go.Proofs.YtcamnalmcghjfaaGreatDoor
namespace Go.Proofs.YtcamnalmcghjfaaGreatDoor
open Go.RowKit
set_option maxHeartbeats 4000000 in
set_option maxRecDepth 100000 in
theorem lite_any (s : ByteArray) (w : World) (hs : s.size ≤ 65536) :
    Calls Tryz.prog 70 #[.string s] w fun e w' => e = .returned (.string s) ∧ Below w.heap.size w w' := by
  by_cases h0 : s.size = 0
  · obtain rfl : s = ⟨#[]⟩ := ByteArray.ext (Array.eq_empty_of_size_eq_zero h0)
    go_enter Tryz.func70, Tryz.ntmps70
    go_wp2
    go_ret
    exact ⟨rfl, Below.refl _ _⟩
  · obtain ⟨i0, hi, hz0, hz1, hz2⟩ := info_parts Tryz.info5
    obtain ⟨M, hM⟩ : ∃ M, M = madeCells (Value.int .u8 0).cells (((s.size : Nat) : Int).toNat * i0.size) := ⟨_, rfl⟩
    have hMs : M.size = s.size := by rw [hM, size_madeCells, hz1]; simp
    have hmk : ∀ W : World, (Instr.makeSlice 64 (.int .i64 (s.size : Int)) (.int .i64 (s.size : Int))).run Tryz.prog W = .ok (.slice (some ⟨W.heap.size, 0, none⟩) s.size s.size) (W.alloc (.cells M 5)) := fun W => by
      have h := run_make (P := Tryz.prog) W 64 5 i0 (.int .u8 0) Tryz.underlying64 hi hz0 .i64 .i64 (s.size : Int) (s.size : Int) (by omega) (by omega) (by rw [hz2]; omega) (by omega)
      rw [← hM] at h
      simpa using h
    clear hM
    have hcp := Lib.run_copy_row_string (P := Tryz.prog) (w.alloc (.cells M 5)) 64 9 3 5 w.heap.size 0 s.size s.size s M 5 Tryz.underlying64 (by rw [hi]; simp [hz1]) (heap_alloc_new w _) (Nat.le_refl _) (by omega)
    obtain ⟨Y, hY⟩ : ∃ Y, Y = (M.toList.take 0 ++ Lib.byteCells s.data.toList ++ M.toList.drop (0 + s.size)).toArray := ⟨_, rfl⟩
    rw [← hY] at hcp
    have hYl : Y.toList = Lib.byteCells s.data.toList := by
      rw [hY, List.toList_toArray, List.take_zero, List.nil_append, List.drop_of_length_le (by rw [Array.length_toList]; omega), List.append_nil]
    have hYs : Y.size = s.size := by rw [← Array.length_toList, hYl, Lib.byteCells_length, ← Lib.size_eq]
    have hgY : ((w.alloc (.cells M 5)).setRow w.heap.size Y).heap[w.heap.size]? = some (.cells Y 5 (0, 0)) := setRow_heap _ _ M _ 5 (0, 0) (heap_alloc_new w _)
    have hUS := Lib.run_unsafeString_row (P := Tryz.prog) ((w.alloc (.cells M 5)).setRow w.heap.size Y) 106 3 9 5 Tryz.underlying106 (by simp [Program.cellsOf, hi, hz1]) w.heap.size Y.size (by unfold World.shape?; rw [hgY]) s.data.toList (fun e => h0 (by rw [Lib.size_eq, e]; rfl)) (by rw [← Lib.size_eq]; omega) (by rw [← Lib.size_eq]; omega)
      (fun j x hx => Lib.cells_of_row hgY Y.size j _ (by rw [List.take_of_length_le (by rw [Array.length_toList]; exact Nat.le_refl _), hYl]; simp [Lib.byteCells, hx]))
    rw [← Lib.size_eq] at hUS
    clear hY
    go_enter Tryz.func70, Tryz.ntmps70
    go_wp2
    go_ret
    have hb2 : Below w.heap.size (w.alloc (.cells M 5)) ((w.alloc (.cells M 5)).setRow w.heap.size Y) := ⟨rfl, rfl, rfl, by simp, fun k hk => setRow_other _ _ _ _ (by omega)⟩
    exact ⟨rfl, Lib.below_freeze (((Below.refl _ w).alloc (Nat.le_refl _) _).trans hb2) (p := ⟨w.heap.size, 0, none⟩) (Nat.le_refl _) _⟩
theorem clone_any (s : ByteArray) (w : World) (hs : s.size ≤ 65536) :
    Calls Tryz.prog 51 #[.string s] w fun e w' => e = .returned (.string s) ∧ Below w.heap.size w w' := by
  go_enter Tryz.func51, Tryz.ntmps51
  go_wp2_with fail
  refine (lite_any s _ hs).mono ?_
  rintro e w1 ⟨rfl, b1⟩
  go_wp2
  go_ret
  exact ⟨rfl, b1⟩
end Go.Proofs.YtcamnalmcghjfaaGreatDoor
namespace Go.Proofs.YtcamnalmcghjfaaGreatDoor
open Go.RowKit Go.Proofs.SealMath
theorem ret4 {a b c d e f g h : Value} (h1 : a = e) (h2 : b = f) (h3 : c = g) (h4 : d = h) : Ending.returned (.tuple #[a, b, c, d]) = .returned (.tuple #[e, f, g, h]) := by rw [h1, h2, h3, h4]
theorem fld_new (w : World) (b : ByteArray) (a : Nat) : Fld ((w.alloc (Obj.cells #[Value.string b] 9)).alloc (Obj.cells #[Value.int IntKind.i64 a] 3)) b a w.heap.size := by
  have h1 := heap_alloc_last w (Obj.cells #[Value.string b] 9)
  have h2 := heap_alloc_last (w.alloc (Obj.cells #[Value.string b] 9)) (Obj.cells #[Value.int IntKind.i64 a] 3)
  have e : (w.alloc (Obj.cells #[Value.string b] 9)).heap.size = w.heap.size + 1 := by simp
  rw [e] at h2
  refine ⟨?_, ?_, frozen_of_row _ _ _ _ _ h2⟩
  · rw [World.cell?_alloc_lt _ _ _ (by simp), cell_of_row _ _ 0 _ 9 (0, 0) h1]; rfl
  · rw [cell_of_row _ _ 0 _ 3 (0, 0) h2]; rfl
set_option maxRecDepth 100000 in
theorem fields_any (b : ByteArray) (a : Nat) (w : World) :
    Calls Tryz.prog 89 #[.string b, .int .i64 a] w fun e w' => e = .returned (lit w.heap.size) ∧ Fld w' b a w.heap.size ∧ Below w.heap.size w w' := by
  have hmf : ∀ (fn : Fn) (first cap : Array Value) (w : World), (Instr.makeFunc fn first cap).run Tryz.prog w = .ok (.func fn first cap) w := fun _ _ _ _ => rfl
  go_enter Tryz.func89, Tryz.ntmps89
  go_wp2
  go_ret
  exact ⟨rfl, fld_new w b a, ((Below.refl _ w).alloc (Nat.le_refl _) _).alloc (by simp) _⟩
/-- What Parse answers at a place. -/
def psA (b : ByteArray) (a : Nat) : Nat × List UInt8 × Nat × Int :=
  if (hdA b a).2.2.2 = 0 then
    if b.size < a + 14 + (hdA b a).2.1 then (0, [], 0, 31)
    else if sub b (a + 10 + (hdA b a).2.1) 4 = lowL (crc (hdA b a).2.2.1 (sub b (a + 10) (hdA b a).2.1)) then ((hdA b a).1, sub b (a + 10) (hdA b a).2.1, a + 14 + (hdA b a).2.1, 0)
    else (0, [], 0, 34)
  else (0, [], 0, (hdA b a).2.2.2)
theorem hdA_ok (b : ByteArray) (a : Nat) (h : (hdA b a).2.2.2 = 0) : a + 10 ≤ b.size ∧ (hdA b a).2.1 ≤ 65536 ∧ (hdA b a).1 ≤ 255 ∧ (hdA b a).2.2.1 < 4294967296 := by
  unfold hdA at h ⊢
  split at h
  · simp at h
  · split at h
    · split at h
      · simp at h
      · split at h
        · split at h
          · simp at h
          · split at h
            · rename_i h1 h2 h3 h4 h5 h6
              rw [if_neg h1, if_pos h2, if_neg h3, if_pos h4, if_neg h5, if_pos h6]
              have := numL_sub_lt b (a + 1) 1 1 (by omega) (by omega)
              exact ⟨by omega, h6, by show numL _ ≤ 255; omega, crc_lt _ (by omega)⟩
            · simp at h
        · simp at h
    · simp at h
set_option maxRecDepth 100000 in
set_option maxHeartbeats 8000000 in
theorem parse_ok (b : ByteArray) (a : Nat) (R : Nat × List UInt8 × Nat × Int) (w : World) (ht : Tab w) (hg : 0 < w.heap.size) (hb : b.size < 4611686018427387904) (ha : a ≤ b.size) (hR : R = psA b a) :
    Calls Tryz.prog 79 #[.string b, .int .i64 a] w fun e w' => e = .returned (.tuple #[.int .i64 R.1, .string ⟨R.2.1.toArray⟩, .int .i64 R.2.2.1, .int .i64 R.2.2.2]) ∧ Below w.heap.size w w' := by
  have HR : Hid (R = psA b a) := hR
  clear hR
  go_enter Tryz.func79, Tryz.ntmps79
  go_wp2_with fail
  refine (isPlace_any _ _ _).mono ?_
  rintro e w0 ⟨rfl, rfl⟩
  rw [decide_eq_true (by omega : 0 ≤ (a : Int) ∧ (a : Int) ≤ b.size)]
  go_wp2_with fail
  refine (fields_any b a w0).mono ?_
  rintro e w1 ⟨rfl, f1, b1⟩
  go_wp2_with fail
  refine (head_any b a w0.heap.size w0.heap.size w1 f1 ha hb (Nat.le_refl _) (ht.below b1 hg) hg).mono ?_
  rintro e w2 ⟨rfl, f2, b2⟩
  have hok := hdA_ok b a
  have hR := HR.out
  unfold psA at hR
  clear HR
  obtain ⟨⟨k, n, s, x⟩, hH⟩ : ∃ H, H = hdA b a := ⟨_, rfl⟩
  rw [← hH] at hR hok f2 ⊢
  clear hH
  dsimp only at hR hok f2 ⊢
  have b12 := b1.trans b2
  by_cases hx : x = 0
  · subst hx
    rw [if_pos rfl] at hR
    obtain ⟨ha10, hn, hk, hs⟩ := hok rfl
    have f2' := f2 rfl
    clear hok f2
    go_wp2_with fail
    refine (next_any b (a + 10) n w0.heap.size w0.heap.size _ f2' (by omega) hb (by omega) (Nat.le_refl _)).mono ?_
    rintro e w3 ⟨rfl, f3, b3, s3⟩
    by_cases h14 : b.size < a + 14 + n
    · rw [if_pos h14] at hR
      subst hR
      have hD : (nxT b (nxA b (a + 10) n) 4).toList = [] := by rw [told_none2 b (a + 10) n 4 (by omega) (by omega), toL]
      have hn3 := nxA_le b (a + 10) n
      generalize nxT b (a + 10) n = T1 at *
      generalize nxA b (a + 10) n = a3 at *
      go_wp2_with fail
      refine (next_any b a3 4 w0.heap.size w0.heap.size _ f3 hn3 hb (by omega) (Nat.le_refl _)).mono ?_
      rintro e w4 ⟨rfl, f4, b4, s4⟩
      generalize nxT b a3 4 = T2 at *
      go_wp2
      refine bodyPost_ret (results_tmp4 rfl _ _ _) rfl ?_
      exact ⟨rfl, (b12.trans b3).trans b4⟩
    · rw [if_neg h14] at hR
      rw [nxA_yes b (a + 10) n (by omega)] at f3
      obtain ⟨T1, e1⟩ : ∃ T, T = nxT b (a + 10) n := ⟨_, rfl⟩
      have L1 := nxT_list b (a + 10) n (by omega)
      have s1 := nxT_size b (a + 10) n (by omega)
      rw [← e1] at L1 s1 ⊢
      clear e1
      go_wp2_with fail
      refine (next_any b (a + 10 + n) 4 w0.heap.size w0.heap.size _ f3 (by omega) hb (by omega) (Nat.le_refl _)).mono ?_
      rintro e w4 ⟨rfl, f4, b4, s4⟩
      obtain ⟨T2, e2⟩ : ∃ T, T = nxT b (a + 10 + n) 4 := ⟨_, rfl⟩
      have L2 : Hid (T2.toList = sub b (a + 10 + n) 4) := by show _ = _; rw [e2, toL]; exact nxT_list b (a + 10 + n) 4 (by omega)
      have s2 : T2.toList.isEmpty = false := by
        have := nxT_size b (a + 10 + n) 4 (by omega)
        rw [ba_size, ← toL, ← e2] at this
        cases h : T2.toList with
        | nil => rw [h] at this; simp at this
        | cons c l => rfl
      rw [← e2]
      clear e2
      have b14 := (b12.trans b3).trans b4
      have HL1 : Hid (T1.data.toList = sub b (a + 10) n) := L1
      clear L1
      go_wp2_with fail
      refine (on_any s T1 w4 (ht.below b14 hg) hs (by omega)).mono ?_
      rintro e w5 ⟨rfl, rfl⟩
      rw [HL1.out]
      have htl := crc_lt (s := s) (sub b (a + 10) n) hs
      obtain ⟨t, hts⟩ : ∃ t, t = crc s (sub b (a + 10) n) := ⟨_, rfl⟩
      rw [← hts] at htl hR ⊢
      clear hts
      go_wp2_with fail
      refine (low_any t w5 htl).mono ?_
      rintro e w6 ⟨rfl, b6⟩
      have b16 := chain b14 b6 (Nat.le_refl _)
      by_cases hq : sub b (a + 10 + n) 4 = lowL t
      · rw [if_pos hq] at hR
        have hEq : T2.toList = lowL t := by rw [L2.out, hq]
        rw [← HL1.out] at hR
        subst hR
        clear hq
        go_wp2_with fail
        refine (clone_any T1 w6 (by omega)).mono ?_
        rintro e w7 ⟨rfl, b7⟩
        go_wp2
        refine bodyPost_ret (results_tmp4 rfl _ _ _) rfl ?_
        refine ⟨ret4 rfl rfl (ival ?_) rfl, chain b16 b7 (Nat.le_refl _)⟩
        show (a : Int) + 10 + n + 4 = ((a + 14 + n : Nat) : Int)
        omega
      · rw [if_neg hq] at hR
        subst hR
        have hEq : (T2.toList == lowL t) = false := by rw [L2.out, beq_eq_false_iff_ne]; exact hq
        go_wp2
        refine bodyPost_ret (results_tmp4 rfl _ _ _) rfl ?_
        exact ⟨rfl, b16⟩
  · rw [if_neg hx] at hR
    subst hR
    go_wp2
    refine bodyPost_ret (results_tmp4 rfl _ _ _) rfl ?_
    exact ⟨rfl, b12⟩
/-- What Parse answers. -/
def prA (b : ByteArray) (p : Int) : Nat × List UInt8 × Nat × Int := if 0 ≤ p ∧ p ≤ b.size then psA b p.toNat else (0, [], 0, 13)
set_option maxRecDepth 100000 in
set_option maxHeartbeats 1000000 in
theorem parse_any (b : ByteArray) (p : Int) (w : World) (ht : Tab w) (hg : 0 < w.heap.size) (hb : b.size < 4611686018427387904) :
    Calls Tryz.prog 79 #[.string b, .int .i64 p] w fun e w' => e = .returned (.tuple #[.int .i64 (prA b p).1, .string ⟨(prA b p).2.1.toArray⟩, .int .i64 (prA b p).2.2.1, .int .i64 (prA b p).2.2.2]) ∧ Below w.heap.size w w' := by
  unfold prA
  by_cases h : 0 ≤ p ∧ p ≤ b.size
  · rw [if_pos h]
    obtain ⟨a, rfl⟩ : ∃ a : Nat, p = a := ⟨p.toNat, by omega⟩
    exact parse_ok b a _ w ht hg hb (by omega) rfl
  · rw [if_neg h]
    go_enter Tryz.func79, Tryz.ntmps79
    go_wp2_with fail
    refine (isPlace_any _ _ _).mono ?_
    rintro e w1 ⟨rfl, rfl⟩
    rw [decide_eq_false h]
    clear h
    go_wp2
    refine bodyPost_ret (results_tmp4 rfl _ _ _) rfl ?_
    exact ⟨rfl, Below.refl _ _⟩
end Go.Proofs.YtcamnalmcghjfaaGreatDoor
namespace Go.Proofs.YtcamnalmcghjfaaGreatDoor
open Go.RowKit Go.Proofs.SealMath
theorem numL_four (a b c d : UInt8) : numL [a, b, c, d] = 16777216 * a.toNat + 65536 * b.toNat + 256 * c.toNat + d.toNat := by
  simp only [numL, List.foldl_cons, List.foldl_nil]; omega
theorem fixL_four (n : Nat) : fixL n 4 = [UInt8.ofNat (n / 16777216 % 256), UInt8.ofNat (n / 65536 % 256), UInt8.ofNat (n / 256 % 256), UInt8.ofNat (n % 256)] := by
  have e : List.range 4 = [0, 1, 2, 3] := by decide
  unfold fixL fxB; rw [e]; simp
theorem num_fix (n : Nat) (h : n < 4294967296) : numL (fixL n 4) = n := by
  rw [fixL_four, numL_four, u8n, u8n, u8n, u8n]; omega
theorem four_of (l : List UInt8) (h : l.length = 4) : ∃ a b c d, l = [a, b, c, d] := by
  match l, h with
  | [a, b, c, d], _ => exact ⟨a, b, c, d, rfl⟩
theorem fix_num (l : List UInt8) (h : l.length = 4) : fixL (numL l) 4 = l := by
  obtain ⟨a, b, c, d, rfl⟩ := four_of l h
  have ha := a.toNat_lt; have hb := b.toNat_lt; have hc := c.toNat_lt; have hd := d.toNat_lt
  rw [fixL_four, numL_four]
  simp only [List.cons.injEq, and_true]
  refine ⟨?_, ?_, ?_, ?_⟩ <;> apply UInt8.toNat_inj.1 <;> rw [u8n] <;> omega
theorem num_one (c : UInt8) : numL [c] = c.toNat := by simp [numL]
theorem of_one (c : UInt8) : UInt8.ofNat (numL [c]) = c := by rw [num_one]; apply UInt8.toNat_inj.1; rw [u8n]; exact Nat.mod_eq_of_lt c.toNat_lt
/-- Where head tells no refusal. -/
theorem hdA_yes (b : ByteArray) (a : Nat) (h : (hdA b a).2.2.2 = 0) : a + 10 ≤ b.size ∧ ∃ k n, 1 ≤ k ∧ k ≤ 255 ∧ n ≤ 65536 ∧ hdA b a = (k, n, crc 0 (hdL k n), 0) ∧ sub b a 6 = hdL k n ∧ sub b (a + 6) 4 = lowL (crc 0 (hdL k n)) := by
  unfold hdA at h
  split at h
  · simp at h
  · split at h
    · split at h
      · simp at h
      · split at h
        · split at h
          · simp at h
          · split at h
            · rename_i h1 h2 h3 h4 h5 h6
              have e : hdA b a = (numL (sub b (a + 1) 1), numL (sub b (a + 2) 4), crc 0 (sub b a 6), 0) := by
                unfold hdA; rw [if_neg h1, if_pos h2, if_neg h3, if_pos h4, if_neg h5, if_pos h6]
              obtain ⟨c, hc⟩ := sub_one b (a + 1) (by omega)
              have hl := c.toNat_lt
              have h6' : sub b a 6 = hdL (numL (sub b (a + 1) 1)) (numL (sub b (a + 2) 4)) := by
                unfold hdL
                rw [fix_num _ (sub_len b (a + 2) 4 (by omega)), sub_add b a 1 5, h2, sub_add b (a + 1) 1 4, hc, of_one]; rfl
              rw [hc, num_one] at h5
              refine ⟨by omega, numL (sub b (a + 1) 1), numL (sub b (a + 2) 4), by rw [hc, num_one]; omega, by rw [hc, num_one]; omega, h6, by rw [e, ← h6'], h6', by rw [← h6']; exact h4⟩
            · simp at h
        · simp at h
    · simp at h
/-- What Parse takes is a frame. -/
theorem psA_yes (b : ByteArray) (a : Nat) (h : (psA b a).2.2.2 = 0) : ∃ k p, 1 ≤ k ∧ k ≤ 255 ∧ p.length ≤ 65536 ∧ a + (p.length + 14) ≤ b.size ∧ psA b a = (k, p, a + (p.length + 14), 0) ∧ sub b a (p.length + 14) = frL k p := by
  unfold psA at h ⊢
  by_cases h0 : (hdA b a).2.2.2 = 0
  · rw [if_pos h0] at h ⊢
    obtain ⟨h10, k, n, hk1, hk2, hn, e, e6, e4⟩ := hdA_yes b a h0
    rw [e] at h ⊢
    dsimp only at h ⊢
    by_cases h14 : b.size < a + 14 + n
    · rw [if_pos h14] at h; simp at h
    · rw [if_neg h14] at h ⊢
      by_cases hq : sub b (a + 10 + n) 4 = lowL (crc (crc 0 (hdL k n)) (sub b (a + 10) n))
      · rw [if_pos hq]
        have hl := sub_len b (a + 10) n (by omega)
        refine ⟨k, sub b (a + 10) n, hk1, hk2, by omega, by omega, by rw [hl, show a + 14 + n = a + (n + 14) by omega], ?_⟩
        unfold frL
        rw [hl, show n + 14 = 6 + 4 + n + 4 by omega, sub_add b a (6 + 4 + n) 4, sub_add b a (6 + 4) n, sub_add b a 6 4, e6, e4, show a + (6 + 4 + n) = a + 10 + n by omega, hq, crc_append]
      · rw [if_neg hq] at h; simp at h
  · rw [if_neg h0] at h; exact absurd h h0
theorem sub_part (b : ByteArray) (a n i m : Nat) (l : List UInt8) (h : sub b a n = l) (him : i + m ≤ n) : sub b (a + i) m = (l.drop i).take m := by
  subst h; unfold sub
  rw [List.drop_take, List.take_take, List.drop_drop]
  congr 1; omega
theorem lowL_len (s : Nat) : (lowL s).length = 4 := rfl
/-- A frame is taken, wherever it stands. -/
theorem psA_frame (b : ByteArray) (a k : Nat) (p : List UInt8) (hk1 : 1 ≤ k) (hk2 : k ≤ 255) (hp : p.length ≤ 65536) (hs : a + (p.length + 14) ≤ b.size) (h : sub b a (p.length + 14) = frL k p) :
    psA b a = (k, p, a + (p.length + 14), 0) := by
  have hd := hdL_len k p.length
  have e6 : sub b a 6 = hdL k p.length := by
    have := sub_part b a _ 0 6 _ h (by omega)
    rw [Nat.add_zero] at this
    rw [this]; unfold frL
    rw [List.drop_zero, List.append_assoc, List.append_assoc, List.take_append_of_le_length (by omega), List.take_of_length_le (by omega)]
  have e4 : sub b (a + 6) 4 = lowL (crc 0 (hdL k p.length)) := by
    have := sub_part b a _ 6 4 _ h (by omega)
    rw [this]; unfold frL
    rw [List.append_assoc, List.append_assoc, List.drop_append_of_le_length (by omega), List.drop_of_length_le (by omega), List.nil_append, List.take_append_of_le_length (by rw [lowL_len]; omega), List.take_of_length_le (by rw [lowL_len]; omega)]
  have ep : sub b (a + 10) p.length = p := by
    have := sub_part b a _ 10 p.length _ h (by omega)
    rw [this]; unfold frL
    rw [List.append_assoc, List.drop_append_of_le_length (by simp [hd, lowL_len]), List.drop_of_length_le (by simp [hd, lowL_len]), List.nil_append, List.take_append_of_le_length (by omega), List.take_of_length_le (by omega)]
  have es : sub b (a + 10 + p.length) 4 = lowL (crc 0 (hdL k p.length ++ p)) := by
    have := sub_part b a _ (10 + p.length) 4 _ h (by omega)
    rw [Nat.add_assoc, this]; unfold frL
    rw [List.drop_append_of_le_length (by simp [hd, lowL_len]; omega), List.drop_of_length_le (by simp [hd, lowL_len]; omega), List.nil_append, List.take_of_length_le (by rw [lowL_len]; omega)]
  have e1 : sub b a 1 = [167] := by
    have := sub_part b a 6 0 1 _ e6 (by omega)
    rw [Nat.add_zero] at this; rw [this]; rfl
  have ek : sub b (a + 1) 1 = [UInt8.ofNat k] := by
    have := sub_part b a 6 1 1 _ e6 (by omega)
    rw [this]; rfl
  have en : sub b (a + 2) 4 = fixL p.length 4 := by
    have := sub_part b a 6 2 4 _ e6 (by omega)
    rw [this]
    show (fixL p.length 4).take 4 = _
    rw [List.take_of_length_le (by rw [fixL_len]; omega)]
  have ekn : numL (sub b (a + 1) 1) = k := by rw [ek, num_one, u8n]; omega
  have enn : numL (sub b (a + 2) 4) = p.length := by rw [en, num_fix _ (by omega)]
  have eh : hdA b a = (k, p.length, crc 0 (hdL k p.length), 0) := by
    unfold hdA
    rw [if_neg (by omega), if_pos e1, if_neg (by omega), e6, if_pos e4, ekn, enn, if_neg (by omega), if_pos hp]
  unfold psA
  rw [eh]
  dsimp only
  rw [if_pos rfl, if_neg (by omega), ep, ← crc_append, if_pos es, show a + 14 + p.length = a + (p.length + 14) by omega]
/-- Frame's answers. -/
theorem frT_ok (k : Int) (p : ByteArray) (h : frE k p = 0) : ∃ a : Nat, k = a ∧ 1 ≤ a ∧ a ≤ 255 ∧ p.data.toList.length ≤ 65536 ∧ frT k p = frL a p.data.toList := by
  unfold frE at h
  unfold frT
  by_cases h1 : 1 ≤ k ∧ k ≤ 255
  · rw [if_pos h1] at h ⊢
    by_cases h2 : p.size ≤ 65536
    · rw [if_pos h2]
      exact ⟨k.toNat, by omega, by omega, by omega, by rw [← ba_size]; exact h2, rfl⟩
    · rw [if_neg h2] at h; simp at h
  · rw [if_neg h1] at h; simp at h
theorem frT_no (k : Int) (p : ByteArray) (h : frE k p ≠ 0) : frT k p = [] := by
  unfold frE at h
  unfold frT
  by_cases h1 : 1 ≤ k ∧ k ≤ 255
  · rw [if_pos h1] at h ⊢
    by_cases h2 : p.size ≤ 65536
    · rw [if_pos h2] at h; exact absurd rfl h
    · rw [if_neg h2]
  · rw [if_neg h1]
theorem frT_yes (k : Nat) (p : ByteArray) (h1 : 1 ≤ k) (h2 : k ≤ 255) (h3 : p.data.toList.length ≤ 65536) : frE (k : Int) p = 0 ∧ frT (k : Int) p = frL k p.data.toList := by
  have hh : 1 ≤ (k : Int) ∧ (k : Int) ≤ 255 := by omega
  rw [← ba_size] at h3
  unfold frE frT
  rw [if_pos hh, if_pos h3, if_pos hh, if_pos h3]
  exact ⟨rfl, rfl⟩
/-- Parse of a frame that stands alone or among other bytes. -/
theorem prA_frame (b : ByteArray) (a k : Nat) (p : List UInt8) (x y : List UInt8) (hk1 : 1 ≤ k) (hk2 : k ≤ 255) (hp : p.length ≤ 65536) (hb : b.data.toList = x ++ frL k p ++ y) (ha : x.length = a) :
    prA b a = (k, p, a + (p.length + 14), 0) := by
  have hs : b.size = a + (p.length + 14) + y.length := by rw [ba_size, hb]; simp [frL_len, ha]; omega
  unfold prA
  rw [if_pos (by omega), Int.toNat_natCast]
  refine psA_frame b a k p hk1 hk2 hp (by omega) ?_
  unfold sub
  rw [hb, List.append_assoc, List.drop_append_of_le_length (by omega), List.drop_of_length_le (by omega), List.nil_append, List.take_append_of_le_length (by rw [frL_len]; omega), List.take_of_length_le (by rw [frL_len]; omega)]
theorem known : crc 0 [49, 50, 51, 52, 53, 54, 55, 56, 57] = 3808858755 := by decide +kernel
end Go.Proofs.YtcamnalmcghjfaaGreatDoor
