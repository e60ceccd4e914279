/-
  DERIVED. SNext, SHead, SClone, as one text.
-/
import Derived.Test.YtfijjlkhgelmoaaGreatDoorTzAL
import Derived.OwnWalk
import Derived.Lib.UnsafeStr
import Derived.Lib.BufferWrite
import Derived.Laws.MakeOwn
namespace Go.Proofs.YtfijjlkhgelmoaaGreatDoor
open Go.RowKit Go.Proofs.SealMath
/-- The text and the place that the literal holds. -/
structure Fld (W : World) (b : ByteArray) (a g : Nat) : Prop where
  text : W.cell? ⟨g, 0, none⟩ = some (.string b)
  place : W.cell? ⟨g + 1, 0, none⟩ = some (.int .i64 a)
  free : W.frozen? ⟨g + 1, 0, none⟩ = false
theorem Fld.below {W W' : World} {b : ByteArray} {a g B : Nat} (h : Fld W b a g) (hb : Below B W W') (hg : g + 1 < B) : Fld W' b a g :=
  ⟨(hb.cell (p := ⟨g, 0, none⟩) (by show g < B; omega)).trans h.text, (hb.cell (p := ⟨g + 1, 0, none⟩) hg).trans h.place, (hb.frozen (p := ⟨g + 1, 0, none⟩) hg).trans h.free⟩
theorem Fld.size {W : World} {b : ByteArray} {a g : Nat} (h : Fld W b a g) : g + 1 < W.heap.size := World.block_lt_of_cell? W _ h.place
theorem Fld.set {W : World} {b : ByteArray} {a g : Nat} (h : Fld W b a g) (c : Nat) : Fld (W.setCell ⟨g + 1, 0, none⟩ (.int .i64 c)) b c g :=
  ⟨(World.cell?_setCell_other _ _ _ _ (fun he => by cases he)).trans h.text, World.cell?_setCell_same _ _ _ h.place, (World.frozen?_setCell _ _ _ _).trans h.free⟩
/-- Where the literal stands behind a field of n bytes; what it tells. -/
def nxA (b : ByteArray) (a n : Nat) : Nat := if a + n ≤ b.size then a + n else b.size
def nxT (b : ByteArray) (a n : Nat) : ByteArray := if a + n ≤ b.size then b.extract a (a + n) else ⟨#[]⟩
abbrev lit (g : Nat) : Value := .func (.func 77) #[] #[.pointer (some ⟨g, 0, none⟩), .pointer (some ⟨g + 1, 0, none⟩)]
set_option maxRecDepth 100000 in
set_option maxHeartbeats 1000000 in
theorem next_any (b : ByteArray) (a n g B : Nat) (w : World) (hF : Fld w b a g) (ha : a ≤ b.size) (hb : b.size < 4611686018427387904) (hn : n < 4611686018427387904) (hB : B ≤ g) :
    Calls Tryz.prog 77 #[.int .i64 n, .pointer (some ⟨g, 0, none⟩), .pointer (some ⟨g + 1, 0, none⟩)] w fun e w' => e = .returned (.string (nxT b a n)) ∧ Fld w' b (nxA b a n) g ∧ Below B w w' ∧ w'.heap.size = w.heap.size := by
  have h1 := hF.text
  have h2 := hF.place
  have h3 := hF.free
  unfold nxT nxA
  by_cases h : a + n ≤ b.size
  · rw [if_pos h, if_pos h]
    go_enter Tryz.func77, Tryz.ntmps77
    go_wp2
    go_ret
    exact ⟨rfl, hF.set (a + n), (Below.refl _ w).setCell (p := ⟨g + 1, 0, none⟩) (by show B ≤ g + 1; omega) _, by simp⟩
  · rw [if_neg h, if_neg h]
    go_enter Tryz.func77, Tryz.ntmps77
    go_wp2
    go_ret
    exact ⟨rfl, hF.set b.size, (Below.refl _ w).setCell (p := ⟨g + 1, 0, none⟩) (by show B ≤ g + 1; omega) _, by simp⟩
theorem nxA_le (b : ByteArray) (a n : Nat) : nxA b a n ≤ b.size := by unfold nxA; split <;> omega
theorem nxT_list (b : ByteArray) (a n : Nat) (h : a + n ≤ b.size) : (nxT b a n).data.toList = sub b a n := by
  unfold nxT sub; rw [if_pos h, ByteArray.data_extract, Array.toList_extract, List.extract_eq_take_drop]
  congr 1; omega
theorem ba_size (T : ByteArray) : T.size = T.data.toList.length := Array.length_toList.symm
theorem nxT_size (b : ByteArray) (a n : Nat) (h : a + n ≤ b.size) : (nxT b a n).size = n := by rw [ba_size, nxT_list b a n h, sub_len b a n h]
theorem nxA_yes (b : ByteArray) (a n : Nat) (h : a + n ≤ b.size) : nxA b a n = a + n := by unfold nxA; rw [if_pos h]
theorem nxT_no (b : ByteArray) (a n : Nat) (h : ¬ a + n ≤ b.size) : nxT b a n = ⟨#[]⟩ := by unfold nxT; rw [if_neg h]
theorem told_none (b : ByteArray) (a m n o : Nat) (h : b.size < a + m + n + o) (ho : 0 < o) : nxT b (nxA b (nxA b a m) n) o = ⟨#[]⟩ := by
  apply nxT_no
  unfold nxA
  split <;> split <;> omega
theorem told_none2 (b : ByteArray) (a m o : Nat) (h : b.size < a + m + o) (ho : 0 < o) : nxT b (nxA b a m) o = ⟨#[]⟩ := by
  apply nxT_no
  unfold nxA
  split <;> omega
theorem sub_add (b : ByteArray) (a m n : Nat) : sub b a (m + n) = sub b a m ++ sub b (a + m) n := by
  unfold sub; rw [List.take_add, List.drop_drop]
/-- What head answers. -/
def hdA (b : ByteArray) (a : Nat) : Nat × Nat × Nat × Int :=
  if b.size ≤ a then (0, 0, 0, 31)
  else if sub b a 1 = [167] then
    if b.size < a + 10 then (0, 0, 0, 31)
    else if sub b (a + 6) 4 = lowL (crc 0 (sub b a 6)) then
      if numL (sub b (a + 1) 1) = 0 then (0, 0, 0, 35)
      else if numL (sub b (a + 2) 4) ≤ 65536 then (numL (sub b (a + 1) 1), numL (sub b (a + 2) 4), crc 0 (sub b a 6), 0)
      else (0, 0, 0, 36)
    else (0, 0, 0, 34)
  else (0, 0, 0, 33)
theorem one_ba (T : ByteArray) (c : UInt8) (h : T.data.toList = [c]) : T = ⟨#[c]⟩ := ba_ext (by rw [h])
end Go.Proofs.YtfijjlkhgelmoaaGreatDoor
namespace Go.Proofs.YtfijjlkhgelmoaaGreatDoor
open Go.RowKit Go.Proofs.SealMath
/-- Four results. -/
theorem results_tmp4 {fn : Func} {t u v x : Tmp} (h : fn.results = #[.tmp t, .tmp u, .tmp v, .tmp x]) (tmps : Array Value) (P : Program) (w : World) :
    (results fn tmps).run P w = .ok (.tuple #[tmps.getD t undef, tmps.getD u undef, tmps.getD v undef, tmps.getD x undef]) w := by
  simp [results, h]
theorem toL (T : ByteArray) : T.toList = T.data.toList := ByteArray.toList_eq T
set_option maxRecDepth 100000 in
set_option maxHeartbeats 4000000 in
theorem head_31 (b : ByteArray) (a g B : Nat) (w : World) (hF : Fld w b a g) (ha : a = b.size) (hb : b.size < 4611686018427387904) (hB : B ≤ g) :
    Calls Tryz.prog 70 #[lit g] w fun e w' => e = .returned (.tuple #[.int .i64 0, .int .i64 0, .int .u32 0, .int .i64 31]) ∧ Below B w w' := by
  have hT : (nxT b a 1).toList = [] := by rw [nxT_no b a 1 (by omega), toL]
  go_enter Tryz.func70, Tryz.ntmps70
  go_wp2_with fail
  refine (next_any b a 1 g B _ hF (by omega) hb (by omega) hB).mono ?_
  rintro e w1 ⟨rfl, f1, b1, s1⟩
  generalize nxT b a 1 = T1 at *
  go_wp2
  refine bodyPost_ret (results_tmp4 rfl _ _ _) rfl ?_
  exact ⟨rfl, b1⟩
set_option maxRecDepth 100000 in
set_option maxHeartbeats 4000000 in
theorem head_33 (b : ByteArray) (a g B : Nat) (w : World) (hF : Fld w b a g) (ha : a < b.size) (h1 : sub b a 1 ≠ [167]) (hb : b.size < 4611686018427387904) (hB : B ≤ g) :
    Calls Tryz.prog 70 #[lit g] w fun e w' => e = .returned (.tuple #[.int .i64 0, .int .i64 0, .int .u32 0, .int .i64 33]) ∧ Below B w w' := by
  have hT0 : (nxT b a 1).toList = sub b a 1 := by rw [toL, nxT_list b a 1 (by omega)]
  have hT : ((nxT b a 1).toList == [167]) = false := by rw [hT0, beq_eq_false_iff_ne]; exact h1
  have hE : (nxT b a 1).toList.isEmpty = false := by
    rw [hT0]; have := sub_len b a 1 (by omega)
    cases h : sub b a 1 with
    | nil => rw [h] at this; simp at this
    | cons c l => rfl
  clear hT0 h1
  go_enter Tryz.func70, Tryz.ntmps70
  go_wp2_with fail
  refine (next_any b a 1 g B _ hF (by omega) hb (by omega) hB).mono ?_
  rintro e w1 ⟨rfl, f1, b1, s1⟩
  generalize nxT b a 1 = T1 at *
  go_wp2
  refine bodyPost_ret (results_tmp4 rfl _ _ _) rfl ?_
  exact ⟨rfl, b1⟩
set_option maxRecDepth 100000 in
set_option maxHeartbeats 4000000 in
theorem head_31b (b : ByteArray) (a g B : Nat) (w : World) (hF : Fld w b a g) (ha : a < b.size) (h1 : sub b a 1 = [167]) (h10 : b.size < a + 10) (hb : b.size < 4611686018427387904) (hB : B ≤ g) :
    Calls Tryz.prog 70 #[lit g] w fun e w' => e = .returned (.tuple #[.int .i64 0, .int .i64 0, .int .u32 0, .int .i64 31]) ∧ Below B w w' := by
  have hT : (nxT b a 1).toList = [167] := by rw [toL, nxT_list b a 1 (by omega), h1]
  have hD : (nxT b (nxA b (nxA b (a + 1) 1) 4) 4).toList = [] := by rw [told_none b (a + 1) 1 4 4 (by omega) (by omega), toL]
  clear h1
  go_enter Tryz.func70, Tryz.ntmps70
  go_wp2_with fail
  refine (next_any b a 1 g B _ hF (by omega) hb (by omega) hB).mono ?_
  rintro e w1 ⟨rfl, f1, b1, s1⟩
  generalize nxT b a 1 = T1 at *
  go_wp2_with fail
  refine (next_any b (a + 1) 1 g B _ (by rw [nxA_yes b a 1 (by omega)] at f1; exact f1) (by omega) hb (by omega) hB).mono ?_
  rintro e w2 ⟨rfl, f2, b2, s2⟩
  have hn2 := nxA_le b (a + 1) 1
  generalize nxT b (a + 1) 1 = T2 at *
  generalize nxA b (a + 1) 1 = a2 at *
  go_wp2_with fail
  refine (next_any b a2 4 g B _ f2 hn2 hb (by omega) hB).mono ?_
  rintro e w3 ⟨rfl, f3, b3, s3⟩
  have hn3 := nxA_le b a2 4
  generalize nxT b a2 4 = T3 at *
  generalize nxA b a2 4 = a3 at *
  go_wp2_with fail
  refine (next_any b a3 4 g B _ f3 hn3 hb (by omega) hB).mono ?_
  rintro e w4 ⟨rfl, f4, b4, s4⟩
  generalize nxT b a3 4 = T4 at *
  go_wp2
  refine bodyPost_ret (results_tmp4 rfl _ _ _) rfl ?_
  exact ⟨rfl, ((b1.trans b2).trans b3).trans b4⟩
theorem sub_one (b : ByteArray) (a : Nat) (h : a + 1 ≤ b.size) : ∃ c, sub b a 1 = [c] := by
  have := sub_len b a 1 h
  cases hs : sub b a 1 with
  | nil => rw [hs] at this; simp at this
  | cons c l => rw [hs] at this; simp at this; rw [this]; exact ⟨c, rfl⟩
theorem sub_whole (T : ByteArray) (l : List UInt8) (h : T.data.toList = l) (n : Nat) (hn : l.length = n) : sub T 0 n = l := by
  unfold sub; rw [h, List.drop_zero, List.take_of_length_le (by omega)]
set_option maxRecDepth 100000 in
set_option maxHeartbeats 8000000 in
theorem head_10 (b : ByteArray) (a g B : Nat) (w : World) (hF : Fld w b a g) (ha : a + 10 ≤ b.size) (h1 : sub b a 1 = [167]) (hb : b.size < 4611686018427387904) (hB : B ≤ g) (ht : Tab w) (hB0 : 0 < B) (R : Nat × Nat × Nat × Int)
    (hR : R = if sub b (a + 6) 4 = lowL (crc 0 (sub b a 6)) then
      if numL (sub b (a + 1) 1) = 0 then (0, 0, 0, 35)
      else if numL (sub b (a + 2) 4) ≤ 65536 then (numL (sub b (a + 1) 1), numL (sub b (a + 2) 4), crc 0 (sub b a 6), 0)
      else (0, 0, 0, 36)
    else (0, 0, 0, 34)) :
    Calls Tryz.prog 70 #[lit g] w fun e w' => e = .returned (.tuple #[.int .i64 R.1, .int .i64 R.2.1, .int .u32 R.2.2.1, .int .i64 R.2.2.2]) ∧ Fld w' b (a + 10) g ∧ Below B w w' := by
  have hT : (nxT b a 1).toList = [167] := by rw [toL, nxT_list b a 1 (by omega), h1]
  have H1 : Hid (sub b a 1 = [167]) := h1
  have HR : Hid (R = if sub b (a + 6) 4 = lowL (crc 0 (sub b a 6)) then
      if numL (sub b (a + 1) 1) = 0 then (0, 0, 0, 35)
      else if numL (sub b (a + 2) 4) ≤ 65536 then (numL (sub b (a + 1) 1), numL (sub b (a + 2) 4), crc 0 (sub b a 6), 0)
      else (0, 0, 0, 36)
    else (0, 0, 0, 34)) := hR
  clear h1 hR
  go_enter Tryz.func70, Tryz.ntmps70
  go_wp2_with fail
  refine (next_any b a 1 g B _ hF (by omega) hb (by omega) hB).mono ?_
  rintro e w1 ⟨rfl, f1, b1, s1⟩
  rw [nxA_yes b a 1 (by omega)] at f1
  generalize nxT b a 1 = T1 at *
  go_wp2_with fail
  refine (next_any b (a + 1) 1 g B _ f1 (by omega) hb (by omega) hB).mono ?_
  rintro e w2 ⟨rfl, f2, b2, s2⟩
  rw [nxA_yes b (a + 1) 1 (by omega)] at f2
  have l2 := nxT_list b (a + 1) 1 (by omega)
  obtain ⟨c, hc⟩ := sub_one b (a + 1) (by omega)
  rw [hc] at l2
  have e2 := one_ba _ c l2
  rw [e2]
  clear l2 e2
  go_wp2_with fail
  refine (next_any b (a + 2) 4 g B _ f2 (by omega) hb (by omega) hB).mono ?_
  rintro e w3 ⟨rfl, f3, b3, s3⟩
  rw [nxA_yes b (a + 2) 4 (by omega)] at f3
  obtain ⟨T3, e3⟩ : ∃ T, T = nxT b (a + 2) 4 := ⟨_, rfl⟩
  have L3 : Hid (T3.data.toList = sub b (a + 2) 4) := by show _ = _; rw [e3]; exact nxT_list b (a + 2) 4 (by omega)
  have s3' : T3.size = 4 := by rw [e3]; exact nxT_size b (a + 2) 4 (by omega)
  rw [← e3]
  clear e3
  go_wp2_with fail
  refine (next_any b (a + 6) 4 g B _ f3 (by omega) hb (by omega) hB).mono ?_
  rintro e w4 ⟨rfl, f4, b4, s4⟩
  rw [nxA_yes b (a + 6) 4 (by omega)] at f4
  obtain ⟨T4, e4⟩ : ∃ T, T = nxT b (a + 6) 4 := ⟨_, rfl⟩
  have L4 : Hid (T4.toList = sub b (a + 6) 4) := by show _ = _; rw [e4, toL]; exact nxT_list b (a + 6) 4 (by omega)
  have s4' : T4.toList.isEmpty = false := by
    have := nxT_size b (a + 6) 4 (by omega)
    rw [ba_size, ← toL, ← e4] at this
    cases h : T4.toList with
    | nil => rw [h] at this; simp at this
    | cons c l => rfl
  rw [← e4]
  clear e4
  have b14 := ((b1.trans b2).trans b3).trans b4
  go_wp2_with fail
  obtain ⟨S, hS⟩ : ∃ S : ByteArray, S = ⟨#[167]⟩ ++ ⟨#[c]⟩ ++ T3 := ⟨_, rfl⟩
  rw [← hS]
  have hSl : S.data.toList = sub b a 6 := by
    rw [hS, ByteArray.data_append, ByteArray.data_append, Array.toList_append, Array.toList_append, L3.out, sub_add b a 1 5, H1.out, sub_add b (a + 1) 1 4, hc]; rfl
  have hSs : S.size = 6 := by rw [ba_size, hSl, sub_len b a 6 (by omega)]
  clear hS
  have HC : Hid (sub b (a + 1) 1 = [c]) := hc
  clear hc
  refine (sum_any S w4 (ht.below b14 hB0) (by omega)).mono ?_
  rintro e w5 ⟨rfl, rfl⟩
  rw [hSl]
  clear hSl
  have hsl := crc_lt (s := 0) (sub b a 6) (by omega)
  obtain ⟨s, hs⟩ : ∃ s, s = crc 0 (sub b a 6) := ⟨_, rfl⟩
  rw [← hs]
  rw [← hs] at hsl
  have HS : Hid (s = crc 0 (sub b a 6)) := hs
  clear hs
  go_wp2_with fail
  refine (low_any s w5 hsl).mono ?_
  rintro e w6 ⟨rfl, b6⟩
  have hgz := f4.size
  have f6 := f4.below b6 hgz
  have b16 := b14.trans (b6.mono (by omega))
  have hn6 := numL_sub_lt b (a + 2) 4 4 (by omega) (by omega)
  have hR := HR.out
  have hc0 : ((⟨#[c]⟩ : ByteArray)[0]'(Nat.lt_succ_self 0)).toNat = c.toNat := rfl
  have hcl := c.toNat_lt
  have hcn : numL (sub b (a + 1) 1) = c.toNat := by rw [HC.out]; simp [numL]
  rw [hcn] at hR
  clear HR hcn
  by_cases hq : sub b (a + 6) 4 = lowL (crc 0 (sub b a 6))
  · rw [if_pos hq] at hR
    have hEq : T4.toList = lowL s := by rw [L4.out, hq, HS.out]
    clear hq
    by_cases hz : c.toNat = 0
    · rw [if_pos hz] at hR
      subst hR
      go_wp2
      refine bodyPost_ret (results_tmp4 rfl _ _ _) rfl ?_
      exact ⟨rfl, f6, b16⟩
    · rw [if_neg hz] at hR
      go_wp2_with fail
      refine (fix_ok T3 0 4 w6 (by omega) (by omega) (by omega) (by omega)).mono ?_
      rintro e w7 ⟨rfl, rfl⟩
      rw [sub_whole T3 _ L3.out 4 (sub_len b (a + 2) 4 (by omega))]
      have hn : numL (sub b (a + 2) 4) < 4294967296 := hn6
      clear hn6
      obtain ⟨n, hnE⟩ : ∃ n, n = numL (sub b (a + 2) 4) := ⟨_, rfl⟩
      rw [← hnE] at hR hn ⊢
      clear hnE
      by_cases h6 : n ≤ 65536
      · rw [if_pos h6, ← HS.out] at hR
        subst hR
        go_wp2
        refine bodyPost_ret (results_tmp4 rfl _ _ _) rfl ?_
        exact ⟨rfl, f6, b16⟩
      · rw [if_neg h6] at hR
        subst hR
        go_wp2
        refine bodyPost_ret (results_tmp4 rfl _ _ _) rfl ?_
        exact ⟨rfl, f6, b16⟩
  · rw [if_neg hq] at hR
    subst hR
    have hEq : (T4.toList == lowL s) = false := by
      rw [L4.out, beq_eq_false_iff_ne, HS.out]; exact hq
    go_wp2
    refine bodyPost_ret (results_tmp4 rfl _ _ _) rfl ?_
    exact ⟨rfl, f6, b16⟩
/-- Behind head: where the literal stands, if it tells a payload's size. -/
theorem head_any (b : ByteArray) (a g B : Nat) (w : World) (hF : Fld w b a g) (ha : a ≤ b.size) (hb : b.size < 4611686018427387904) (hB : B ≤ g) (ht : Tab w) (hB0 : 0 < B) :
    Calls Tryz.prog 70 #[lit g] w fun e w' => e = .returned (.tuple #[.int .i64 (hdA b a).1, .int .i64 (hdA b a).2.1, .int .u32 (hdA b a).2.2.1, .int .i64 (hdA b a).2.2.2]) ∧ ((hdA b a).2.2.2 = 0 → Fld w' b (a + 10) g) ∧ Below B w w' := by
  unfold hdA
  by_cases h0 : b.size ≤ a
  · rw [if_pos h0]
    refine (head_31 b a g B w hF (by omega) hb hB).mono ?_
    rintro e w' ⟨rfl, b1⟩
    exact ⟨rfl, fun h => by simp at h, b1⟩
  · rw [if_neg h0]
    by_cases h1 : sub b a 1 = [167]
    · rw [if_pos h1]
      by_cases h10 : b.size < a + 10
      · rw [if_pos h10]
        refine (head_31b b a g B w hF (by omega) h1 h10 hb hB).mono ?_
        rintro e w' ⟨rfl, b1⟩
        exact ⟨rfl, fun h => by simp at h, b1⟩
      · rw [if_neg h10]
        refine (head_10 b a g B w hF (by omega) h1 hb hB ht hB0 _ rfl).mono ?_
        rintro e w' ⟨rfl, f1, b1⟩
        exact ⟨rfl, fun _ => f1, b1⟩
    · rw [if_neg h1]
      refine (head_33 b a g B w hF (by omega) h1 hb hB).mono ?_
      rintro e w' ⟨rfl, b1⟩
      exact ⟨rfl, fun h => by simp at h, b1⟩
end Go.Proofs.YtfijjlkhgelmoaaGreatDoor
namespace Go.Proofs.YtfijjlkhgelmoaaGreatDoor
open Go.RowKit
set_option maxHeartbeats 4000000 in
set_option maxRecDepth 100000 in
theorem lite_any (s : ByteArray) (w : World) (hs : s.size ≤ 65536) :
    Calls Tryz.prog 52 #[.string s] w fun e w' => e = .returned (.string s) ∧ Below w.heap.size w w' := by
  by_cases h0 : s.size = 0
  · obtain rfl : s = ⟨#[]⟩ := ByteArray.ext (Array.eq_empty_of_size_eq_zero h0)
    go_enter Tryz.func52, Tryz.ntmps52
    go_wp2
    go_ret
    exact ⟨rfl, Below.refl _ _⟩
  · obtain ⟨i0, hi, hz0, hz1, hz2⟩ := info_parts Tryz.info5
    obtain ⟨M, hM⟩ : ∃ M, M = madeCells (Value.int .u8 0).cells (((s.size : Nat) : Int).toNat * i0.size) := ⟨_, rfl⟩
    have hMs : M.size = s.size := by rw [hM, size_madeCells, hz1]; simp
    have hmk : ∀ W : World, (Instr.makeSlice 55 (.int .i64 (s.size : Int)) (.int .i64 (s.size : Int))).run Tryz.prog W = .ok (.slice (some ⟨W.heap.size, 0, none⟩) s.size s.size) (W.alloc (.cells M 5)) := fun W => by
      have h := run_make (P := Tryz.prog) W 55 5 i0 (.int .u8 0) Tryz.underlying55 hi hz0 .i64 .i64 (s.size : Int) (s.size : Int) (by omega) (by omega) (by rw [hz2]; omega) (by omega)
      rw [← hM] at h
      simpa using h
    clear hM
    have hcp := Lib.run_copy_row_string (P := Tryz.prog) (w.alloc (.cells M 5)) 55 9 3 5 w.heap.size 0 s.size s.size s M 5 Tryz.underlying55 (by rw [hi]; simp [hz1]) (heap_alloc_new w _) (Nat.le_refl _) (by omega)
    obtain ⟨Y, hY⟩ : ∃ Y, Y = (M.toList.take 0 ++ Lib.byteCells s.data.toList ++ M.toList.drop (0 + s.size)).toArray := ⟨_, rfl⟩
    rw [← hY] at hcp
    have hYl : Y.toList = Lib.byteCells s.data.toList := by
      rw [hY, List.toList_toArray, List.take_zero, List.nil_append, List.drop_of_length_le (by rw [Array.length_toList]; omega), List.append_nil]
    have hYs : Y.size = s.size := by rw [← Array.length_toList, hYl, Lib.byteCells_length, ← Lib.size_eq]
    have hgY : ((w.alloc (.cells M 5)).setRow w.heap.size Y).heap[w.heap.size]? = some (.cells Y 5 (0, 0)) := setRow_heap _ _ M _ 5 (0, 0) (heap_alloc_new w _)
    have hUS := Lib.run_unsafeString_row (P := Tryz.prog) ((w.alloc (.cells M 5)).setRow w.heap.size Y) 104 3 9 5 Tryz.underlying104 (by simp [Program.cellsOf, hi, hz1]) w.heap.size Y.size (by unfold World.shape?; rw [hgY]) s.data.toList (fun e => h0 (by rw [Lib.size_eq, e]; rfl)) (by rw [← Lib.size_eq]; omega) (by rw [← Lib.size_eq]; omega)
      (fun j x hx => Lib.cells_of_row hgY Y.size j _ (by rw [List.take_of_length_le (by rw [Array.length_toList]; exact Nat.le_refl _), hYl]; simp [Lib.byteCells, hx]))
    rw [← Lib.size_eq] at hUS
    clear hY
    go_enter Tryz.func52, Tryz.ntmps52
    go_wp2
    go_ret
    have hb2 : Below w.heap.size (w.alloc (.cells M 5)) ((w.alloc (.cells M 5)).setRow w.heap.size Y) := ⟨rfl, rfl, rfl, by simp, fun k hk => setRow_other _ _ _ _ (by omega)⟩
    exact ⟨rfl, Lib.below_freeze (((Below.refl _ w).alloc (Nat.le_refl _) _).trans hb2) (p := ⟨w.heap.size, 0, none⟩) (Nat.le_refl _) _⟩
theorem clone_any (s : ByteArray) (w : World) (hs : s.size ≤ 65536) :
    Calls Tryz.prog 23 #[.string s] w fun e w' => e = .returned (.string s) ∧ Below w.heap.size w w' := by
  go_enter Tryz.func23, Tryz.ntmps23
  go_wp2_with fail
  refine (lite_any s _ hs).mono ?_
  rintro e w1 ⟨rfl, b1⟩
  go_wp2
  go_ret
  exact ⟨rfl, b1⟩
end Go.Proofs.YtfijjlkhgelmoaaGreatDoor
