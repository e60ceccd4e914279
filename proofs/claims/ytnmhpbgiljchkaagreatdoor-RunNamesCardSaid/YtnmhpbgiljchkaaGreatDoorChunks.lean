/-
  DERIVED. isWidth, Check, checkChunks; Chunks.
-/
import Derived.Test.YtnmhpbgiljchkaaGreatDoorRow
namespace Go.Proofs.YtnmhpbgiljchkaaGreatDoor
open Go.RowKit Go.Shelf Go.Proofs.BitMath
attribute [local go_sem] Oper.semAt_some
/-- Is this number a width? -/
def isW (x : Int) : Bool := decide (64 ≤ x) && (decide (x ≤ 1024) && (x % 64 == 0))
theorem isW_pos {x : Int} (h1 : 64 ≤ x) (h2 : x ≤ 1024) : isW x = (x % 64 == 0) := by simp [isW, h1, h2]
theorem isW_big {x : Int} (h2 : 1024 < x) : isW x = false := by simp [isW]; omega
theorem isW_small {x : Int} (h2 : x < 64) : isW x = false := by simp [isW]; omega
set_option maxHeartbeats 400000 in
theorem isWidth_any (x : Int) (w : World) :
    Calls Tryz.prog 63 #[.int .i64 x] w fun e w' => e = .returned (.bool (isW x)) ∧ w' = w := by
  go_enter Tryz.func63, Tryz.ntmps63
  go_wp2
  all_goals go_ret
  · exact ⟨ret_bool (isW_pos ‹_› ‹_›).symm, rfl⟩
  · exact ⟨ret_bool (isW_big ‹_›).symm, rfl⟩
  · exact ⟨ret_bool (isW_small ‹_›).symm, rfl⟩
/-- What Check answers. -/
def chk (x : Int) (n : Nat) : Int := if isW x = true then (if (n : Int) = x / 8 then 0 else 11) else 10
theorem isW_bd {x : Int} (h : isW x = true) : 64 ≤ x ∧ x ≤ 1024 := by simp [isW] at h; omega
theorem chk10 {x : Int} {n : Nat} (h : isW x = false) : chk x n = 10 := by simp [chk, h]
theorem chk11 {x : Int} {n : Nat} (h : isW x = true) (k : ((n : Int) != x / 8) = true) : chk x n = 11 := by
  have : ¬ (n : Int) = x / 8 := by simpa using k
  simp [chk, h, this]
theorem chk0 {x : Int} {n : Nat} (h : isW x = true) (k : ((n : Int) != x / 8) = false) : chk x n = 0 := by
  have : (n : Int) = x / 8 := by simpa using k
  simp [chk, h, this]
set_option maxHeartbeats 400000 in
theorem check_any (x : Int) (s : ByteArray) (w : World) :
    Calls Tryz.prog 33 #[.int .i64 x, .string s] w fun e w' => e = .returned (.int .i64 (chk x s.size)) ∧ w' = w := by
  cases hW : isW x
  · have HW : Hid (isW x = false) := hW
    go_enter Tryz.func33, Tryz.ntmps33
    go_wp2_with (go_at_call 63; refine (isWidth_any _ _).mono ?_; rintro e w' ⟨rfl, rfl⟩)
    go_ret
    exact ⟨ret_int (chk10 HW.out).symm, rfl⟩
  · have HW : Hid (isW x = true) := hW
    have hb := isW_bd hW
    cases hn : ((s.size : Int) != x / 8)
    · have Hn : Hid (((s.size : Int) != x / 8) = false) := hn
      go_enter Tryz.func33, Tryz.ntmps33
      go_wp2_with (go_at_call 63; refine (isWidth_any _ _).mono ?_; rintro e w' ⟨rfl, rfl⟩)
      go_ret
      exact ⟨ret_int (chk0 HW.out Hn.out).symm, rfl⟩
    · have Hn : Hid (((s.size : Int) != x / 8) = true) := hn
      go_enter Tryz.func33, Tryz.ntmps33
      go_wp2_with (go_at_call 63; refine (isWidth_any _ _).mono ?_; rintro e w' ⟨rfl, rfl⟩)
      go_ret
      exact ⟨ret_int (chk11 HW.out Hn.out).symm, rfl⟩

/-- What checkChunks answers. -/
def cc (x m : Int) : Int := if isW x = true then (if x / 32 ≤ m ∧ m ≤ x / 8 then 0 else 12) else 10
set_option maxHeartbeats 400000 in
theorem checkChunks_any (x m : Int) (w : World) :
    Calls Tryz.prog 64 #[.int .i64 x, .int .i64 m] w fun e w' => e = .returned (.int .i64 (cc x m)) ∧ w' = w := by
  cases hW : isW x
  · have HW : Hid (cc x m = 10) := by show cc x m = 10; simp [cc, hW]
    go_enter Tryz.func64, Tryz.ntmps64
    go_wp2_with (go_at_call 63; refine (isWidth_any _ _).mono ?_; rintro e w' ⟨rfl, rfl⟩)
    go_ret
    exact ⟨ret_int HW.out.symm, rfl⟩
  · have hb := isW_bd hW
    by_cases h1 : m < x / 32
    · have HW : Hid (cc x m = 12) := by show cc x m = 12; simp [cc, hW]; omega
      go_enter Tryz.func64, Tryz.ntmps64
      go_wp2_with (go_at_call 63; refine (isWidth_any _ _).mono ?_; rintro e w' ⟨rfl, rfl⟩)
      go_ret
      exact ⟨ret_int HW.out.symm, rfl⟩
    · by_cases h2 : x / 8 < m
      · have HW : Hid (cc x m = 12) := by show cc x m = 12; simp [cc, hW]; omega
        go_enter Tryz.func64, Tryz.ntmps64
        go_wp2_with (go_at_call 63; refine (isWidth_any _ _).mono ?_; rintro e w' ⟨rfl, rfl⟩)
        go_ret
        exact ⟨ret_int HW.out.symm, rfl⟩
      · have HW : Hid (cc x m = 0) := by show cc x m = 0; simp [cc, hW]; omega
        go_enter Tryz.func64, Tryz.ntmps64
        go_wp2_with (go_at_call 63; refine (isWidth_any _ _).mono ?_; rintro e w' ⟨rfl, rfl⟩)
        go_ret
        exact ⟨ret_int HW.out.symm, rfl⟩
theorem cc_ok {x m : Nat} (h : OkC x m) : cc x m = 0 := by
  obtain ⟨h1, h2, h3, h4, h5⟩ := h
  have hw : isW (x : Int) = true := by simp [isW]; omega
  rw [cc, if_pos hw, if_pos (by omega)]
theorem ok_cc {x m : Int} (h : cc x m = 0) : ∃ a b : Nat, x = a ∧ m = b ∧ OkC a b := by
  unfold cc at h
  by_cases hw : isW x = true
  · rw [if_pos hw] at h
    by_cases h2 : x / 32 ≤ m ∧ m ≤ x / 8
    · have hb := isW_bd hw
      have hm : x % 64 = 0 := by have := hw; simp [isW] at this; omega
      exact ⟨x.toNat, m.toNat, by omega, by omega, by omega, by omega, by omega, by omega, by omega⟩
    · rw [if_neg h2] at h; cases h
  · rw [if_neg hw] at h; cases h
theorem Tryz.infoC : (Tryz.prog.info? 38).map (fun i => (i.zero, i.size, i.bytes)) = some (some (.agg #[.int .i64 0, .int .i64 0]), 2, 16) := by kernel_rfl
/-- These cells hold the chunks whose numbers are listed. -/
def HasCh (x m : Nat) (cs : List Value) (js : List Nat) : Prop := cs.length = 2 * m ∧ ∀ j ∈ js, cs[2 * j]? = some (.int .i64 (frC x m j)) ∧ cs[2 * j + 1]? = some (.int .i64 (btC x m j))
theorem HasCh.step {x m : Nat} {cs : List Value} {js : List Nat} (h : HasCh x m cs js) (j : Nat) (hj : j < m) : HasCh x m ((cs.set (2 * j) (.int .i64 (frC x m j))).set (2 * j + 1) (.int .i64 (btC x m j))) (js ++ [j]) := by
  refine ⟨by simp [h.1], fun i hi => ?_⟩
  have hl := h.1
  by_cases e : i = j
  · subst e
    constructor
    · rw [List.getElem?_set_ne (by omega), List.getElem?_set_self (by omega)]
    · rw [List.getElem?_set_self (by simp; omega)]
  · have hi' : i ∈ js := by
      rcases List.mem_append.1 hi with h1 | h1
      · exact h1
      · simp at h1; exact absurd h1 e
    have := h.2 i hi'
    constructor
    · rw [List.getElem?_set_ne (by omega), List.getElem?_set_ne (by omega)]; exact this.1
    · rw [List.getElem?_set_ne (by omega), List.getElem?_set_ne (by omega)]; exact this.2
theorem made_len (z : Array Value) (n : Nat) : (madeCells z n).toList.length = n := by rw [Array.length_toList, size_madeCells]
theorem mem_range_of {js : List Nat} {m i : Nat} (h : js = List.range m) (hi : i < m) : i ∈ js := by rw [h]; simpa using hi
set_option maxRecDepth 100000 in
set_option maxHeartbeats 2000000 in
theorem chunks_yes (x m : Nat) (w : World) (h : OkC x m) :
    Calls Tryz.prog 34 #[.int .i64 x, .int .i64 m] w fun e w' => (∃ g cs, w.heap.size ≤ g ∧ RowIs w' g 38 cs ∧ HasCh x m cs (List.range m) ∧ e = .returned (.tuple #[.slice (some ⟨g, 0, none⟩) m m, .int .i64 0])) ∧ Below w.heap.size w w' := by
  have hp := h.pos
  have hle := h.le
  obtain ⟨i0, hi, hz0, hz1, hz2⟩ := info_parts Tryz.infoC
  refine (callsIn_wide (n := 9)).1 ?_
  refine callsIn_of_wp_marks Tryz.func34 rfl trivial ?_ rfl
  simp only [Tryz.ntmps34, List.size_toArray, List.length_cons, List.length_nil, Nat.reduceAdd, Nat.reduceSub, Array.replicate_succ, Array.replicate_zero, List.push_toArray, List.append_toArray, List.nil_append, List.cons_append]
  gi_wp2_with fail
  refine ⟨trivial, (callsIn_wide.2 (checkChunks_any _ _ _)).mono ?_⟩
  rintro e w' ⟨rfl, rfl⟩
  rw [cc_ok h]
  gi_wp2_with (gi_at_make; refine wpListIn_make_full _ rfl _ _ 53 rfl 38 i0 (.agg #[.int .i64 0, .int .i64 0]) 2 Tryz.underlying53 hi hz0 hz1 _ _ _ _ m rfl rfl rfl rfl (by rw [hz2]; omega) (by unfold maxLen; omega) ?_; intro w1 hrow hgr)
  have hB1 : Below w'.heap.size w' w1 := (Below.refl _ _).grown hgr (Nat.le_refl _) (fun k h => by cases h)
  have hs1 : w'.heap.size < w1.heap.size := hrow.lt
  have hcs0 : HasCh x m (madeCells (Value.agg #[.int .i64 0, .int .i64 0]).cells (m * 2)).toList [] := ⟨by rw [made_len]; omega, fun j hj => by cases hj⟩
  generalize (madeCells (Value.agg #[.int .i64 0, .int .i64 0]).cells (m * 2)).toList = cs0 at *
  clear hgr
  refine ⟨trivial, (callsIn_wide.2 (chunks_any _ _ _)).mono ?_⟩
  rintro e w2 ⟨rfl, rfl⟩
  gi_wp2_with fail
  have hB0 : Below w'.heap.size w' (((w1.alloc (.cells #[.slice (some ⟨w'.heap.size, 0, none⟩) m m] 53)).alloc (.cells #[.int .i64 x] 3)).alloc (.cells #[.int .i64 m] 3)) :=
    ((hB1.alloc hB1.size _).alloc (by simp; omega) _).alloc (by simp; omega) _
  have r0 : RowIs (((w1.alloc (.cells #[.slice (some ⟨w'.heap.size, 0, none⟩) m m] 53)).alloc (.cells #[.int .i64 x] 3)).alloc (.cells #[.int .i64 m] 3)) w'.heap.size 38 cs0 := ((hrow.alloc _).alloc _).alloc _
  have bo : Boxed (((w1.alloc (.cells #[.slice (some ⟨w'.heap.size, 0, none⟩) m m] 53)).alloc (.cells #[.int .i64 x] 3)).alloc (.cells #[.int .i64 m] 3)) w1.heap.size 53 (.slice (some ⟨w'.heap.size, 0, none⟩) m m) := ((Boxed.new w1 53 _).alloc _).alloc _
  have c2 : (((w1.alloc (.cells #[.slice (some ⟨w'.heap.size, 0, none⟩) m m] 53)).alloc (.cells #[.int .i64 x] 3)).alloc (.cells #[.int .i64 m] 3)).cell? ⟨w1.heap.size + 1, 0, none⟩ = some (.int .i64 x) := by go_simp
  have c3 : (((w1.alloc (.cells #[.slice (some ⟨w'.heap.size, 0, none⟩) m m] 53)).alloc (.cells #[.int .i64 x] 3)).alloc (.cells #[.int .i64 m] 3)).cell? ⟨w1.heap.size + 1 + 1, 0, none⟩ = some (.int .i64 m) := by go_simp
  have sz : (((w1.alloc (.cells #[.slice (some ⟨w'.heap.size, 0, none⟩) m m] 53)).alloc (.cells #[.int .i64 x] 3)).alloc (.cells #[.int .i64 m] 3)).heap.size = w1.heap.size + 3 := by simp
  generalize (((w1.alloc (.cells #[.slice (some ⟨w'.heap.size, 0, none⟩) m m] 53)).alloc (.cells #[.int .i64 x] 3)).alloc (.cells #[.int .i64 m] 3)) = W0 at *
  clear hrow hB1
  refine wpIn_rangeFunc_ownH rfl (by omega) (gf := 89) (lb := #[.pointer (some ⟨w1.heap.size + 1 + 1, 0, none⟩), .pointer (some ⟨w1.heap.size + 1, 0, none⟩)]) rfl trivial (enters_of Tryz.func89 (by kernel_rfl) rfl)
    (chunks_stops (fun j => j < m) x m (w1.heap.size + 1) (w1.heap.size + 1 + 1) _ (w1.heap.size + 1) W0 c2 c3 hp (by have := h.2.1; omega) (by omega) (Nat.le_refl _) (by omega) (fun i hi => hi)) keepC_t keepC_b (Below.refl _ _) (fun _ => rfl)
    (fun pre W => (∃ cs, RowIs W w'.heap.size 38 cs ∧ HasCh x m cs (vals pre)) ∧ Boxed W w1.heap.size 53 (.slice (some ⟨w'.heap.size, 0, none⟩) m m) ∧ Below w'.heap.size w' W)
    (fun _ _ _ => False)
    (OwnFrom.and (fun s A B row hs hg hr => by obtain ⟨cs, h1, h2⟩ := hs; exact ⟨cs, RowIs.own W0.heap.size w'.heap.size 38 (fun _ : Unit => cs) () A B row h1 hg hr, h2⟩) (OwnFrom.and (Own.from (boxed_own _ _ _) _) (ownFrom_below (Nat.le_refl _) (by omega))))
    (fun _ _ _ _ _ hs _ _ => hs)
    ⟨⟨cs0, r0, hcs0⟩, bo, hB0⟩
    (fun z a' W => ∃ Bx, w1.heap.size + 1 ≤ Bx ∧ RowIs W Bx 38 [.int .i64 (frC x m z.1), .int .i64 (btC x m z.1)] ∧ a' = { tmps := #[.int .i64 x, .int .i64 m, undef, undef, .slice none 0 0, .int .i64 0, .int .i64 0, .pointer (some ⟨w1.heap.size, 0, none⟩), .int .i64 (z.1 : Nat), .pointer (some ⟨Bx, 0, none⟩), .int .i64 x, .int .i64 m, .int .i64 0, .int .i64 0, .bool false, undef, .int .i64 m, .slice (some ⟨w'.heap.size, 0, none⟩) m m, .int .i64 x, .int .i64 m, .func (.func 89) #[] #[.pointer (some ⟨w1.heap.size + 1 + 1, 0, none⟩), .pointer (some ⟨w1.heap.size + 1, 0, none⟩)], .int .i64 (z.1 : Nat), .agg #[.int .i64 (frC x m z.1), .int .i64 (btC x m z.1)], undef, undef, undef, undef, undef], defers := [] })
    (fun z a' s A B row hs hg hr => by obtain ⟨Bx, h1, h2, h3⟩ := hs; exact ⟨Bx, h1, RowIs.own W0.heap.size Bx 38 (fun _ : Unit => _) () A B row h2 hg hr, h3⟩) ?assign ?body ?done ?stop
  case assign =>
    rintro l pre z W K ⟨⟨cs, hr, hc⟩, hbx, hB⟩ hK
    simp only [encC]
    gi_wp2
    exact hK _ _ ((KeepsOthers.alloc _ _).from _) (KeepC.alloc _ _ _) ⟨⟨cs, hr.alloc _, hc⟩, hbx.alloc _, hB.alloc hB.size _⟩ ⟨W.heap.size, by have := hbx.lt; omega, rowIs_new W 38 [.int .i64 (frC x m z.1), .int .i64 (btC x m z.1)], rfl⟩
  case body =>
    rintro l pre ⟨j, hj⟩ a' W hl ⟨r, hr⟩ ⟨⟨cs, hrow, hc⟩, hbx, hB⟩ ⟨Bx, hBx, hx, rfl⟩ hlen
    have hcb := hbx.cell
    have x0 : W.cell? ⟨Bx, 0, none⟩ = some (.int .i64 (frC x m j)) := (hx.cell 0).trans rfl
    have x1 : W.cell? ⟨Bx, 1, none⟩ = some (.int .i64 (btC x m j)) := (hx.cell 1).trans rfl
    have hj2 : 2 * j + 1 < cs.length := by rw [hc.1]; have : j < m := hj; omega
    have y0 : W.cell? ⟨w'.heap.size, j * 2, none⟩ = some (cs[2 * j]'(by omega)) := by rw [Nat.mul_comm j 2, hrow.cell, List.getElem?_eq_getElem]
    have y1 : W.cell? ⟨w'.heap.size, j * 2 + 1, none⟩ = some (cs[2 * j + 1]'hj2) := by rw [Nat.mul_comm j 2, hrow.cell, List.getElem?_eq_getElem]
    have f0 := hrow.frozen (j * 2)
    have f1 := hrow.frozen (j * 2 + 1)
    have hjm : j < m := hj
    gi_wp2
    refine ⟨((KeepsOthers.setCell _ _ _).trans (KeepsOthers.setCell _ _ _)).from _, keepC_t (KeepC.set (by simp; omega) _) (KeepC.set (by simp; omega) _), ⟨⟨_, (hrow.set (j * 2) _).set (j * 2 + 1) _, ?_⟩, boxed_set (boxed_set hbx (by simp; omega) _) (by simp; omega) _, (hB.setCell (by simp) _).setCell (by simp) _⟩⟩
    rw [vals_snoc, Nat.mul_comm j 2]; exact hc.step j hj
  case done =>
    rintro D ys W hD hys ⟨⟨cs, hrow, hc⟩, hbx, hB⟩ hK
    rw [hys] at hc
    have hcell := hbx.cell
    gi_wp2
    refine ⟨by simp, .inl ⟨_, _, rfl, run_takeDeferred hK, ?_⟩⟩
    refine ⟨_, results_tmp2 rfl _ _ _, ⟨w'.heap.size, cs, Nat.le_refl _, ?_, hc, rfl⟩, hB.trans (belowK_b (w := w') (Nat.le_refl _) W D _ _ (by omega) hK rfl rfl)⟩
    exact (World.putObj_heap_other (fun e => by subst e; rw [hrow] at hK; cases hK)).trans hrow
  case stop =>
    rintro D c pre W _ _ h _
    exact h.elim
end Go.Proofs.YtnmhpbgiljchkaaGreatDoor
