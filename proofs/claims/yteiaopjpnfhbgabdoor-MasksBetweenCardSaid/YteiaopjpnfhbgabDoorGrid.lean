/-
  DERIVED. isBits, isWeight, wider, rows.
-/
import Derived.Test.YteiaopjpnfhbgabDoorArr
namespace Go.Proofs.YteiaopjpnfhbgabDoor
open Go.RowKit Go.Proofs.MaskMath
/-- Can masks be of so many bits? -/
def okN (n : Int) : Bool := decide (0 ≤ n) && decide (n ≤ 64)
set_option maxHeartbeats 400000 in
theorem isBits_any (n : Int) (w : World) : Calls Tryd.prog 17 #[.int .i64 n] w fun e w' => e = .returned (.bool (okN n)) ∧ w' = w := by
  unfold okN
  by_cases h : 0 ≤ n
  · go_enter Tryd.func17, Tryd.ntmps17
    go_wp2
    go_ret
    exact ⟨ret_bool (by simp [h]), rfl⟩
  · go_enter Tryd.func17, Tryd.ntmps17
    go_wp2
    go_ret
    exact ⟨ret_bool (by simp; omega), rfl⟩
/-- Are there masks with so many ones? -/
def okS (n s : Int) : Bool := decide (0 ≤ s) && decide (s ≤ n)
set_option maxHeartbeats 400000 in
theorem isWeight_any (n s : Int) (w : World) : Calls Tryd.prog 18 #[.int .i64 n, .int .i64 s] w fun e w' => e = .returned (.bool (okS n s)) ∧ w' = w := by
  unfold okS
  by_cases h : 0 ≤ s
  · go_enter Tryd.func18, Tryd.ntmps18
    go_wp2
    go_ret
    exact ⟨ret_bool (by simp [h]), rfl⟩
  · go_enter Tryd.func18, Tryd.ntmps18
    go_wp2
    go_ret
    exact ⟨ret_bool (by simp; omega), rfl⟩
theorem Tryd.infoR : (Tryd.prog.info? 43).map (fun i => (i.zero, i.size)) = some (some (.agg (cellsF (fun _ => 0) 65).toArray), 65) := by kernel_rfl
theorem Tryd.infoG : (Tryd.prog.info? 44).map (fun i => (i.zero, i.size)) = some (some (.agg (cellsF (fun _ => 0) 4225).toArray), 4225) := by kernel_rfl
/-- A row's cells. -/
def rowV (i : Nat) : Value := .agg (cellsF (fun k => (ch i k : Int)) 65).toArray
theorem zeroR (w : World) : (zeroValue 43).run Tryd.prog w = .ok (.agg (cellsF (fun _ => 0) 65).toArray) w := (zero_of_info Tryd.infoR).1 w
theorem zeroG (w : World) : (zeroValue 44).run Tryd.prog w = .ok (.agg (cellsF (fun _ => 0) 4225).toArray) w := (zero_of_info Tryd.infoG).1 w
theorem sizeR : (Tryd.prog.info? 43).map (·.size) = some 65 := (zero_of_info Tryd.infoR).2
theorem sizeG : (Tryd.prog.info? 44).map (·.size) = some 4225 := (zero_of_info Tryd.infoG).2
/-- A row half way from i to i + 1: from s + 1 on it is new. -/
def mixF (i s : Nat) (k : Nat) : Int := if s < k then (ch (i + 1) k : Int) else (ch i k : Int)
theorem ret_agg {a b : Array Value} (h : a = b) : Ending.returned (.agg a) = .returned (.agg b) := by rw [h]
set_option maxRecDepth 100000 in
set_option maxHeartbeats 1000000 in
theorem wider_any (i : Nat) (w : World) (hi : i < 64) :
    Calls Tryd.prog 28 #[rowV i, .int .i64 i] w fun e w' => e = .returned (rowV (i + 1)) ∧ Below w.heap.size w w' := by
  unfold rowV
  have hz := zeroR
  go_enter Tryd.func28, Tryd.ntmps28
  go_wp2
  have hA : Arr ((w.alloc (.cells (cellsF (fun k => (ch i k : Int)) 65).toArray 43)).alloc (.cells (cellsF (fun _ => 0) 65).toArray 43)) w.heap.size 65 (mixF i (i + 1)) := by
    refine ((Arr.new w 43 (fun k => (ch i k : Int)) 65).alloc _).ext fun k _ => ?_
    unfold mixF
    by_cases h : i + 1 < k
    · rw [if_pos h, ch_big i k (by omega), ch_big (i + 1) k h]
    · rw [if_neg h]
  have hR := Arr.new (w.alloc (.cells (cellsF (fun k => (ch i k : Int)) 65).toArray 43)) 43 (fun _ => 0) 65
  have hB : Below w.heap.size w ((w.alloc (.cells (cellsF (fun k => (ch i k : Int)) 65).toArray 43)).alloc (.cells (cellsF (fun _ => 0) 65).toArray 43)) :=
    ((Below.refl _ w).alloc (Nat.le_refl _) _).alloc (by simp) _
  simp only [World.size_alloc] at hR
  generalize ((w.alloc (.cells (cellsF (fun k => (ch i k : Int)) 65).toArray 43)).alloc (.cells (cellsF (fun _ => 0) 65).toArray 43)) = W0 at *
  generalize hrv : (Value.agg (cellsF (fun k => (ch i k : Int)) 65).toArray) = rv at *
  clear hrv hz
  go_loopw [5] (fun v wr => ∃ s : Nat, s ≤ i + 1 ∧ v = .int .i64 s ∧ Arr wr w.heap.size 65 (mixF i s) ∧ Arr wr (w.heap.size + 1) 65 (fun _ => 0) ∧ Below w.heap.size w wr) (fun v _ => (intOf v).toNat)
  case atStart => exact ⟨i + 1, Nat.le_refl _, by go_num, hA, hR, hB⟩
  case round =>
    obtain ⟨s, hs, rfl, hA, hR, hB⟩ := hrel
    by_cases h0 : 0 < s
    · obtain ⟨t, rfl⟩ : ∃ t, s = t + 1 := ⟨s - 1, by omega⟩
      have HA : Hid (Arr wr w.heap.size 65 (mixF i (t + 1))) := hA
      have HR : Hid (Arr wr (w.heap.size + 1) 65 (fun _ => 0)) := hR
      have HB : Hid (Below w.heap.size w wr) := hB
      have c1 : wr.cell? ⟨w.heap.size, t + 1, none⟩ = some (.int .i64 (ch i (t + 1))) := by have := (hA (t + 1) (by omega)).1; rwa [mixF, if_neg (by omega)] at this
      have c0 : wr.cell? ⟨w.heap.size, t, none⟩ = some (.int .i64 (ch i t)) := by have := (hA t (by omega)).1; rwa [mixF, if_neg (by omega)] at this
      have f1 := (hA (t + 1) (by omega)).2
      have hl := ch_lt (i + 1) (t + 1) (by omega)
      have HC : Hid (ch (i + 1) (t + 1) = ch i t + ch i (t + 1)) := ch_succ i t
      rw [HC.out] at hl
      clear hA hR hB
      generalize hx : ch i t = x at *
      generalize hy : ch i (t + 1) = y at *
      go_wp2
      go_region
      all_goals go_wp2
      all_goals
        refine ⟨⟨t, by omega, by go_num, ((Arr.set HA.out (t + 1) ((y : Int) + (x : Int))).drew).ext ?_, (Arr.other HR.out (by simp) _).drew, (HB.out.setCell (by simp) _).drew⟩, by show ((t : Nat) : Int).toNat < ((t + 1 : Nat) : Int).toNat; omega⟩
        intro k _
        unfold mixF
        by_cases hk : k = t + 1
        · subst hk; simp [HC.out]; omega
        · by_cases h2 : t + 1 < k
          · simp [hk, h2]; omega
          · have h3 : ¬ t < k := by omega
            simp [hk, h2, h3]
    · have e : s = 0 := by omega
      subst e
      have hE := hA.range 0 65 (by omega)
      have hT := hR.there' (fun k => mixF i 0 (0 + k)) 0 65 (by omega)
      have hI : (Tryd.prog.info? 43).map (·.size) = some (cellsF (fun k => mixF i 0 (0 + k)) 65).toArray.size := by rw [cellsF_size]; exact sizeR
      go_wp2_with (first
        | (refine wpList_load_mid rfl 43 _ rfl w.heap.size 0 (by rfl) _ _ hE Tryd.underlying43 rfl (by rw [cellsF_len]; exact sizeR) ?_)
        | (refine wpList_store_mid rfl 43 _ _ rfl (w.heap.size + 1) 0 _ (by rfl) (by rfl) hT hI (cellsF_all _ _) ?_))
      have hF := hR.sets 65 0 (fun k => mixF i 0 (0 + k))
      refine bodyPost_ret (results_cell1 rfl _ _ _ ⟨w.heap.size + 1, 0, none⟩ _ rfl (hF.load 0 65 (by omega) 43 _ Tryd.underlying43 rfl sizeR)) rfl ⟨ret_agg (congrArg List.toArray (cellsF_ext fun k hk => ?_)), below_sets _ (by omega) _ _ _ hB⟩
      simp only [Nat.zero_add, mixF, Nat.zero_le, true_and, hk, if_true]
      by_cases h0 : 0 < k
      · simp [h0]
      · have : k = 0 := by omega
        subst this; simp [ch_zero]
/-- The table's numbers, when rows 0 to n are there. -/
def gridF (n q : Nat) : Int := if q / 65 ≤ n then (ch (q / 65) (q % 65) : Int) else 0
def gridV (n : Nat) : Value := .agg (cellsF (gridF n) 4225).toArray
theorem gridF_row {n i : Nat} (h : i ≤ n) {k : Nat} (hk : k < 65) : gridF n (i * 65 + k) = (ch i k : Int) := by
  unfold gridF
  rw [show (i * 65 + k) / 65 = i by omega, show (i * 65 + k) % 65 = k by omega, if_pos h]
set_option maxRecDepth 100000 in
set_option maxHeartbeats 1000000 in
theorem rows_any (n : Nat) (w : World) (hn : n ≤ 64) :
    Calls Tryd.prog 25 #[.int .i64 n] w fun e w' => e = .returned (gridV n) ∧ Below w.heap.size w w' := by
  unfold gridV
  have hz := zeroG
  go_enter Tryd.func25, Tryd.ntmps25
  have hA0 : Arr ((w.alloc (.cells (cellsF (fun _ => 0) 4225).toArray 44)).alloc (.cells (cellsF (fun _ => 0) 4225).toArray 44)) (w.heap.size + 1) 4225 (fun _ => 0) := by
    have := Arr.new (w.alloc (.cells (cellsF (fun _ => 0) 4225).toArray 44)) 44 (fun _ => 0) 4225
    simpa using this
  have hR : Arr ((w.alloc (.cells (cellsF (fun _ => 0) 4225).toArray 44)).alloc (.cells (cellsF (fun _ => 0) 4225).toArray 44)) w.heap.size 4225 (fun _ => 0) := (Arr.new w 44 (fun _ => 0) 4225).alloc _
  have hB : Below w.heap.size w ((w.alloc (.cells (cellsF (fun _ => 0) 4225).toArray 44)).alloc (.cells (cellsF (fun _ => 0) 4225).toArray 44)) :=
    ((Below.refl _ w).alloc (Nat.le_refl _) _).alloc (by simp) _
  have c0 := (hA0 0 (by omega)).1
  have f0 := (hA0 0 (by omega)).2
  have hA : Arr (((w.alloc (.cells (cellsF (fun _ => 0) 4225).toArray 44)).alloc (.cells (cellsF (fun _ => 0) 4225).toArray 44)).setCell ⟨w.heap.size + 1, 0, none⟩ (.int .i64 1)) (w.heap.size + 1) 4225 (gridF 0) := by
    refine (hA0.set 0 1).ext fun k hk => ?_
    unfold gridF
    by_cases h : k = 0
    · subst h; simp [ch_zero]
    · by_cases h2 : k / 65 ≤ 0
      · rw [if_pos h2, show k / 65 = 0 by omega, ch_big 0 (k % 65) (by omega)]; simp [h]
      · simp [h, h2]
  have hR1 := hR.other (a := ⟨w.heap.size + 1, 0, none⟩) (by simp) (.int .i64 1)
  have hB1 := hB.setCell (p := ⟨w.heap.size + 1, 0, none⟩) (by simp) (.int .i64 1)
  go_wp2
  have hE0 : ((w.alloc (.cells (cellsF (fun _ => 0) 4225).toArray 44)).alloc (.cells (cellsF (fun _ => 0) 4225).toArray 44)).setCell ⟨w.heap.size + 1, 0, none⟩ (.int .i64 1)
      = (w.alloc (.cells (cellsF (fun _ => 0) 4225).toArray 44)).alloc (.cells ((cellsF (fun _ => 0) 4225).set 0 (.int .i64 1)).toArray 44) := by go_simp
  rw [hE0] at hA hR1 hB1
  generalize (w.alloc (.cells (cellsF (fun _ => 0) 4225).toArray 44)).alloc (.cells ((cellsF (fun _ => 0) 4225).set 0 (.int .i64 1)).toArray 44) = W0 at *
  clear hE0 hz hA0 hR hB c0 f0
  go_loopw [8] (fun v wr => ∃ i : Nat, i ≤ n ∧ v = .int .i64 i ∧ Arr wr (w.heap.size + 1) 4225 (gridF i) ∧ Arr wr w.heap.size 4225 (fun _ => 0) ∧ Below w.heap.size w wr) (fun v _ => n - (intOf v).toNat)
  case atStart => exact ⟨0, Nat.zero_le _, rfl, hA, hR1, hB1⟩
  case round =>
    obtain ⟨i, hi, rfl, hA', hR', hB'⟩ := hrel
    clear hA hR1 hB1
    by_cases hlt : i < n
    · have hE : wr.rangeAt (w.heap.size + 1) (i * 65) (cellsF (fun k => (ch i k : Int)) 65) := by
        have := hA'.range (i * 65) 65 (by omega)
        rwa [cellsF_ext (g := fun k => (ch i k : Int)) (fun k hk => gridF_row (Nat.le_refl i) hk)] at this
      have hlt1 : (i : Int) < (n : Int) := by omega
      have hlt2 : (i : Int) < 65 := by omega
      have hlt3 : (i : Int) + 1 < 65 := by omega
      go_wp2_with (refine wpList_load_mid rfl 43 _ rfl (w.heap.size + 1) (i * 65) (by rfl) _ _ hE Tryd.underlying43 rfl (by rw [cellsF_len]; exact sizeR) ?_)
      refine (wider_any i _ (by omega)).mono ?_
      rintro e w1 ⟨rfl, hb⟩
      have hA1 := hA'.below hb (hA'.lt (by omega))
      have hR1 := hR'.below hb (hR'.lt (by omega))
      have hB1 := chain hB' hb (Nat.le_refl _)
      have hT := hA1.there' (fun k => (ch (i + 1) k : Int)) ((i + 1) * 65) 65 (by omega)
      have hI : (Tryd.prog.info? 43).map (·.size) = some (cellsF (fun k => (ch (i + 1) k : Int)) 65).toArray.size := by rw [cellsF_size]; exact sizeR
      have hal := cellsF_all (fun k => (ch (i + 1) k : Int)) 65
      have HA : Hid (Arr (w1.setCells (w.heap.size + 1) ((i + 1) * 65) (cellsF (fun k => (ch (i + 1) k : Int)) 65)) (w.heap.size + 1) 4225 (gridF (i + 1))) := by
        refine (hA1.sets 65 ((i + 1) * 65) (fun k => (ch (i + 1) k : Int))).ext fun k hk => ?_
        unfold gridF
        by_cases h1 : (i + 1) * 65 ≤ k ∧ k < (i + 1) * 65 + 65
        · rw [if_pos h1, show k / 65 = i + 1 by omega, if_pos (Nat.le_refl _), show k % 65 = k - (i + 1) * 65 by omega]
        · rw [if_neg h1]
          by_cases h2 : k / 65 ≤ i
          · rw [if_pos h2, if_pos (by omega)]
          · rw [if_neg h2, if_neg (by omega)]
      clear hE hA' hR' hB' hA1
      unfold rowV
      generalize cellsF (fun k => (ch (i + 1) k : Int)) 65 = cs at *
      go_wp2_with (refine wpList_store_mid rfl 43 _ _ rfl (w.heap.size + 1) ((i + 1) * 65) cs.toArray (by rfl) (by rfl) hT hI hal ?_)
      refine ⟨⟨i + 1, by omega, by go_num, HA.out, sets_other _ (by omega) _ _ _ hR1, below_sets _ (by omega) _ _ _ hB1⟩, by show n - ((i + 1 : Nat) : Int).toNat < n - ((i : Nat) : Int).toNat; omega⟩
    · have e : i = n := by omega
      subst e
      have hE := hA'.range 0 4225 (by omega)
      have hT := hR'.there' (fun k => gridF i (0 + k)) 0 4225 (by omega)
      have hI : (Tryd.prog.info? 44).map (·.size) = some (cellsF (fun k => gridF i (0 + k)) 4225).toArray.size := by rw [cellsF_size]; exact sizeG
      have hal := cellsF_all (fun k => gridF i (0 + k)) 4225
      have hF := hR'.sets 4225 0 (fun k => gridF i (0 + k))
      have hlen : (Tryd.prog.info? 44).map (·.size) = some (cellsF (fun k => gridF i (0 + k)) 4225).length := by rw [cellsF_len]; exact sizeG
      have HB := below_sets (w := w) (w.heap.size) (Nat.le_refl _) (cellsF (fun k => gridF i (0 + k)) 4225) 0 wr hB'
      have hl := hF.load 0 4225 (by omega) 44 _ Tryd.underlying44 rfl sizeG
      have HE : Hid ((cellsF (fun k => (fun k => if 0 ≤ k ∧ k < 0 + 4225 then (fun k => gridF i (0 + k)) (k - 0) else (fun _ => 0) k) (0 + k)) 4225).toArray = (cellsF (gridF i) 4225).toArray) := by
        refine congrArg List.toArray (cellsF_ext fun k hk => ?_)
        simp [hk]
      clear hA' hR' hB' hF
      generalize cellsF (fun k => gridF i (0 + k)) 4225 = cs at *
      go_wp2_with (first
        | (refine wpList_load_mid rfl 44 _ rfl (w.heap.size + 1) 0 (by rfl) cs _ hE Tryd.underlying44 rfl hlen ?_)
        | (refine wpList_store_mid rfl 44 _ _ rfl w.heap.size 0 cs.toArray (by rfl) (by rfl) hT hI hal ?_))
      refine bodyPost_ret (results_cell1 rfl _ _ _ ⟨w.heap.size, 0, none⟩ _ rfl hl) rfl ⟨ret_agg HE.out, HB⟩
/-- A whole row laid into a new variable. -/
theorem store_newR (w : World) (f : Nat → Int) : ∃ W0, Arr W0 w.heap.size 65 f ∧ Below w.heap.size w W0 ∧ ∀ {ops : Array Oper} {rest : List Oper} {op : Oper} {a : Act} {Q : Exit → Act → World → Prop} (_ : op.guard = none) (x y : Operand) (_ : op.op = .store 43 x y)
      (_ : a.eval x = .pointer (some ⟨w.heap.size, 0, none⟩)) (_ : a.eval y = .agg (cellsF f 65).toArray) (_ : wpList Tryd.prog ops Q rest (a.put op.dst undef) W0), wpList Tryd.prog ops Q (op :: rest) a (w.alloc (.cells (cellsF (fun _ => 0) 65).toArray 43)) := by
  have hA0 := Arr.new w 43 (fun _ => 0) 65
  refine ⟨(w.alloc (.cells (cellsF (fun _ => 0) 65).toArray 43)).setCells w.heap.size 0 (cellsF f 65), (hA0.sets 65 0 f).ext (fun k hk => by rw [if_pos (by omega)]; rfl), below_sets w.heap.size (Nat.le_refl _) _ _ _ ((Below.refl _ w).alloc (Nat.le_refl _) _), ?_⟩
  intro ops rest op a Q hgd x y ho hx hy h
  exact wpList_store_mid hgd 43 x y ho w.heap.size 0 (cellsF f 65).toArray hx hy (hA0.there' f 0 65 (by omega)) (by rw [cellsF_size]; exact sizeR) (cellsF_all f 65) h
theorem store_newG (w : World) (f : Nat → Int) : ∃ W0, Arr W0 w.heap.size 4225 f ∧ Below w.heap.size w W0 ∧ ∀ {ops : Array Oper} {rest : List Oper} {op : Oper} {a : Act} {Q : Exit → Act → World → Prop} (_ : op.guard = none) (x y : Operand) (_ : op.op = .store 44 x y)
      (_ : a.eval x = .pointer (some ⟨w.heap.size, 0, none⟩)) (_ : a.eval y = .agg (cellsF f 4225).toArray) (_ : wpList Tryd.prog ops Q rest (a.put op.dst undef) W0), wpList Tryd.prog ops Q (op :: rest) a (w.alloc (.cells (cellsF (fun _ => 0) 4225).toArray 44)) := by
  have hA0 := Arr.new w 44 (fun _ => 0) 4225
  refine ⟨(w.alloc (.cells (cellsF (fun _ => 0) 4225).toArray 44)).setCells w.heap.size 0 (cellsF f 4225), (hA0.sets 4225 0 f).ext (fun k hk => by simp only [Nat.zero_le, Nat.zero_add, true_and, hk, if_true, Nat.sub_zero]), below_sets w.heap.size (Nat.le_refl _) _ _ _ ((Below.refl _ w).alloc (Nat.le_refl _) _), ?_⟩
  intro ops rest op a Q hgd x y ho hx hy h
  exact wpList_store_mid hgd 44 x y ho w.heap.size 0 (cellsF f 4225).toArray hx hy (hA0.there' f 0 4225 (by omega)) (by rw [cellsF_size]; exact sizeG) (cellsF_all f 4225) (by rw [List.toList_toArray]; exact h)
end Go.Proofs.YteiaopjpnfhbgabDoor
