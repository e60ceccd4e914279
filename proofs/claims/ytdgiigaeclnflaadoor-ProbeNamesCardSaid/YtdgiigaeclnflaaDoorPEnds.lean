/-
  DERIVED. Whether a search ends: TopK's function literal.
-/
import Derived.Test.YtdgiigaeclnflaaDoorPBegin
import Derived.Test.YtdgiigaeclnflaaDoorEWorst
import Derived.Maps.OwnSet
set_option linter.unusedVariables false
set_option linter.unusedSimpArgs false
namespace Go.Proofs.YtdgiigaeclnflaaDoor
open Go.RowKit Go.Proofs.BitMath
set_option maxHeartbeats 2000000 in
set_option maxRecDepth 100000 in
theorem endsK_any (tb sb t k kp m n : Nat) (X : List Ht) (w : World) (hT : TT w t k kp X) (h1 : w.cell? ⟨tb, 0, none⟩ = some (Pk t)) (h2 : w.cell? ⟨sb, 1, none⟩ = some (.int .i64 m)) (hm : m ≤ 128) (hn : n ≤ 64) :
    Calls Tryd.prog 13 #[.int .i64 n, .pointer (some ⟨tb, 0, none⟩), .pointer (some ⟨sb, 0, none⟩)] w fun e w' => e = .returned (.bool (decide (X.length = k) && decide (wrs k X < (m * n : Nat)))) ∧ Below w.heap.size w w' := by
  have hw := worst_any t k kp X w hT
  have hmn : m * n ≤ 8192 := Nat.mul_le_mul hm hn
  have hwr : IntKind.i64.wrap ((m : Int) * (n : Int)) = ((m * n : Nat) : Int) := by
    have : ((m : Int) * (n : Int)) = ((m * n : Nat) : Int) := by simp
    rw [this, IntKind.wrap_i64]; omega
  obtain ⟨p, hp⟩ : ∃ p, p = m * n := ⟨_, rfl⟩
  rw [← hp] at hwr ⊢
  obtain ⟨y, hy⟩ : ∃ y, y = wrs k X := ⟨_, rfl⟩
  rw [← hy] at hw ⊢
  clear hT hmn hm hn hp hy
  by_cases hf : X.length = k
  · rw [decide_eq_true hf] at hw ⊢
    rw [Bool.true_and]
    have HF := Hid.mk hf
    clear hf
    go_enter Tryd.func13, Tryd.ntmps13
    go_wp2_with (go_at_call 14; refine hw.mono ?_; clear hw; rintro e w1 ⟨rfl, b1⟩; replace h2 := cell_lat b1 h2)
    go_ret
    exact ⟨rfl, b1⟩
  · rw [decide_eq_false hf] at hw ⊢
    rw [Bool.false_and]
    have HF := Hid.mk hf
    clear hf
    go_enter Tryd.func13, Tryd.ntmps13
    go_wp2_with (go_at_call 14; refine hw.mono ?_; clear hw; rintro e w1 ⟨rfl, b1⟩; replace h2 := cell_lat b1 h2)
    go_ret
    exact ⟨rfl, b1⟩
/-- A search's cells. -/
def SeaAt (W : World) (b : Nat) (x m : Nat) (codes : Int) (vf af : Value) (q : ByteArray) (gc gv : Nat) (asks : Int) (mb : Nat) (s0 s1 s2 s3 : Int) : Prop :=
  W.heap[b]? = some (.cells (seaC x m codes vf af q gc gv asks mb s0 s1 s2 s3).toArray 57 (0, 0))
theorem SeaAt.cell {W : World} {b x m : Nat} {codes : Int} {vf af : Value} {q : ByteArray} {gc gv : Nat} {asks : Int} {mb : Nat} {s0 s1 s2 s3 : Int} (h : SeaAt W b x m codes vf af q gc gv asks mb s0 s1 s2 s3) (j : Nat) (v : Value) (hv : (seaC x m codes vf af q gc gv asks mb s0 s1 s2 s3)[j]? = some v) : W.cell? ⟨b, j, none⟩ = some v := by
  rw [cell_of_row _ _ j _ _ (0, 0) h]
  simpa using hv
theorem SeaAt.free {W : World} {b x m : Nat} {codes : Int} {vf af : Value} {q : ByteArray} {gc gv : Nat} {asks : Int} {mb : Nat} {s0 s1 s2 s3 : Int} (h : SeaAt W b x m codes vf af q gc gv asks mb s0 s1 s2 s3) (j : Nat) : W.frozen? ⟨b, j, none⟩ = false := frozen_of_row _ _ _ _ _ h
/-- What a map's length is. -/
def LenM (w : World) (mb : Nat) (n : Nat) : Prop := ∀ W : World, W.heap[mb]? = w.heap[mb]? → (Builtin.len_ #[55] 3 #[.map (some mb)]).run Tryd.prog W = .ok (.int .i64 n) W
theorem lenM_none {w : World} {mb : Nat} (h : w.heap[mb]? = some (.map #[] 0)) : LenM w mb 0 := fun W hW => by
  have hb : W.heap[mb]? = some (.map #[] 0) := hW.trans h
  simp [Builtin.len_, run_underlying Tryd.underlying55, MapKept.run_getObj_map hb, goInt, Result.andThen]
set_option maxHeartbeats 2000000 in
set_option maxRecDepth 100000 in
theorem exhausted_any (b x m : Nat) (codes : Int) (vf af : Value) (q : ByteArray) (gc gv : Nat) (asks : Int) (mb : Nat) (s0 s1 s2 s3 : Int) (n : Nat) (w : World) (h : SeaAt w b x m codes vf af q gc gv asks mb s0 s1 s2 s3) (hm : LenM w mb n) (b0 : Int) (hc : w.cell? ⟨gc, 1, none⟩ = some (.int .i64 b0)) (hm0 : 0 < m) :
    Calls Tryd.prog 21 #[.pointer (some ⟨b, 0, none⟩)] w fun e w' => e = .returned (.bool (decide (codes ≤ (n : Int)) || decide (b0 < s0))) ∧ Drew w w' := by
  have z2 := h.cell 2 _ rfl
  have z6 := h.cell 6 _ rfl
  have z9 := h.cell 9 _ rfl
  have z10 := h.cell 10 _ rfl
  have hl := hm w.drew rfl
  have HD : Hid (Drew w w.drew) := Drew.drew (Drew.refl w)
  have hm1 : (0 : Int) < (m : Int) := by omega
  have HM := Hid.mk hm
  clear h hm
  by_cases hn : codes ≤ (n : Int)
  · rw [decide_eq_true hn, Bool.true_or]
    go_enter Tryd.func21, Tryd.ntmps21
    go_wp2
    go_region
    all_goals
      go_wp2
      go_ret
      exact ⟨rfl, HD.out⟩
  · rw [decide_eq_false hn, Bool.false_or]
    have hl2 : ∀ d, (Builtin.len_ #[55] 3 #[.map (some mb)]).run Tryd.prog (w.drewN d) = .ok (.int .i64 n) (w.drewN d) := fun d => HM.out _ rfl
    have hn2 : decide (codes ≤ (n : Int)) = false := decide_eq_false hn
    clear hl
    go_enter Tryd.func21, Tryd.ntmps21
    go_wp2
    go_quiet (fail)
    all_goals
      go_wp2
      go_ret
      exact ⟨rfl, _, rfl⟩
end Go.Proofs.YtdgiigaeclnflaaDoor
