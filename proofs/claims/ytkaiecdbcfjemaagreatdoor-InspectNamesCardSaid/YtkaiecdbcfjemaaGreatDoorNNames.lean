/-
  DERIVED. The closed law of chapter 23: a disk without a store.
-/
import Derived.Test.YtkaiecdbcfjemaaGreatDoorDName
set_option linter.unusedVariables false
set_option linter.unusedSimpArgs false
namespace Go.Proofs.YtkaiecdbcfjemaaGreatDoor
open Go.RowKit Go.Maps Go.Proofs.DiskMath
theorem Hid.mk {p : Prop} (h : p) : Hid p := h
theorem run_makeMap {P : Program} (w : World) (t : TypeId) : (Instr.makeMap t none).run P w = .ok (.map (some w.heap.size)) (w.alloc (.map #[] 0)) := by
  simp [Instr.makeMap, go_sem, Result.andThen]
/-- The numbers of a new disk. -/
def newC (cap : Nat) : Ctl := ⟨cap, false, 0, false, 0, 0⟩
theorem new_dk (w : World) (cap : Nat) (h : cap ≤ 1073741824) :
    DK ((w.alloc (.map #[] 0)).alloc (.cells #[.map (some w.heap.size), .int .i64 cap, .int .i64 0, .bool false, .int .i64 0, .bool false, .int .i64 0, .int .i64 0] 38)) (w.heap.size + 1) w.heap.size [] (newC cap) :=
  { hp := by
      have := heap_alloc_new (w.alloc (.map #[] 0)) (.cells #[.map (some w.heap.size), .int .i64 cap, .int .i64 0, .bool false, .int .i64 0, .bool false, .int .i64 0, .int .i64 0] 38)
      simpa [newC, used] using this
    hm := (World.ownsMap_made w Tryz.prog 9 ptrE).alloc _
    hf := fun e he => by cases he
    sep := .nil
    srt := .nil
    nms := fun e he => by cases he
    many := Nat.zero_le _
    full := Nat.zero_le _
    cap := h
    left := by show 0 < _; decide
    age := by show (Lit.int .i64 0).wf = true; decide
    wr := by show (Lit.int .i64 0).wf = true; decide }
set_option maxHeartbeats 4000000 in
set_option maxRecDepth 100000 in
theorem new_any (cap : Int) (w : World) (R : Ending → World → Prop)
    (h1 : (cap < 0 ∨ 1073741824 < cap) → R (.returned (.pointer none)) w)
    (h2 : 0 ≤ cap → cap ≤ 1073741824 → ∀ w', DK w' (w.heap.size + 1) w.heap.size [] (newC cap.toNat) → Below w.heap.size w w' → R (.returned (Pt (w.heap.size + 1))) w') :
    Calls Tryz.prog 5 #[.int .i64 cap] w R := by
  have hmm := @run_makeMap Tryz.prog
  by_cases hc : cap < 0 ∨ 1073741824 < cap
  · have hR := Hid.mk (h1 hc)
    clear h1 h2
    go_enter Tryz.func5, Tryz.ntmps5
    go_wp2
    all_goals first | exact hR.out | (exfalso; omega)
  · have hR := Hid.mk (h2 (by omega) (by omega) _ (new_dk w cap.toNat (by omega)) (((Below.refl _ w).alloc (Nat.le_refl _) _).alloc (by simp) _))
    rw [show ((cap.toNat : Nat) : Int) = cap by omega] at hR
    clear h1 h2
    go_enter Tryz.func5, Tryz.ntmps5
    go_wp2
    all_goals first | (exfalso; omega) | exact hR.out
def tMan : ByteArray := ⟨#[109, 97, 110, 105, 102, 101, 115, 116]⟩
theorem fd_man : fdE [] (newC 1000) tMan.data.toList = 42 ∧ fdP [] (newC 1000) tMan.data.toList = .pointer none := by
  have h : ckE (newC 1000) tMan.data.toList = 0 := by decide +kernel
  constructor
  · unfold fdE; rw [if_pos h]; rfl
  · unfold fdP; rw [if_pos h]; rfl
set_option maxHeartbeats 1000000 in
set_option maxRecDepth 100000 in
theorem size_none (p mb : Nat) (w : World) (h : DK w p mb [] (newC 1000)) :
    Calls Tryz.prog 28 #[Pt p, .string tMan] w fun e w' => e = .returned (.tuple #[.int .i64 0, .int .i64 42]) ∧ w' = w := by
  have hf := find_any tMan w h
  rw [fd_man.1, fd_man.2] at hf
  clear h
  go_enter Tryz.func28, Tryz.ntmps28
  go_wp2_with (go_at_call 65; refine hf.mono ?_; clear hf; rintro e w' ⟨rfl, rfl⟩)
  go_ret2
  exact ⟨rfl, rfl⟩
set_option maxHeartbeats 1000000 in
set_option maxRecDepth 100000 in
theorem load_none (p mb : Nat) (w : World) (h : DK w p mb [] (newC 1000)) :
    Calls Tryz.prog 13 #[Pt p] w fun e w' => e = .returned (.tuple #[.agg #[.int .i64 0, .int .i64 0, .int .i64 0, .int .i64 0, .int .i64 0, .int .i64 0, .slice none 0 0], .int .i64 42]) ∧ Below w.heap.size w w' := by
  obtain ⟨W, hW⟩ : ∃ W, W = w.alloc (.cells #[.int .i64 0, .int .i64 0, .int .i64 0, .int .i64 0, .int .i64 0, .int .i64 0, .slice none 0 0] 44) := ⟨_, rfl⟩
  have bW : Below w.heap.size w W := by rw [hW]; exact (Below.refl _ w).alloc (Nat.le_refl _) _
  have hs := size_none p mb W (h.below bW)
  go_enter Tryz.func13, Tryz.ntmps13
  go_wp2_with fail
  rw [← hW]
  refine hs.mono ?_
  clear hs
  rintro e w1 ⟨rfl, rfl⟩
  have hH : w1.heap[w.heap.size]? = some (.cells #[.int .i64 0, .int .i64 0, .int .i64 0, .int .i64 0, .int .i64 0, .int .i64 0, .slice none 0 0] 44 (0, 0)) := by rw [hW]; exact heap_alloc_new w _
  clear hW h
  have e0 : w1.cell? ⟨w.heap.size, 0, none⟩ = some (.int .i64 0) := by simp [World.cell?, hH]
  have e1 : w1.cell? ⟨w.heap.size, 1, none⟩ = some (.int .i64 0) := by simp [World.cell?, hH]
  have e2 : w1.cell? ⟨w.heap.size, 2, none⟩ = some (.int .i64 0) := by simp [World.cell?, hH]
  have e3 : w1.cell? ⟨w.heap.size, 3, none⟩ = some (.int .i64 0) := by simp [World.cell?, hH]
  have e4 : w1.cell? ⟨w.heap.size, 4, none⟩ = some (.int .i64 0) := by simp [World.cell?, hH]
  have e5 : w1.cell? ⟨w.heap.size, 5, none⟩ = some (.int .i64 0) := by simp [World.cell?, hH]
  have e6 : w1.cell? ⟨w.heap.size, 6, none⟩ = some (.slice none 0 0) := by simp [World.cell?, hH]
  have fz : ∀ k, w1.frozen? ⟨w.heap.size, k, none⟩ = false := fun k => by simp [World.frozen?, hH]
  have f0 := fz 0
  have f1 := fz 1
  have f2 := fz 2
  have f3 := fz 3
  have f4 := fz 4
  have f5 := fz 5
  have f6 := fz 6
  clear fz hH
  go_wp2
  refine bodyPost_ret (v := .tuple #[.agg #[.int .i64 0, .int .i64 0, .int .i64 0, .int .i64 0, .int .i64 0, .int .i64 0, .slice none 0 0], .int .i64 42]) (by simp [results, Tryz.results13, go_sem, e0, e1, e2, e3, e4, e5, e6]; try rfl) rfl ?_
  exact ⟨rfl, ((((((bW.setCell (Nat.le_refl _) _).setCell (Nat.le_refl _) _).setCell (Nat.le_refl _) _).setCell (Nat.le_refl _) _).setCell (Nat.le_refl _) _).setCell (Nat.le_refl _) _).setCell (Nat.le_refl _) _⟩
set_option maxHeartbeats 1000000 in
set_option maxRecDepth 100000 in
theorem look_none (p mb : Nat) (w : World) (h : DK w p mb [] (newC 1000)) :
    Calls Tryz.prog 8 #[Pt p] w fun e w' => e = .returned (.tuple #[.pointer none, .int .i64 42]) ∧ Below w.heap.size w w' := by
  have hl := load_none p mb w h
  clear h
  go_enter Tryz.func8, Tryz.ntmps8
  go_wp2_with fail
  refine hl.mono ?_
  clear hl
  rintro e w1 ⟨rfl, b1⟩
  go_wp2
  go_ret2
  refine ⟨rfl, ?_⟩
  have bA := b1.alloc b1.size (.cells #[.int .i64 0, .int .i64 0, .int .i64 0, .int .i64 0, .int .i64 0, .int .i64 0, .slice none 0 0] 44)
  first | exact bA | exact ((((((bA.setCell b1.size _).setCell b1.size _).setCell b1.size _).setCell b1.size _).setCell b1.size _).setCell b1.size _).setCell b1.size _
set_option maxHeartbeats 1000000 in
set_option maxRecDepth 100000 in
theorem check_none (p mb : Nat) (w : World) (h : DK w p mb [] (newC 1000)) :
    Calls Tryz.prog 4 #[Pt p] w fun e w' => e = .returned (.tuple #[.slice none 0 0, .int .i64 42]) ∧ Below w.heap.size w w' := by
  have hl := look_none p mb w h
  clear h
  go_enter Tryz.func4, Tryz.ntmps4
  go_wp2_with fail
  refine hl.mono ?_
  clear hl
  rintro e w1 ⟨rfl, b1⟩
  go_wp2
  go_ret2
  exact ⟨rfl, b1⟩
set_option maxHeartbeats 1000000 in
set_option maxRecDepth 100000 in
theorem repair_none (p mb : Nat) (w : World) (h : DK w p mb [] (newC 1000)) :
    Calls Tryz.prog 6 #[Pt p] w fun e w' => e = .returned (.tuple #[.slice none 0 0, .int .i64 42]) ∧ Below w.heap.size w w' := by
  have hl := look_none p mb w h
  clear h
  go_enter Tryz.func6, Tryz.ntmps6
  go_wp2_with fail
  refine hl.mono ?_
  clear hl
  rintro e w1 ⟨rfl, b1⟩
  go_wp2
  go_ret2
  exact ⟨rfl, b1⟩
set_option maxHeartbeats 1000000 in
theorem num23 (x : Int) (w : World) : Calls Tryz.prog 7 #[.int .i64 x] w fun e w' => e = .returned (.int .i64 x) ∧ w' = w := by
  go_enter Tryz.func7, Tryz.ntmps7
  go_wp2
  go_ret
  exact ⟨rfl, rfl⟩
set_option maxHeartbeats 1000000 in
set_option maxRecDepth 100000 in
theorem law_names23 (w : World) : Calls Tryz.prog 3 #[] w fun e w' => e = .returned (.bool true) ∧ Below w.heap.size w w' := by
  go_enter Tryz.func3, Tryz.ntmps3
  go_wp2_with fail
  refine new_any 1000 w _ (fun h => by omega) (fun _ _ w1 hd b1 => ?_)
  have hc := check_none _ _ w1 hd
  clear hd
  go_wp2_with fail
  refine hc.mono ?_
  clear hc
  rintro e w2 ⟨rfl, b2⟩
  go_wp2_with fail
  refine new_any 1000 w2 _ (fun h => by omega) (fun _ _ w3 hd b3 => ?_)
  have hc := repair_none _ _ w3 hd
  clear hd
  go_wp2_with (first | (go_at_call 6; refine hc.mono ?_; clear hc; rintro e w4 ⟨rfl, b4⟩) | (go_at_call 7; refine (num23 _ _).mono ?_; rintro e w' ⟨rfl, rfl⟩))
  go_ret
  exact ⟨rfl, chain (chain b1 b2 (Nat.le_refl _)) (chain b3 b4 (Nat.le_refl _)) (Nat.le_refl _)⟩
end Go.Proofs.YtkaiecdbcfjemaaGreatDoor
