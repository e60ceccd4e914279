/-
  DERIVED. sign: the laws' helper begun.
-/
import Derived.Test.YtmdmjjobhkpojaaDoorQSgd
set_option linter.unusedVariables false
set_option linter.unusedSimpArgs false
namespace Go.Proofs.YtmdmjjobhkpojaaDoor
open Go.RowKit Go.Shelf Go.Proofs.BitMath Go.Proofs.FloatMath
theorem one_sum (wd : Nat) (sd : Int) (j : Nat) (hj : j < (sumsL wd sd [(3, 1)]).length) : (sumsL wd sd [(3, 1)])[j] = (3, 1) ∨ (sumsL wd sd [(3, 1)])[j] = (-1, 3) ∨ (sumsL wd sd [(3, 1)])[j] = (-3, -1) ∨ (sumsL wd sd [(3, 1)])[j] = (1, -3) := by
  rw [sumsL_at]
  simp only [List.length_cons, List.length_nil, sumZ, addZ]
  generalize uq sd (1024 * (j : Int) + (0 : Nat) + 1) = u
  simp only [List.getD_cons_zero, cm]
  split
  · simp
  · split
    · simp
    · split <;> simp
set_option maxRecDepth 100000 in
set_option maxHeartbeats 4000000 in
theorem begun_any (wd : Nat) (sd : Int) (w : World) (h64 : 64 ≤ wd) (h1024 : wd ≤ 1024) (hm : wd % 64 = 0) :
    Calls Tryd.prog 5 #[.int .i64 wd, .int .u64 sd] w fun e w' => e = .returned (.bool true) ∧ Below w.heap.size w w' := by
  have bA : Below w.heap.size w (w.alloc (.cells #[.int .i64 3, .int .i64 1] 36)) := (Below.refl _ w).alloc (Nat.le_refl _) _
  have hA : zE.At (w.alloc (.cells #[.int .i64 3, .int .i64 1] 36)) (some ⟨w.heap.size, 0, none⟩) [(3, 1)] := ⟨fun _ => ⟨w.heap.size, 0, rfl, fun j x hx => by
    have := cells_new w (zC (3, 1)) 36 j x (by simpa [zE] using hx)
    rw [Nat.zero_add]
    have e1 : (⟨w.heap.size, 0, none⟩ : Addr).add j = ⟨w.heap.size, j, none⟩ := by unfold Addr.add; split <;> simp_all
    rw [e1] at this; exact this⟩⟩
  have kS := signed_any wd sd (some ⟨w.heap.size, 0, none⟩) 1 [(3, 1)] _ h64 h1024 hm hA (by simp) (by simp) (by decide)
  simp only [List.length_cons, List.length_nil, Nat.zero_add] at kS
  have HB := Hid.mk bA
  obtain ⟨m, em⟩ : ∃ m, wd / 2 = m := ⟨_, rfl⟩
  have hm5 : m ≤ 512 := by omega
  have HM := Hid.mk em
  clear bA hA h64 h1024 hm em
  go_enter Tryd.func5, Tryd.ntmps5
  go_wp2_with (go_at_call 8; refine kS.mono ?_; clear kS; rintro e w1 ⟨⟨s, g, cap, rfl, hg, hr⟩, hb⟩; rw [HM.out] at hr ⊢; have HR := Hid.mk hr; have HB1 := Hid.mk hb; clear hr hb hg)
  go_loopw [9] (fun f wr => ∃ (j : Nat), j ≤ m ∧ f = .int .i64 j ∧ Below w1.heap.size w1 wr) (fun f _ => m - (intOf f).toNat)
  case atStart => exact ⟨0, Nat.zero_le _, rfl, Below.refl _ _⟩
  case round =>
    obtain ⟨j, hj, rfl, hB⟩ := hrel
    have HW := Hid.mk hB
    by_cases hlt : j < m
    · have hlt' : (j : Int) < (m : Int) := by omega
      have hl : j < (sumsL wd sd [(3, 1)]).length := by rw [sumsL_len, HM.out]; exact hlt
      have h4 := one_sum wd sd j hl
      obtain ⟨c0, c1, -⟩ := z_row (HR.out.below hB) j hl
      generalize (sumsL wd sd [(3, 1)])[j] = P at *
      clear hB
      rcases h4 with rfl | rfl | rfl | rfl
      all_goals
        go_wp2
        go_roundw
        case rel => exact ⟨j + 1, hlt, by go_num, HW.out.trans (((Below.refl _ wr).alloc (Nat.le_refl _) _).mono HW.out.size)⟩
        case measure => simp [intOf]; omega
    · clear hB
      have hlt' : ¬ (j : Int) < (m : Int) := by omega
      go_wp2
      go_ret
      exact ⟨rfl, (HB.out.trans (HB1.out.mono HB.out.size)).trans (HW.out.mono (HB.out.trans (HB1.out.mono HB.out.size)).size)⟩
end Go.Proofs.YtmdmjjobhkpojaaDoor
