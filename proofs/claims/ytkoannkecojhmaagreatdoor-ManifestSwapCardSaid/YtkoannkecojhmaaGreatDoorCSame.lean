/-
  DERIVED. The laws' same: of two manifests that are one.
-/
import Derived.Test.YtkoannkecojhmaaGreatDoorCBase
import Derived.Shelf.RegionOpen
import Derived.Shelf.RegionOpenPlain
set_option linter.unusedVariables false
set_option linter.unusedSimpArgs false
namespace Go.Proofs.YtkoannkecojhmaaGreatDoor
open Go.RowKit
set_option maxHeartbeats 8000000 in
set_option maxRecDepth 100000 in
theorem same_eq (m : Mf) (la lb : Option Addr) (c d : Nat) (w : World) (hA : LAt w la m.rs) (hB : LAt w lb m.rs) (hc : m.rs.length ≤ c) (hd : m.rs.length ≤ d) (hs : m.rs.length < 4611686018427387904) :
    Calls Tryz.prog 14 #[.agg (mfC m la c).toArray, .agg (mfC m lb d).toArray] w fun e w' => e = .returned (.bool true) ∧ Below w.heap.size w w' := by
  obtain ⟨wa, hwa⟩ : ∃ wa, wa = w.alloc (.cells (mfC m la c).toArray 26) := ⟨_, rfl⟩
  have ba : Below w.heap.size w wa := by rw [hwa]; exact (Below.refl _ w).alloc (Nat.le_refl _) _
  have sza : wa.heap.size = w.heap.size + 1 := by rw [hwa]; simp
  have SA : SAt wa w.heap.size (mfC m la c) := by rw [hwa]; exact SAt.new w _ _
  have hwa' : w.alloc (.cells (mfC m la c).toArray 26) = wa := hwa.symm
  obtain ⟨wb, hwb⟩ : ∃ wb, wb = wa.alloc (.cells (mfC m lb d).toArray 26) := ⟨_, rfl⟩
  have bb : Below wa.heap.size wa wb := by rw [hwb]; exact (Below.refl _ wa).alloc (Nat.le_refl _) _
  have SB : SAt wb (w.heap.size + 1) (mfC m lb d) := by rw [← sza, hwb]; exact SAt.new wa _ _
  have hwb' : wa.alloc (.cells (mfC m lb d).toArray 26) = wb := hwb.symm
  have SA2 := SA.lat bb
  have b0 := chain ba bb (Nat.le_refl _)
  have a0 := SA2 0 _ rfl
  have a1 := SA2 1 _ rfl
  have a2 := SA2 2 _ rfl
  have a3 := SA2 3 _ rfl
  have a4 := SA2 4 _ rfl
  have a5 := SA2 5 _ rfl
  have a6 := SA2 6 _ rfl
  have c0 := SB 0 _ rfl
  have c1 := SB 1 _ rfl
  have c2 := SB 2 _ rfl
  have c3 := SB 3 _ rfl
  have c4 := SB 4 _ rfl
  have c5 := SB 5 _ rfl
  have c6 := SB 6 _ rfl
  have HA := Hid.mk (hA.below b0)
  have HB := Hid.mk (hB.below b0)
  have mixed : Tryz.prog.follows Departure.mixedOrders = true := by kernel_rfl
  clear hwa hwb SA SB SA2 hA hB ba bb
  simp only [mfC] at hwa' hwb' ⊢
  go_enter Tryz.func14, Tryz.ntmps14
  go_wp2
  clear a0 a1 a2 a3 a4 a5 c0 c1 c2 c3 c4 c5 hwa' hwb' sza
  go_loopw [5] (fun u wr => ∃ i : Nat, u = .int .i64 i ∧ i ≤ m.rs.length ∧ Below wb.heap.size wb wr) (fun u _ => m.rs.length - (intOf u).toNat)
  case atStart => exact ⟨0, rfl, Nat.zero_le _, Below.refl _ _⟩
  case round =>
    obtain ⟨i, rfl, hi, bw⟩ := hrel
    have q6 := cell_lat bw a6
    by_cases hlt : i < m.rs.length
    · have hne : m.rs ≠ [] := by intro h; rw [h] at hlt; simp at hlt
      obtain ⟨g, off, rfl, hra⟩ := (HA.out.below bw.drew).at' hne
      obtain ⟨g2, off2, rfl, hra2⟩ := (HB.out.below bw.drew).at' hne
      obtain ⟨x0, x1, x2, x3⟩ := row_ru hra i hlt
      obtain ⟨y0, y1, y2, y3⟩ := row_ru hra2 i hlt
      have q6 := cell_lat bw.drew a6
      have p6 := cell_lat bw.drew c6
      obtain ⟨R, hR⟩ : ∃ R, R = m.rs[i] := ⟨_, rfl⟩
      rw [← hR] at x0 x1 x2 x3 y0 y1 y2 y3
      have bwd := bw.drew
      clear hR hra hra2 HA HB
      go_wp2
      go_region_o
      go_wp2
      exact ⟨⟨i + 1, rfl, hlt, bwd⟩, by simp only [intOf]; omega⟩
    · have e : i = m.rs.length := by omega
      subst e
      clear HA HB
      go_wp2
      go_ret
      exact ⟨rfl, chain b0 bw (Nat.le_refl _)⟩
end Go.Proofs.YtkoannkecojhmaaGreatDoor
