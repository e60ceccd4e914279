/-
  DERIVED. bit: the code with just one bit.
-/
import Derived.Test.YtnnbcdfpbdmgdaaDoorTBit
set_option linter.unusedVariables false
set_option linter.unusedSimpArgs false
namespace Go.Proofs.YtnnbcdfpbdmgdaaDoor
open Go.RowKit Go.Maps Go.Sort Go.Proofs.BitMath Go.Proofs.TreeMath
theorem infB : (Tryd.prog.info? 5).map (fun i => (i.zero, i.size, i.bytes)) = some (some (.int .u8 0), 1, 1) := by kernel_rfl
set_option maxHeartbeats 4000000 in
set_option maxRecDepth 100000 in
theorem bit_any (n i : Nat) (hn : n ≤ 128) (hi : i < 8 * n) (w : World) : Calls Tryd.prog 12 #[.int .i64 ((8 * n : Nat) : Int), .int .i64 i] w fun r w' => r = .returned (.string (bitC n i).1) ∧ Below w.heap.size w w' := by
  obtain ⟨i0, hi0, hz0, hz1, hz2⟩ := info_parts infB
  have hq : ((8 * n : Nat) : Int) / 8 = (n : Int) := by omega
  have hi8 : (i : Int) / 8 = ((i / 8 : Nat) : Int) := by omega
  have hm8 : (i : Int) % 8 = ((i % 8 : Nat) : Int) := by omega
  obtain ⟨W8, hW8⟩ : ∃ W8 : Int, W8 = ((8 * n : Nat) : Int) := ⟨_, rfl⟩
  rw [← hW8] at hq ⊢
  have h1 : (0 : Int) ≤ W8 := by omega
  have h2 : W8 ≤ 1024 := by omega
  clear hW8
  have hrun := run_make w 56 5 i0 (.int .u8 0) Tryd.underlying56 hi0 hz0 .i64 .i64 (n : Int) (n : Int) (by omega) (by omega) (by rw [hz2]; omega) (by omega)
  rw [hz1, Int.toNat_natCast] at hrun
  have hrow : (w.alloc (.cells (madeCells (Value.int .u8 0).cells (n * 1)) 5)).ownsRow 0 5 1 (.slice (some ⟨w.heap.size, 0, none⟩) n n) n ((zs n).map BV) := by
    refine ⟨by simp, .inr ⟨w.heap.size, n, _, rfl, Nat.zero_le _, Array.getElem?_push_size, Nat.le_refl _, by unfold maxLen; omega, by rw [size_madeCells], ?_⟩⟩
    rw [made_bytes, List.take_of_length_le (by simp)]
  have hbel : Below w.heap.size w (w.alloc (.cells (madeCells (Value.int .u8 0).cells (n * 1)) 5)) := (Below.refl _ w).alloc (Nat.le_refl _) _
  obtain ⟨w1, hw1⟩ : ∃ w1, w1 = w.alloc (.cells (madeCells (Value.int .u8 0).cells (n * 1)) 5) := ⟨_, rfl⟩
  rw [← hw1] at hrun hrow hbel
  obtain ⟨g, hg⟩ : ∃ g, g = w.heap.size := ⟨_, rfl⟩
  rw [← hg] at hrun hrow
  have hib : i / 8 < n := by omega
  have hcell : w1.cell? ⟨g, i / 8, none⟩ = some (.int .u8 0) := by
    rw [row_cell hrow (i / 8) hib]
    simp [hib, BV]
  have hfz : w1.frozen? ⟨g, i / 8, none⟩ = false := by
    rcases hrow.2 with ⟨h0, _⟩ | ⟨g', c', cur, h0, _, hb, _⟩
    · cases h0
    · cases h0
      simp [World.frozen?, hb]
  have hset := (World.ownsRow.stored hrow (i / 8) (BV (mk i))).1
  have e1 : (((zs n).map BV).set (i / 8) (BV (mk i))) = (bitL1 n i).map BV := by
    rw [← List.map_set]
    unfold bitL1 flipL
    congr 2
    have : (zs n).getD (i / 8) 0 = 0 := by
      rw [List.getD_eq_getElem?_getD, List.getElem?_replicate]
      split <;> rfl
    rw [this, UInt8.zero_xor]
  rw [e1] at hset
  have hset2 : (w1.setCell ⟨g, i / 8, none⟩ (BV (mk i))).ownsRow 0 5 1 (.slice (some ⟨g, 0, none⟩) (bitL1 n i).length n) (bitL1 n i).length ((bitL1 n i).map BV) := by rw [bitL1_len]; exact hset
  have hconv := conv_row _ hset2
  rw [bitL1_len] at hconv
  have hmk : (BV (mk i)) = .int .u8 (128 / 2 ^ (i % 8) : Nat) := by
    unfold BV
    rw [mk_toNat, pw _ (by omega)]
  have hfin : (⟨(bitL1 n i).toArray⟩ : ByteArray) = (bitC n i).1 := rfl
  have HF := Hid.mk (And.intro hbel (And.intro hg hfin))
  rw [hmk] at hconv
  have hj8 : i % 8 < 8 := by omega
  obtain ⟨j, hj⟩ : ∃ j, j = i % 8 := ⟨_, rfl⟩
  obtain ⟨k, hk⟩ : ∃ k, k = i / 8 := ⟨_, rfl⟩
  rw [← hj] at hconv hm8 hj8
  have hpj : ((128 / 2 ^ j : Nat) : Int) = (128 : Int) / 2 ^ j := by rw [Int.natCast_ediv, Int.natCast_pow]; rfl
  rw [hpj] at hconv
  clear hpj
  rw [← hk] at hconv hi8 hcell hfz hib
  rw [← hq] at hrun
  have HR := Hid.mk hrun
  have hk2 : (k : Int) < (n : Int) := by omega
  have hk3 : (0 : Int) ≤ (k : Int) := by omega
  clear hrow hset hset2 hw1 hbel hg hmk e1 hj hk hrun hfin hi0 hz0 hz1 hz2
  go_enter Tryd.func12, Tryd.ntmps12
  go_wp2_with (first
    | (at_make; refine wpList_make_run _ rfl _ _ _ rfl _ _ HR.out ?_)
    | go_in)
  go_ret
  refine ⟨by rw [← HF.out.2.2]; rfl, HF.out.1.setCell (by show w.heap.size ≤ g; rw [HF.out.2.1]; exact Nat.le_refl _) _⟩
end Go.Proofs.YtnnbcdfpbdmgdaaDoor
