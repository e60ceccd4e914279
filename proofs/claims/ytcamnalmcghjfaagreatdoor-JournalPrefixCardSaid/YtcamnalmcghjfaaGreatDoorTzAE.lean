/-
  DERIVED. DLose, as one text.
-/
import Derived.Test.YtcamnalmcghjfaaGreatDoorTzAC
set_option linter.unusedVariables false
set_option linter.unusedSimpArgs false
set_option linter.unnecessarySimpa false
namespace Go.Proofs.YtcamnalmcghjfaaGreatDoor.Dk
open Go.RowKit Go.Maps Go.Proofs.DiskMath
/-- How many unsynced bytes are kept. -/
def keepN (e : Ent) (keep : Int) : Nat := min keep.toNat (e.da.length - e.du)
/-- The bytes of a file behind a crash. -/
def loseL (da : List UInt8) (du k : Nat) (sp : UInt8) : List UInt8 := if k = 0 then da.take du else (da.take (du + k)).modify (du + k - 1) (· ^^^ sp)
theorem loseL_len (da : List UInt8) (du k : Nat) (sp : UInt8) (h : du + k ≤ da.length) : (loseL da du k sp).length = du + k := by
  unfold loseL; split
  · rename_i h0; subst h0; simp; omega
  · simp; omega
theorem modify_set (l : List UInt8) (i : Nat) (h : i < l.length) (f : UInt8 → UInt8) : l.modify i f = l.set i (f l[i]) := by
  apply List.ext_getElem (by simp)
  intro j h1 h2
  rw [List.getElem_modify, List.getElem_set]
  split <;> simp_all
theorem xor_u8 (x y : UInt8) : bits .xor .u8 (x.toNat : Int) (y.toNat : Int) = ((x ^^^ y).toNat : Int) := by
  rw [UInt8.toNat_xor]
  exact u8_xor_nat x.toNat y.toNat x.toNat_lt y.toNat_lt
theorem lose_cell {w : World} {e : Ent} (fe : FileAt w e) {a : Option Addr} {cap : Nat} (hv : e.v = .slice a e.da.length cap) (m : Nat) (hm : m < e.da.length) :
    ∃ g, a = some ⟨g, 0, none⟩ ∧ w.cell? ⟨g, m, none⟩ = some (.int .u8 (e.da[m]).toNat) ∧ w.frozen? ⟨g, m, none⟩ = false ∧ g ≠ e.fb := by
  have hr := fe.row
  rw [hv] at hr
  rcases hr.2 with ⟨h0, hn⟩ | ⟨g, cap', cur, h0, _, hg, _⟩
  · omega
  · simp only [Value.slice.injEq] at h0
    obtain ⟨rfl, -, -⟩ := h0
    refine ⟨g, rfl, ?_, by simp [World.frozen?, hg], fun e1 => ?_⟩
    · have := hr.cellAt m (by omega)
      rw [this, List.getElem?_map, List.getElem?_eq_getElem hm]; rfl
    · rw [e1, fe.cells] at hg; simp at hg
theorem lose_fin0 {w : World} {e : Ent} (fe : FileAt w e) {a : Option Addr} {cap : Nat} (hv : e.v = .slice a e.da.length cap) (sp : UInt8) :
    FileAt ((w.setCell ⟨e.fb, 0, none⟩ (.slice a e.du cap)).setCell ⟨e.fb, 1, none⟩ (.int .i64 e.du)).drew.drew { e with da := loseL e.da e.du 0 sp, du := e.du + 0, v := .slice a e.du cap } ∧
    Stay (foot e) w ((w.setCell ⟨e.fb, 0, none⟩ (.slice a e.du cap)).setCell ⟨e.fb, 1, none⟩ (.int .i64 e.du)).drew.drew ∧ ((w.setCell ⟨e.fb, 0, none⟩ (.slice a e.du cap)).setCell ⟨e.fb, 1, none⟩ (.int .i64 e.du)).drew.drew.heap.size = w.heap.size := by
  have hdu := fe.du
  have hda := fe.da
  have s1 : Stay (· = e.fb) w ((w.setCell ⟨e.fb, 0, none⟩ (.slice a e.du cap)).setCell ⟨e.fb, 1, none⟩ (.int .i64 e.du)).drew.drew := ((((Stay.refl (· = e.fb) w).setCell (p := ⟨e.fb, 0, none⟩) (fun _ => rfl) _).setCell (p := ⟨e.fb, 1, none⟩) (fun _ => rfl) _).drew).drew
  have hr := row_kept fe.row s1 fun k hk => fe.row_fb k hk
  rw [hv] at hr
  have e0 : loseL e.da e.du 0 sp = e.da.take e.du := by unfold loseL; simp
  refine ⟨⟨heap_setCell_same _ _ 1 _ _ _ (heap_setCell_same _ _ 0 _ _ _ fe.cells), ?_, ?_, ?_⟩, s1.mono fun k _ hk => .inl hk, by simp⟩
  · dsimp only; rw [e0]; exact row_take hr e.du hdu
  · dsimp only; rw [e0, List.length_take]; omega
  · dsimp only; rw [e0, List.length_take]; omega
theorem lose_fin {w : World} {e : Ent} {g : Nat} (fe : FileAt w e) {cap : Nat} (hv : e.v = .slice (some ⟨g, 0, none⟩) e.da.length cap) (k m : Nat) (sp : UInt8) (hm : e.du + k = m + 1) (hml : m < e.da.length) (hk : k ≠ 0) :
    FileAt (((w.setCell ⟨e.fb, 0, none⟩ (.slice (some ⟨g, 0, none⟩) (m + 1) cap)).setCell ⟨g, m, none⟩ (.int .u8 (e.da[m] ^^^ sp).toNat)).setCell ⟨e.fb, 1, none⟩ (.int .i64 ((m : Int) + 1))).drew.drew.drew { e with da := loseL e.da e.du k sp, du := e.du + k, v := .slice (some ⟨g, 0, none⟩) (m + 1) cap } ∧
    Stay (foot e) w (((w.setCell ⟨e.fb, 0, none⟩ (.slice (some ⟨g, 0, none⟩) (m + 1) cap)).setCell ⟨g, m, none⟩ (.int .u8 (e.da[m] ^^^ sp).toNat)).setCell ⟨e.fb, 1, none⟩ (.int .i64 ((m : Int) + 1))).drew.drew.drew ∧ (((w.setCell ⟨e.fb, 0, none⟩ (.slice (some ⟨g, 0, none⟩) (m + 1) cap)).setCell ⟨g, m, none⟩ (.int .u8 (e.da[m] ^^^ sp).toNat)).setCell ⟨e.fb, 1, none⟩ (.int .i64 ((m : Int) + 1))).drew.drew.drew.heap.size = w.heap.size := by
  obtain ⟨g', hg', hgc, hgz, hgf⟩ := lose_cell fe hv m hml
  obtain rfl : g = g' := by simpa using hg'
  have hdu := fe.du
  have hda := fe.da
  obtain ⟨y, hy⟩ : ∃ y, y = e.da[m] ^^^ sp := ⟨_, rfl⟩
  rw [← hy]
  obtain ⟨W, hW⟩ : ∃ W, W = (((w.setCell ⟨e.fb, 0, none⟩ (.slice (some ⟨g, 0, none⟩) (m + 1) cap)).setCell ⟨g, m, none⟩ (.int .u8 y.toNat)).setCell ⟨e.fb, 1, none⟩ (.int .i64 ((m : Int) + 1))).drew.drew.drew := ⟨_, rfl⟩
  rw [← hW]
  have hown : e.v.ownBlock = some g := by rw [hv]; rfl
  have sW : Stay (foot e) w W := by
    rw [hW]
    exact ((((((Stay.refl (foot e) w).setCell (p := ⟨e.fb, 0, none⟩) (fun _ => .inl rfl) _).setCell (p := ⟨g, m, none⟩) (fun _ => .inr hown) _).setCell (p := ⟨e.fb, 1, none⟩) (fun _ => .inl rfl) _).drew).drew).drew
  have f1 : W.heap[e.fb]? = some (.cells #[.slice (some ⟨g, 0, none⟩) (m + 1) cap, .int .i64 ((m : Int) + 1)] 66 (0, 0)) := by
    rw [hW]
    have h0 := heap_setCell_same w e.fb 0 _ _ (.slice (some ⟨g, 0, none⟩) (m + 1) cap) fe.cells
    have h1 := (Below.heap_setCell (w.setCell ⟨e.fb, 0, none⟩ (.slice (some ⟨g, 0, none⟩) (m + 1) cap)) ⟨g, m, none⟩ (.int .u8 y.toNat) e.fb (Ne.symm hgf)).trans h0
    exact heap_setCell_same _ _ 1 _ _ _ h1
  have hlen := loseL_len e.da e.du k sp (by omega)
  have hr := fe.row
  rw [hv] at hr
  rcases hr with ⟨h1, ⟨h2, h3⟩ | ⟨g2, cap2, cur, h2, h3, h4, h5, h6, h7, h8⟩⟩
  · cases h2
  cases h2
  have gW : W.heap[g]? = some (.cells (cur.setIfInBounds m (.int .u8 y.toNat)) 5 (0, 0)) := by
    rw [hW]
    have h0 := (Below.heap_setCell w ⟨e.fb, 0, none⟩ (.slice (some ⟨g, 0, none⟩) (m + 1) cap) g hgf).trans h4
    have h1 := heap_setCell_same _ g m _ _ (.int .u8 y.toNat) h0
    exact (Below.heap_setCell _ ⟨e.fb, 1, none⟩ _ g hgf).trans h1
  refine ⟨⟨?_, ?_, ?_, ?_⟩, sW, by rw [hW]; simp⟩
  · dsimp only; rw [f1, show ((e.du + k : Nat) : Int) = (m : Int) + 1 by omega]
  · dsimp only
    rw [hlen, hm]
    refine ⟨by rw [List.length_map, hlen]; omega, .inr ⟨g, cap, _, rfl, Nat.zero_le _, gW, by omega, h6, by simpa using h7, ?_⟩⟩
    have e1 : loseL e.da e.du k sp = (e.da.take (m + 1)).set m y := by
      unfold loseL
      rw [if_neg hk, hm, show m + 1 - 1 = m by omega, modify_set _ m (by simp; omega)]
      simp [hy]
    rw [e1, List.map_set, Array.toList_setIfInBounds, List.map_take, ← h8, Nat.mul_one, List.take_set]
    rw [List.take_take, show min (m + 1) (e.da.length * 1) = m + 1 by omega]
    rfl
  · dsimp only; rw [hlen]; exact Nat.le_refl _
  · dsimp only; rw [hlen]; omega
set_option maxHeartbeats 4000000 in
set_option maxRecDepth 100000 in
theorem lose_any (e : Ent) (keep : Int) (sp : UInt8) (w : World) (fe : FileAt w e) (hk1 : -9223372036854775808 ≤ keep) (hk2 : keep < 9223372036854775808) (R : Ending → World → Prop)
    (h1 : ∀ v w', v.ownBlock = e.v.ownBlock → FileAt w' { e with da := loseL e.da e.du (keepN e keep) sp, du := e.du + keepN e keep, v := v } → Stay (foot e) w w' → w'.heap.size = w.heap.size → R (.returned (.tuple #[])) w') :
    Calls Tryz.prog 27 #[Pt e.fb, .int .i64 keep, .int .u8 sp.toNat] w R := by
  obtain ⟨c0, c1⟩ := fe.cell
  obtain ⟨a, cap, hv, hcap⟩ := slice_form fe.row
  have z0 := fe.frz 0
  have z1 := fe.frz 1
  have hdu := fe.du
  have hda := fe.da
  rw [hv] at c0
  obtain ⟨k, hk⟩ : ∃ k, k = keepN e keep := ⟨_, rfl⟩
  have hkn : k = min keep.toNat (e.da.length - e.du) := hk
  rw [← hk] at h1
  have HR := Hid.mk h1
  clear h1 hk
  by_cases hneg : keep < 0
  · have k0 : k = 0 := by omega
    clear hkn
    subst k0
    have hF := lose_fin0 fe hv sp
    go_enter Tryz.func27, Tryz.ntmps27
    go_wp2
    go_region
    go_wp2
    go_region
    go_wp2
    go_end0
    exact HR.out _ _ (by rw [hv]; cases a <;> rfl) hF.1 hF.2.1 hF.2.2
  · by_cases hmore : (e.da.length : Int) - (e.du : Int) < keep
    · have hX : (e.da.length : Int) - (e.du : Int) = (k : Int) := by omega
      clear hkn
      by_cases k0 : k = 0
      · subst k0
        have hX' : (e.da.length : Int) - (e.du : Int) = 0 := by omega
        clear hX
        have hF := lose_fin0 fe hv sp
        go_enter Tryz.func27, Tryz.ntmps27
        go_wp2
        go_region
        try rw [hX']
        go_wp2
        go_region
        go_wp2
        go_end0
        exact HR.out _ _ (by rw [hv]; cases a <;> rfl) hF.1 hF.2.1 hF.2.2
      · have kp : (0 : Int) < (k : Int) := by omega
        obtain ⟨m, hm⟩ : ∃ m, e.du + k = m + 1 := ⟨e.du + k - 1, by omega⟩
        have hMi : (e.du : Int) + (k : Int) = (m : Int) + 1 := by omega
        have hml : m < e.da.length := by omega
        have hmc : m + 1 ≤ cap := by omega
        obtain ⟨g, rfl, hgc, hgz, hgf⟩ := lose_cell fe hv m hml
        have hx := xor_u8 (e.da[m]) sp
        have hF := lose_fin fe hv k m sp hm hml k0
        generalize hy : e.da[m] ^^^ sp = y at *
        clear hm hy
        go_enter Tryz.func27, Tryz.ntmps27
        go_wp2
        go_region
        try rw [hX]
        go_wp2
        go_region
        go_wp2
        go_region
        go_wp2
        go_end0
        exact HR.out _ _ (by rw [hv]; rfl) hF.1 hF.2.1 hF.2.2
    · obtain rfl : keep = (k : Int) := by omega
      have hkle : e.du + k ≤ e.da.length := by omega
      clear hkn
      by_cases k0 : k = 0
      · subst k0
        have hF := lose_fin0 fe hv sp
        go_enter Tryz.func27, Tryz.ntmps27
        go_wp2
        go_region
        go_wp2
        go_region
        go_wp2
        go_end0
        exact HR.out _ _ (by rw [hv]; cases a <;> rfl) hF.1 hF.2.1 hF.2.2
      · have kp : (0 : Int) < (k : Int) := by omega
        obtain ⟨m, hm⟩ : ∃ m, e.du + k = m + 1 := ⟨e.du + k - 1, by omega⟩
        have hMi : (e.du : Int) + (k : Int) = (m : Int) + 1 := by omega
        have hml : m < e.da.length := by omega
        have hmc : m + 1 ≤ cap := by omega
        obtain ⟨g, rfl, hgc, hgz, hgf⟩ := lose_cell fe hv m hml
        have hx := xor_u8 (e.da[m]) sp
        have hF := lose_fin fe hv k m sp hm hml k0
        generalize hy : e.da[m] ^^^ sp = y at *
        clear hm hy
        clear hkle hk1 hk2 hneg k0
        go_enter Tryz.func27, Tryz.ntmps27
        go_wp2
        go_region
        go_wp2
        go_region
        go_wp2
        go_region
        go_wp2
        go_end0
        exact HR.out _ _ (by rw [hv]; rfl) hF.1 hF.2.1 hF.2.2
end Go.Proofs.YtcamnalmcghjfaaGreatDoor.Dk
