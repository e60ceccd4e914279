/-
  DERIVED. Cut: what the closure does.
-/
import Derived.Test.YtkoannkecojhmaaGreatDoorDAppend
set_option linter.unusedVariables false
set_option linter.unusedSimpArgs false
set_option linter.unnecessarySimpa false
namespace Go.Proofs.YtkoannkecojhmaaGreatDoor
open Go.RowKit Go.Maps Go.Proofs.DiskMath
theorem row_take {w : World} {a : Option Addr} {len cap : Nat} {da : List UInt8} (h : w.ownsRow 0 5 1 (.slice a len cap) len (da.map BV)) (n : Nat) (hn : n ≤ len) : w.ownsRow 0 5 1 (.slice a n cap) (da.take n).length ((da.take n).map BV) := by
  have hl : da.length = len := by have := h.1; simpa using this
  have hl2 : (da.take n).length = n := by rw [List.length_take]; omega
  rw [hl2]
  rcases h with ⟨h1, ⟨h2, h3⟩ | ⟨g, cap', cur, h2, h3, h4, h5, h6, h7, h8⟩⟩
  · cases h2
    obtain rfl : n = 0 := by omega
    exact ⟨by simp, .inl ⟨rfl, rfl⟩⟩
  · cases h2
    refine ⟨by simp; omega, .inr ⟨g, cap, cur, rfl, h3, h4, by omega, h6, h7, ?_⟩⟩
    rw [List.map_take, ← h8, List.take_take, show min n (len * 1) = n * 1 by omega]
theorem cut_fin {w : World} {p mb : Nat} {es : List Ent} {c : Ctl} {e : Ent} {a : Option Addr} {cap n : Nat} (h : DK w p mb es c) (he : e ∈ es) (fe : FileAt w e) (hv : e.v = .slice a e.da.length cap) (hle : n ≤ e.da.length) :
    DK (((w.setCell ⟨p, 2, none⟩ (.int .i64 ((used es : Int) - ((e.da.length : Int) - (n : Int))))).setCell ⟨e.fb, 0, none⟩ (.slice a n cap)).setCell ⟨e.fb, 1, none⟩ (.int .i64 (min e.du n : Nat))).drew.drew.drew p mb (modE es { e with da := e.da.take n, du := min e.du n, v := .slice a n cap }) c ∧
    Stay (fun k => k = p ∨ foot e k) w (((w.setCell ⟨p, 2, none⟩ (.int .i64 ((used es : Int) - ((e.da.length : Int) - (n : Int))))).setCell ⟨e.fb, 0, none⟩ (.slice a n cap)).setCell ⟨e.fb, 1, none⟩ (.int .i64 (min e.du n : Nat))).drew.drew.drew := by
  have hpfb : e.fb ≠ p := fun e1 => h.p_foot he (.inl e1.symm)
  have hl2 : (e.da.take n).length = n := by rw [List.length_take]; omega
  have hum := used_mem he
  have hu : used (modE es { e with da := e.da.take n, du := min e.du n, v := .slice a n cap }) + e.da.length = used es + n := by
    have := used_mod h.srt he (x := { e with da := e.da.take n, du := min e.du n, v := .slice a n cap }) rfl
    dsimp only at this; rw [hl2] at this; exact this
  obtain ⟨W, hW⟩ : ∃ W, W = (((w.setCell ⟨p, 2, none⟩ (.int .i64 ((used es : Int) - ((e.da.length : Int) - (n : Int))))).setCell ⟨e.fb, 0, none⟩ (.slice a n cap)).setCell ⟨e.fb, 1, none⟩ (.int .i64 (min e.du n : Nat))).drew.drew.drew := ⟨_, rfl⟩
  rw [← hW]
  have s2 : Stay (fun k => k = p ∨ k = e.fb) w W := by
    rw [hW]
    exact ((((((Stay.refl (fun k => k = p ∨ k = e.fb) w).setCell (p := ⟨p, 2, none⟩) (fun _ => .inl rfl) _).setCell (p := ⟨e.fb, 0, none⟩) (fun _ => .inr rfl) _).setCell (p := ⟨e.fb, 1, none⟩) (fun _ => .inr rfl) _).drew).drew).drew
  have sT := s2.mono (G := fun k => k = p ∨ foot e k) (fun k _ hk => hk.imp id .inl)
  have f1 : W.heap[e.fb]? = some (.cells #[.slice a n cap, .int .i64 (min e.du n : Nat)] 90 (0, 0)) := by
    rw [hW]
    have h0 : (w.setCell ⟨p, 2, none⟩ (.int .i64 ((used es : Int) - ((e.da.length : Int) - (n : Int))))).heap[e.fb]? = _ := (Below.heap_setCell w ⟨p, 2, none⟩ _ e.fb hpfb).trans fe.cells
    exact heap_setCell_same _ _ 1 _ _ _ (heap_setCell_same _ _ 0 _ _ _ h0)
  have hp1 : W.heap[p]? = some (.cells #[.map (some mb), .int .i64 c.cap, .int .i64 ((used es : Int) - ((e.da.length : Int) - (n : Int))), .bool c.off, .int .i64 c.left, .bool c.dn, .int .i64 c.age, .int .i64 c.wr] 75 (0, 0)) := by
    rw [hW]
    have h0 := heap_setCell_same w p 2 _ _ (.int .i64 ((used es : Int) - ((e.da.length : Int) - (n : Int)))) h.hp
    exact ((Below.heap_setCell _ ⟨e.fb, 1, none⟩ _ p (Ne.symm hpfb)).trans (Below.heap_setCell _ ⟨e.fb, 0, none⟩ _ p (Ne.symm hpfb))).trans h0
  have oW : W.ownsRow 0 5 1 e.v e.da.length (e.da.map BV) := row_kept fe.row s2 fun k hk hkp => by
    rcases hkp with rfl | rfl
    · exact h.p_foot he (.inr hk)
    · exact fe.row_fb _ hk rfl
  rw [hv] at oW
  have hdu := fe.du
  have hda := fe.da
  refine ⟨h.mod (x := { e with da := e.da.take n, du := min e.du n, v := .slice a n cap }) he rfl rfl sT ⟨f1, row_take oW n hle, ?_, ?_⟩ (fun k hk => .inl (by rw [hv]; cases a <;> simpa [Value.ownBlock] using hk)) ?_ ?_, sT⟩
  · dsimp only; rw [hl2]; omega
  · dsimp only; rw [hl2]; omega
  · have := h.full; omega
  · rw [hp1, show ((used es : Int) - ((e.da.length : Int) - (n : Int))) = ((used (modE es { e with da := e.da.take n, du := min e.du n, v := .slice a n cap }) : Nat) : Int) by omega]
end Go.Proofs.YtkoannkecojhmaaGreatDoor
