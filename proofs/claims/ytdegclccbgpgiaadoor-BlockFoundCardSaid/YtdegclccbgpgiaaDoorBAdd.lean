/-
  DERIVED. A frame put behind a file.
-/
import Derived.Test.YtdegclccbgpgiaaDoorBBuild
import Derived.Test.YtdegclccbgpgiaaDoorBBytes
set_option linter.unusedVariables false
set_option linter.unusedSimpArgs false
namespace Go.Proofs.YtdegclccbgpgiaaDoor
open Go.RowKit Go.Proofs.SealMath
/-- What a write to a builder leaves. -/
structure Wrote (w w' : World) (b : Nat) (v v' : Value) : Prop where
  stay : Stay (fun k => k = b ∨ v.ownBlock = some k) w w'
  loc : ∀ k, v'.ownBlock = some k → v.ownBlock = some k ∨ w.heap.size ≤ k
set_option maxHeartbeats 4000000 in
set_option maxRecDepth 100000 in
theorem add_any {b : Nat} {p v : Value} {l : List UInt8} (k : Nat) (s : ByteArray) (w : World) (ht : Tab w) (h : Bd w b p v l) (h1 : 1 ≤ k) (h2 : k ≤ 255) (h3 : s.size ≤ 65536) (hb : l.length + s.size + 14 ≤ 140737488355328) :
    Calls Tryd.prog 40 #[.int .i64 k, .string s, Pt b] w fun r w' => r = .returned (.tuple #[]) ∧ ∃ v', Bd w' b (Pt b) v' (l ++ frL k s.data.toList) ∧ Wrote w w' b v v' := by
  have hl := frL_len k s.data.toList
  rw [nm_size] at hl
  have HH := Hid.mk h
  clear h
  go_enter Tryd.func40, Tryd.ntmps40
  go_wp2_with fail
  refine (frame_ok k s w ht ht.pos h1 h2 h3).mono ?_
  rintro e w1 ⟨rfl, b1⟩
  have h := HH.out.kept (F := fun _ => False) (.below b1) (fun h => h) (fun _ _ h => h)
  have HE := Hid.mk (b1.size)
  go_wp2_with fail
  refine wstr_any ⟨(frL k s.data.toList).toArray⟩ w1 h (by show l.length + (frL k s.data.toList).toArray.size ≤ _; rw [List.size_toArray, hl]; omega) _ ?_
  intro v' w' hB hS hloc
  have HF := Hid.mk (show ∃ v', Bd w' b (Pt b) v' (l ++ frL k s.data.toList) ∧ Wrote w w' b v v' from
    ⟨v', hB, ⟨(Stay.below b1).trans hS, fun k hk => (hloc k hk).imp_right (Nat.le_trans HE.out)⟩⟩)
  clear hB hS hloc
  go_wp2
  go_end0
  exact ⟨rfl, HF.out⟩
theorem Bd.isB {w : World} {b B : Nat} {p v : Value} {l : List UInt8} (h : Bd w b p v l) (hb : B ≤ b) (hv : ∀ k, v.ownBlock = some k → B ≤ k) : Lib.IsBuilder 88 5 B b (Lib.byteCells l) w := by
  have key : Lib.BuilderAt 88 5 B b p (Lib.byteCells l) w := ⟨hb, v, h.cells, by
    have e2 : Lib.byteCells l = l.map BV := rfl
    rw [e2, List.length_map]
    obtain ⟨r1, r2⟩ := h.row
    refine ⟨r1, ?_⟩
    rcases r2 with r2 | ⟨g2, cap2, cur2, r2, r3, r4⟩
    · exact .inl r2
    · exact .inr ⟨g2, cap2, cur2, r2, hv g2 (by rw [r2]; rfl), r4⟩, fun hk => h.row_b _ hk rfl⟩
  rcases h.adr with rfl | rfl
  · exact .inl key
  · exact .inr key
theorem len_any {b : Nat} {p v : Value} {l : List UInt8} (w : World) (h : Bd w b p v l) : Calls Tryd.prog 47 #[Pt b] w fun r w' => r = .returned (.int .i64 l.length) ∧ w' = w := by
  refine (Tryd.Builder_Len 0 b _ w (h.isB (Nat.zero_le _) (fun _ _ => Nat.zero_le _))).mono ?_
  intro r w' hr
  have e : (Lib.byteCells l).length = l.length := by simp [Lib.byteCells]
  rw [e] at hr
  exact hr
end Go.Proofs.YtdegclccbgpgiaaDoor
