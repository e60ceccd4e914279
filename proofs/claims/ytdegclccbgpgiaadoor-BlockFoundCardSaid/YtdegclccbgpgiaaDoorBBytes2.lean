/-
  DERIVED. Heads, entries and lines as bytes: the program's.
-/
import Derived.Test.YtdegclccbgpgiaaDoorBBytes
set_option linter.unusedVariables false
set_option linter.unusedSimpArgs false
namespace Go.Proofs.YtdegclccbgpgiaaDoor
open Go.RowKit Go.Proofs.SealMath
theorem pl_fin {v i : Nat} {s : Int} {d : Bool} {c X Y : ByteArray} {w w' : World} (h1 : Hid (X.data.toList = fixL v 4)) (h2 : Hid (Y.data.toList = pvL 9 i)) (k1 : X.size ≤ 4) (k2 : Y.size ≤ 10) (hc : c.size ≤ 128) (hb : Below w.heap.size w w') :
    ∃ Z : ByteArray, Ending.returned (.string (X ++ c ++ Y)) = .returned (.string Z) ∧ Z.size ≤ 142 ∧ Hid (Z.data.toList = plB ⟨v, c, i, s, d⟩) ∧ Below w.heap.size w w' :=
  ⟨_, rfl, by simp only [ByteArray.size_append]; omega, by show _ = _; simp [plB, h1.out, h2.out], hb⟩
set_option maxHeartbeats 4000000 in
set_option maxRecDepth 100000 in
theorem place_x (v i : Nat) (s : Int) (d : Bool) (c : ByteArray) (w : World) (hv : v < 4294967296) (hi : i < 9223372036854775808) (hc : c.size ≤ 128) :
    Calls Tryd.prog 83 #[.agg #[.int .i64 v, .string c, .int .i64 i, .int .i64 s, .bool d]] w fun e w' => ∃ X : ByteArray, e = .returned (.string X) ∧ X.size ≤ 142 ∧ Hid (X.data.toList = plB ⟨v, c, i, s, d⟩) ∧ Below w.heap.size w w' := by
  have hw : IntKind.u64.wrap (v : Int) = v := by rw [IntKind.wrap_u64]; omega
  have U0 := SAt.new w (enC ⟨v, c, i, s, d⟩) 40
  have ba : Below w.heap.size w (w.alloc (.cells (enC ⟨v, c, i, s, d⟩).toArray 40)) := (Below.refl _ w).alloc (Nat.le_refl _) _
  obtain ⟨w1, hw1⟩ : ∃ w1, w1 = w.alloc (.cells (enC ⟨v, c, i, s, d⟩).toArray 40) := ⟨_, rfl⟩
  go_enter Tryd.func83, Tryd.ntmps83
  go_wp2
  rw [← hw1] at U0 ba
  have e1 : w.alloc (.cells #[.int .i64 v, .string c, .int .i64 i, .int .i64 s, .bool d] 40) = w1 := hw1.symm
  rw [e1]
  clear hw1 e1
  have q0 := U0 0 _ rfl
  have q1 := U0 1 _ rfl
  have q2 := U0 2 _ rfl
  clear U0
  go_region_held (fun w' => Below w1.heap.size w1 w' ∧ w'.cell? ⟨w.heap.size, 0, none⟩ = some (.int .i64 v) ∧ w'.cell? ⟨w.heap.size, 1, none⟩ = some (.string c) ∧ w'.cell? ⟨w.heap.size, 2, none⟩ = some (.int .i64 i))
    ((refine (fun hb => ⟨hb, cell_lat hb q0, cell_lat hb q1, cell_lat hb q2⟩) ?_; first | exact bb | exact b_drew w1))
    (first
      | (go_at_call 52; refine (fixed_x _ _ (by omega)).mono ?_; rintro e w2 ⟨X, rfl, hX, HX, b2⟩; have bb : Below w1.heap.size w1 w2 := (by first | exact chain bb b2 (Nat.le_refl _) | exact below_d b2))
      | (go_at_call 51; refine (number_x _ _ (by omega)).mono ?_; rintro e w2 ⟨Y, rfl, hY, HY, b2⟩; have bb : Below w1.heap.size w1 w2 := (by first | exact chain bb b2 (Nat.le_refl _) | exact below_d b2)))
  all_goals
    go_wp2
    go_ret
    exact pl_fin HX HY hX hY hc (chain ba bb (Nat.le_refl _))
end Go.Proofs.YtdegclccbgpgiaaDoor
