/-
  DERIVED. Heads, entries and lines as bytes: the program's.
-/
import Derived.Test.YtdegclccbgpgiaaDoorBBytes2
set_option linter.unusedVariables false
set_option linter.unusedSimpArgs false
namespace Go.Proofs.YtdegclccbgpgiaaDoor
open Go.RowKit Go.Proofs.SealMath
theorem li_fin {e : En} {X Y Z : ByteArray} {n m : Nat} {w w' : World} (h1 : Hid (X.data.toList = plB e)) (h2 : Hid (Y.data.toList = pvL 9 n)) (h3 : Hid (Z.data.toList = pvL 9 m)) (k1 : X.size ≤ 142) (k2 : Y.size ≤ 10) (k3 : Z.size ≤ 10) (hb : Below w.heap.size w w') :
    ∃ U : ByteArray, Ending.returned (.string (X ++ Y ++ Z)) = .returned (.string U) ∧ U.size ≤ 162 ∧ Hid (U.data.toList = lnB ⟨e, n, m⟩) ∧ Below w.heap.size w w' := by
  exact ⟨_, rfl, by simp only [ByteArray.size_append]; omega, by show _ = _; simp [lnB, h1.out, h2.out, h3.out], hb⟩
set_option maxHeartbeats 8000000 in
set_option maxRecDepth 100000 in
theorem line_x (v i : Nat) (s : Int) (d : Bool) (c : ByteArray) (n m : Nat) (w : World) (hv : v < 4294967296) (hi : i < 9223372036854775808) (hn : n < 9223372036854775808) (hm : m < 9223372036854775808) (hc : c.size ≤ 128) :
    Calls Tryd.prog 50 #[.agg #[.int .i64 v, .string c, .int .i64 i, .int .i64 s, .bool d, .int .i64 n, .int .i64 m]] w fun e w' => ∃ X : ByteArray, e = .returned (.string X) ∧ X.size ≤ 162 ∧ Hid (X.data.toList = lnB ⟨⟨v, c, i, s, d⟩, n, m⟩) ∧ Below w.heap.size w w' := by
  have U0 := SAt.new w (lnC ⟨⟨v, c, i, s, d⟩, n, m⟩) 104
  have ba : Below w.heap.size w (w.alloc (.cells (lnC ⟨⟨v, c, i, s, d⟩, n, m⟩).toArray 104)) := (Below.refl _ w).alloc (Nat.le_refl _) _
  obtain ⟨w1, hw1⟩ : ∃ w1, w1 = w.alloc (.cells (lnC ⟨⟨v, c, i, s, d⟩, n, m⟩).toArray 104) := ⟨_, rfl⟩
  go_enter Tryd.func50, Tryd.ntmps50
  go_wp2
  rw [← hw1] at U0 ba
  have e1 := hw1.symm
  simp only [lnC, enC, List.cons_append, List.nil_append] at e1
  rw [e1]
  clear hw1 e1
  have q0 := U0 0 _ rfl
  have q1 := U0 1 _ rfl
  have q2 := U0 2 _ rfl
  have q3 := U0 3 _ rfl
  have q4 := U0 4 _ rfl
  have q5 := U0 5 _ rfl
  have q6 := U0 6 _ rfl
  dsimp only at q0 q1 q2 q3 q4 q5 q6
  clear U0
  go_region_held (fun w' => Below w1.heap.size w1 w' ∧ w'.cell? ⟨w.heap.size, 0, none⟩ = some (.int .i64 v) ∧ w'.cell? ⟨w.heap.size, 1, none⟩ = some (.string c) ∧ w'.cell? ⟨w.heap.size, 2, none⟩ = some (.int .i64 i) ∧ w'.cell? ⟨w.heap.size, 3, none⟩ = some (.int .i64 s) ∧ w'.cell? ⟨w.heap.size, 4, none⟩ = some (.bool d) ∧ w'.cell? ⟨w.heap.size, 5, none⟩ = some (.int .i64 n) ∧ w'.cell? ⟨w.heap.size, 6, none⟩ = some (.int .i64 m))
    ((refine (fun hb => ⟨hb, cell_lat hb q0, cell_lat hb q1, cell_lat hb q2, cell_lat hb q3, cell_lat hb q4, cell_lat hb q5, cell_lat hb q6⟩) ?_; first | exact bb | exact b_drew w1))
    (first
      | (go_at_call 83; refine (place_x _ _ _ _ _ _ (by omega) (by omega) (by omega)).mono ?_; rintro e w2 ⟨X, rfl, hX, HX, b2⟩; have bb : Below w1.heap.size w1 w2 := (by first | exact chain bb b2 (Nat.le_refl _) | exact below_d b2))
      | (go_at_call 51; refine (number_x _ _ (by omega)).mono ?_; rintro e w2 ⟨Y, rfl, hY, HY, b2⟩; have bb : Below w1.heap.size w1 w2 := (by first | exact chain bb b2 (Nat.le_refl _) | exact below_d b2)))
  all_goals
    go_wp2
    go_ret
    exact li_fin ‹_› ‹_› ‹_› ‹_› ‹_› ‹_› (chain ba bb (Nat.le_refl _))
end Go.Proofs.YtdegclccbgpgiaaDoor
