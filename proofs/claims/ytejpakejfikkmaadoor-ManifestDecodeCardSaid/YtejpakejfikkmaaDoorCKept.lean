/-
  DERIVED. The laws' kept; a list that is written over.
-/
import Derived.Test.YtejpakejfikkmaaDoorCTwin
set_option linter.unusedVariables false
set_option linter.unusedSimpArgs false
namespace Go.Proofs.YtejpakejfikkmaaDoor
open Go.RowKit
theorem Rw.lat {w : World} {q cp : Nat} {l m : List Ru} (h : Rw w q cp (l ++ m)) : LAt w (some ⟨q, 0, none⟩) l := ⟨fun _ => ⟨q, 0, rfl, row_cut h.row⟩⟩
theorem Rw.below {w w' : World} {q cp : Nat} {l : List Ru} (h : Rw w q cp l) (b : Below w.heap.size w w') : Rw w' q cp l := row_kept (F := fun _ => False) h (.below b) (fun _ _ h => h)
theorem Rw.lt {w : World} {q cp : Nat} {l : List Ru} (h : Rw w q cp l) : q < w.heap.size := row_lt h rfl
theorem flat_set4 : ∀ (X : List Ru) (i : Nat) (e : Ru), i < X.length → ((((X.flatMap ruC).set (i * 4) (.int .i64 e.num)).set (i * 4 + 1) (.int .i64 e.lo)).set (i * 4 + 2) (.int .i64 e.hi)).set (i * 4 + 3) (.int .i64 e.cnt) = (X.set i e).flatMap ruC
  | [], _, _, h => by simp at h
  | x :: X, 0, e, _ => by simp [ruC]
  | x :: X, i + 1, e, h => by
    have ih := flat_set4 X i e (by simpa using h)
    have hh : ∀ (L : List Value) (j : Nat) (u : Value), (ruC x ++ L).set ((i + 1) * 4 + j) u = ruC x ++ L.set (i * 4 + j) u := fun L j u => by
      rw [List.set_append_right _ _ (by rw [ruC_len]; omega), ruC_len]
      congr 2; omega
    have h0 := fun L u => hh L 0 u
    simp only [Nat.add_zero] at h0
    rw [List.flatMap_cons, h0, hh, hh, hh, ih, List.set_cons_succ, List.flatMap_cons]
/-- A run is stored into a row. -/
def set4 (W : World) (q i : Nat) (e : Ru) : World := (((W.setCell ⟨q, i * 4, none⟩ (.int .i64 e.num)).setCell ⟨q, i * 4 + 1, none⟩ (.int .i64 e.lo)).setCell ⟨q, i * 4 + 2, none⟩ (.int .i64 e.hi)).setCell ⟨q, i * 4 + 3, none⟩ (.int .i64 e.cnt)
theorem Rw.set {W : World} {q cp : Nat} {X : List Ru} (h : Rw W q cp X) (i : Nat) (e : Ru) (hi : i < X.length) : Rw (set4 W q i e) q cp (X.set i e) := by
  unfold Rw set4
  rw [List.length_set, ← flat_set4 X i e hi]
  exact (World.ownsRow.stored (World.ownsRow.stored (World.ownsRow.stored (World.ownsRow.stored h _ _).1 _ _).1 _ _).1 _ _).1
theorem set4_stay (W : World) (q i : Nat) (e : Ru) : Stay (fun k => k = q) W (set4 W q i e) :=
  (((((Stay.refl (fun k => k = q) W).setCell (fun _ => rfl) _).setCell (fun _ => rfl) _).setCell (fun _ => rfl) _).setCell (fun _ => rfl) _)
theorem Rw.free {W : World} {q cp : Nat} {X : List Ru} (h : Rw W q cp X) (j : Nat) : W.frozen? ⟨q, j, none⟩ = false := World.ownsRow.frozenAt h j
theorem Rw.kept {F : Nat → Prop} {W W' : World} {q cp : Nat} {X : List Ru} (h : Rw W q cp X) (s : Stay F W W') (hn : ¬ F q) : Rw W' q cp X := row_kept h s (fun k hk => by cases hk; exact hn)
end Go.Proofs.YtejpakejfikkmaaDoor
