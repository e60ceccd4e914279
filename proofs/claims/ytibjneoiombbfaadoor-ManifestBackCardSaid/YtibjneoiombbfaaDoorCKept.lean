/-
  DERIVED. The laws' kept; a list that is written over.
-/
import Derived.Test.YtibjneoiombbfaaDoorCTwin
set_option linter.unusedVariables false
set_option linter.unusedSimpArgs false
namespace Go.Proofs.YtibjneoiombbfaaDoor
open Go.RowKit
theorem Rw.lat {w : World} {q cp : Nat} {l m : List Ru} (h : Rw w q cp (l ++ m)) : LAt w (some ⟨q, 0, none⟩) l := ⟨fun _ => ⟨q, 0, rfl, row_cut h.row⟩⟩
theorem Rw.below {w w' : World} {q cp : Nat} {l : List Ru} (h : Rw w q cp l) (b : Below w.heap.size w w') : Rw w' q cp l := row_kept (F := fun _ => False) h (.below b) (fun _ _ h => h)
theorem Rw.lt {w : World} {q cp : Nat} {l : List Ru} (h : Rw w q cp l) : q < w.heap.size := row_lt h rfl
set_option maxHeartbeats 8000000 in
set_option maxRecDepth 100000 in
theorem kept_any (m : Mf) (q cp : Nat) (la : Option Addr) (c : Nat) (w : World) (hR : Rw w q cp (m.rs ++ [r7])) (hL : LAt w la m.rs) (hc : m.rs.length ≤ c) (hs : m.rs.length < 4611686018427387904) :
    Calls Tryd.prog 18 #[.agg (mfC m (some ⟨q, 0, none⟩) cp).toArray, .agg (mfC m la c).toArray] w fun e w' => e = .returned (.bool true) ∧ Below w.heap.size w w' := by
  obtain ⟨wa, hwa⟩ : ∃ wa, wa = w.alloc (.cells (mfC m (some ⟨q, 0, none⟩) cp).toArray 26) := ⟨_, rfl⟩
  have ba : Below w.heap.size w wa := by rw [hwa]; exact (Below.refl _ w).alloc (Nat.le_refl _) _
  have sza : wa.heap.size = w.heap.size + 1 := by rw [hwa]; simp
  have SA : SAt wa w.heap.size (mfC m (some ⟨q, 0, none⟩) cp) := by rw [hwa]; exact SAt.new w _ _
  have hwa' : w.alloc (.cells (mfC m (some ⟨q, 0, none⟩) cp).toArray 26) = wa := hwa.symm
  obtain ⟨wb, hwb⟩ : ∃ wb, wb = wa.alloc (.cells (mfC m la c).toArray 26) := ⟨_, rfl⟩
  have bb : Below wa.heap.size wa wb := by rw [hwb]; exact (Below.refl _ wa).alloc (Nat.le_refl _) _
  have SB : SAt wb (w.heap.size + 1) (mfC m la c) := by rw [← sza, hwb]; exact SAt.new wa _ _
  have hwb' : wa.alloc (.cells (mfC m la c).toArray 26) = wb := hwb.symm
  have SA2 := SA.lat bb
  have b0 := chain ba bb (Nat.le_refl _)
  have a0 := SA2 0 _ rfl
  have a1 := SA2 1 _ rfl
  have a2 := SA2 2 _ rfl
  have a3 := SA2 3 _ rfl
  have a4 := SA2 4 _ rfl
  have a5 := SA2 5 _ rfl
  have a6 := SA2 6 _ rfl
  have c0 := SB 0 _ rfl
  have c1 := SB 1 _ rfl
  have c2 := SB 2 _ rfl
  have c3 := SB 3 _ rfl
  have c4 := SB 4 _ rfl
  have c5 := SB 5 _ rfl
  have c6 := SB 6 _ rfl
  have hcp : m.rs.length + 1 ≤ cp := by have := hR.cap (by simp); simpa using this
  have RB := hR.below b0
  have cs := same_eq m (some ⟨q, 0, none⟩) la cp c wb RB.lat (hL.below b0) (by omega) hc hs
  obtain ⟨x0, x1, x2, x3⟩ := row_ru RB.row m.rs.length (by simp)
  simp only [List.getElem_concat_length, r7, Nat.zero_add] at x0 x1 x2 x3
  clear hwa hwb SA SB SA2 ba bb RB
  simp only [mfC] at hwa' hwb' cs ⊢
  go_enter Tryd.func18, Tryd.ntmps18
  go_wp2_with (go_at_call 12; refine cs.mono ?_; rintro e w1 ⟨rfl, b1⟩; clear cs; have x0 := cell_lat b1 x0; have x1 := cell_lat b1 x1; have x2 := cell_lat b1 x2; have x3 := cell_lat b1 x3; have c6 := cell_lat b1 c6)
  go_ret
  exact ⟨rfl, chain b0 b1 (Nat.le_refl _)⟩
theorem flat_set4 : ∀ (X : List Ru) (i : Nat) (e : Ru), i < X.length → ((((X.flatMap ruC).set (i * 4) (.int .i64 e.num)).set (i * 4 + 1) (.int .i64 e.lo)).set (i * 4 + 2) (.int .i64 e.hi)).set (i * 4 + 3) (.int .i64 e.cnt) = (X.set i e).flatMap ruC
  | [], _, _, h => by simp at h
  | x :: X, 0, e, _ => by simp [ruC]
  | x :: X, i + 1, e, h => by
    have ih := flat_set4 X i e (by simpa using h)
    have hh : ∀ (L : List Value) (j : Nat) (u : Value), (ruC x ++ L).set ((i + 1) * 4 + j) u = ruC x ++ L.set (i * 4 + j) u := fun L j u => by
      rw [List.set_append_right _ _ (by rw [ruC_len]; omega), ruC_len]
      congr 2; omega
    have h0 := fun L u => hh L 0 u
    simp only [Nat.add_zero] at h0
    rw [List.flatMap_cons, h0, hh, hh, hh, ih, List.set_cons_succ, List.flatMap_cons]
/-- A run is stored into a row. -/
def set4 (W : World) (q i : Nat) (e : Ru) : World := (((W.setCell ⟨q, i * 4, none⟩ (.int .i64 e.num)).setCell ⟨q, i * 4 + 1, none⟩ (.int .i64 e.lo)).setCell ⟨q, i * 4 + 2, none⟩ (.int .i64 e.hi)).setCell ⟨q, i * 4 + 3, none⟩ (.int .i64 e.cnt)
theorem Rw.set {W : World} {q cp : Nat} {X : List Ru} (h : Rw W q cp X) (i : Nat) (e : Ru) (hi : i < X.length) : Rw (set4 W q i e) q cp (X.set i e) := by
  unfold Rw set4
  rw [List.length_set, ← flat_set4 X i e hi]
  exact (World.ownsRow.stored (World.ownsRow.stored (World.ownsRow.stored (World.ownsRow.stored h _ _).1 _ _).1 _ _).1 _ _).1
theorem set4_stay (W : World) (q i : Nat) (e : Ru) : Stay (fun k => k = q) W (set4 W q i e) :=
  (((((Stay.refl (fun k => k = q) W).setCell (fun _ => rfl) _).setCell (fun _ => rfl) _).setCell (fun _ => rfl) _).setCell (fun _ => rfl) _)
theorem Rw.free {W : World} {q cp : Nat} {X : List Ru} (h : Rw W q cp X) (j : Nat) : W.frozen? ⟨q, j, none⟩ = false := World.ownsRow.frozenAt h j
theorem Rw.kept {F : Nat → Prop} {W W' : World} {q cp : Nat} {X : List Ru} (h : Rw W q cp X) (s : Stay F W W') (hn : ¬ F q) : Rw W' q cp X := row_kept h s (fun k hk => by cases hk; exact hn)
end Go.Proofs.YtibjneoiombbfaaDoor
