/-
  DERIVED. BY1, BY2, BY3, as one text.
-/
import Derived.Test.YtjdpolhjbkpnlaaGreatDoorLzAV
import Derived.Deep.RegionHeldLaw
import Derived.Deep.RegionHeld
import Derived.Test.YtjdpolhjbkpnlaaGreatDoorRows
import Derived.Deep.Slices
import Derived.WideShapes
import Derived.ChangeShapes
import Derived.SizedLaws
import Derived.ChangeSlices
set_option linter.unusedVariables false
set_option linter.unusedSimpArgs false
namespace Go.Proofs.YtjdpolhjbkpnlaaGreatDoor.Dx
open Go.RowKit Go.Proofs.SealMath
open Go.Proofs.YtjdpolhjbkpnlaaGreatDoor.Rb
/-- What stands between the two calls: the question's box, both files. -/
structure Mid (w W : World) (X : Array Value) (fb rb : Nat) (h : Hd) (l : List En) (bl : List (List UInt8)) (ix : List En) (bv iv lv sv : Value) (rp rr : Nat) : Prop where
  box : W.heap[w.heap.size]? = some (.cells X 40 (0, 0))
  p : FA W fb h bl ix bv iv rp
  r : RF W rb h l lv sv rr
  ltp : fb < w.heap.size
  ltr : rb < w.heap.size
  st : Stay (fun k => k = fb ∨ k = rb) w W
section
variable {w W W' : World} {X : Array Value} {fb rb : Nat} {h : Hd} {l : List En} {bl : List (List UInt8)} {ix : List En} {bv iv lv sv : Value} {rd rp rr : Nat}
theorem Mid.begin (H : BF w fb rb h l bl ix bv iv lv sv rd) : Mid w (w.alloc (.cells X 40)).drew X fb rb h l bl ix bv iv lv sv rd rd := by
  have b : Below w.heap.size w (w.alloc (.cells X 40)) := (Below.refl _ w).alloc (Nat.le_refl _) _
  have H2 := H.below (W' := (w.alloc (.cells X 40)).drew) (chain b (b_drew _) (Nat.le_refl _))
  exact ⟨heap_alloc_last w _, H2.p, H2.r, (Array.getElem?_eq_some_iff.1 H.p.box).1, H.r.lt, .below (chain b (b_drew _) (Nat.le_refl _))⟩
theorem Mid.keep {F : Nat → Prop} (M : Mid w W X fb rb h l bl ix bv iv lv sv rp rr) (s : Stay F W W') (hF : ∀ k, F k → k = fb ∨ k = rb) : W'.heap[w.heap.size]? = some (.cells X 40 (0, 0)) ∧ Stay (fun k => k = fb ∨ k = rb) w W' := by
  have h1 := M.ltp
  have h2 := M.ltr
  exact ⟨(s.block _ (Array.getElem?_eq_some_iff.1 M.box).1 (fun hk => by rcases hF _ hk with e | e <;> omega)).trans M.box, M.st.andThen s fun k _ hk => hF k hk⟩
theorem Mid.goP {R : Nat × List En} {r : Ending} (M : Mid w W X fb rb h l bl ix bv iv lv sv rp rr) (a : PiO fb h bl ix bv iv rp R W r W') :
    ∃ v, r = .returned v ∧ Mid w W' X fb rb h l bl ix bv iv lv sv (rp + R.1) rr ∧ W'.ownsRow 0 38 5 v R.2.length (R.2.flatMap enC) ∧ (∀ k, v.ownBlock = some k → w.heap.size ≤ k) ∧ Stay (fun k => k = fb) W W' ∧ R.1 ≤ 2097152 ∧ R.2.length ≤ 2097152 := by
  obtain ⟨v, hv, h1, h2, h3, h4, h5⟩ := a
  obtain ⟨k1, k2⟩ := M.keep h4 fun k hk => .inl hk
  exact ⟨v, hv, ⟨k1, h3, M.r.aside M.p h4, M.ltp, M.ltr, k2⟩, h1, fun k hk => Nat.le_trans M.st.size (h2 k hk), h4, h5⟩
theorem Mid.goR {R : Nat × List En} {r : Ending} (M : Mid w W X fb rb h l bl ix bv iv lv sv rp rr) (a : FiO rb h l lv sv rr R W r W') :
    ∃ v, r = .returned v ∧ Mid w W' X fb rb h l bl ix bv iv lv sv rp (rr + R.1) ∧ W'.ownsRow 0 38 5 v R.2.length (R.2.flatMap enC) ∧ (∀ k, v.ownBlock = some k → w.heap.size ≤ k) ∧ Stay (fun k => k = rb) W W' := by
  obtain ⟨v, hv, h1, h2, h3, h4⟩ := a
  obtain ⟨k1, k2⟩ := M.keep h4 fun k hk => .inr hk
  exact ⟨v, hv, ⟨k1, p_aside M.p M.r h4, h3, M.ltp, M.ltr, k2⟩, h1, fun k hk => Nat.le_trans M.st.size (h2 k hk), h4⟩
theorem Mid.below (M : Mid w W X fb rb h l bl ix bv iv lv sv rp rr) (b : Below W.heap.size W W') : Mid w W' X fb rb h l bl ix bv iv lv sv rp rr := by
  obtain ⟨k1, k2⟩ := M.keep (F := fun _ => False) (.below b) fun k hk => hk.elim
  exact ⟨k1, M.p.kept (.below b) (fun h => h) (fun _ _ h => h) (fun _ _ h => h), M.r.below b, M.ltp, M.ltr, k2⟩
theorem Mid.drew (M : Mid w W X fb rb h l bl ix bv iv lv sv rp rr) (d : Drew W W') : Mid w W' X fb rb h l bl ix bv iv lv sv rp rr := M.below (d.below _)
end
set_option maxHeartbeats 8000000 in
set_option maxRecDepth 100000 in
theorem asked_any (fb rb : Nat) (h : Hd) (l : List En) (bl : List (List UInt8)) (ix : List En) (bv iv lv sv : Value) (rd : Nat) (v : Int) (c : ByteArray) (i s : Int) (d : Bool) (m : Int) (w : World) (H : BF w fb rb h l bl ix bv iv lv sv rd) (F : FF h l bl ix) (hrd : rd + 2097152 ≤ 4611686018427387904) :
    Calls Tryz.prog 12 #[Pt fb, Pt rb, .agg #[.int .i64 v, .string c, .int .i64 i, .int .i64 s, .bool d, .int .i64 m]] w fun r w' => r = .returned (.bool true) ∧ ∃ t, t ≤ 2097152 ∧ BF w' fb rb h l bl ix bv iv lv sv (rd + t) ∧ Stay (fun k => k = fb ∨ k = rb) w w' := by
  have M := Mid.begin (X := #[.int .i64 v, .string c, .int .i64 i, .int .i64 s, .bool d, .int .i64 m]) H
  have hgl := F.hGl
  have hll := F.hl
  by_cases hm : m = 0
  · have hm' : (m != 0) = false := by simp [hm]
    obtain ⟨R, hR⟩ : ∃ R, R = fnD v ((Gs l).drop (rF ix ⟨v, ⟨#[]⟩, -1, 0, false⟩ - 1)) := ⟨_, rfl⟩
    have hp : ∀ W, FA W fb h bl ix bv iv rd → Calls Tryz.prog 15 #[Pt fb, .int .i64 v] W (PiO fb h bl ix bv iv rd R W) := fun W X => by
      rw [hR]
      exact pfind_any fb h l bl ix bv iv rd v W X F hrd
    have hr : ∀ W, RF W rb h l lv sv rd → Calls Tryz.prog 17 #[Pt rb, .int .i64 v] W (FiO rb h l lv sv rd R W) := fun W X => by
      rw [hR]
      exact rfind_any rb h l lv sv rd v ix W X F.hix F.pts.upix F.hne hll (by omega) hgl
    clear hm hR F H hrd hgl hll
    go_enter Tryz.func12, Tryz.ntmps12
    go_wp2_with fail
    refine wp_region_held_drew (S := fun w' => w'.heap[w.heap.size]? = some (.cells #[.int .i64 v, .string c, .int .i64 i, .int .i64 s, .bool d, .int .i64 m] 40 (0, 0))) (by kernel_rfl) M.box (fun hHeld => ?_)
    refine wpAnyH_take (i := 0) (oi := { dst := some 24, op := Op.move (Operand.tmp 0), type := 23, pos := "law.go:61", after := #[], guard := none }) (v := ?va0) rfl (by kernel_rfl) (by kernel_rfl) (by kernel_rfl) (fun _ _ _ h => h) (Or.inl ⟨by rfl, ?ha0⟩) (by assumption) ?ra0
    case ha0 => (intro w0 hSw; (try dsimp only at hSw); have y0 : w0.cell? ⟨w.heap.size, 0, none⟩ = some (.int .i64 v) := by { rw [cell_of_row w0 _ 0 _ _ (0, 0) hSw]; rfl }; have y1 : w0.cell? ⟨w.heap.size, 1, none⟩ = some (.string c) := by { rw [cell_of_row w0 _ 1 _ _ (0, 0) hSw]; rfl }; have y2 : w0.cell? ⟨w.heap.size, 2, none⟩ = some (.int .i64 i) := by { rw [cell_of_row w0 _ 2 _ _ (0, 0) hSw]; rfl }; have y3 : w0.cell? ⟨w.heap.size, 3, none⟩ = some (.int .i64 s) := by { rw [cell_of_row w0 _ 3 _ _ (0, 0) hSw]; rfl }; have y4 : w0.cell? ⟨w.heap.size, 4, none⟩ = some (.bool d) := by { rw [cell_of_row w0 _ 4 _ _ (0, 0) hSw]; rfl }; have y5 : w0.cell? ⟨w.heap.size, 5, none⟩ = some (.int .i64 m) := by { rw [cell_of_row w0 _ 5 _ _ (0, 0) hSw]; rfl }; clear hSw; go_simp; try (with_reducible rfl))
    simp only [Act.put, List.setIfInBounds_toArray, List.set_cons_zero, List.set_cons_succ]
    refine wpAnyH_take (i := 1) (oi := { dst := some 25, op := Op.fieldAddr 40 (Operand.tmp 5) 0, type := 0, pos := "law.go:61", after := #[], guard := none }) (v := ?va1) rfl (by kernel_rfl) (by kernel_rfl) (by kernel_rfl) (fun _ _ _ h => h) (Or.inl ⟨by rfl, ?ha1⟩) (by assumption) ?ra1
    case ha1 => (intro w0 hSw; (try dsimp only at hSw); have y0 : w0.cell? ⟨w.heap.size, 0, none⟩ = some (.int .i64 v) := by { rw [cell_of_row w0 _ 0 _ _ (0, 0) hSw]; rfl }; have y1 : w0.cell? ⟨w.heap.size, 1, none⟩ = some (.string c) := by { rw [cell_of_row w0 _ 1 _ _ (0, 0) hSw]; rfl }; have y2 : w0.cell? ⟨w.heap.size, 2, none⟩ = some (.int .i64 i) := by { rw [cell_of_row w0 _ 2 _ _ (0, 0) hSw]; rfl }; have y3 : w0.cell? ⟨w.heap.size, 3, none⟩ = some (.int .i64 s) := by { rw [cell_of_row w0 _ 3 _ _ (0, 0) hSw]; rfl }; have y4 : w0.cell? ⟨w.heap.size, 4, none⟩ = some (.bool d) := by { rw [cell_of_row w0 _ 4 _ _ (0, 0) hSw]; rfl }; have y5 : w0.cell? ⟨w.heap.size, 5, none⟩ = some (.int .i64 m) := by { rw [cell_of_row w0 _ 5 _ _ (0, 0) hSw]; rfl }; clear hSw; go_simp; try (with_reducible rfl))
    simp only [Act.put, List.setIfInBounds_toArray, List.set_cons_zero, List.set_cons_succ]
    refine wpAnyH_take (i := 2) (oi := { dst := some 26, op := Op.fieldAddr 38 (Operand.tmp 25) 0, type := 0, pos := "law.go:61", after := #[{ on := 1, ground := Ground.data }], guard := none }) (v := ?va2) rfl (by kernel_rfl) (by kernel_rfl) (by kernel_rfl) (fun _ _ _ h => h) (Or.inl ⟨by rfl, ?ha2⟩) (by assumption) ?ra2
    case ha2 => (intro w0 hSw; (try dsimp only at hSw); have y0 : w0.cell? ⟨w.heap.size, 0, none⟩ = some (.int .i64 v) := by { rw [cell_of_row w0 _ 0 _ _ (0, 0) hSw]; rfl }; have y1 : w0.cell? ⟨w.heap.size, 1, none⟩ = some (.string c) := by { rw [cell_of_row w0 _ 1 _ _ (0, 0) hSw]; rfl }; have y2 : w0.cell? ⟨w.heap.size, 2, none⟩ = some (.int .i64 i) := by { rw [cell_of_row w0 _ 2 _ _ (0, 0) hSw]; rfl }; have y3 : w0.cell? ⟨w.heap.size, 3, none⟩ = some (.int .i64 s) := by { rw [cell_of_row w0 _ 3 _ _ (0, 0) hSw]; rfl }; have y4 : w0.cell? ⟨w.heap.size, 4, none⟩ = some (.bool d) := by { rw [cell_of_row w0 _ 4 _ _ (0, 0) hSw]; rfl }; have y5 : w0.cell? ⟨w.heap.size, 5, none⟩ = some (.int .i64 m) := by { rw [cell_of_row w0 _ 5 _ _ (0, 0) hSw]; rfl }; clear hSw; go_simp; try (with_reducible rfl))
    simp only [Act.put, List.setIfInBounds_toArray, List.set_cons_zero, List.set_cons_succ]
    refine wpAnyH_take (i := 3) (oi := { dst := some 27, op := Op.load 3 (Operand.tmp 26), type := 3, pos := "law.go:61", after := #[{ on := 2, ground := Ground.data }], guard := none }) (v := ?va3) rfl (by kernel_rfl) (by kernel_rfl) (by kernel_rfl) (fun _ _ _ h => h) (Or.inl ⟨by rfl, ?ha3⟩) (by assumption) ?ra3
    case ha3 => (intro w0 hSw; (try dsimp only at hSw); have y0 : w0.cell? ⟨w.heap.size, 0, none⟩ = some (.int .i64 v) := by { rw [cell_of_row w0 _ 0 _ _ (0, 0) hSw]; rfl }; have y1 : w0.cell? ⟨w.heap.size, 1, none⟩ = some (.string c) := by { rw [cell_of_row w0 _ 1 _ _ (0, 0) hSw]; rfl }; have y2 : w0.cell? ⟨w.heap.size, 2, none⟩ = some (.int .i64 i) := by { rw [cell_of_row w0 _ 2 _ _ (0, 0) hSw]; rfl }; have y3 : w0.cell? ⟨w.heap.size, 3, none⟩ = some (.int .i64 s) := by { rw [cell_of_row w0 _ 3 _ _ (0, 0) hSw]; rfl }; have y4 : w0.cell? ⟨w.heap.size, 4, none⟩ = some (.bool d) := by { rw [cell_of_row w0 _ 4 _ _ (0, 0) hSw]; rfl }; have y5 : w0.cell? ⟨w.heap.size, 5, none⟩ = some (.int .i64 m) := by { rw [cell_of_row w0 _ 5 _ _ (0, 0) hSw]; rfl }; clear hSw; go_simp; try (with_reducible rfl))
    simp only [Act.put, List.setIfInBounds_toArray, List.set_cons_zero, List.set_cons_succ]
    refine wpAnyH_take (i := 5) (oi := { dst := some 29, op := Op.move (Operand.tmp 1), type := 27, pos := "law.go:61", after := #[], guard := none }) (v := ?va5) rfl (by kernel_rfl) (by kernel_rfl) (by kernel_rfl) (fun _ _ _ h => h) (Or.inl ⟨by rfl, ?ha5⟩) (by assumption) ?ra5
    case ha5 => (intro w0 hSw; (try dsimp only at hSw); have y0 : w0.cell? ⟨w.heap.size, 0, none⟩ = some (.int .i64 v) := by { rw [cell_of_row w0 _ 0 _ _ (0, 0) hSw]; rfl }; have y1 : w0.cell? ⟨w.heap.size, 1, none⟩ = some (.string c) := by { rw [cell_of_row w0 _ 1 _ _ (0, 0) hSw]; rfl }; have y2 : w0.cell? ⟨w.heap.size, 2, none⟩ = some (.int .i64 i) := by { rw [cell_of_row w0 _ 2 _ _ (0, 0) hSw]; rfl }; have y3 : w0.cell? ⟨w.heap.size, 3, none⟩ = some (.int .i64 s) := by { rw [cell_of_row w0 _ 3 _ _ (0, 0) hSw]; rfl }; have y4 : w0.cell? ⟨w.heap.size, 4, none⟩ = some (.bool d) := by { rw [cell_of_row w0 _ 4 _ _ (0, 0) hSw]; rfl }; have y5 : w0.cell? ⟨w.heap.size, 5, none⟩ = some (.int .i64 m) := by { rw [cell_of_row w0 _ 5 _ _ (0, 0) hSw]; rfl }; clear hSw; go_simp; try (with_reducible rfl))
    simp only [Act.put, List.setIfInBounds_toArray, List.set_cons_zero, List.set_cons_succ]
    refine wpAnyH_take (i := 6) (oi := { dst := some 30, op := Op.fieldAddr 40 (Operand.tmp 5) 0, type := 0, pos := "law.go:61", after := #[], guard := none }) (v := ?va6) rfl (by kernel_rfl) (by kernel_rfl) (by kernel_rfl) (fun _ _ _ h => h) (Or.inl ⟨by rfl, ?ha6⟩) (by assumption) ?ra6
    case ha6 => (intro w0 hSw; (try dsimp only at hSw); have y0 : w0.cell? ⟨w.heap.size, 0, none⟩ = some (.int .i64 v) := by { rw [cell_of_row w0 _ 0 _ _ (0, 0) hSw]; rfl }; have y1 : w0.cell? ⟨w.heap.size, 1, none⟩ = some (.string c) := by { rw [cell_of_row w0 _ 1 _ _ (0, 0) hSw]; rfl }; have y2 : w0.cell? ⟨w.heap.size, 2, none⟩ = some (.int .i64 i) := by { rw [cell_of_row w0 _ 2 _ _ (0, 0) hSw]; rfl }; have y3 : w0.cell? ⟨w.heap.size, 3, none⟩ = some (.int .i64 s) := by { rw [cell_of_row w0 _ 3 _ _ (0, 0) hSw]; rfl }; have y4 : w0.cell? ⟨w.heap.size, 4, none⟩ = some (.bool d) := by { rw [cell_of_row w0 _ 4 _ _ (0, 0) hSw]; rfl }; have y5 : w0.cell? ⟨w.heap.size, 5, none⟩ = some (.int .i64 m) := by { rw [cell_of_row w0 _ 5 _ _ (0, 0) hSw]; rfl }; clear hSw; go_simp; try (with_reducible rfl))
    simp only [Act.put, List.setIfInBounds_toArray, List.set_cons_zero, List.set_cons_succ]
    refine wpAnyH_take (i := 7) (oi := { dst := some 31, op := Op.fieldAddr 38 (Operand.tmp 30) 0, type := 0, pos := "law.go:61", after := #[{ on := 6, ground := Ground.data }], guard := none }) (v := ?va7) rfl (by kernel_rfl) (by kernel_rfl) (by kernel_rfl) (fun _ _ _ h => h) (Or.inl ⟨by rfl, ?ha7⟩) (by assumption) ?ra7
    case ha7 => (intro w0 hSw; (try dsimp only at hSw); have y0 : w0.cell? ⟨w.heap.size, 0, none⟩ = some (.int .i64 v) := by { rw [cell_of_row w0 _ 0 _ _ (0, 0) hSw]; rfl }; have y1 : w0.cell? ⟨w.heap.size, 1, none⟩ = some (.string c) := by { rw [cell_of_row w0 _ 1 _ _ (0, 0) hSw]; rfl }; have y2 : w0.cell? ⟨w.heap.size, 2, none⟩ = some (.int .i64 i) := by { rw [cell_of_row w0 _ 2 _ _ (0, 0) hSw]; rfl }; have y3 : w0.cell? ⟨w.heap.size, 3, none⟩ = some (.int .i64 s) := by { rw [cell_of_row w0 _ 3 _ _ (0, 0) hSw]; rfl }; have y4 : w0.cell? ⟨w.heap.size, 4, none⟩ = some (.bool d) := by { rw [cell_of_row w0 _ 4 _ _ (0, 0) hSw]; rfl }; have y5 : w0.cell? ⟨w.heap.size, 5, none⟩ = some (.int .i64 m) := by { rw [cell_of_row w0 _ 5 _ _ (0, 0) hSw]; rfl }; clear hSw; go_simp; try (with_reducible rfl))
    simp only [Act.put, List.setIfInBounds_toArray, List.set_cons_zero, List.set_cons_succ]
    refine wpAnyH_take (i := 8) (oi := { dst := some 32, op := Op.load 3 (Operand.tmp 31), type := 3, pos := "law.go:61", after := #[{ on := 7, ground := Ground.data }], guard := none }) (v := ?va8) rfl (by kernel_rfl) (by kernel_rfl) (by kernel_rfl) (fun _ _ _ h => h) (Or.inl ⟨by rfl, ?ha8⟩) (by assumption) ?ra8
    case ha8 => (intro w0 hSw; (try dsimp only at hSw); have y0 : w0.cell? ⟨w.heap.size, 0, none⟩ = some (.int .i64 v) := by { rw [cell_of_row w0 _ 0 _ _ (0, 0) hSw]; rfl }; have y1 : w0.cell? ⟨w.heap.size, 1, none⟩ = some (.string c) := by { rw [cell_of_row w0 _ 1 _ _ (0, 0) hSw]; rfl }; have y2 : w0.cell? ⟨w.heap.size, 2, none⟩ = some (.int .i64 i) := by { rw [cell_of_row w0 _ 2 _ _ (0, 0) hSw]; rfl }; have y3 : w0.cell? ⟨w.heap.size, 3, none⟩ = some (.int .i64 s) := by { rw [cell_of_row w0 _ 3 _ _ (0, 0) hSw]; rfl }; have y4 : w0.cell? ⟨w.heap.size, 4, none⟩ = some (.bool d) := by { rw [cell_of_row w0 _ 4 _ _ (0, 0) hSw]; rfl }; have y5 : w0.cell? ⟨w.heap.size, 5, none⟩ = some (.int .i64 m) := by { rw [cell_of_row w0 _ 5 _ _ (0, 0) hSw]; rfl }; clear hSw; go_simp; try (with_reducible rfl))
    simp only [Act.put, List.setIfInBounds_toArray, List.set_cons_zero, List.set_cons_succ]
    refine wpAnyH_ready (rs := [4]) (by kernel_rfl) (by simp) ?_
    refine AllReadyH.cons rfl (fun K hK => ?_) AllReadyH.nil
    · go_simp
      go_wp2_with (go_at_call 15; refine (hp _ M.p).mono ?_; rintro r w2 hA; obtain ⟨va, rfl, M2, ra, na, sa, hLn⟩ := M.goP hA; clear hA)
      refine hK.out _ _ M2.box (fun hHeld2 => ?_)
      clear hK K
      refine wpAnyH_ready (rs := [9]) (by kernel_rfl) (by simp) ?_
      refine AllReadyH.cons rfl (fun K hK => ?_) AllReadyH.nil
      go_simp
      go_wp2_with (go_at_call 17; refine (hr _ M2.r).mono ?_; rintro r w3 hA; obtain ⟨vb, rfl, M3, rb', nb, sb⟩ := M2.goR hA; clear hA)
      replace ra := row_kept ra sb (fun k hk e => by have h1 := na k hk; have h2 := M.ltr; omega)
      obtain ⟨a1, c1, rfl, hc1, La⟩ := lat_row ra
      obtain ⟨a2, c2, rfl, hc2, Lb⟩ := lat_row rb'
      have hsm := same6_any R.2 a1 a2 c1 c2 w3 La Lb (by omega)
      clear ra rb' na nb La Lb hc1 hc2 hp hr
      refine hK.out _ _ M3.box (fun hHeld3 => ?_)
      clear hK K
      refine wpAnyH_ready (rs := [10]) (by kernel_rfl) (by simp) ?_
      refine AllReadyH.cons rfl (fun K hK => ?_) AllReadyH.nil
      go_simp
      go_wp2_with (go_at_call 9; refine hsm.mono ?_; clear hsm; rintro r w4 ⟨rfl, dr⟩)
      have M4 := M3.drew dr
      refine hK.out _ _ M4.box (fun hHeld4 => ?_)
      clear hK K
      refine wpAnyH_take (i := 11) (oi := { dst := some 7, op := Op.assign (Operand.tmp 34), type := 4, pos := "law.go:61", after := #[{ on := 10, ground := Ground.data }, { on := 10, ground := Ground.chain }, { on := 0, ground := Ground.phase }, { on := 1, ground := Ground.phase }, { on := 2, ground := Ground.phase }, { on := 3, ground := Ground.phase }, { on := 4, ground := Ground.phase }, { on := 5, ground := Ground.phase }, { on := 6, ground := Ground.phase }, { on := 7, ground := Ground.phase }, { on := 8, ground := Ground.phase }, { on := 9, ground := Ground.phase }, { on := 10, ground := Ground.phase }], guard := none }) (v := ?wa11P) rfl (by kernel_rfl) (by kernel_rfl) (by kernel_rfl) (fun _ _ _ h => h) (Or.inl ⟨by rfl, ?ga11P⟩) (by assumption) ?sa11P
      case ga11P => (intro w0 hSw; go_simp; try (with_reducible rfl))
      simp only [Act.put, List.setIfInBounds_toArray, List.set_cons_zero, List.set_cons_succ]
      refine wpAnyH_done (by kernel_rfl) ?_ _
      have hpr := reads_any fb h bv iv (rd + R.1) w4 M4.p.box
      clear hHeld hHeld2 hHeld3 hHeld4
      go_wp2_with (first | (go_at_call 13; refine hpr.mono ?_; clear hpr; rintro r w5 ⟨rfl, b5⟩; have M5 := M4.below b5; have hrr := rreads_any rb h lv sv (rd + R.1) w5 M5.r.box) | (go_at_call 14; refine hrr.mono ?_; clear hrr; rintro r w6 ⟨rfl, rfl⟩))
      go_ret
      exact ⟨rfl, R.1, hLn.1, ⟨M5.p, M5.r⟩, M5.st⟩
  · have hm' : (m != 0) = true := by simpa using hm
    obtain ⟨R, hR⟩ : ∃ R, R = frD ⟨v, c, i, s, d⟩ m.toNat ((Gs l).drop (rF ix ⟨v, c, i, s, d⟩ - 1)) := ⟨_, rfl⟩
    have hp : ∀ W, FA W fb h bl ix bv iv rd → Calls Tryz.prog 16 #[Pt fb, .agg #[.int .i64 v, .string c, .int .i64 i, .int .i64 s, .bool d], .int .i64 m] W (PiO fb h bl ix bv iv rd R W) := fun W X => by
      rw [hR]
      exact pfrom_any fb h l bl ix bv iv rd ⟨v, c, i, s, d⟩ m W X F hrd
    have hr : ∀ W, RF W rb h l lv sv rd → Calls Tryz.prog 18 #[Pt rb, .agg #[.int .i64 v, .string c, .int .i64 i, .int .i64 s, .bool d], .int .i64 m] W (FiO rb h l lv sv rd R W) := fun W X => by
      rw [hR]
      exact rfrom_any rb h l lv sv rd ⟨v, c, i, s, d⟩ m ix W X F.hix F.pts.upix F.hne hll (by omega) hgl
    clear hm hR F H hrd hgl hll
    go_enter Tryz.func12, Tryz.ntmps12
    go_wp2_with fail
    refine wp_region_held_drew (S := fun w' => w'.heap[w.heap.size]? = some (.cells #[.int .i64 v, .string c, .int .i64 i, .int .i64 s, .bool d, .int .i64 m] 40 (0, 0))) (by kernel_rfl) M.box (fun hHeld => ?_)
    refine wpAnyH_take (i := 0) (oi := { dst := some 11, op := Op.move (Operand.tmp 0), type := 23, pos := "law.go:59", after := #[], guard := none }) (v := ?vb0) rfl (by kernel_rfl) (by kernel_rfl) (by kernel_rfl) (fun _ _ _ h => h) (Or.inl ⟨by rfl, ?hb0⟩) (by assumption) ?rb0
    case hb0 => (intro w0 hSw; (try dsimp only at hSw); have y0 : w0.cell? ⟨w.heap.size, 0, none⟩ = some (.int .i64 v) := by { rw [cell_of_row w0 _ 0 _ _ (0, 0) hSw]; rfl }; have y1 : w0.cell? ⟨w.heap.size, 1, none⟩ = some (.string c) := by { rw [cell_of_row w0 _ 1 _ _ (0, 0) hSw]; rfl }; have y2 : w0.cell? ⟨w.heap.size, 2, none⟩ = some (.int .i64 i) := by { rw [cell_of_row w0 _ 2 _ _ (0, 0) hSw]; rfl }; have y3 : w0.cell? ⟨w.heap.size, 3, none⟩ = some (.int .i64 s) := by { rw [cell_of_row w0 _ 3 _ _ (0, 0) hSw]; rfl }; have y4 : w0.cell? ⟨w.heap.size, 4, none⟩ = some (.bool d) := by { rw [cell_of_row w0 _ 4 _ _ (0, 0) hSw]; rfl }; have y5 : w0.cell? ⟨w.heap.size, 5, none⟩ = some (.int .i64 m) := by { rw [cell_of_row w0 _ 5 _ _ (0, 0) hSw]; rfl }; clear hSw; go_simp; try (with_reducible rfl))
    simp only [Act.put, List.setIfInBounds_toArray, List.set_cons_zero, List.set_cons_succ]
    refine wpAnyH_take (i := 1) (oi := { dst := some 12, op := Op.fieldAddr 40 (Operand.tmp 5) 0, type := 0, pos := "law.go:59", after := #[], guard := none }) (v := ?vb1) rfl (by kernel_rfl) (by kernel_rfl) (by kernel_rfl) (fun _ _ _ h => h) (Or.inl ⟨by rfl, ?hb1⟩) (by assumption) ?rb1
    case hb1 => (intro w0 hSw; (try dsimp only at hSw); have y0 : w0.cell? ⟨w.heap.size, 0, none⟩ = some (.int .i64 v) := by { rw [cell_of_row w0 _ 0 _ _ (0, 0) hSw]; rfl }; have y1 : w0.cell? ⟨w.heap.size, 1, none⟩ = some (.string c) := by { rw [cell_of_row w0 _ 1 _ _ (0, 0) hSw]; rfl }; have y2 : w0.cell? ⟨w.heap.size, 2, none⟩ = some (.int .i64 i) := by { rw [cell_of_row w0 _ 2 _ _ (0, 0) hSw]; rfl }; have y3 : w0.cell? ⟨w.heap.size, 3, none⟩ = some (.int .i64 s) := by { rw [cell_of_row w0 _ 3 _ _ (0, 0) hSw]; rfl }; have y4 : w0.cell? ⟨w.heap.size, 4, none⟩ = some (.bool d) := by { rw [cell_of_row w0 _ 4 _ _ (0, 0) hSw]; rfl }; have y5 : w0.cell? ⟨w.heap.size, 5, none⟩ = some (.int .i64 m) := by { rw [cell_of_row w0 _ 5 _ _ (0, 0) hSw]; rfl }; clear hSw; go_simp; try (with_reducible rfl))
    simp only [Act.put, List.setIfInBounds_toArray, List.set_cons_zero, List.set_cons_succ]
    refine wpAnyH_take (i := 2) (oi := { dst := some 13, op := Op.load 38 (Operand.tmp 12), type := 38, pos := "law.go:59", after := #[{ on := 1, ground := Ground.data }], guard := none }) (v := ?vb2) rfl (by kernel_rfl) (by kernel_rfl) (by kernel_rfl) (fun _ _ _ h => h) (Or.inl ⟨by rfl, ?hb2⟩) (by assumption) ?rb2
    case hb2 => (intro w0 hSw; (try dsimp only at hSw); have y0 : w0.cell? ⟨w.heap.size, 0, none⟩ = some (.int .i64 v) := by { rw [cell_of_row w0 _ 0 _ _ (0, 0) hSw]; rfl }; have y1 : w0.cell? ⟨w.heap.size, 1, none⟩ = some (.string c) := by { rw [cell_of_row w0 _ 1 _ _ (0, 0) hSw]; rfl }; have y2 : w0.cell? ⟨w.heap.size, 2, none⟩ = some (.int .i64 i) := by { rw [cell_of_row w0 _ 2 _ _ (0, 0) hSw]; rfl }; have y3 : w0.cell? ⟨w.heap.size, 3, none⟩ = some (.int .i64 s) := by { rw [cell_of_row w0 _ 3 _ _ (0, 0) hSw]; rfl }; have y4 : w0.cell? ⟨w.heap.size, 4, none⟩ = some (.bool d) := by { rw [cell_of_row w0 _ 4 _ _ (0, 0) hSw]; rfl }; have y5 : w0.cell? ⟨w.heap.size, 5, none⟩ = some (.int .i64 m) := by { rw [cell_of_row w0 _ 5 _ _ (0, 0) hSw]; rfl }; clear hSw; go_simp; try (with_reducible rfl))
    simp only [Act.put, List.setIfInBounds_toArray, List.set_cons_zero, List.set_cons_succ]
    refine wpAnyH_take (i := 3) (oi := { dst := some 14, op := Op.fieldAddr 40 (Operand.tmp 5) 1, type := 0, pos := "law.go:59", after := #[], guard := none }) (v := ?vb3) rfl (by kernel_rfl) (by kernel_rfl) (by kernel_rfl) (fun _ _ _ h => h) (Or.inl ⟨by rfl, ?hb3⟩) (by assumption) ?rb3
    case hb3 => (intro w0 hSw; (try dsimp only at hSw); have y0 : w0.cell? ⟨w.heap.size, 0, none⟩ = some (.int .i64 v) := by { rw [cell_of_row w0 _ 0 _ _ (0, 0) hSw]; rfl }; have y1 : w0.cell? ⟨w.heap.size, 1, none⟩ = some (.string c) := by { rw [cell_of_row w0 _ 1 _ _ (0, 0) hSw]; rfl }; have y2 : w0.cell? ⟨w.heap.size, 2, none⟩ = some (.int .i64 i) := by { rw [cell_of_row w0 _ 2 _ _ (0, 0) hSw]; rfl }; have y3 : w0.cell? ⟨w.heap.size, 3, none⟩ = some (.int .i64 s) := by { rw [cell_of_row w0 _ 3 _ _ (0, 0) hSw]; rfl }; have y4 : w0.cell? ⟨w.heap.size, 4, none⟩ = some (.bool d) := by { rw [cell_of_row w0 _ 4 _ _ (0, 0) hSw]; rfl }; have y5 : w0.cell? ⟨w.heap.size, 5, none⟩ = some (.int .i64 m) := by { rw [cell_of_row w0 _ 5 _ _ (0, 0) hSw]; rfl }; clear hSw; go_simp; try (with_reducible rfl))
    simp only [Act.put, List.setIfInBounds_toArray, List.set_cons_zero, List.set_cons_succ]
    refine wpAnyH_take (i := 4) (oi := { dst := some 15, op := Op.load 3 (Operand.tmp 14), type := 3, pos := "law.go:59", after := #[{ on := 3, ground := Ground.data }], guard := none }) (v := ?vb4) rfl (by kernel_rfl) (by kernel_rfl) (by kernel_rfl) (fun _ _ _ h => h) (Or.inl ⟨by rfl, ?hb4⟩) (by assumption) ?rb4
    case hb4 => (intro w0 hSw; (try dsimp only at hSw); have y0 : w0.cell? ⟨w.heap.size, 0, none⟩ = some (.int .i64 v) := by { rw [cell_of_row w0 _ 0 _ _ (0, 0) hSw]; rfl }; have y1 : w0.cell? ⟨w.heap.size, 1, none⟩ = some (.string c) := by { rw [cell_of_row w0 _ 1 _ _ (0, 0) hSw]; rfl }; have y2 : w0.cell? ⟨w.heap.size, 2, none⟩ = some (.int .i64 i) := by { rw [cell_of_row w0 _ 2 _ _ (0, 0) hSw]; rfl }; have y3 : w0.cell? ⟨w.heap.size, 3, none⟩ = some (.int .i64 s) := by { rw [cell_of_row w0 _ 3 _ _ (0, 0) hSw]; rfl }; have y4 : w0.cell? ⟨w.heap.size, 4, none⟩ = some (.bool d) := by { rw [cell_of_row w0 _ 4 _ _ (0, 0) hSw]; rfl }; have y5 : w0.cell? ⟨w.heap.size, 5, none⟩ = some (.int .i64 m) := by { rw [cell_of_row w0 _ 5 _ _ (0, 0) hSw]; rfl }; clear hSw; go_simp; try (with_reducible rfl))
    simp only [Act.put, List.setIfInBounds_toArray, List.set_cons_zero, List.set_cons_succ]
    refine wpAnyH_take (i := 6) (oi := { dst := some 17, op := Op.move (Operand.tmp 1), type := 27, pos := "law.go:59", after := #[], guard := none }) (v := ?vb6) rfl (by kernel_rfl) (by kernel_rfl) (by kernel_rfl) (fun _ _ _ h => h) (Or.inl ⟨by rfl, ?hb6⟩) (by assumption) ?rb6
    case hb6 => (intro w0 hSw; (try dsimp only at hSw); have y0 : w0.cell? ⟨w.heap.size, 0, none⟩ = some (.int .i64 v) := by { rw [cell_of_row w0 _ 0 _ _ (0, 0) hSw]; rfl }; have y1 : w0.cell? ⟨w.heap.size, 1, none⟩ = some (.string c) := by { rw [cell_of_row w0 _ 1 _ _ (0, 0) hSw]; rfl }; have y2 : w0.cell? ⟨w.heap.size, 2, none⟩ = some (.int .i64 i) := by { rw [cell_of_row w0 _ 2 _ _ (0, 0) hSw]; rfl }; have y3 : w0.cell? ⟨w.heap.size, 3, none⟩ = some (.int .i64 s) := by { rw [cell_of_row w0 _ 3 _ _ (0, 0) hSw]; rfl }; have y4 : w0.cell? ⟨w.heap.size, 4, none⟩ = some (.bool d) := by { rw [cell_of_row w0 _ 4 _ _ (0, 0) hSw]; rfl }; have y5 : w0.cell? ⟨w.heap.size, 5, none⟩ = some (.int .i64 m) := by { rw [cell_of_row w0 _ 5 _ _ (0, 0) hSw]; rfl }; clear hSw; go_simp; try (with_reducible rfl))
    simp only [Act.put, List.setIfInBounds_toArray, List.set_cons_zero, List.set_cons_succ]
    refine wpAnyH_take (i := 7) (oi := { dst := some 18, op := Op.fieldAddr 40 (Operand.tmp 5) 0, type := 0, pos := "law.go:59", after := #[], guard := none }) (v := ?vb7) rfl (by kernel_rfl) (by kernel_rfl) (by kernel_rfl) (fun _ _ _ h => h) (Or.inl ⟨by rfl, ?hb7⟩) (by assumption) ?rb7
    case hb7 => (intro w0 hSw; (try dsimp only at hSw); have y0 : w0.cell? ⟨w.heap.size, 0, none⟩ = some (.int .i64 v) := by { rw [cell_of_row w0 _ 0 _ _ (0, 0) hSw]; rfl }; have y1 : w0.cell? ⟨w.heap.size, 1, none⟩ = some (.string c) := by { rw [cell_of_row w0 _ 1 _ _ (0, 0) hSw]; rfl }; have y2 : w0.cell? ⟨w.heap.size, 2, none⟩ = some (.int .i64 i) := by { rw [cell_of_row w0 _ 2 _ _ (0, 0) hSw]; rfl }; have y3 : w0.cell? ⟨w.heap.size, 3, none⟩ = some (.int .i64 s) := by { rw [cell_of_row w0 _ 3 _ _ (0, 0) hSw]; rfl }; have y4 : w0.cell? ⟨w.heap.size, 4, none⟩ = some (.bool d) := by { rw [cell_of_row w0 _ 4 _ _ (0, 0) hSw]; rfl }; have y5 : w0.cell? ⟨w.heap.size, 5, none⟩ = some (.int .i64 m) := by { rw [cell_of_row w0 _ 5 _ _ (0, 0) hSw]; rfl }; clear hSw; go_simp; try (with_reducible rfl))
    simp only [Act.put, List.setIfInBounds_toArray, List.set_cons_zero, List.set_cons_succ]
    refine wpAnyH_take (i := 8) (oi := { dst := some 19, op := Op.load 38 (Operand.tmp 18), type := 38, pos := "law.go:59", after := #[{ on := 7, ground := Ground.data }], guard := none }) (v := ?vb8) rfl (by kernel_rfl) (by kernel_rfl) (by kernel_rfl) (fun _ _ _ h => h) (Or.inl ⟨by rfl, ?hb8⟩) (by assumption) ?rb8
    case hb8 => (intro w0 hSw; (try dsimp only at hSw); have y0 : w0.cell? ⟨w.heap.size, 0, none⟩ = some (.int .i64 v) := by { rw [cell_of_row w0 _ 0 _ _ (0, 0) hSw]; rfl }; have y1 : w0.cell? ⟨w.heap.size, 1, none⟩ = some (.string c) := by { rw [cell_of_row w0 _ 1 _ _ (0, 0) hSw]; rfl }; have y2 : w0.cell? ⟨w.heap.size, 2, none⟩ = some (.int .i64 i) := by { rw [cell_of_row w0 _ 2 _ _ (0, 0) hSw]; rfl }; have y3 : w0.cell? ⟨w.heap.size, 3, none⟩ = some (.int .i64 s) := by { rw [cell_of_row w0 _ 3 _ _ (0, 0) hSw]; rfl }; have y4 : w0.cell? ⟨w.heap.size, 4, none⟩ = some (.bool d) := by { rw [cell_of_row w0 _ 4 _ _ (0, 0) hSw]; rfl }; have y5 : w0.cell? ⟨w.heap.size, 5, none⟩ = some (.int .i64 m) := by { rw [cell_of_row w0 _ 5 _ _ (0, 0) hSw]; rfl }; clear hSw; go_simp; try (with_reducible rfl))
    simp only [Act.put, List.setIfInBounds_toArray, List.set_cons_zero, List.set_cons_succ]
    refine wpAnyH_take (i := 9) (oi := { dst := some 20, op := Op.fieldAddr 40 (Operand.tmp 5) 1, type := 0, pos := "law.go:59", after := #[], guard := none }) (v := ?vb9) rfl (by kernel_rfl) (by kernel_rfl) (by kernel_rfl) (fun _ _ _ h => h) (Or.inl ⟨by rfl, ?hb9⟩) (by assumption) ?rb9
    case hb9 => (intro w0 hSw; (try dsimp only at hSw); have y0 : w0.cell? ⟨w.heap.size, 0, none⟩ = some (.int .i64 v) := by { rw [cell_of_row w0 _ 0 _ _ (0, 0) hSw]; rfl }; have y1 : w0.cell? ⟨w.heap.size, 1, none⟩ = some (.string c) := by { rw [cell_of_row w0 _ 1 _ _ (0, 0) hSw]; rfl }; have y2 : w0.cell? ⟨w.heap.size, 2, none⟩ = some (.int .i64 i) := by { rw [cell_of_row w0 _ 2 _ _ (0, 0) hSw]; rfl }; have y3 : w0.cell? ⟨w.heap.size, 3, none⟩ = some (.int .i64 s) := by { rw [cell_of_row w0 _ 3 _ _ (0, 0) hSw]; rfl }; have y4 : w0.cell? ⟨w.heap.size, 4, none⟩ = some (.bool d) := by { rw [cell_of_row w0 _ 4 _ _ (0, 0) hSw]; rfl }; have y5 : w0.cell? ⟨w.heap.size, 5, none⟩ = some (.int .i64 m) := by { rw [cell_of_row w0 _ 5 _ _ (0, 0) hSw]; rfl }; clear hSw; go_simp; try (with_reducible rfl))
    simp only [Act.put, List.setIfInBounds_toArray, List.set_cons_zero, List.set_cons_succ]
    refine wpAnyH_take (i := 10) (oi := { dst := some 21, op := Op.load 3 (Operand.tmp 20), type := 3, pos := "law.go:59", after := #[{ on := 9, ground := Ground.data }], guard := none }) (v := ?vb10) rfl (by kernel_rfl) (by kernel_rfl) (by kernel_rfl) (fun _ _ _ h => h) (Or.inl ⟨by rfl, ?hb10⟩) (by assumption) ?rb10
    case hb10 => (intro w0 hSw; (try dsimp only at hSw); have y0 : w0.cell? ⟨w.heap.size, 0, none⟩ = some (.int .i64 v) := by { rw [cell_of_row w0 _ 0 _ _ (0, 0) hSw]; rfl }; have y1 : w0.cell? ⟨w.heap.size, 1, none⟩ = some (.string c) := by { rw [cell_of_row w0 _ 1 _ _ (0, 0) hSw]; rfl }; have y2 : w0.cell? ⟨w.heap.size, 2, none⟩ = some (.int .i64 i) := by { rw [cell_of_row w0 _ 2 _ _ (0, 0) hSw]; rfl }; have y3 : w0.cell? ⟨w.heap.size, 3, none⟩ = some (.int .i64 s) := by { rw [cell_of_row w0 _ 3 _ _ (0, 0) hSw]; rfl }; have y4 : w0.cell? ⟨w.heap.size, 4, none⟩ = some (.bool d) := by { rw [cell_of_row w0 _ 4 _ _ (0, 0) hSw]; rfl }; have y5 : w0.cell? ⟨w.heap.size, 5, none⟩ = some (.int .i64 m) := by { rw [cell_of_row w0 _ 5 _ _ (0, 0) hSw]; rfl }; clear hSw; go_simp; try (with_reducible rfl))
    simp only [Act.put, List.setIfInBounds_toArray, List.set_cons_zero, List.set_cons_succ]
    refine wpAnyH_ready (rs := [5]) (by kernel_rfl) (by simp) ?_
    refine AllReadyH.cons rfl (fun K hK => ?_) AllReadyH.nil
    · go_simp
      go_wp2_with (go_at_call 16; refine (hp _ M.p).mono ?_; rintro r w2 hA; obtain ⟨va, rfl, M2, ra, na, sa, hLn⟩ := M.goP hA; clear hA)
      refine hK.out _ _ M2.box (fun hHeld2 => ?_)
      clear hK K
      refine wpAnyH_ready (rs := [11]) (by kernel_rfl) (by simp) ?_
      refine AllReadyH.cons rfl (fun K hK => ?_) AllReadyH.nil
      go_simp
      go_wp2_with (go_at_call 18; refine (hr _ M2.r).mono ?_; rintro r w3 hA; obtain ⟨vb, rfl, M3, rb', nb, sb⟩ := M2.goR hA; clear hA)
      replace ra := row_kept ra sb (fun k hk e => by have h1 := na k hk; have h2 := M.ltr; omega)
      obtain ⟨a1, c1, rfl, hc1, La⟩ := lat_row ra
      obtain ⟨a2, c2, rfl, hc2, Lb⟩ := lat_row rb'
      have hsm := same6_any R.2 a1 a2 c1 c2 w3 La Lb (by omega)
      clear ra rb' na nb La Lb hc1 hc2 hp hr
      refine hK.out _ _ M3.box (fun hHeld3 => ?_)
      clear hK K
      refine wpAnyH_ready (rs := [12]) (by kernel_rfl) (by simp) ?_
      refine AllReadyH.cons rfl (fun K hK => ?_) AllReadyH.nil
      go_simp
      go_wp2_with (go_at_call 9; refine hsm.mono ?_; clear hsm; rintro r w4 ⟨rfl, dr⟩)
      have M4 := M3.drew dr
      refine hK.out _ _ M4.box (fun hHeld4 => ?_)
      clear hK K
      refine wpAnyH_take (i := 13) (oi := { dst := some 7, op := Op.assign (Operand.tmp 23), type := 4, pos := "law.go:59", after := #[{ on := 12, ground := Ground.data }, { on := 12, ground := Ground.chain }, { on := 0, ground := Ground.phase }, { on := 1, ground := Ground.phase }, { on := 2, ground := Ground.phase }, { on := 3, ground := Ground.phase }, { on := 4, ground := Ground.phase }, { on := 5, ground := Ground.phase }, { on := 6, ground := Ground.phase }, { on := 7, ground := Ground.phase }, { on := 8, ground := Ground.phase }, { on := 9, ground := Ground.phase }, { on := 10, ground := Ground.phase }, { on := 11, ground := Ground.phase }, { on := 12, ground := Ground.phase }], guard := none }) (v := ?wb13P) rfl (by kernel_rfl) (by kernel_rfl) (by kernel_rfl) (fun _ _ _ h => h) (Or.inl ⟨by rfl, ?gb13P⟩) (by assumption) ?sb13P
      case gb13P => (intro w0 hSw; go_simp; try (with_reducible rfl))
      simp only [Act.put, List.setIfInBounds_toArray, List.set_cons_zero, List.set_cons_succ]
      refine wpAnyH_done (by kernel_rfl) ?_ _
      have hpr := reads_any fb h bv iv (rd + R.1) w4 M4.p.box
      clear hHeld hHeld2 hHeld3 hHeld4
      go_wp2_with (first | (go_at_call 13; refine hpr.mono ?_; clear hpr; rintro r w5 ⟨rfl, b5⟩; have M5 := M4.below b5; have hrr := rreads_any rb h lv sv (rd + R.1) w5 M5.r.box) | (go_at_call 14; refine hrr.mono ?_; clear hrr; rintro r w6 ⟨rfl, rfl⟩))
      go_ret
      exact ⟨rfl, R.1, hLn.1, ⟨M5.p, M5.r⟩, M5.st⟩
end Go.Proofs.YtjdpolhjbkpnlaaGreatDoor.Dx
set_option linter.unusedVariables false
set_option linter.unusedSimpArgs false
namespace Go.Proofs.YtjdpolhjbkpnlaaGreatDoor.Dx
open Go.RowKit Go.Proofs.SealMath
open Go.Proofs.YtjdpolhjbkpnlaaGreatDoor.Rb
theorem wrap_up (i : Nat) (h : i < 17592186044416) : wrap64 ((i : Int) + 1) = (i : Int) + 1 := by unfold wrap64; omega
/-- A question: an entry, and how many. -/
structure Qn where
  e : En
  m : Int
def qC (q : Qn) : List Value := [.int .i64 q.e.v, .string q.e.c, .int .i64 q.e.i, .int .i64 q.e.s, .bool q.e.d, .int .i64 q.m]
/-- Questions that lie in memory. -/
structure QAt (w : World) (la : Option Addr) (l : List Qn) : Prop where
  at' : l ≠ [] → ∃ g off, la = some ⟨g, off, none⟩ ∧ RowAt w g off (l.flatMap qC)
theorem QAt.below {w w' : World} {la : Option Addr} {l : List Qn} (h : QAt w la l) (b : Below w.heap.size w w') : QAt w' la l := ⟨fun hn => by
  obtain ⟨g, off, e, hr⟩ := h.at' hn
  exact ⟨g, off, e, fun j x hx => cell_lat b (hr j x hx)⟩⟩
theorem q_at {w : World} {g off : Nat} {l : List Qn} (h : RowAt w g off (l.flatMap qC)) (i : Nat) (hi : i < l.length) (j : Nat) (x : Value) (hx : (qC l[i])[j]? = some x) : w.cell? ⟨g, off + i * 6 + j, none⟩ = some x := by
  have hj : j < 6 := by have := (List.getElem?_eq_some_iff.1 hx).1; simpa [qC] using this
  have h1 := flat_at qC 6 (fun _ => rfl) l i j hi hj
  rw [hx] at h1
  have h2 := h _ _ h1
  rw [← Nat.add_assoc] at h2
  exact h2
set_option maxRecDepth 100000 in
set_option maxHeartbeats 1000000 in
theorem fhead_any (fb : Nat) (h : Hd) (bv iv : Value) (rd : Nat) (w : World) (hb : w.heap[fb]? = some (.cells (flV h bv iv rd) 54 (0, 0))) :
    Calls Tryz.prog 7 #[Pt fb] w fun r w' => r = .returned (.agg #[.int .i64 h.w, .int .i64 h.t, .int .i64 h.b, .int .i64 h.lo, .int .i64 h.hi, .int .i64 h.n]) ∧ Below w.heap.size w w' := by
  obtain ⟨⟨y0, y1, y2, y3, y4, y5⟩, -⟩ := fl9 hb
  have hz : fb < w.heap.size := World.block_lt_of_cell? w _ y0
  clear hb
  go_enter Tryz.func7, Tryz.ntmps7
  go_wp2
  refine bodyPost_ret (v := .agg #[.int .i64 h.w, .int .i64 h.t, .int .i64 h.b, .int .i64 h.lo, .int .i64 h.hi, .int .i64 h.n]) (by simp [results, Tryz.results7, go_sem]; try rfl) rfl ?_
  exact ⟨rfl, (Below.refl _ w).alloc (Nat.le_refl _) _⟩
theorem all_pair (fb rb : Nat) (h : Hd) (l : List En) (bl : List (List UInt8)) (ix : List En) (bv iv lv sv : Value) (rd : Nat) (w : World) (H : BF w fb rb h l bl ix bv iv lv sv rd) (F : FF h l bl ix) :
    (∀ W, Below w.heap.size w W → Calls Tryz.prog 10 #[Pt fb] W fun r w' => ∃ a cap, r = .returned (.slice a l.length cap) ∧ LAt w' a l ∧ Below W.heap.size W w') ∧
    (∀ W, Below w.heap.size w W → Calls Tryz.prog 11 #[Pt rb] W fun r w' => ∃ a cap, r = .returned (.slice a l.length cap) ∧ LAt w' a l ∧ Below W.heap.size W w') := by
  have hl := F.hl
  refine ⟨fun W b => ?_, fun W b => ?_⟩
  · refine (all_any fb h bl ix bv iv rd W (H.below b).p F.hw ⟨by rw [F.hn]; omega, by rw [F.hn]; omega⟩ F.hs).mono ?_
    rintro r w' ⟨v, rfl, hr, -, hb⟩
    rw [F.pts.al] at hr
    obtain ⟨a, cap, rfl, -, hL⟩ := lat_row hr
    exact ⟨a, cap, rfl, hL, hb⟩
  · refine (rall_any rb h l lv sv rd W (H.below b).r (by omega)).mono ?_
    rintro r w' ⟨v, rfl, hr, -, hb⟩
    obtain ⟨a, cap, rfl, -, hL⟩ := lat_row hr
    exact ⟨a, cap, rfl, hL, hb⟩
/-- Both Opens of one text. -/
def TwO (b : ByteArray) (w W : World) (a c : Value) (x y : Int) : Prop := Below w.heap.size w W ∧ ((a = .pointer none ∧ c = .pointer none ∧ x = 80 ∧ y = 80) ∨
  ∃ fb rb h l bl ix bv iv lv sv, a = Pt fb ∧ c = Pt rb ∧ x = 0 ∧ y = 0 ∧ w.heap.size ≤ fb ∧ w.heap.size ≤ rb ∧ FF h l bl ix ∧ BF W fb rb h l bl ix bv iv lv sv 0)
theorem two_open (b : ByteArray) (w : World) (ht : Tab w) (hg : 0 < w.heap.size) (hb : b.size ≤ 1099511627776) :
    Calls Tryz.prog 5 #[.string b] w fun r w1 => ∃ a x, r = .returned (.tuple #[a, .int .i64 x]) ∧ Below w.heap.size w w1 ∧
      Calls Tryz.prog 6 #[.string b] w1 fun r w2 => ∃ c y, r = .returned (.tuple #[c, .int .i64 y]) ∧ TwO b w w2 a c x y := by
  refine (open_any b w ht hg hb).mono ?_
  rintro r w1 ⟨b1, hO⟩
  have hE := opD_eq b
  cases hA : opA b with
  | none =>
    rw [hA] at hO hE
    simp only [] at hO
    subst hO
    refine ⟨_, _, rfl, b1, ?_⟩
    refine (ropen_any b w1 hb).mono ?_
    rintro r w2 ⟨b2, ⟨-, rfl⟩ | ⟨h, m, fb, lv, sv, e, -⟩⟩
    · exact ⟨_, _, rfl, chain b1 b2 (Nat.le_refl _), .inl ⟨rfl, rfl, rfl, rfl⟩⟩
    · rw [hE] at e
      simp at e
  | some p =>
    obtain ⟨h, bl⟩ := p
    rw [hA] at hO hE
    simp only [] at hO
    obtain ⟨fb, bv, iv, rfl, hfb, hF, -, -⟩ := hO
    refine ⟨_, _, rfl, b1, ?_⟩
    refine (ropen_any b w1 hb).mono ?_
    rintro r w2 ⟨b2, ⟨e, -⟩ | ⟨h', m, rb, lv, sv, e, rfl, hrb, hR, -, -⟩⟩
    · rw [hE] at e
      simp at e
    · rw [hE] at e
      simp only [Option.map_some, Option.some.injEq, Prod.mk.injEq] at e
      obtain ⟨rfl, rfl⟩ := e
      have h1 := b1.size
      exact ⟨_, _, rfl, chain b1 b2 (Nat.le_refl _), .inr ⟨fb, rb, h, _, bl, _, bv, iv, lv, sv, rfl, rfl, rfl, rfl, hfb, by omega, FF.of hA hb, ⟨hF.kept (.below b2) (fun h => h) (fun _ _ h => h) (fun _ _ h => h), hR⟩⟩⟩
def OpI (w : World) (fb rb : Nat) (h : Hd) (l : List En) (bl : List (List UInt8)) (ix : List En) (bv iv lv sv : Value) (n : Nat) (iv' : Value) (wr : World) : Prop :=
  ∃ k rd : Nat, iv' = .int .i64 (k : Nat) ∧ k ≤ n ∧ rd ≤ k * 2097152 ∧ BF wr fb rb h l bl ix bv iv lv sv rd ∧ Below w.heap.size w wr
set_option maxHeartbeats 8000000 in
set_option maxRecDepth 100000 in
theorem law_opens (b : ByteArray) (qs : List Qn) (la : Option Addr) (cap : Nat) (n : Nat) (w : World) (ht : Tab w) (hg : 0 < w.heap.size) (hq : QAt w la qs) (hn : qs.length = n) (hN : n ≤ 1099511627776) (hb : b.size ≤ 1099511627776) :
    Calls Tryz.prog 3 #[.string b, .slice la n cap] w fun r w' => r = .returned (.bool true) ∧ Below w.heap.size w w' := by
  have hop := two_open b w ht hg hb
  clear ht hg hb
  go_enter Tryz.func3, Tryz.ntmps3
  go_wp2_with (go_at_call 5; refine hop.mono ?_; clear hop; rintro r w1 ⟨a, x, rfl, b1, hop⟩)
  go_wp2_with (go_at_call 6; refine hop.mono ?_; clear hop; rintro r w2 ⟨c, y, rfl, bw2, hO⟩)
  rcases hO with ⟨rfl, rfl, rfl, rfl⟩ | ⟨fb, rb, h, l, bl, ix, bv, iv, lv, sv, rfl, rfl, rfl, rfl, hfb, hrb, F, H⟩
  · go_wp2
    go_ret
    exact ⟨rfl, bw2⟩
  · have hfh := fhead_any fb h bv iv 0 w2 H.p.box
    have hrh := fun w3 (b : Below w2.heap.size w2 w3) => rhead_file rb h lv sv 0 w3 (H.below b).r.box
    obtain ⟨hA1, hA2⟩ := all_pair fb rb h l bl ix bv iv lv sv 0 w2 H F
    simp only [hdC] at hrh
    have hsame := fun (W : World) a1 a2 c1 c2 (x1 : LAt W a1 l) (x2 : LAt W a2 l) => same6_any l a1 a2 c1 c2 W x1 x2 (by have := F.hl; omega)
    have HB := Hid.mk (And.intro H (And.intro F (And.intro bw2 (And.intro hfb (And.intro hrb hn)))))
    have HQ := Hid.mk (And.intro hq hN)
    clear H F bw2 hfb hrb hq hN hn b1
    go_wp2_with (first | (go_at_call 7; refine hfh.mono ?_; clear hfh; rintro r w3 ⟨rfl, b3⟩) | (go_at_call 8; refine (hrh w3 b3).mono ?_; clear hrh; rintro r w4 ⟨rfl, b4⟩; have b24 := chain b3 b4 (Nat.le_refl _)) | (go_at_call 10; refine (hA1 w4 b24).mono ?_; clear hA1; rintro r w5 ⟨a5, c5, rfl, L5, b5⟩; have b25 := chain b24 b5 (Nat.le_refl _)) | (go_at_call 11; refine (hA2 w5 b25).mono ?_; clear hA2; rintro r w6 ⟨a6, c6, rfl, L6, b6⟩; have b26 := chain b25 b6 (Nat.le_refl _)) | (go_at_call 9; refine (hsame w6 a5 a6 c5 c6 (L5.below b6) L6).mono ?_; rintro r w7 ⟨rfl, d7⟩; have b27 := chain b26 (d7.below _) (Nat.le_refl _)))
    clear L5 L6 b3 b4 b5 b6 b24 b25 b26 d7
    have H7 : BF w7 fb rb h l bl ix bv iv lv sv 0 := HB.out.1.below b27
    have b7 : Below w.heap.size w w7 := chain HB.out.2.2.1 b27 (Nat.le_refl _)
    have HW7 := Hid.mk (And.intro H7 b7)
    clear H7 b7 b27
    go_wp2
    go_loopw [9, 10] (fun u _ wr => OpI w fb rb h l bl ix bv iv lv sv n u wr) (fun u _ _ => n - (intOf u).toNat)
    case atStart => exact ⟨0, 0, rfl, Nat.zero_le _, Nat.zero_le _, HW7.out.1, HW7.out.2⟩
    case round =>
      obtain ⟨k, rd, rfl, hk, hrd, hH, hb⟩ := hrel
      by_cases hlt : k < n
      · as_aux_lemma =>
        have hkl : k < qs.length := by have := HB.out.2.2.2.2.2; omega
        obtain ⟨g, off, e, hrow⟩ := HQ.out.1.at' (fun e => by rw [e] at hkl; simp at hkl)
        have hrowr : RowAt wr g off (qs.flatMap qC) := fun j x hx => cell_lat hb (hrow j x hx)
        have z0 := q_at hrowr k hkl 0 _ rfl
        have z1 := q_at hrowr k hkl 1 _ rfl
        have z2 := q_at hrowr k hkl 2 _ rfl
        have z3 := q_at hrowr k hkl 3 _ rfl
        have z4 := q_at hrowr k hkl 4 _ rfl
        have z5 := q_at hrowr k hkl 5 _ rfl
        rw [Nat.add_zero] at z0
        have hask := asked_any fb rb h l bl ix bv iv lv sv rd (qs[k]).e.v (qs[k]).e.c (qs[k]).e.i (qs[k]).e.s (qs[k]).e.d (qs[k]).m wr hH HB.out.2.1 (by have := HQ.out.2; omega)
        generalize qs[k] = q at z0 z1 z2 z3 z4 z5 hask
        obtain ⟨⟨qv, qc, qi, qs', qd⟩, qm⟩ := q
        have i1 : (k : Int) < (n : Int) := by omega
        have i2 : 0 ≤ (k : Int) := by omega
        rw [e]
        have HR := Hid.mk (And.intro hk (And.intro hrd (And.intro hH hb)))
        clear hk hrd hH hb hrow hrowr e hkl
        dsimp only at z0 z1 z2 z3 z4 z5 hask
        go_wp2_with fail
        refine hask.mono ?_
        clear hask
        rintro r w4 ⟨rfl, t, ht, hH4, st⟩
        have b4 : Below w.heap.size w w4 := HR.out.2.2.2.trans (st.toBelow (fun k hk e => by have := HB.out.2.2.2.1; have := HB.out.2.2.2.2.1; omega) HR.out.2.2.2.size)
        have fin : OpI w fb rb h l bl ix bv iv lv sv n (.int .i64 ((k : Int) + 1)) w4 := ⟨k + 1, rd + t, rfl, hlt, by have := HR.out.2.1; omega, hH4, b4⟩
        have HX := Hid.mk fin
        clear fin hH4 b4 st ht
        have hwu := wrap_up k (by have := HQ.out.2; omega)
        have hend : n - (intOf (.int .i64 ((k : Int) + 1))).toNat < n - (intOf (.int .i64 (k : Int))).toNat := by simp only [intOf]; omega
        go_wp2
        rw [hwu]
        exact ⟨HX.out, hend⟩
      · as_aux_lemma =>
        have hk0 : ¬ (k : Int) < (n : Int) := by omega
        obtain ⟨hB1, hB2⟩ := all_pair fb rb h l bl ix bv iv lv sv rd wr hH HB.out.2.1
        have HR := Hid.mk (And.intro hH hb)
        clear hk hrd hH hb
        go_wp2_with (first | (go_at_call 10; refine (hB1 wr (Below.refl _ _)).mono ?_; clear hB1; rintro r w5 ⟨a5, c5, rfl, L5, b5⟩) | (go_at_call 11; refine (hB2 w5 b5).mono ?_; clear hB2; rintro r w6 ⟨a6, c6, rfl, L6, b6⟩; have b26 := chain b5 b6 (Nat.le_refl _)) | (go_at_call 9; refine (hsame w6 a5 a6 c5 c6 (L5.below b6) L6).mono ?_; rintro r w7 ⟨rfl, d7⟩; have b27 := chain b26 (d7.below _) (Nat.le_refl _); have hpr := reads_any fb h bv iv rd w7 (HR.out.1.below b27).p.box) | (go_at_call 13; refine hpr.mono ?_; clear hpr; rintro r w8 ⟨rfl, b8⟩; have b28 := chain b27 b8 (Nat.le_refl _); have hrr := rreads_any rb h lv sv rd w8 (HR.out.1.below b28).r.box) | (go_at_call 14; refine hrr.mono ?_; clear hrr; rintro r w9 ⟨rfl, rfl⟩))
        go_ret
        exact ⟨rfl, chain HR.out.2 b28 (Nat.le_refl _)⟩
end Go.Proofs.YtjdpolhjbkpnlaaGreatDoor.Dx
set_option linter.unusedVariables false
set_option linter.unusedSimpArgs false
namespace Go.Proofs.YtjdpolhjbkpnlaaGreatDoor.Dx
open Go.RowKit Go.ChangeShapes Go.WideShapes Go.Deep
theorem add_plain (b off j : Nat) : (⟨b, off, none⟩ : Addr).add j = ⟨b, off + j, none⟩ := by unfold Addr.add; split <;> simp_all
theorem cellsEn : Tryz.prog.cellsOf 38 = 5 := by kernel_rfl
theorem cellsQ : Tryz.prog.cellsOf 40 = 6 := by kernel_rfl
theorem bytesQ : Tryz.prog.bytesOf 40 = 56 := by kernel_rfl
theorem cells3 : Tryz.prog.cellsOf 3 = 1 := by kernel_rfl
theorem cells4 : Tryz.prog.cellsOf 4 = 1 := by kernel_rfl
theorem cells9 : Tryz.prog.cellsOf 9 = 1 := by kernel_rfl
theorem laidOut : laidOutB Tryz.prog = true := by kernel_rfl
theorem choose_lt {α : Type} {len : Nat} {P : Nat → α → Prop} (x0 : α) (h : ∀ i, i < len → ∃ e, P i e) : ∃ F : Nat → α, ∀ i, i < len → P i (F i) := by
  have hh : ∀ i, ∃ e, i < len → P i e := fun i => by
    by_cases hi : i < len
    · obtain ⟨e, he⟩ := h i hi
      exact ⟨e, fun _ => he⟩
    · exact ⟨x0, fun h => absurd h hi⟩
  exact Classical.axiomOfChoice hh
theorem bulk_pos {H : Type} (d : DataW H) : 1 ≤ Rows.uptoBulk d := by
  cases d with
  | lit l => cases l <;> simp [Rows.uptoBulk]
  | nil => simp [Rows.uptoBulk]
  | ptr d => simp [Rows.uptoBulk]
  | slice e s => simp [Rows.uptoBulk]
  | agg p => simp [Rows.uptoBulk]
  | iface t d => simp [Rows.uptoBulk]
  | map e => simp [Rows.uptoBulk]
  | held h => simp [Rows.uptoBulk]
theorem bulk_len {H : Type} : ∀ l : List (DataW H), l.length ≤ Rows.uptoBulkAll l
  | [] => Nat.zero_le _
  | d :: l => by
    have h1 := bulk_len l
    have h2 := bulk_pos d
    simp only [Rows.uptoBulkAll, List.length_cons]; omega
set_option maxRecDepth 100000 in
/-- What an entry reads as. -/
theorem en_trod {H : Type} {enc : TypeId × Value → H} {W : World} {base : Nat} {spare : Nat → Bool} {held : Bool} {fuel : Nat} {cs : List Value} {x : DataW H × List MemPlace}
    (h : DataW.trod enc Tryz.prog W base spare held fuel 38 cs = some x) : ∃ e : En, cs = enC e := by
  obtain ⟨xs, k, hk, hxy, hlen, hxl, hf⟩ := DataW.trod_struct Tryz.underlying38 h
  rw [cellsEn] at hlen
  match xs, hxl, cs, hlen with
  | [y0, y1, y2, y3, y4], _, [v0, v1, v2, v3, v4], _ =>
    have g0 := hf 0 _ rfl
    have g1 := hf 1 _ rfl
    have g2 := hf 2 _ rfl
    have g3 := hf 3 _ rfl
    have g4 := hf 4 _ rfl
    simp [cells3] at g0 g2 g3
    simp [cells9] at g1
    simp [cells4] at g4
    obtain ⟨z0, hz0, _⟩ := DataW.trod_int Tryz.underlying3 g0
    obtain ⟨z1, hz1, _⟩ := DataW.trod_string Tryz.underlying9 g1
    obtain ⟨z2, hz2, _⟩ := DataW.trod_int Tryz.underlying3 g2
    obtain ⟨z3, hz3, _⟩ := DataW.trod_int Tryz.underlying3 g3
    obtain ⟨z4, hz4, _⟩ := DataW.trod_bool Tryz.underlying4 g4
    simp at hz0 hz1 hz2 hz3 hz4
    subst hz0 hz1 hz2 hz3 hz4
    exact ⟨⟨z0, z1, z2, z3, z4⟩, rfl⟩
set_option maxRecDepth 100000 in
/-- What a question reads as. -/
theorem q_trod {H : Type} {enc : TypeId × Value → H} {W : World} {base : Nat} {spare : Nat → Bool} {held : Bool} {fuel : Nat} {cs : List Value} {x : DataW H × List MemPlace}
    (h : DataW.trod enc Tryz.prog W base spare held fuel 40 cs = some x) : ∃ q : Qn, cs = qC q := by
  obtain ⟨xs, k, hk, hxy, hlen, hxl, hf⟩ := DataW.trod_struct Tryz.underlying40 h
  rw [cellsQ] at hlen
  match xs, hxl, cs, hlen with
  | [y0, y1], _, [v0, v1, v2, v3, v4, v5], _ =>
    have g0 := hf 0 _ rfl
    have g1 := hf 1 _ rfl
    simp [cellsEn] at g0
    simp [cellsEn, cells3] at g1
    obtain ⟨e, he⟩ := en_trod g0
    obtain ⟨z, hz, _⟩ := DataW.trod_int Tryz.underlying3 g1
    simp [enC] at he hz
    obtain ⟨rfl, rfl, rfl, rfl, rfl⟩ := he
    subst hz
    exact ⟨⟨e, z⟩, rfl⟩
set_option maxRecDepth 100000 in
theorem open_q {H : Type} {enc : TypeId × Value → H} {W : World} {base b0 : Nat} {r : Reach} {spare : Nat → Bool} {held : Bool} {v : Value} {d : DataW H} {ps : List MemPlace}
    (hv : Value.okWide Tryz.prog W r b0 40 v) (h : DataW.Trod enc Tryz.prog W base spare held 40 v d ps) : ∃ q : Qn, v = .agg (qC q).toArray := by
  obtain ⟨cs, rfl, hsz⟩ := okWide_struct Tryz.underlying40 hv
  obtain ⟨fuel, hf⟩ := h
  obtain ⟨e, he⟩ := q_trod hf
  refine ⟨e, ?_⟩
  have : cs.toList = qC e := by simpa [Value.cells] using he
  rw [← this]
theorem qC_len (l : List Qn) : (l.flatMap qC).length = l.length * 6 := by
  induction l with
  | nil => rfl
  | cons a l ih => rw [List.flatMap_cons, List.length_append, ih, List.length_cons]; simp [qC]; omega
theorem q_flat_to {W : World} {b off : Nat} {l : List Qn} (h : ∀ i (hi : i < l.length) j v, (qC l[i])[j]? = some v → W.cell? ⟨b, off + (i * 6 + j), none⟩ = some v) : RowAt W b off (l.flatMap qC) := fun j x hx => by
  have hj : j < l.length * 6 := by rw [← qC_len]; exact (List.getElem?_eq_some_iff.1 hx).1
  have hi : j / 6 < l.length := by omega
  have hr : j % 6 < 6 := by omega
  have e : j / 6 * 6 + j % 6 = j := by omega
  have h1 := flat_at qC 6 (fun _ => rfl) l (j / 6) (j % 6) hi hr
  rw [e, hx] at h1
  have h2 := h (j / 6) hi (j % 6) x h1.symm
  rw [e] at h2
  exact h2
set_option maxRecDepth 100000 in
theorem open_qs {H : Type} {enc : TypeId × Value → H} {W : World} {base : Nat} {spare : Nat → Bool} {held : Bool} {fuel : Nat} {a0 : Option Addr} {len cap : Nat} {d : DataW H} {ps : List MemPlace}
    (h : DataW.trod enc Tryz.prog W base spare held fuel 22 [.slice a0 len cap] = some (d, ps)) :
    ∃ l : List Qn, l.length = len ∧ QAt W a0 l ∧ l.length ≤ Rows.uptoBulk d := by
  rcases open_slice Tryz.underlying22 h with ⟨hcs, _⟩ | ⟨a, len', cap', m, n, D, Pl, hcs, _, _, _, hm, hx, hel⟩
  · simp at hcs
    obtain ⟨rfl, rfl, rfl⟩ := hcs
    exact ⟨[], rfl, ⟨fun h => absurd rfl h⟩, by simp⟩
  · simp at hcs
    obtain ⟨rfl, rfl, rfl⟩ := hcs
    have hlm : len ≤ m := by rw [hm]; split <;> omega
    simp only [Prod.mk.injEq] at hx
    obtain ⟨hd, hps⟩ := hx
    have each : ∀ i, i < len → ∃ e : Qn, (∀ j v, (qC e)[j]? = some v → W.cell? ((a.add (i * 6)).add j) = some v) := by
      intro i hi
      obtain ⟨cs', h1, h2⟩ := hel i (by omega)
      rw [cellsQ] at h1
      obtain ⟨_, hlen, hcell⟩ := World.cells?_some h1
      obtain ⟨e, rfl⟩ := q_trod h2
      refine ⟨e, fun j v hv => ?_⟩
      have hj : j < 6 := by have := (List.getElem?_eq_some_iff.1 hv).1; simpa [qC] using this
      rw [hcell j hj, hv]
    obtain ⟨F, hF⟩ := choose_lt (⟨e0, 0⟩ : Qn) each
    refine ⟨(List.range len).map F, by simp, ⟨fun hne => ?_⟩, ?_⟩
    · have hl0 : 0 < len := by
        rcases Nat.eq_zero_or_pos len with h0 | h0
        · subst h0; simp at hne
        · exact h0
      obtain ⟨b, off, spot⟩ := a
      have hsp : spot = none := by
        have := World.cell?_spot ((hF 0 hl0) 0 _ rfl)
        simpa [Addr.add] using this
      subst hsp
      refine ⟨b, off, rfl, q_flat_to fun i hi j v hv => ?_⟩
      have hi' : i < len := by simpa using hi
      have h1 := (hF i hi') j v (by simpa using hv)
      rw [add_plain, add_plain, Nat.add_assoc] at h1
      exact h1
    · rw [hd]
      have := bulk_len ((List.range len).map D)
      simp only [Rows.uptoBulk]
      simp at this ⊢
      omega
end Go.Proofs.YtjdpolhjbkpnlaaGreatDoor.Dx
