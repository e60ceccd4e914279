/-
  DERIVED. The law of Of, from its beginning.
-/
import Derived.Test.YtecodnilbojodaaYLaw
set_option linter.unusedVariables false
set_option linter.unusedSimpArgs false
namespace Go.Proofs.Ytecodnilbojodaa
open Go.RowKit
set_option maxHeartbeats 8000000 in
set_option maxRecDepth 100000 in
theorem law_of (F M : List Ht) (n1 : F.length ≤ 4398046511000) (m1 : M.length ≤ 4398046511000) (wF : IdW F) (wM : IdW M) (lf lm : Option Addr) (cf cm : Nat) (w : World) (af : LAt w lf F) (am : LAt w lm M) :
    Calls Try.prog 3 #[.slice lf F.length cf, .slice lm M.length cm] w fun e w' => e = .returned (.bool true) ∧ Below w.heap.size w w' := by
  obtain ⟨n, hn⟩ : ∃ n, F.length = n := ⟨_, rfl⟩
  obtain ⟨m, hm⟩ : ∃ m, M.length = m := ⟨_, rfl⟩
  have ta := twin_any F n1 lf cf w af
  have tb := fun V (bV : Below w.heap.size w V) => twin_any M m1 lm cm V (am.below bV)
  rw [hn] at ta n1 ⊢
  simp only [hm] at tb m1 ⊢
  have HT := Hid.mk tb
  have HF := Hid.mk (And.intro hn (And.intro hm (And.intro wF (And.intro wM (And.intro af am)))))
  clear hn hm wF wM af am tb
  go_enter Try.func3, Try.ntmps3
  go_wp2_with fail
  refine ta.mono ?_
  clear ta
  rintro e w1 ⟨ga, ca, rfl, c1, g1, hA, b1⟩
  have tb := HT.out w1 b1
  have H1 := Hid.mk (And.intro c1 (And.intro g1 (And.intro hA b1)))
  have ca1 : (n : Int) ≤ (ca : Int) := by omega
  have ca2 : n ≤ ca := by omega
  clear HT c1 g1 hA b1
  go_wp2_with fail
  refine tb.mono ?_
  clear tb
  rintro e w2 ⟨gb, cb, rfl, c2, g2, hB, b2⟩
  have cb1 : (m : Int) ≤ (cb : Int) := by omega
  have cb2 : m ≤ cb := by omega
  have b12 : Below w.heap.size w w2 := H1.out.2.2.2.trans (b2.mono H1.out.2.2.2.size)
  have hA2 := row_kept H1.out.2.2.1 (Stay.below (F := fun _ => False) b2) (fun _ _ e => e)
  have hga : ga < w1.heap.size := row_lt H1.out.2.2.1 rfl
  have co := fun V (bV : Below w2.heap.size w2 V) => of_any F M (by have := HF.out.1; omega) (by have := HF.out.2.1; omega) HF.out.2.2.1 HF.out.2.2.2.1 (some ⟨ga, 0, none⟩) (some ⟨gb, 0, none⟩) ca cb V (((HRow.lat hA2).pre).below bV) (((HRow.lat hB).pre).below bV)
  simp only [HF.out.1, HF.out.2.1] at co
  have hcon0 := fun (W : World) (p : Nat) (b : Below w2.heap.size w2 W) (hp : W.heap[p]? = some (.cells #[.int .i64 (cnF F M : Nat), .int .i64 (m : Int)] 25 (0, 0))) =>
    have bW : Below w.heap.size w W := b12.trans (b.mono b12.size)
    (And.intro (HF.out.2.2.2.2.1.below bW) (And.intro (HF.out.2.2.2.2.2.below bW) (And.intro (row_kept hA2 (Stay.below (F := fun _ => False) b) (fun _ _ e => e)) (And.intro (row_kept hB (Stay.below (F := fun _ => False) b) (fun _ _ e => e)) (And.intro hp bW)))))
  have hne : ga ≠ gb := by omega
  have hgb : w.heap.size ≤ gb := Nat.le_trans H1.out.2.2.2.size g2
  have HC0 := Hid.mk hcon0
  have HN := Hid.mk (And.intro hne hgb)
  clear hcon0 hne hgb b12 hA2 hga hB b2 c2 g2
  go_upto_region 5 with fail
  rename_i K3 a3
  have HC := Hid.mk a3
  clear a3
  refine wp_region_held_drew (S := fun _ => True) (by kernel_rfl) trivial (fun hHeld => ?_)
  refine wpAnyH_take (i := 0) (oi := { dst := some 24, op := Op.move (Operand.tmp 5), type := 22, pos := "law.go:38", after := #[], guard := none }) (v := ?v0) rfl (by kernel_rfl) (by kernel_rfl) (by kernel_rfl) (fun _ _ _ h => h) (Or.inl ⟨by rfl, ?h0⟩) (by assumption) ?r0
  case h0 => (intro w0 hSw; (try dsimp only at hSw); go_simp; try (with_reducible rfl))
  simp only [Act.put, List.setIfInBounds_toArray, List.set_cons_zero, List.set_cons_succ]
  refine wpAnyH_take (i := 1) (oi := { dst := some 25, op := Op.move (Operand.tmp 7), type := 3, pos := "law.go:38", after := #[], guard := none }) (v := ?v1) rfl (by kernel_rfl) (by kernel_rfl) (by kernel_rfl) (fun _ _ _ h => h) (Or.inl ⟨by rfl, ?h1⟩) (by assumption) ?r1
  case h1 => (intro w0 hSw; (try dsimp only at hSw); go_simp; try (with_reducible rfl))
  simp only [Act.put, List.setIfInBounds_toArray, List.set_cons_zero, List.set_cons_succ]
  refine wpAnyH_take (i := 2) (oi := { dst := some 26, op := Op.slice 22 (Operand.tmp 24) none (some (Operand.tmp 25)) none, type := 22, pos := "law.go:38", after := #[{ on := 0, ground := Ground.data }, { on := 1, ground := Ground.data }], guard := none }) (v := ?v2) rfl (by kernel_rfl) (by kernel_rfl) (by kernel_rfl) (fun _ _ _ h => h) (Or.inl ⟨by rfl, ?h2⟩) (by assumption) ?r2
  case h2 => (intro w0 hSw; (try dsimp only at hSw); go_simp; try (with_reducible rfl))
  simp only [Act.put, List.setIfInBounds_toArray, List.set_cons_zero, List.set_cons_succ]
  refine wpAnyH_take (i := 3) (oi := { dst := some 27, op := Op.move (Operand.tmp 6), type := 22, pos := "law.go:38", after := #[], guard := none }) (v := ?v3) rfl (by kernel_rfl) (by kernel_rfl) (by kernel_rfl) (fun _ _ _ h => h) (Or.inl ⟨by rfl, ?h3⟩) (by assumption) ?r3
  case h3 => (intro w0 hSw; (try dsimp only at hSw); go_simp; try (with_reducible rfl))
  simp only [Act.put, List.setIfInBounds_toArray, List.set_cons_zero, List.set_cons_succ]
  refine wpAnyH_take (i := 4) (oi := { dst := some 28, op := Op.move (Operand.tmp 8), type := 3, pos := "law.go:38", after := #[], guard := none }) (v := ?v4) rfl (by kernel_rfl) (by kernel_rfl) (by kernel_rfl) (fun _ _ _ h => h) (Or.inl ⟨by rfl, ?h4⟩) (by assumption) ?r4
  case h4 => (intro w0 hSw; (try dsimp only at hSw); go_simp; try (with_reducible rfl))
  simp only [Act.put, List.setIfInBounds_toArray, List.set_cons_zero, List.set_cons_succ]
  refine wpAnyH_take (i := 5) (oi := { dst := some 29, op := Op.slice 22 (Operand.tmp 27) none (some (Operand.tmp 28)) none, type := 22, pos := "law.go:38", after := #[{ on := 3, ground := Ground.data }, { on := 4, ground := Ground.data }], guard := none }) (v := ?v5) rfl (by kernel_rfl) (by kernel_rfl) (by kernel_rfl) (fun _ _ _ h => h) (Or.inl ⟨by rfl, ?h5⟩) (by assumption) ?r5
  case h5 => (intro w0 hSw; (try dsimp only at hSw); go_simp; try (with_reducible rfl))
  simp only [Act.put, List.setIfInBounds_toArray, List.set_cons_zero, List.set_cons_succ]
  refine wpAnyH_ready (rs := [6, 7]) (by kernel_rfl) (by simp) ?_
  clear hHeld
  refine AllReadyH.cons rfl (fun K hK => ?_) (AllReadyH.cons rfl (fun K hK => ?_) AllReadyH.nil)
  · skip
    go_simp
    go_at_call 5
    refine (co _ (b_drew _)).mono ?_
    clear co
    rintro rr w4 ⟨rfl, b4⟩
    have b4 : Below w2.heap.size w2 w4 := below_d b4
    refine hK.out _ _ trivial (fun hHeld => ?_)
    clear hK K hHeld
    refine wpAnyH_ready (rs := [7]) (by kernel_rfl) (by simp) ?_
    refine AllReadyH.cons rfl (fun K hK => ?_) AllReadyH.nil
    go_simp
    go_wp2_with (fail)
    refine hK.out _ _ trivial (fun hHeld => ?_)
    clear hK K hHeld
    refine wpAnyH_ready (rs := [8]) (by kernel_rfl) (by simp) ?_
    refine AllReadyH.cons rfl (fun K hK => ?_) AllReadyH.nil
    go_simp
    go_wp2_with (fail)
    refine hK.out _ _ trivial (fun hHeld => ?_)
    clear hK K hHeld
    refine wpAnyH_done (by kernel_rfl) ?_ _
    have b5 : Below w2.heap.size w2 (w4.alloc (.cells #[.int .i64 (cnF F M : Nat), .int .i64 (m : Int)] 25)) := b4.alloc b4.size _
    have Z := HC0.out _ w4.heap.size b5 (heap_alloc_last w4 _)
    exact HC.out _ _ (tailB w _ n m ga ca gb cb _ cf cm lf lm F M HF.out.1 HF.out.2.1 n1 m1 HF.out.2.2.1 HF.out.2.2.2.1 Z.1 Z.2.1 Z.2.2.1 Z.2.2.2.1 Z.2.2.2.2.1 HN.out.1 H1.out.2.1 HN.out.2 Z.2.2.2.2.2)
  · skip
    go_simp
    go_wp2_with (fail)
    refine hK.out _ _ trivial (fun hHeld => ?_)
    clear hK K hHeld
    refine wpAnyH_ready (rs := [6]) (by kernel_rfl) (by simp) ?_
    refine AllReadyH.cons rfl (fun K hK => ?_) AllReadyH.nil
    go_simp
    go_at_call 5
    refine (co _ ((b_drew _).alloc (Nat.le_refl _) _)).mono ?_
    clear co
    rintro rr w4 ⟨rfl, b4⟩
    have hx4 : w4.heap[w2.heap.size]? = some (.cells #[.int .i64 0, .int .i64 0] 25 (0, 0)) := (b4.block w2.heap.size (by simp)).trans (heap_alloc_last w2.drew _)
    have b5 : Below w2.heap.size w2 w4 := ((b_drew w2).alloc (Nat.le_refl _) _).trans (b4.mono (by simp))
    clear b4
    refine hK.out _ _ trivial (fun hHeld => ?_)
    clear hK K hHeld
    have c0 : w4.cell? ⟨w2.heap.size, 0, none⟩ = some (.int .i64 0) := cell_of_row _ _ 0 _ _ _ hx4
    have c1 : w4.cell? ⟨w2.heap.size, 1, none⟩ = some (.int .i64 0) := cell_of_row _ _ 1 _ _ _ hx4
    have f0 : w4.frozen? ⟨w2.heap.size, 0, none⟩ = false := by simp [World.frozen?, hx4]
    have f1 : w4.frozen? ⟨w2.heap.size, 1, none⟩ = false := by simp [World.frozen?, hx4]
    have g0 : (w4.setCell ⟨w2.heap.size, 0, none⟩ (.int .i64 (cnF F M : Nat))).heap[w2.heap.size]? = some (.cells #[.int .i64 (cnF F M : Nat), .int .i64 0] 25 (0, 0)) := by rw [heap_setCell_same w4 w2.heap.size 0 _ _ _ hx4]; rfl
    have g1 : ((w4.setCell ⟨w2.heap.size, 0, none⟩ (.int .i64 (cnF F M : Nat))).setCell ⟨w2.heap.size, 1, none⟩ (.int .i64 (m : Int))).heap[w2.heap.size]? = some (.cells #[.int .i64 (cnF F M : Nat), .int .i64 (m : Int)] 25 (0, 0)) := by rw [heap_setCell_same _ w2.heap.size 1 _ _ _ g0]; rfl
    have b6 : Below w2.heap.size w2 ((w4.setCell ⟨w2.heap.size, 0, none⟩ (.int .i64 (cnF F M : Nat))).setCell ⟨w2.heap.size, 1, none⟩ (.int .i64 (m : Int))) := (b5.setCell (Nat.le_refl _) _).setCell (Nat.le_refl _) _
    have Z := Hid.mk (HC0.out _ w2.heap.size b6 g1)
    clear hx4 b5 b6 g0 g1
    refine wpAnyH_ready (rs := [8]) (by kernel_rfl) (by simp) ?_
    refine AllReadyH.cons rfl (fun K hK => ?_) AllReadyH.nil
    go_simp
    go_wp2_with (fail)
    refine hK.out _ _ trivial (fun hHeld => ?_)
    clear hK K hHeld
    refine wpAnyH_done (by kernel_rfl) ?_ _
    have Z := Z.out
    exact HC.out _ _ (tailB w _ n m ga ca gb cb _ cf cm lf lm F M HF.out.1 HF.out.2.1 n1 m1 HF.out.2.2.1 HF.out.2.2.2.1 Z.1 Z.2.1 Z.2.2.1 Z.2.2.2.1 Z.2.2.2.2.1 HN.out.1 H1.out.2.1 HN.out.2 Z.2.2.2.2.2)
end Go.Proofs.Ytecodnilbojodaa
