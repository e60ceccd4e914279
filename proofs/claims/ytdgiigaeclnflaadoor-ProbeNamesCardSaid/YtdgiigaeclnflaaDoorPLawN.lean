/-
  DERIVED. ProbeNames: its walk.
-/
import Derived.Test.YtdgiigaeclnflaaDoorPNames2
set_option linter.unusedVariables false
set_option linter.unusedSimpArgs false
namespace Go.Proofs.YtdgiigaeclnflaaDoor
open Go.RowKit Go.Proofs.BitMath
theorem num_any (x : Int) (w : World) : Calls Tryd.prog 9 #[.int .i64 x] w fun e w' => e = .returned (.int .i64 x) ∧ w' = w := by
  go_enter Tryd.func9, Tryd.ntmps9
  go_wp2
  go_ret
  exact ⟨rfl, rfl⟩
/-- Five cells are there, and may be written. -/
def Box5 (W : World) (r : Nat) (y0 y1 y2 y3 y4 : Value) : Prop := W.cell? ⟨r, 0, none⟩ = some y0 ∧ W.cell? ⟨r, 1, none⟩ = some y1 ∧ W.cell? ⟨r, 2, none⟩ = some y2 ∧ W.cell? ⟨r, 3, none⟩ = some y3 ∧ W.cell? ⟨r, 4, none⟩ = some y4 ∧ ∀ j, W.frozen? ⟨r, j, none⟩ = false
theorem box5 {W : World} {r : Nat} {y0 y1 y2 y3 y4 : Value} {T : TypeId} (h : W.heap[r]? = some (.cells #[y0, y1, y2, y3, y4] T (0, 0))) : Box5 W r y0 y1 y2 y3 y4 := by
  refine ⟨?_, ?_, ?_, ?_, ?_, fun j => frozen_of_row _ _ _ _ _ h⟩
  · rw [cell_of_row _ _ 0 _ _ (0, 0) h]; rfl
  · rw [cell_of_row _ _ 1 _ _ (0, 0) h]; rfl
  · rw [cell_of_row _ _ 2 _ _ (0, 0) h]; rfl
  · rw [cell_of_row _ _ 3 _ _ (0, 0) h]; rfl
  · rw [cell_of_row _ _ 4 _ _ (0, 0) h]; rfl
theorem fin5 {W : World} {r : Nat} {x0 x1 x2 x3 x4 : Value} {T : TypeId} (h : W.heap[r]? = some (.cells #[x0, x1, x2, x3, x4] T (0, 0))) (y0 y1 y2 y3 y4 : Value) : ∃ W5, ((((W.setCell ⟨r, 0, none⟩ y0).setCell ⟨r, 1, none⟩ y1).setCell ⟨r, 2, none⟩ y2).setCell ⟨r, 3, none⟩ y3).setCell ⟨r, 4, none⟩ y4 = W5 ∧ Stay (fun k => k = r) W W5 ∧ W5.heap[r]? = some (.cells #[y0, y1, y2, y3, y4] T (0, 0)) := by
  refine ⟨_, rfl, (((((Stay.refl (fun k => k = r) W).setCell (fun _ => rfl) _).setCell (fun _ => rfl) _).setCell (fun _ => rfl) _).setCell (fun _ => rfl) _).setCell (fun _ => rfl) _, ?_⟩
  have e0 := heap_setCell_same W r 0 _ _ y0 h
  have e1 := heap_setCell_same _ r 1 _ _ y1 e0
  have e2 := heap_setCell_same _ r 2 _ _ y2 e1
  have e3 := heap_setCell_same _ r 3 _ _ y3 e2
  have e4 := heap_setCell_same _ r 4 _ _ y4 e3
  rw [e4]; simp
theorem box4 {W : World} {r : Nat} {y0 y1 y2 y3 : Value} {T : TypeId} (h : W.heap[r]? = some (.cells #[y0, y1, y2, y3] T (0, 0))) : W.cell? ⟨r, 0, none⟩ = some y0 ∧ W.cell? ⟨r, 1, none⟩ = some y1 ∧ W.cell? ⟨r, 2, none⟩ = some y2 ∧ W.cell? ⟨r, 3, none⟩ = some y3 := by
  refine ⟨?_, ?_, ?_, ?_⟩
  · rw [cell_of_row _ _ 0 _ _ (0, 0) h]; rfl
  · rw [cell_of_row _ _ 1 _ _ (0, 0) h]; rfl
  · rw [cell_of_row _ _ 2 _ _ (0, 0) h]; rfl
  · rw [cell_of_row _ _ 3 _ _ (0, 0) h]; rfl
theorem tmpbox (W : World) : ∃ u, W.alloc (.cells #[.int .i64 0, .int .i64 0, .int .i64 0, .int .i64 0] 28) = u ∧ (u.cell? ⟨W.heap.size, 0, none⟩ = some (.int .i64 0) ∧ u.cell? ⟨W.heap.size, 1, none⟩ = some (.int .i64 0) ∧ u.cell? ⟨W.heap.size, 2, none⟩ = some (.int .i64 0) ∧ u.cell? ⟨W.heap.size, 3, none⟩ = some (.int .i64 0)) ∧ (∀ j, u.frozen? ⟨W.heap.size, j, none⟩ = false) ∧ ∃ u', (((u.setCell ⟨W.heap.size, 0, none⟩ (.int .i64 0)).setCell ⟨W.heap.size, 1, none⟩ (.int .i64 0)).setCell ⟨W.heap.size, 2, none⟩ (.int .i64 0)).setCell ⟨W.heap.size, 3, none⟩ (.int .i64 0) = u' ∧ Below W.heap.size W u' := by
  have hu := heap_alloc_last W (.cells #[.int .i64 0, .int .i64 0, .int .i64 0, .int .i64 0] 28)
  obtain ⟨u', hu', s1, ht⟩ := put4 hu rfl (.int .i64 0) (.int .i64 0) (.int .i64 0) (.int .i64 0)
  have bu : Below W.heap.size W (W.alloc (.cells #[.int .i64 0, .int .i64 0, .int .i64 0, .int .i64 0] 28)) := (Below.refl _ W).alloc (Nat.le_refl _) _
  exact ⟨_, rfl, box4 hu, fun j => frozen_of_row _ _ _ _ _ hu, u', hu', bu.trans (s1.toBelow (fun k hk e => by omega) bu.size)⟩
theorem keep5 {W W' : World} {r : Nat} {cs : Array Value} {T : TypeId} (h : W.heap[r]? = some (.cells cs T (0, 0))) (b : Below W.heap.size W W') : W'.heap[r]? = some (.cells cs T (0, 0)) := (b.block r (Array.getElem?_eq_some_iff.1 h).1).trans h
set_option maxHeartbeats 2000000 in
set_option maxRecDepth 100000 in
theorem law_names (w : World) : Calls Tryd.prog 3 #[] w fun e w' => e = .returned (.bool true) ∧ Below w.heap.size w w' := by
  have ok : OkC 64 2 := by unfold OkC; decide
  have c1 := fun W => topk_none 64 2 ok (.func 4) (.func 5) #[] #[] #[] #[] ⟨#[49, 50, 51, 52, 53, 54, 55, 56]⟩ rfl 3 (by decide) (by decide) W
  have c2 := fun W => topk_no 64 2 ok (-1) (.func (.func 4) #[] #[]) (.func (.func 5) #[] #[]) (.inl (by decide)) ⟨#[]⟩ 9999 W
  have c3 := fun W => radius_no 64 2 ok 0 (.func (.func 4) #[] #[]) .nilFunc (.inr (.inr ⟨by decide, ⟨_, _, _, rfl⟩, rfl⟩)) ⟨#[]⟩ 9999 W
  have c4 := fun W => few_no 64 2 ok 0 .nilFunc (.func (.func 5) #[] #[]) (.inr (.inl ⟨by decide, rfl⟩)) ⟨#[]⟩ 9999 (-1) W
  simp only [srcC, show ((64 : Nat) : Int) = 64 from rfl, show ((2 : Nat) : Int) = 2 from rfl, show ((3 : Nat) : Int) = 3 from rfl] at c1 c2 c3 c4
  obtain ⟨A0, hA0⟩ : ∃ A0, A0 = w.alloc (.cells #[.int .i64 0, .int .i64 0, .int .i64 0, .nilFunc, .nilFunc] 25) := ⟨_, rfl⟩
  have bA : Below w.heap.size w A0 := by rw [hA0]; exact (Below.refl _ w).alloc (Nat.le_refl _) _
  have hb0 : A0.heap[w.heap.size]? = some (.cells #[.int .i64 0, .int .i64 0, .int .i64 0, .nilFunc, .nilFunc] 25 (0, 0)) := by rw [hA0]; exact heap_alloc_last w _
  have hw' := hA0.symm
  obtain ⟨z0, z1, z2, z3, z4, zf⟩ := box5 hb0
  obtain ⟨A1, hA1, st1, hb1⟩ := fin5 hb0 (.int .i64 64) (.int .i64 2) (.int .i64 0) (.func (.func 4) #[] #[]) (.func (.func 5) #[] #[])
  obtain ⟨y0, y1, y2, y3, y4, yf⟩ := box5 hb1
  have B1 : Below w.heap.size w A1 := bA.trans (st1.toBelow (fun k hk e => by omega) bA.size)
  have K1 : Hid (∀ v1, Below A1.heap.size A1 v1 → ∃ u1, v1.alloc (.cells #[.int .i64 0, .int .i64 0, .int .i64 0, .int .i64 0] 28) = u1 ∧ u1.cell? ⟨v1.heap.size, 0, none⟩ = some (.int .i64 0) ∧ u1.cell? ⟨v1.heap.size, 1, none⟩ = some (.int .i64 0) ∧ u1.cell? ⟨v1.heap.size, 2, none⟩ = some (.int .i64 0) ∧ u1.cell? ⟨v1.heap.size, 3, none⟩ = some (.int .i64 0) ∧ (∀ j, u1.frozen? ⟨v1.heap.size, j, none⟩ = false) ∧ ∃ w1, (((u1.setCell ⟨v1.heap.size, 0, none⟩ (.int .i64 0)).setCell ⟨v1.heap.size, 1, none⟩ (.int .i64 0)).setCell ⟨v1.heap.size, 2, none⟩ (.int .i64 0)).setCell ⟨v1.heap.size, 3, none⟩ (.int .i64 0) = w1 ∧ ∃ A2, w1.setCell ⟨w.heap.size, 2, none⟩ (.int .i64 (-1)) = A2 ∧ w1.cell? ⟨w.heap.size, 2, none⟩ = some (.int .i64 0) ∧ w1.frozen? ⟨w.heap.size, 2, none⟩ = false ∧ Box5 A2 w.heap.size (.int .i64 64) (.int .i64 2) (.int .i64 (-1)) (.func (.func 4) #[] #[]) (.func (.func 5) #[] #[]) ∧ Hid (A2.heap[w.heap.size]? = some (.cells #[.int .i64 64, .int .i64 2, .int .i64 (-1), (.func (.func 4) #[] #[]), (.func (.func 5) #[] #[])] 25 (0, 0)) ∧ Below w.heap.size w A2 ∧ A2.heap[v1.heap.size]? = some (.cells #[.int .i64 0, .int .i64 0, .int .i64 0, .int .i64 0] 28 (0, 0)) ∧ w.heap.size < v1.heap.size)) := fun v1 bv => by
    obtain ⟨u1, hu1⟩ : ∃ u1, v1.alloc (.cells #[.int .i64 0, .int .i64 0, .int .i64 0, .int .i64 0] 28) = u1 := ⟨_, rfl⟩
    have bu : Below A1.heap.size A1 u1 := by rw [← hu1]; exact bv.alloc bv.size _
    have hu : u1.heap[v1.heap.size]? = some (.cells #[.int .i64 0, .int .i64 0, .int .i64 0, .int .i64 0] 28 (0, 0)) := by rw [← hu1]; exact heap_alloc_last v1 _
    have hlt : w.heap.size < v1.heap.size := Nat.lt_of_lt_of_le (Array.getElem?_eq_some_iff.1 hb1).1 bv.size
    obtain ⟨w1, hw1, s1, ht⟩ := put4 hu rfl (.int .i64 0) (.int .i64 0) (.int .i64 0) (.int .i64 0)
    have b : Below A1.heap.size A1 w1 := bu.trans (s1.toBelow (fun k hk e => by have := bv.size; omega) bu.size)
    obtain ⟨k0, k1, k2, k3⟩ := box4 hu
    have h1 := keep5 hb1 b
    have h2 : (w1.setCell ⟨w.heap.size, 2, none⟩ (.int .i64 (-1))).heap[w.heap.size]? = some (.cells #[.int .i64 64, .int .i64 2, .int .i64 (-1), (.func (.func 4) #[] #[]), (.func (.func 5) #[] #[])] 25 (0, 0)) := by rw [heap_setCell_same w1 w.heap.size 2 _ _ _ h1]; rfl
    exact ⟨u1, hu1, k0, k1, k2, k3, fun j => frozen_of_row _ _ _ _ _ hu, w1, hw1, _, rfl, (box5 h1).2.2.1, (box5 h1).2.2.2.2.2 2, box5 h2, h2, (B1.trans (b.mono B1.size)).setCell (p := ⟨w.heap.size, 2, none⟩) (Nat.le_refl _) _, (Below.heap_setCell w1 ⟨w.heap.size, 2, none⟩ _ v1.heap.size (fun e => by simp at e; omega)).trans ht, hlt⟩
  have K2 : Hid (∀ tb A2 w2 x0 x1 x2 x3 x4 y0 y1 y2 y3 y4, Hid (A2.heap[w.heap.size]? = some (.cells #[x0, x1, x2, x3, x4] 25 (0, 0)) ∧ Below w.heap.size w A2 ∧ A2.heap[tb]? = some (.cells #[.int .i64 0, .int .i64 0, .int .i64 0, .int .i64 0] 28 (0, 0)) ∧ w.heap.size < tb) → Below A2.heap.size A2 w2 → Box5 w2 w.heap.size x0 x1 x2 x3 x4 ∧ ∃ A3, ((((w2.setCell ⟨w.heap.size, 0, none⟩ y0).setCell ⟨w.heap.size, 1, none⟩ y1).setCell ⟨w.heap.size, 2, none⟩ y2).setCell ⟨w.heap.size, 3, none⟩ y3).setCell ⟨w.heap.size, 4, none⟩ y4 = A3 ∧ Box5 A3 w.heap.size y0 y1 y2 y3 y4 ∧ Hid (A3.heap[w.heap.size]? = some (.cells #[y0, y1, y2, y3, y4] 25 (0, 0)) ∧ Below w.heap.size w A3 ∧ A3.heap[tb]? = some (.cells #[.int .i64 0, .int .i64 0, .int .i64 0, .int .i64 0] 28 (0, 0)) ∧ w.heap.size < tb)) := fun tb A2 w2 x0 x1 x2 x3 x4 y0 y1 y2 y3 y4 h b => by
    have h1 := keep5 h.out.1 b
    obtain ⟨A3, e3, s3, h3⟩ := fin5 h1 y0 y1 y2 y3 y4
    have b2 : Below w.heap.size w w2 := h.out.2.1.trans (b.mono h.out.2.1.size)
    have hlt := h.out.2.2.2
    have ht := keep5 h.out.2.2.1 b
    exact ⟨box5 h1, A3, e3, box5 h3, h3, b2.trans (s3.toBelow (fun k hk e => by omega) b2.size), (s3.block tb (Array.getElem?_eq_some_iff.1 ht).1 (fun e => by omega)).trans ht, hlt⟩
  have hsf : ∀ (W : World) (p : Addr) (f : Fn) (x c : Array Value), (store p (.func f x c)).run Tryd.prog W = stored Tryd.prog W p (.func f x c) .plain := fun W p f x c => run_store Tryd.prog W p _ .plain rfl
  have hsn : ∀ (W : World) (p : Addr), (store p .nilFunc).run Tryd.prog W = stored Tryd.prog W p .nilFunc .plain := fun W p => run_store Tryd.prog W p _ .plain rfl
  clear ok hA0 bA hb0 st1 hb1 B1
  go_enter Tryd.func3, Tryd.ntmps3
  go_wp2_with first
    | (go_at_call 6; refine (c1 _).mono ?_; clear c1; rintro e w1 ⟨v1, rfl, t1⟩; obtain ⟨V1, hV1, k0, k1, k2, k3, kf, V2, hV2, A2, hA2, p2, pf, ⟨q0, q1, q2, q3, q4, qf⟩, HB2⟩ := K1.out _ t1.2.2; obtain ⟨a1, l1, hv1, -⟩ := slice_form t1.1; subst hv1; clear K1 t1)
    | (go_at_call 6; refine (c2 _).mono ?_; clear c2; rintro e w2 ⟨rfl, b2⟩; obtain ⟨u2, hu2, ⟨ka0, ka1, ka2, ka3⟩, kaf, v2, hv2, bv2⟩ := tmpbox w2; obtain ⟨⟨m0, m1, m2, m3, m4, mf⟩, A3, hA3, ⟨n0, n1, n2, n3, n4, nf⟩, HB3⟩ := K2.out _ _ _ _ _ _ _ _ (.int .i64 64) (.int .i64 2) (.int .i64 0) (.func (.func 4) #[] #[]) .nilFunc HB2 (b2.trans (bv2.mono b2.size)); clear b2 bv2 HB2)
    | (go_at_call 7; refine (c3 _).mono ?_; clear c3; rintro e w3 ⟨rfl, b3⟩; obtain ⟨u3, hu3, ⟨kb0, kb1, kb2, kb3⟩, kbf, v3, hv3, bv3⟩ := tmpbox w3; obtain ⟨⟨o0, o1, o2, o3, o4, of⟩, A4, hA4, ⟨r0, r1, r2, r3, r4, rf⟩, HB4⟩ := K2.out _ _ _ _ _ _ _ _ (.int .i64 64) (.int .i64 2) (.int .i64 0) .nilFunc (.func (.func 5) #[] #[]) HB3 (b3.trans (bv3.mono b3.size)); clear b3 bv3 HB3)
    | (go_at_call 8; refine (c4 _).mono ?_; clear c4; rintro e w4 ⟨rfl, b4⟩; obtain ⟨u4, hu4, ⟨kc0, kc1, kc2, kc3⟩, kcf, v4, hv4, bv4⟩ := tmpbox w4; replace b4 := b4.trans (bv4.mono b4.size); have HE := Hid.mk (HB4.out.2.1.trans (b4.mono HB4.out.2.1.size)); obtain ⟨t0, t1, t2, t3⟩ := box4 (keep5 HB4.out.2.2.1 b4); clear b4 bv4 HB4)
    | (go_at_call 9; refine (num_any _ _).mono ?_; rintro e w' ⟨rfl, rfl⟩)
  go_ret
  exact ⟨rfl, HE.out⟩
end Go.Proofs.YtdgiigaeclnflaaDoor
