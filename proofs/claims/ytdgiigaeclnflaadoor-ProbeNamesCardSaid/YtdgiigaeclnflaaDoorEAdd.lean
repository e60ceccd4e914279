/-
  DERIVED. A hit is handed in to a top.
-/
import Derived.Test.YtdgiigaeclnflaaDoorETop
set_option linter.unusedVariables false
set_option linter.unusedSimpArgs false
namespace Go.Proofs.YtdgiigaeclnflaaDoor
open Classical
open Go.RowKit
/-- What a top keeps behind a hit. -/
def putK (k : Nat) (h : Ht) (X : List Ht) : List Ht := (ins h X).take k
/-- A box that holds a hit. -/
theorem box_cells {W : World} {r : Nat} {h : Ht} (hb : W.heap[r]? = some (.cells (hC h).toArray 67 (0, 0))) : W.cell? ⟨r, 0, none⟩ = some (.int .i64 h.d) ∧ W.cell? ⟨r, 1, none⟩ = some (.int .i64 h.i) ∧ W.cell? ⟨r, 2, none⟩ = some (.string h.c) :=
  ⟨by rw [cell_of_row _ _ 0 _ _ (0, 0) hb]; rfl, by rw [cell_of_row _ _ 1 _ _ (0, 0) hb]; rfl, by rw [cell_of_row _ _ 2 _ _ (0, 0) hb]; rfl⟩
/-- From has on: what Add does behind its first test. -/
theorem TT.same {w w' : World} {t k kp : Nat} {X : List Ht} {h : Ht} (hT : TT w t k kp X) (b : Below w.heap.size w w') (e : putK k h X = X) : TT w' t k kp (putK k h X) ∧ FrK kp w w' := by
  obtain ⟨mb, v, g, xs, hK⟩ := hT.2.1
  rw [e]
  exact ⟨(hT.below b).1, FrK.below hK.kp' b⟩
theorem KK.frk {w w' : World} {kp : Nat} {X : List Ht} (h : KK w kp X) (b : Below w.heap.size w w') : FrK kp w w' := by
  obtain ⟨mb, v, g, xs, hK⟩ := h
  exact FrK.below hK.kp' b
theorem putK_in {k : Nat} {h : Ht} {X : List Ht} (hs : Srt X) (hl : X.length ≤ k) (hm : h ∈ X) : putK k h X = X := by
  unfold putK; rw [ins_in hs hm, List.take_of_length_le hl]
theorem putK_more {k : Nat} {h : Ht} {X : List Ht} (hl : X.length < k) (hm : h ∉ X) : putK k h X = ins h X := by
  unfold putK; rw [List.take_of_length_le (by rw [ins_len hm]; omega)]
theorem KK.srt {w : World} {kp : Nat} {X : List Ht} (h : KK w kp X) : Srt X := by
  obtain ⟨mb, v, g, xs, hK⟩ := h
  exact hK.srt
theorem KK.lim {w : World} {kp : Nat} {X : List Ht} (h : KK w kp X) : X.length ≤ LIM := by
  obtain ⟨mb, v, g, xs, hK⟩ := h
  exact hK.lim
theorem KK.lastOf {w : World} {kp : Nat} {X : List Ht} (h : KK w kp X) (hn : X ≠ []) : ∃ x, X = X.dropLast ++ [x] := by
  obtain ⟨mb, v, g, xs, hK⟩ := h
  obtain ⟨x, _, e⟩ := hK.first hn
  exact ⟨x, e⟩
theorem add_fin {w w5 w6 : World} {t k kp : Nat} {X Y : List Ht} {h : Ht} (hT : TT w t k kp X) (f5 : FrK kp w w5) (T5 : TopAt w5 t k kp) (K5 : KK w5 kp Y) (K6 : KK w6 kp (ins h Y)) (f6 : FrK kp w5.drew w6) (e : putK k h X = ins h Y) : TT w6 t k kp (putK k h X) ∧ FrK kp w w6 := by
  have K5' : KK w5.drew kp Y := K5.below (b_drew w5)
  have T6 : TopAt w6 t k kp := TopAt.frk (W := w5.drew) T5 K5' f6
  have hl : (putK k h X).length ≤ k := by unfold putK; rw [List.length_take]; omega
  rw [e] at hl ⊢
  exact ⟨⟨T6, K6, hl, hT.2.2.2⟩, f5.trans ((K5.frk (b_drew w5)).trans f6)⟩
/-- A block behind what was there stays while what is kept is changed. -/
theorem box_kept {w w4 w5 : World} {t k kp : Nat} {X : List Ht} {o : Obj} (hT : TT w t k kp X) (b : Below w.heap.size w w4) (hb : w4.heap[w.heap.size]? = some o) (f : FrK kp w4 w5) : w5.heap[w.heap.size]? = some o := by
  refine (f.stay.block _ (Array.getElem?_eq_some_iff.1 hb).1 (fun hf => ?_)).trans hb
  have h2 := ((hT.below b).2 _).1 hf
  exact absurd (hT.2.1.ftlt _ h2) (Nat.lt_irrefl _)
set_option maxHeartbeats 2000000 in
set_option maxRecDepth 100000 in
theorem tadd_any (t k kp : Nat) (X : List Ht) (h : Ht) (w : World) (hT : TT w t k kp X) (hh : HtW h) :
    Calls Tryd.prog 77 #[Pk t, .agg (hC h).toArray] w fun r w' => r = .returned (.bool (decide (h ∈ putK k h X))) ∧ TT w' t k kp (putK k h X) ∧ FrK kp w w' := by
  have bA : Below w.heap.size w (w.alloc (.cells (hC h).toArray 67)) := (Below.refl _ w).alloc (Nat.le_refl _) _
  have hb1 := heap_alloc_last w (.cells (hC h).toArray 67)
  obtain ⟨w1, hw1⟩ : ∃ w1, w1 = w.alloc (.cells (hC h).toArray 67) := ⟨_, rfl⟩
  rw [← hw1] at bA hb1
  have hw' : w.alloc (.cells #[.int .i64 h.d, .int .i64 h.i, .string h.c] 67) = w1 := hw1.symm
  have T1 := (hT.below bA).1
  obtain ⟨c0, c1⟩ := T1.1.cells
  simp only [hC]
  by_cases hk0 : k = 0
  · subst hk0
    have HP := Hid.mk (hT.same (h := h) bA (by
      have h0 : X = [] := List.eq_nil_of_length_eq_zero (by have := hT.2.2.1; omega)
      subst h0; rfl))
    have hd : decide (h ∈ putK 0 h X) = false := by simp [putK]
    rw [hd]
    clear hd hT T1 bA hb1 hw1
    go_enter Tryd.func77, Tryd.ntmps77
    go_wp2
    go_ret
    exact ⟨rfl, HP.out⟩
  · have hk1 : ((k : Int) == 0) = false := by simp; omega
    have hfull := full_any t k kp X w1 T1
    by_cases hf : X.length = k
    · have hne : X ≠ [] := fun e => by rw [e] at hf; simp at hf; omega
      obtain ⟨x, hx⟩ := hT.2.1.lastOf hne
      rw [decide_eq_true hf] at hfull
      have HT := Hid.mk (And.intro hT (And.intro bA (And.intro hb1 T1)))
      have hXs := hT.2.1.srt
      clear hT T1 bA hb1 hw1
      by_cases hgt : 0 < cpH h x
      · have hto := top_out (h := h) hXs hx hgt
        rw [hf] at hto
        have hd : decide (h ∈ putK k h X) = false := by unfold putK; rw [hto.1]; exact decide_eq_false hto.2
        rw [hd]
        have Hp : Hid (putK k h X = X) := hto.1
        clear hd hto hXs
        go_enter Tryd.func77, Tryd.ntmps77
        go_wp2_with (go_at_call 23; refine hfull.mono ?_; clear hfull; rintro r w2 ⟨rfl, q, rfl⟩)
        have bq : Below w1.heap.size w1 (w1.drewN q) := Drew.below ⟨q, rfl⟩ _
        obtain ⟨w2, hw2⟩ : ∃ w2, w2 = w1.drewN q := ⟨_, rfl⟩
        rw [← hw2] at bq ⊢
        have hb2 : w2.heap[w.heap.size]? = some (.cells (hC h).toArray 67 (0, 0)) := (bq.block _ (Array.getElem?_eq_some_iff.1 HT.out.2.2.1).1).trans HT.out.2.2.1
        have b2 : Below w.heap.size w w2 := HT.out.2.1.trans (bq.mono HT.out.2.1.size)
        have T2 := (HT.out.1.below b2).1
        obtain ⟨-, d1⟩ := T2.1.cells
        have k0 : w2.cell? ⟨kp, 0, none⟩ = some cmpF := by obtain ⟨mb, v, g, xs, hK⟩ := T2.2.1; exact hK.kp'.cells.1
        obtain ⟨e0, e1, e2⟩ := box_cells hb2
        have hlast := last_any kp X x w2.drew (T2.2.1.below (b_drew w2)) hx
        have hcmp := fun W => compare_below h x W
        simp only [hC] at hlast hcmp
        have H2 := Hid.mk (And.intro b2 (And.intro hb2 T2))
        clear hw2 bq hb2 b2 T2 c0 c1
        go_region_held (fun w' => Below w2.heap.size w2 w' ∧ w'.cell? ⟨t, 1, none⟩ = some (Pk kp) ∧ w'.cell? ⟨kp, 0, none⟩ = some cmpF ∧ w'.cell? ⟨w.heap.size, 0, none⟩ = some (.int .i64 h.d) ∧ w'.cell? ⟨w.heap.size, 1, none⟩ = some (.int .i64 h.i) ∧ w'.cell? ⟨w.heap.size, 2, none⟩ = some (.string h.c))
          ((refine (fun hb => ⟨hb, cell_lat hb d1, cell_lat hb k0, cell_lat hb e0, cell_lat hb e1, cell_lat hb e2⟩) ?_; first | exact bb5 | exact bb4 | exact b_drew w2))
          (first
            | (go_at_call 24; refine hlast.mono ?_; clear hlast; rintro r w4 ⟨rfl, b4⟩; have bb4 : Below w2.heap.size w2 w4 := below_d b4)
            | (go_at_call 29; refine (hcmp _).mono ?_; clear hcmp; rintro r w5 ⟨rfl, b5⟩; have bb5 : Below w2.heap.size w2 w5 := bb4.trans (b5.mono bb4.size)))
        all_goals
          go_wp2
          go_ret
          exact ⟨rfl, HT.out.1.same (H2.out.1.trans (bb5.mono H2.out.1.size)) Hp.out⟩
      · by_cases hm : h ∈ X
        · have hp : putK k h X = X := putK_in hXs HT.out.1.2.2.1 hm
          have hd : decide (h ∈ putK k h X) = true := by rw [hp]; exact decide_eq_true hm
          rw [hd]
          have Hp := Hid.mk hp
          clear hd hp hXs
          go_enter Tryd.func77, Tryd.ntmps77
          go_wp2_with (go_at_call 23; refine hfull.mono ?_; clear hfull; rintro r w2 ⟨rfl, q, rfl⟩)
          have bq : Below w1.heap.size w1 (w1.drewN q) := Drew.below ⟨q, rfl⟩ _
          obtain ⟨w2, hw2⟩ : ∃ w2, w2 = w1.drewN q := ⟨_, rfl⟩
          rw [← hw2] at bq ⊢
          have hb2 : w2.heap[w.heap.size]? = some (.cells (hC h).toArray 67 (0, 0)) := (bq.block _ (Array.getElem?_eq_some_iff.1 HT.out.2.2.1).1).trans HT.out.2.2.1
          have b2 : Below w.heap.size w w2 := HT.out.2.1.trans (bq.mono HT.out.2.1.size)
          have T2 := (HT.out.1.below b2).1
          obtain ⟨-, d1⟩ := T2.1.cells
          have k0 : w2.cell? ⟨kp, 0, none⟩ = some cmpF := by obtain ⟨mb, v, g, xs, hK⟩ := T2.2.1; exact hK.kp'.cells.1
          obtain ⟨e0, e1, e2⟩ := box_cells hb2
          have hlast := last_any kp X x w2.drew (T2.2.1.below (b_drew w2)) hx
          have hcmp := fun W => compare_below h x W
          simp only [hC] at hlast hcmp
          have H2 := Hid.mk (And.intro b2 (And.intro hb2 T2))
          clear hw2 bq hb2 b2 T2 c0 c1
          go_region_held (fun w' => Below w2.heap.size w2 w' ∧ w'.cell? ⟨t, 1, none⟩ = some (Pk kp) ∧ w'.cell? ⟨kp, 0, none⟩ = some cmpF ∧ w'.cell? ⟨w.heap.size, 0, none⟩ = some (.int .i64 h.d) ∧ w'.cell? ⟨w.heap.size, 1, none⟩ = some (.int .i64 h.i) ∧ w'.cell? ⟨w.heap.size, 2, none⟩ = some (.string h.c))
            ((refine (fun hb => ⟨hb, cell_lat hb d1, cell_lat hb k0, cell_lat hb e0, cell_lat hb e1, cell_lat hb e2⟩) ?_; first | exact bb5 | exact bb4 | exact b_drew w2))
            (first
              | (go_at_call 24; refine hlast.mono ?_; clear hlast; rintro r w4 ⟨rfl, b4⟩; have bb4 : Below w2.heap.size w2 w4 := below_d b4)
              | (go_at_call 29; refine (hcmp _).mono ?_; clear hcmp; rintro r w5 ⟨rfl, b5⟩; have bb5 : Below w2.heap.size w2 w5 := bb4.trans (b5.mono bb4.size)))
          all_goals
            obtain ⟨w3, hw3⟩ : ∃ w3, w3 = w5 := ⟨_, rfl⟩
            have b3 : Below w.heap.size w w3 := by rw [hw3]; exact H2.out.1.trans (bb5.mono H2.out.1.size)
            have hb3 : w3.heap[w.heap.size]? = some (.cells (hC h).toArray 67 (0, 0)) := by rw [hw3]; exact (bb5.block _ (Array.getElem?_eq_some_iff.1 H2.out.2.1).1).trans H2.out.2.1
            rw [← hw3]
            clear hw3 b5 bb5 b4 bb4 H2 d1 k0 e0 e1 e2
            have T3 := (HT.out.1.below b3).1
            obtain ⟨-, d1⟩ := T3.1.cells
            obtain ⟨e0, e1, e2⟩ := box_cells hb3
            have hhas := has_any kp X h w3.drew (T3.2.1.below (b_drew w3)) hh
            rw [decide_eq_true hm] at hhas
            simp only [hC] at hhas
            have H3 := Hid.mk (And.intro b3 (And.intro hb3 T3))
            clear b3 hb3 T3
            go_wp2
            go_region_held (fun w' => Below w3.heap.size w3 w' ∧ w'.cell? ⟨t, 1, none⟩ = some (Pk kp) ∧ w'.cell? ⟨w.heap.size, 0, none⟩ = some (.int .i64 h.d) ∧ w'.cell? ⟨w.heap.size, 1, none⟩ = some (.int .i64 h.i) ∧ w'.cell? ⟨w.heap.size, 2, none⟩ = some (.string h.c))
              ((refine (fun hb => ⟨hb, cell_lat hb d1, cell_lat hb e0, cell_lat hb e1, cell_lat hb e2⟩) ?_; first | exact bb | exact b_drew w3))
              ((go_at_call 79; refine hhas.mono ?_; clear hhas; rintro r w4 ⟨rfl, b4⟩; have bb : Below w3.heap.size w3 w4 := below_d b4))
            all_goals
              go_wp2
              go_ret
              exact ⟨rfl, HT.out.1.same (H3.out.1.trans (bb.mono H3.out.1.size)) Hp.out⟩
        · have hlt : cpH h x < 0 := by
            have z := cpH_zero h x
            have : cpH h x ≠ 0 := fun e => hm (by
              have := z.1 e
              subst this
              rw [hx]; simp)
            omega
          have hp : putK k h X = ins h X.dropLast := by
            have := top_in hXs hx hm hlt
            rw [hf] at this; exact this
          have hd : decide (h ∈ putK k h X) = true := by rw [hp]; exact decide_eq_true ((ins_mem _ _ _).2 (.inl rfl))
          rw [hd]
          have Hp := Hid.mk hp
          clear hd hp hXs
          go_enter Tryd.func77, Tryd.ntmps77
          go_wp2_with (go_at_call 23; refine hfull.mono ?_; clear hfull; rintro r w2 ⟨rfl, q, rfl⟩)
          have bq : Below w1.heap.size w1 (w1.drewN q) := Drew.below ⟨q, rfl⟩ _
          obtain ⟨w2, hw2⟩ : ∃ w2, w2 = w1.drewN q := ⟨_, rfl⟩
          rw [← hw2] at bq ⊢
          have hb2 : w2.heap[w.heap.size]? = some (.cells (hC h).toArray 67 (0, 0)) := (bq.block _ (Array.getElem?_eq_some_iff.1 HT.out.2.2.1).1).trans HT.out.2.2.1
          have b2 : Below w.heap.size w w2 := HT.out.2.1.trans (bq.mono HT.out.2.1.size)
          have T2 := (HT.out.1.below b2).1
          obtain ⟨-, d1⟩ := T2.1.cells
          have k0 : w2.cell? ⟨kp, 0, none⟩ = some cmpF := by obtain ⟨mb, v, g, xs, hK⟩ := T2.2.1; exact hK.kp'.cells.1
          obtain ⟨e0, e1, e2⟩ := box_cells hb2
          have hlast := last_any kp X x w2.drew (T2.2.1.below (b_drew w2)) hx
          have hcmp := fun W => compare_below h x W
          simp only [hC] at hlast hcmp
          have H2 := Hid.mk (And.intro b2 (And.intro hb2 T2))
          clear hw2 bq hb2 b2 T2 c0 c1
          go_region_held (fun w' => Below w2.heap.size w2 w' ∧ w'.cell? ⟨t, 1, none⟩ = some (Pk kp) ∧ w'.cell? ⟨kp, 0, none⟩ = some cmpF ∧ w'.cell? ⟨w.heap.size, 0, none⟩ = some (.int .i64 h.d) ∧ w'.cell? ⟨w.heap.size, 1, none⟩ = some (.int .i64 h.i) ∧ w'.cell? ⟨w.heap.size, 2, none⟩ = some (.string h.c))
            ((refine (fun hb => ⟨hb, cell_lat hb d1, cell_lat hb k0, cell_lat hb e0, cell_lat hb e1, cell_lat hb e2⟩) ?_; first | exact bb5 | exact bb4 | exact b_drew w2))
            (first
              | (go_at_call 24; refine hlast.mono ?_; clear hlast; rintro r w4 ⟨rfl, b4⟩; have bb4 : Below w2.heap.size w2 w4 := below_d b4)
              | (go_at_call 29; refine (hcmp _).mono ?_; clear hcmp; rintro r w5 ⟨rfl, b5⟩; have bb5 : Below w2.heap.size w2 w5 := bb4.trans (b5.mono bb4.size)))
          all_goals
            obtain ⟨w3, hw3⟩ : ∃ w3, w3 = w5 := ⟨_, rfl⟩
            have b3 : Below w.heap.size w w3 := by rw [hw3]; exact H2.out.1.trans (bb5.mono H2.out.1.size)
            have hb3 : w3.heap[w.heap.size]? = some (.cells (hC h).toArray 67 (0, 0)) := by rw [hw3]; exact (bb5.block _ (Array.getElem?_eq_some_iff.1 H2.out.2.1).1).trans H2.out.2.1
            rw [← hw3]
            clear hw3 b5 bb5 b4 bb4 H2 d1 k0 e0 e1 e2
            have T3 := (HT.out.1.below b3).1
            obtain ⟨-, d1⟩ := T3.1.cells
            obtain ⟨e0, e1, e2⟩ := box_cells hb3
            have hhas := has_any kp X h w3.drew (T3.2.1.below (b_drew w3)) hh
            rw [decide_eq_false hm] at hhas
            simp only [hC] at hhas
            have H3 := Hid.mk (And.intro b3 (And.intro hb3 T3))
            clear b3 hb3 T3
            go_wp2
            go_region_held (fun w' => Below w3.heap.size w3 w' ∧ w'.cell? ⟨t, 1, none⟩ = some (Pk kp) ∧ w'.cell? ⟨w.heap.size, 0, none⟩ = some (.int .i64 h.d) ∧ w'.cell? ⟨w.heap.size, 1, none⟩ = some (.int .i64 h.i) ∧ w'.cell? ⟨w.heap.size, 2, none⟩ = some (.string h.c))
              ((refine (fun hb => ⟨hb, cell_lat hb d1, cell_lat hb e0, cell_lat hb e1, cell_lat hb e2⟩) ?_; first | exact bb | exact b_drew w3))
              ((go_at_call 79; refine hhas.mono ?_; clear hhas; rintro r w4 ⟨rfl, b4⟩; have bb : Below w3.heap.size w3 w4 := below_d b4))
            all_goals
              have b4' : Below w.heap.size w w4 := H3.out.1.trans (bb.mono H3.out.1.size)
              have T4 := (HT.out.1.below b4').1
              obtain ⟨-, g1⟩ := T4.1.cells
              have hb4 : w4.heap[w.heap.size]? = some (.cells (hC h).toArray 67 (0, 0)) := (bb.block _ (Array.getElem?_eq_some_iff.1 H3.out.2.1).1).trans H3.out.2.1
              have hdr := drop_any kp X x w4 T4.2.1 hx
              have H4 := Hid.mk (And.intro b4' (And.intro hb4 T4))
              clear b4 bb T4 hb4 b4' H3
              go_wp2_with (go_at_call 80; refine hdr.mono ?_; clear hdr; rintro r w5 ⟨rfl, K5, f5⟩)
              have hb5 := box_kept HT.out.1 H4.out.1 H4.out.2.1 f5
              have T5 : TopAt w5 t k kp := TopAt.frk H4.out.2.2.1 H4.out.2.2.2.1 f5
              have f5' : FrK kp w w5 := (HT.out.1.2.1.frk H4.out.1).trans f5
              obtain ⟨-, i1⟩ := T5.cells
              obtain ⟨j0, j1, j2⟩ := box_cells hb5
              have hadd := add_any kp X.dropLast h w5.drew (K5.below (b_drew w5)) hh (fun e => hm ((List.dropLast_sublist X).subset e)) (by have := HT.out.1.2.2.1; have := HT.out.1.2.2.2; rw [List.length_dropLast]; unfold LIM; omega)
              simp only [hC] at hadd
              have HA : Hid (∀ w6, KK w6 kp (ins h X.dropLast) → FrK kp w5.drew w6 → TT w6 t k kp (putK k h X) ∧ FrK kp w w6) := fun w6 K6 f6 => add_fin HT.out.1 f5' T5 K5 K6 f6 Hp.out
              clear K5 f5 f5' T5 hb5 H4
              go_region_with (go_at_call 81; refine hadd.mono ?_; clear hadd; rintro r w6 ⟨rfl, K6, f6⟩)
              all_goals
                go_wp2
                go_ret
                exact ⟨rfl, HA.out _ K6 f6⟩
    · rw [decide_eq_false hf] at hfull
      have HT := Hid.mk (And.intro hT (And.intro bA (And.intro hb1 T1)))
      clear hT T1 bA hb1 hw1
      have hlt : X.length < k := by have := HT.out.1.2.2.1; omega
      by_cases hm : h ∈ X
      · have hp : putK k h X = X := putK_in HT.out.1.2.1.srt HT.out.1.2.2.1 hm
        have hd : decide (h ∈ putK k h X) = true := by rw [hp]; exact decide_eq_true hm
        rw [hd]
        have Hp := Hid.mk hp
        clear hd hp
        go_enter Tryd.func77, Tryd.ntmps77
        go_wp2_with (go_at_call 23; refine hfull.mono ?_; clear hfull; rintro r w2 ⟨rfl, q, rfl⟩)
        go_region
        obtain ⟨w3, hw3⟩ : ∃ w3, w3 = (w1.drewN q).drew := ⟨_, rfl⟩
        have b3 : Below w.heap.size w w3 := by rw [hw3]; exact HT.out.2.1.trans ((Drew.below ⟨q, rfl⟩ _).drew)
        have hb3 : w3.heap[w.heap.size]? = some (.cells (hC h).toArray 67 (0, 0)) := by rw [hw3]; exact HT.out.2.2.1
        rw [← hw3]
        clear hw3
        have T3 := (HT.out.1.below b3).1
        obtain ⟨-, d1⟩ := T3.1.cells
        obtain ⟨e0, e1, e2⟩ := box_cells hb3
        have hhas := has_any kp X h w3.drew (T3.2.1.below (b_drew w3)) hh
        rw [decide_eq_true hm] at hhas
        simp only [hC] at hhas
        have H3 := Hid.mk (And.intro b3 (And.intro hb3 T3))
        clear b3 hb3 T3
        go_wp2
        go_region_held (fun w' => Below w3.heap.size w3 w' ∧ w'.cell? ⟨t, 1, none⟩ = some (Pk kp) ∧ w'.cell? ⟨w.heap.size, 0, none⟩ = some (.int .i64 h.d) ∧ w'.cell? ⟨w.heap.size, 1, none⟩ = some (.int .i64 h.i) ∧ w'.cell? ⟨w.heap.size, 2, none⟩ = some (.string h.c))
          ((refine (fun hb => ⟨hb, cell_lat hb d1, cell_lat hb e0, cell_lat hb e1, cell_lat hb e2⟩) ?_; first | exact bb | exact b_drew w3))
          ((go_at_call 79; refine hhas.mono ?_; clear hhas; rintro r w4 ⟨rfl, b4⟩; have bb : Below w3.heap.size w3 w4 := below_d b4))
        all_goals
          go_wp2
          go_ret
          exact ⟨rfl, HT.out.1.same (H3.out.1.trans (bb.mono H3.out.1.size)) Hp.out⟩
      · have hp : putK k h X = ins h X := putK_more hlt hm
        have hd : decide (h ∈ putK k h X) = true := by rw [hp]; exact decide_eq_true ((ins_mem _ _ _).2 (.inl rfl))
        rw [hd]
        have Hp := Hid.mk hp
        clear hd hp
        go_enter Tryd.func77, Tryd.ntmps77
        go_wp2_with (go_at_call 23; refine hfull.mono ?_; clear hfull; rintro r w2 ⟨rfl, q, rfl⟩)
        go_region
        obtain ⟨w3, hw3⟩ : ∃ w3, w3 = (w1.drewN q).drew := ⟨_, rfl⟩
        have b3 : Below w.heap.size w w3 := by rw [hw3]; exact HT.out.2.1.trans ((Drew.below ⟨q, rfl⟩ _).drew)
        have hb3 : w3.heap[w.heap.size]? = some (.cells (hC h).toArray 67 (0, 0)) := by rw [hw3]; exact HT.out.2.2.1
        rw [← hw3]
        clear hw3
        have T3 := (HT.out.1.below b3).1
        obtain ⟨-, d1⟩ := T3.1.cells
        obtain ⟨e0, e1, e2⟩ := box_cells hb3
        have hhas := has_any kp X h w3.drew (T3.2.1.below (b_drew w3)) hh
        rw [decide_eq_false hm] at hhas
        simp only [hC] at hhas
        have H3 := Hid.mk (And.intro b3 (And.intro hb3 T3))
        clear b3 hb3 T3
        go_wp2
        go_region_held (fun w' => Below w3.heap.size w3 w' ∧ w'.cell? ⟨t, 1, none⟩ = some (Pk kp) ∧ w'.cell? ⟨w.heap.size, 0, none⟩ = some (.int .i64 h.d) ∧ w'.cell? ⟨w.heap.size, 1, none⟩ = some (.int .i64 h.i) ∧ w'.cell? ⟨w.heap.size, 2, none⟩ = some (.string h.c))
          ((refine (fun hb => ⟨hb, cell_lat hb d1, cell_lat hb e0, cell_lat hb e1, cell_lat hb e2⟩) ?_; first | exact bb | exact b_drew w3))
          ((go_at_call 79; refine hhas.mono ?_; clear hhas; rintro r w4 ⟨rfl, b4⟩; have bb : Below w3.heap.size w3 w4 := below_d b4))
        all_goals
          have b4' : Below w.heap.size w w4 := H3.out.1.trans (bb.mono H3.out.1.size)
          have T4 := (HT.out.1.below b4').1
          obtain ⟨-, i1⟩ := T4.1.cells
          have hb4 : w4.heap[w.heap.size]? = some (.cells (hC h).toArray 67 (0, 0)) := (bb.block _ (Array.getElem?_eq_some_iff.1 H3.out.2.1).1).trans H3.out.2.1
          obtain ⟨j0, j1, j2⟩ := box_cells hb4
          have hadd := add_any kp X h w4.drew (T4.2.1.below (b_drew w4)) hh hm (by have := HT.out.1.2.2.1; have := HT.out.1.2.2.2; unfold LIM; omega)
          simp only [hC] at hadd
          have HA : Hid (∀ w6, KK w6 kp (ins h X) → FrK kp w4.drew w6 → TT w6 t k kp (putK k h X) ∧ FrK kp w w6) := fun w6 K6 f6 => add_fin HT.out.1 (HT.out.1.2.1.frk b4') T4.1 T4.2.1 K6 f6 Hp.out
          clear b4 bb T4 hb4 b4' H3
          go_wp2
          go_region_with (go_at_call 81; refine hadd.mono ?_; clear hadd; rintro r w6 ⟨rfl, K6, f6⟩)
          all_goals
            go_wp2
            go_ret
            exact ⟨rfl, HA.out _ K6 f6⟩
end Go.Proofs.YtdgiigaeclnflaaDoor
