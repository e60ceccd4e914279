/-
  DERIVED. The document's own check of a list.
-/
import Derived.Test.YtgloigegmcglfaaDoorBRef2
set_option linter.unusedVariables false
set_option linter.unusedSimpArgs false
namespace Go.Proofs.YtgloigegmcglfaaDoor
open Go.RowKit Go.Proofs.SealMath
set_option maxHeartbeats 1000000 in
set_option maxRecDepth 100000 in
theorem rgoes_any (h : Hd) (l : List En) (la : Option Addr) (cap : Nat) (w : World) (hl : LAt w la l) (hcm : l.length < 4611686018427387904) :
    Calls Tryd.prog 34 #[.agg (hdC h).toArray, .slice la l.length cap] w fun r w' => r = .returned (.int .i64 (bdE h l)) ∧ Below w.heap.size w w' := by
  by_cases hh : hdE h = 0
  · obtain ⟨k1, k2, k3, k4, k5, k6⟩ := hdE0 hh
    have U0 := SAt.new w (hdC h) 23
    have bA : Below w.heap.size w (w.alloc (.cells (hdC h).toArray 23)) := (Below.refl _ w).alloc (Nat.le_refl _) _
    have kt := k2.1
    have kt' := k2.2
    have kb := k3.1
    have kb' := k3.2
    have hCE := fun e W => rone_any h e W k1 k3
    have q0 := U0 0 _ rfl
    have q1 := U0 1 _ rfl
    have q2 := U0 2 _ rfl
    have q3 := U0 3 _ rfl
    have q4 := U0 4 _ rfl
    have q5 := U0 5 _ rfl
    have HW := Hid.mk k1
    clear k1 k2 k3 U0
    by_cases hn : l.length ≤ 2097152
    · have eE : bdE h l = lsI h l 0 := by unfold bdE; rw [if_pos hh, if_pos hn]; rfl
      obtain ⟨E, hE⟩ : ∃ E, E = lsI h l 0 := ⟨_, rfl⟩
      rw [eE, ← hE]
      have HE := Hid.mk hE
      have HST := Hid.mk (And.intro (fun i hi => lsI_step h l i hi) (lsI_end h l))
      have hln : (l.length : Int) ≤ 2097152 := by omega
      clear eE hE hn hh
      have HL := Hid.mk hl
      clear hl
      obtain ⟨wd, t, b, lo, hi, n⟩ := h
      simp only [hdC] at bA q0 q1 q2 q3 q4 q5 hCE HW kt kt' kb kb' k4 k5 k6 ⊢
      go_enter Tryd.func34, Tryd.ntmps34
      go_wp2_with (go_at_call 72; refine (rwidth_any _ _).mono ?_; rintro e w' ⟨rfl, rfl⟩; rw [HW.out])
      obtain ⟨w2, hw2⟩ : ∃ w2, w2 = w.alloc (.cells #[.int .i64 wd, .int .i64 t, .int .i64 b, .int .i64 lo, .int .i64 hi, .int .i64 n] 23) := ⟨_, rfl⟩
      rw [← hw2] at bA q0 q1 q2 q3 q4 q5 ⊢
      clear hw2
      go_loopw [5] (fun u wr => ∃ i : Nat, u = .int .i64 i ∧ i ≤ l.length ∧ lsI ⟨wd, t, b, lo, hi, n⟩ l i = E ∧ Below w2.heap.size w2 wr) (fun u _ => l.length - (intOf u).toNat)
      case atStart => exact ⟨0, rfl, Nat.zero_le _, HE.out.symm, Below.refl _ _⟩
      case round =>
        obtain ⟨i, rfl, hi1, hE, hb⟩ := hrel
        have hbw := chain bA hb (Nat.le_refl _)
        by_cases hlt : i < l.length
        · obtain ⟨g, off, hla, hra⟩ := (HL.out.below hbw).at' (fun h => by rw [h] at hlt; simp at hlt)
          subst hla
          obtain ⟨x0, x1, x2, x3, x4⟩ := row_en hra rfl i hlt
          have hstep := HST.out.1 i hlt
          rw [hE] at hstep
          have p0 := cell_lat hb q0
          have p1 := cell_lat hb q1
          have p2 := cell_lat hb q2
          have p3 := cell_lat hb q3
          have p4 := cell_lat hb q4
          have p5 := cell_lat hb q5
          have i1 : (i : Int) < (l.length : Int) := by omega
          have hce := hCE l[i]
          obtain ⟨e, he⟩ : ∃ e, e = l[i] := ⟨_, rfl⟩
          rw [← he] at x0 x1 x2 x3 x4 hstep hce
          simp only [enC] at hce
          clear he q0 q1 q2 q3 q4 q5 hE
          by_cases hee : enE ⟨wd, t, b, lo, hi, n⟩ e = 0
          · rw [hee] at hce
            rw [if_pos hee] at hstep
            clear hee
            have HSt := Hid.mk hstep
            clear hstep
            go_wp2
            go_region_held (fun w' => Below wr.heap.size wr w' ∧ w'.cell? ⟨g, off + i * 5, none⟩ = some (.int .i64 e.v) ∧ w'.cell? ⟨g, off + i * 5 + 1, none⟩ = some (.string e.c) ∧ w'.cell? ⟨g, off + i * 5 + 2, none⟩ = some (.int .i64 e.i) ∧ w'.cell? ⟨g, off + i * 5 + 3, none⟩ = some (.int .i64 e.s) ∧ w'.cell? ⟨g, off + i * 5 + 4, none⟩ = some (.bool e.d) ∧ w'.cell? ⟨w.heap.size, 0, none⟩ = some (.int .i64 wd) ∧ w'.cell? ⟨w.heap.size, 1, none⟩ = some (.int .i64 t) ∧ w'.cell? ⟨w.heap.size, 2, none⟩ = some (.int .i64 b) ∧ w'.cell? ⟨w.heap.size, 3, none⟩ = some (.int .i64 lo) ∧ w'.cell? ⟨w.heap.size, 4, none⟩ = some (.int .i64 hi) ∧ w'.cell? ⟨w.heap.size, 5, none⟩ = some (.int .i64 n))
              ((refine (fun hb => ⟨hb, cell_lat hb x0, cell_lat hb x1, cell_lat hb x2, cell_lat hb x3, cell_lat hb x4, cell_lat hb p0, cell_lat hb p1, cell_lat hb p2, cell_lat hb p3, cell_lat hb p4, cell_lat hb p5⟩) ?_; first | exact bb | exact b_drew wr))
              ((go_at_call 73; refine (hce _).mono ?_; rintro r w3 ⟨rfl, b3⟩; have bb : Below wr.heap.size wr w3 := below_d b3))
            clear hce
            go_wp2
            have bN := chain hb bb (Nat.le_refl _)
            have bW3 := chain hbw bb (Nat.le_refl _)
            by_cases hi0 : i = 0
            · have hs := HSt.out
              rw [if_pos (.inl hi0)] at hs
              have HS := Hid.mk hs
              clear hs HSt x0 x1 x2 x3 x4
              subst hi0
              go_region
              go_wp2
              refine ⟨⟨0 + 1, ival (by omega), hlt, HS.out.symm, bN.drew⟩, by simp only [intOf]; omega⟩
            · obtain ⟨j, hj⟩ : ∃ j, i = j + 1 := ⟨i - 1, by omega⟩
              subst hj
              have hj1 : j < l.length := by omega
              obtain ⟨z0, z1, z2, z3, z4⟩ := row_en hra rfl j hj1
              have hjA : 0 ≤ (j : Int) := by omega
              have hjB : (j : Int) < (l.length : Int) := by omega
              have hcmp := rless_any l[j] e
              have hq : l[j + 1 - 1]? = some l[j] := List.getElem?_eq_getElem hj1
              obtain ⟨f, hf⟩ : ∃ f, f = l[j] := ⟨_, rfl⟩
              rw [← hf] at z0 z1 z2 z3 z4 hcmp hq
              have y0 := cell_lat bb x0
              have y1 := cell_lat bb x1
              have y2 := cell_lat bb x2
              have y3 := cell_lat bb x3
              have y4 := cell_lat bb x4
              have z0 := cell_lat bb z0
              have z1 := cell_lat bb z1
              have z2 := cell_lat bb z2
              have z3 := cell_lat bb z3
              have z4 := cell_lat bb z4
              clear hf x0 x1 x2 x3 x4
              simp only [enC] at hcmp
              have hw3 : IntKind.i64.wrap (j : Int) = j := by rw [IntKind.wrap_i64]; omega
              have HQ := Hid.mk hq
              clear hq
              cases hls : lsB f e
              · have hs := HSt.out
                rw [if_neg (fun h => by
                  rcases h with h | ⟨q, h1, h2⟩
                  · omega
                  · rw [HQ.out] at h1; cases h1; rw [hls] at h2; cases h2)] at hs
                have HS := Hid.mk hs
                rw [hls] at hcmp
                clear hs hls HSt
                have B3 := Hid.mk bW3
                clear bb b3 bN bW3
                go_region_held (fun w' => Below w3.heap.size w3 w' ∧ w'.cell? ⟨g, off + j * 5, none⟩ = some (.int .i64 f.v) ∧ w'.cell? ⟨g, off + j * 5 + 1, none⟩ = some (.string f.c) ∧ w'.cell? ⟨g, off + j * 5 + 2, none⟩ = some (.int .i64 f.i) ∧ w'.cell? ⟨g, off + j * 5 + 3, none⟩ = some (.int .i64 f.s) ∧ w'.cell? ⟨g, off + j * 5 + 4, none⟩ = some (.bool f.d) ∧ w'.cell? ⟨g, off + (j + 1) * 5, none⟩ = some (.int .i64 e.v) ∧ w'.cell? ⟨g, off + (j + 1) * 5 + 1, none⟩ = some (.string e.c) ∧ w'.cell? ⟨g, off + (j + 1) * 5 + 2, none⟩ = some (.int .i64 e.i) ∧ w'.cell? ⟨g, off + (j + 1) * 5 + 3, none⟩ = some (.int .i64 e.s) ∧ w'.cell? ⟨g, off + (j + 1) * 5 + 4, none⟩ = some (.bool e.d))
                  ((refine (fun hb => ⟨hb, cell_lat hb z0, cell_lat hb z1, cell_lat hb z2, cell_lat hb z3, cell_lat hb z4, cell_lat hb y0, cell_lat hb y1, cell_lat hb y2, cell_lat hb y3, cell_lat hb y4⟩) ?_; first | exact bb | exact b_drew w3))
                  ((go_at_call 74; refine (hcmp _).mono ?_; rintro r w4 ⟨rfl, b4⟩; have bb : Below w3.heap.size w3 w4 := below_d b4))
                all_goals
                  clear hw3
                  go_wp2
                  go_ret
                  rw [HS.out]
                  exact ⟨rfl, chain B3.out bb (Nat.le_refl _)⟩
              · have hs := HSt.out
                rw [if_pos (.inr ⟨f, HQ.out, hls⟩)] at hs
                have HS := Hid.mk hs
                rw [hls] at hcmp
                clear hs hls HSt
                have B3 := Hid.mk bN
                clear bb b3 bN bW3
                go_region_held (fun w' => Below w3.heap.size w3 w' ∧ w'.cell? ⟨g, off + j * 5, none⟩ = some (.int .i64 f.v) ∧ w'.cell? ⟨g, off + j * 5 + 1, none⟩ = some (.string f.c) ∧ w'.cell? ⟨g, off + j * 5 + 2, none⟩ = some (.int .i64 f.i) ∧ w'.cell? ⟨g, off + j * 5 + 3, none⟩ = some (.int .i64 f.s) ∧ w'.cell? ⟨g, off + j * 5 + 4, none⟩ = some (.bool f.d) ∧ w'.cell? ⟨g, off + (j + 1) * 5, none⟩ = some (.int .i64 e.v) ∧ w'.cell? ⟨g, off + (j + 1) * 5 + 1, none⟩ = some (.string e.c) ∧ w'.cell? ⟨g, off + (j + 1) * 5 + 2, none⟩ = some (.int .i64 e.i) ∧ w'.cell? ⟨g, off + (j + 1) * 5 + 3, none⟩ = some (.int .i64 e.s) ∧ w'.cell? ⟨g, off + (j + 1) * 5 + 4, none⟩ = some (.bool e.d))
                  ((refine (fun hb => ⟨hb, cell_lat hb z0, cell_lat hb z1, cell_lat hb z2, cell_lat hb z3, cell_lat hb z4, cell_lat hb y0, cell_lat hb y1, cell_lat hb y2, cell_lat hb y3, cell_lat hb y4⟩) ?_; first | exact bb | exact b_drew w3))
                  ((go_at_call 74; refine (hcmp _).mono ?_; rintro r w4 ⟨rfl, b4⟩; have bb : Below w3.heap.size w3 w4 := below_d b4))
                all_goals
                  clear hw3
                  go_wp2
                  refine ⟨⟨j + 1 + 1, ival (by omega), hlt, HS.out.symm, chain B3.out bb (Nat.le_refl _)⟩, by simp only [intOf]; omega⟩
          · rw [if_neg hee] at hstep
            have h1 : (enE ⟨wd, t, b, lo, hi, n⟩ e != 0) = true := by simpa using hee
            rw [← hstep] at hce h1
            clear hstep hee
            go_wp2
            go_region_held (fun w' => Below wr.heap.size wr w' ∧ w'.cell? ⟨g, off + i * 5, none⟩ = some (.int .i64 e.v) ∧ w'.cell? ⟨g, off + i * 5 + 1, none⟩ = some (.string e.c) ∧ w'.cell? ⟨g, off + i * 5 + 2, none⟩ = some (.int .i64 e.i) ∧ w'.cell? ⟨g, off + i * 5 + 3, none⟩ = some (.int .i64 e.s) ∧ w'.cell? ⟨g, off + i * 5 + 4, none⟩ = some (.bool e.d) ∧ w'.cell? ⟨w.heap.size, 0, none⟩ = some (.int .i64 wd) ∧ w'.cell? ⟨w.heap.size, 1, none⟩ = some (.int .i64 t) ∧ w'.cell? ⟨w.heap.size, 2, none⟩ = some (.int .i64 b) ∧ w'.cell? ⟨w.heap.size, 3, none⟩ = some (.int .i64 lo) ∧ w'.cell? ⟨w.heap.size, 4, none⟩ = some (.int .i64 hi) ∧ w'.cell? ⟨w.heap.size, 5, none⟩ = some (.int .i64 n))
              ((refine (fun hb => ⟨hb, cell_lat hb x0, cell_lat hb x1, cell_lat hb x2, cell_lat hb x3, cell_lat hb x4, cell_lat hb p0, cell_lat hb p1, cell_lat hb p2, cell_lat hb p3, cell_lat hb p4, cell_lat hb p5⟩) ?_; first | exact bb | exact b_drew wr))
              ((go_at_call 73; refine (hce _).mono ?_; rintro r w3 ⟨rfl, b3⟩; have bb : Below wr.heap.size wr w3 := below_d b3))
            all_goals
              clear hce
              go_wp2
              go_ret
              exact ⟨rfl, chain hbw bb (Nat.le_refl _)⟩
        · have e1 : i = l.length := by omega
          subst e1
          have h0 : E = 0 := by rw [← hE]; exact HST.out.2
          have H0 := Hid.mk h0
          clear hE h0
          go_wp2
          go_ret
          rw [H0.out]
          exact ⟨rfl, hbw⟩
    · have e1 : bdE h l = 43 := by unfold bdE; rw [if_pos hh, if_neg hn]
      rw [e1]
      have hn' : (2097152 : Int) < (l.length : Int) := by omega
      obtain ⟨wd, t, b, lo, hi, n⟩ := h
      simp only [hdC] at bA q0 q1 q2 q3 q4 q5 HW kt kt' kb kb' k4 k5 k6 ⊢
      clear e1 hh hn hCE
      go_enter Tryd.func34, Tryd.ntmps34
      go_wp2_with (go_at_call 72; refine (rwidth_any _ _).mono ?_; rintro e w' ⟨rfl, rfl⟩; rw [HW.out])
      go_ret
      exact ⟨rfl, bA⟩
  · exact rgoes_no h l la cap w hh
end Go.Proofs.YtgloigegmcglfaaDoor
