/-
  DERIVED. BRef2, BRef3, BRef6, BX2, BEa, as one text.
-/
import Derived.Test.YtjdpolhjbkpnlaaDoorTzAI
import Derived.Test.YtjdpolhjbkpnlaaDoorTzAJ
import Derived.Shelf.RegionOpenPlain
import Derived.Test.YtjdpolhjbkpnlaaDoorTzAD
set_option linter.unusedVariables false
set_option linter.unusedSimpArgs false
namespace Go.Proofs.YtjdpolhjbkpnlaaDoor
open Go.RowKit Go.Proofs.SealMath
theorem rwidth_any (x : Int) (w : World) :
    Calls Tryd.prog 34 #[.int .i64 x] w fun e w' => e = .returned (.bool (isW x)) ∧ w' = w := by
  go_enter Tryd.func34, Tryd.ntmps34
  go_wp2
  all_goals go_ret
  · exact ⟨ret_bool (isW_pos ‹_› ‹_›).symm, rfl⟩
  · exact ⟨ret_bool (isW_big ‹_›).symm, rfl⟩
  · exact ⟨ret_bool (isW_small ‹_›).symm, rfl⟩
set_option maxHeartbeats 1000000 in
set_option maxRecDepth 100000 in
theorem rless_any (a b : En) (w : World) :
    Calls Tryd.prog 47 #[.agg (enC a).toArray, .agg (enC b).toArray] w fun r w' => r = .returned (.bool (lsB a b)) ∧ Below w.heap.size w w' := by
  obtain ⟨v, c, i, s, d⟩ := a
  obtain ⟨v', c', i', s', d'⟩ := b
  have bA : Below w.heap.size w ((w.alloc (.cells #[.int .i64 v, .string c, .int .i64 i, .int .i64 s, .bool d] 32)).alloc (.cells #[.int .i64 v', .string c', .int .i64 i', .int .i64 s', .bool d'] 32)) := ((Below.refl _ w).alloc (Nat.le_refl _) _).alloc (by simp) _
  unfold lsB
  simp only [enC]
  by_cases h1 : v = v'
  · rw [if_pos h1]
    have h1' : (v != v') = false := by simp [h1]
    by_cases h2 : c = c'
    · rw [if_pos h2]
      subst h2
      clear h1
      have h2' : (c.toList == c.toList) = true := by simp
      go_enter Tryd.func47, Tryd.ntmps47
      go_wp2
      go_ret
      exact ⟨ret_bool rfl, bA⟩
    · rw [if_neg h2]
      have h2' : (c.toList == c'.toList) = false := by
        rw [ByteArray.toList_eq, ByteArray.toList_eq]
        exact beq_false_of_ne (fun h => h2 (ba_ext h))
      have h3 : Op.bytesLess c.data.toList c'.data.toList = Op.bytesLess c.toList c'.toList := by rw [ByteArray.toList_eq, ByteArray.toList_eq]
      rw [h3]
      clear h1 h2 h3
      go_enter Tryd.func47, Tryd.ntmps47
      go_wp2
      go_ret
      exact ⟨ret_bool rfl, bA⟩
  · rw [if_neg h1]
    have h1' : (v != v') = true := by simpa using h1
    clear h1
    go_enter Tryd.func47, Tryd.ntmps47
    go_wp2
    go_ret
    exact ⟨ret_bool rfl, bA⟩
set_option maxHeartbeats 1000000 in
set_option maxRecDepth 100000 in
theorem rone_any (h : Hd) (e : En) (w : World) (hw : isW h.w = true) (hb : 1 ≤ h.b ∧ h.b ≤ 32) :
    Calls Tryd.prog 77 #[.agg (hdC h).toArray, .agg (enC e).toArray] w fun r w' => r = .returned (.int .i64 (enE h e)) ∧ Below w.heap.size w w' := by
  obtain ⟨wd, t, b, lo, hi, n⟩ := h
  obtain ⟨v, c, i, s, d⟩ := e
  dsimp only at hw hb
  have hwb := isW_bd hw
  have bA : Below w.heap.size w ((w.alloc (.cells #[.int .i64 wd, .int .i64 t, .int .i64 b, .int .i64 lo, .int .i64 hi, .int .i64 n] 42)).alloc (.cells #[.int .i64 v, .string c, .int .i64 i, .int .i64 s, .bool d] 32)) := ((Below.refl _ w).alloc (Nat.le_refl _) _).alloc (by simp) _
  obtain ⟨B, rfl⟩ : ∃ B : Nat, b = B := ⟨b.toNat, by omega⟩
  obtain ⟨p1, p2, p3⟩ := shl_pow B (by omega)
  have hu : IntKind.u64.wrap (B : Int) = B := by rw [IntKind.wrap_u64]; omega
  have hB64 : (B : Int) < 64 := by omega
  unfold enE
  simp only [hdC, enC, Int.toNat_natCast]
  by_cases hs : (c.size : Int) = wd / 8
  · have hs' : ((c.size : Int) != wd / 8) = false := by simpa using hs
    rw [if_pos hs]
    clear hs hw
    obtain ⟨Q, hQ⟩ : ∃ Q : Int, Q = 2 ^ B := ⟨_, rfl⟩
    have hB : (0 : Int) ≤ (B : Int) := by omega
    go_enter Tryd.func77, Tryd.ntmps77
    by_cases hv : v < 0
    · go_wp2
      all_goals first
        | (go_ret; exact ⟨ret_int (by first | rfl | rw [if_neg (by omega)]), bA⟩)
        | (go_quiet (fail); go_wp2; go_ret; exact ⟨ret_int (by first | rfl | rw [if_neg (by omega)]), bA.trans (Drew.below ⟨_, rfl⟩ _)⟩)
    · have hv' : 0 ≤ v := by omega
      go_wp2
      all_goals go_ret
      all_goals first | refine ⟨ret_int ?_, bA⟩ | refine ⟨ret_int ?_, bA.drew⟩
      all_goals first
        | rfl
        | rw [if_neg (by omega)]
        | (rw [if_pos (by omega), if_neg (by omega)])
        | (rw [if_pos (by omega), if_pos (by omega), if_neg (by omega)])
        | (rw [if_pos (by omega), if_pos (by omega), if_pos (by omega)])
  · have hs' : ((c.size : Int) != wd / 8) = true := by simpa using hs
    rw [if_neg hs]
    clear hs hw
    go_enter Tryd.func77, Tryd.ntmps77
    go_wp2
    go_ret
    exact ⟨rfl, bA⟩
set_option maxHeartbeats 1000000 in
set_option maxRecDepth 100000 in
theorem rgoes_no (h : Hd) (l : List En) (la : Option Addr) (cap : Nat) (w : World) (hh : hdE h ≠ 0) :
    Calls Tryd.prog 36 #[.agg (hdC h).toArray, .slice la l.length cap] w fun r w' => r = .returned (.int .i64 (bdE h l)) ∧ Below w.heap.size w w' := by
  have e1 : bdE h l = hdE h := by unfold bdE; rw [if_neg hh]
  rw [e1]
  have bA : Below w.heap.size w (w.alloc (.cells (hdC h).toArray 42)) := (Below.refl _ w).alloc (Nat.le_refl _) _
  obtain ⟨wd, t, b, lo, hi, n⟩ := h
  simp only [hdC] at bA ⊢
  cases hW : isW wd
  · have e2 : hdE ⟨wd, t, b, lo, hi, n⟩ = 10 := hdE10 hW
    rw [e2]
    clear hh e1 e2
    have HW := Hid.mk hW
    clear hW
    go_enter Tryd.func36, Tryd.ntmps36
    go_wp2_with (go_at_call 34; refine (rwidth_any _ _).mono ?_; rintro e w' ⟨rfl, rfl⟩; rw [HW.out])
    go_ret
    exact ⟨rfl, bA⟩
  · have h3 : ¬ ((0 ≤ t ∧ t ≤ 127) ∧ (1 ≤ b ∧ b ≤ 32) ∧ 0 ≤ lo ∧ lo ≤ hi ∧ hi ≤ 1152921504606846976) := fun h3 => hh (by unfold hdE; rw [if_pos hW, if_pos h3])
    have e2 : hdE ⟨wd, t, b, lo, hi, n⟩ = 13 := by unfold hdE; rw [if_pos hW, if_neg h3]
    rw [e2]
    clear hh e1 e2
    have HW := Hid.mk hW
    clear hW
    go_enter Tryd.func36, Tryd.ntmps36
    go_wp2_with (go_at_call 34; refine (rwidth_any _ _).mono ?_; rintro e w' ⟨rfl, rfl⟩; rw [HW.out])
    all_goals first | (go_ret; exact ⟨rfl, bA⟩) | (exfalso; omega)
end Go.Proofs.YtjdpolhjbkpnlaaDoor
set_option linter.unusedVariables false
set_option linter.unusedSimpArgs false
namespace Go.Proofs.YtjdpolhjbkpnlaaDoor
open Go.RowKit Go.Proofs.SealMath
set_option maxHeartbeats 1000000 in
set_option maxRecDepth 100000 in
theorem rgoes_any (h : Hd) (l : List En) (la : Option Addr) (cap : Nat) (w : World) (hl : LAt w la l) (hcm : l.length < 4611686018427387904) :
    Calls Tryd.prog 36 #[.agg (hdC h).toArray, .slice la l.length cap] w fun r w' => r = .returned (.int .i64 (bdE h l)) ∧ Below w.heap.size w w' := by
  by_cases hh : hdE h = 0
  · obtain ⟨k1, k2, k3, k4, k5, k6⟩ := hdE0 hh
    have U0 := SAt.new w (hdC h) 42
    have bA : Below w.heap.size w (w.alloc (.cells (hdC h).toArray 42)) := (Below.refl _ w).alloc (Nat.le_refl _) _
    have kt := k2.1
    have kt' := k2.2
    have kb := k3.1
    have kb' := k3.2
    have hCE := fun e W => rone_any h e W k1 k3
    have q0 := U0 0 _ rfl
    have q1 := U0 1 _ rfl
    have q2 := U0 2 _ rfl
    have q3 := U0 3 _ rfl
    have q4 := U0 4 _ rfl
    have q5 := U0 5 _ rfl
    have HW := Hid.mk k1
    clear k1 k2 k3 U0
    by_cases hn : l.length ≤ 2097152
    · have eE : bdE h l = lsI h l 0 := by unfold bdE; rw [if_pos hh, if_pos hn]; rfl
      obtain ⟨E, hE⟩ : ∃ E, E = lsI h l 0 := ⟨_, rfl⟩
      rw [eE, ← hE]
      have HE := Hid.mk hE
      have HST := Hid.mk (And.intro (fun i hi => lsI_step h l i hi) (lsI_end h l))
      have hln : (l.length : Int) ≤ 2097152 := by omega
      clear eE hE hn hh
      have HL := Hid.mk hl
      clear hl
      obtain ⟨wd, t, b, lo, hi, n⟩ := h
      simp only [hdC] at bA q0 q1 q2 q3 q4 q5 hCE HW kt kt' kb kb' k4 k5 k6 ⊢
      go_enter Tryd.func36, Tryd.ntmps36
      go_wp2_with (go_at_call 34; refine (rwidth_any _ _).mono ?_; rintro e w' ⟨rfl, rfl⟩; rw [HW.out])
      obtain ⟨w2, hw2⟩ : ∃ w2, w2 = w.alloc (.cells #[.int .i64 wd, .int .i64 t, .int .i64 b, .int .i64 lo, .int .i64 hi, .int .i64 n] 42) := ⟨_, rfl⟩
      rw [← hw2] at bA q0 q1 q2 q3 q4 q5 ⊢
      clear hw2
      go_loopw [5] (fun u wr => ∃ i : Nat, u = .int .i64 i ∧ i ≤ l.length ∧ lsI ⟨wd, t, b, lo, hi, n⟩ l i = E ∧ Below w2.heap.size w2 wr) (fun u _ => l.length - (intOf u).toNat)
      case atStart => exact ⟨0, rfl, Nat.zero_le _, HE.out.symm, Below.refl _ _⟩
      case round =>
        obtain ⟨i, rfl, hi1, hE, hb⟩ := hrel
        have hbw := chain bA hb (Nat.le_refl _)
        by_cases hlt : i < l.length
        · obtain ⟨g, off, hla, hra⟩ := (HL.out.below hbw).at' (fun h => by rw [h] at hlt; simp at hlt)
          subst hla
          obtain ⟨x0, x1, x2, x3, x4⟩ := row_en hra rfl i hlt
          have hstep := HST.out.1 i hlt
          rw [hE] at hstep
          have p0 := cell_lat hb q0
          have p1 := cell_lat hb q1
          have p2 := cell_lat hb q2
          have p3 := cell_lat hb q3
          have p4 := cell_lat hb q4
          have p5 := cell_lat hb q5
          have i1 : (i : Int) < (l.length : Int) := by omega
          have hce := hCE l[i]
          obtain ⟨e, he⟩ : ∃ e, e = l[i] := ⟨_, rfl⟩
          rw [← he] at x0 x1 x2 x3 x4 hstep hce
          simp only [enC] at hce
          clear he q0 q1 q2 q3 q4 q5 hE
          by_cases hee : enE ⟨wd, t, b, lo, hi, n⟩ e = 0
          · rw [hee] at hce
            rw [if_pos hee] at hstep
            clear hee
            have HSt := Hid.mk hstep
            clear hstep
            go_wp2
            go_region_held (fun w' => Below wr.heap.size wr w' ∧ w'.cell? ⟨g, off + i * 5, none⟩ = some (.int .i64 e.v) ∧ w'.cell? ⟨g, off + i * 5 + 1, none⟩ = some (.string e.c) ∧ w'.cell? ⟨g, off + i * 5 + 2, none⟩ = some (.int .i64 e.i) ∧ w'.cell? ⟨g, off + i * 5 + 3, none⟩ = some (.int .i64 e.s) ∧ w'.cell? ⟨g, off + i * 5 + 4, none⟩ = some (.bool e.d) ∧ w'.cell? ⟨w.heap.size, 0, none⟩ = some (.int .i64 wd) ∧ w'.cell? ⟨w.heap.size, 1, none⟩ = some (.int .i64 t) ∧ w'.cell? ⟨w.heap.size, 2, none⟩ = some (.int .i64 b) ∧ w'.cell? ⟨w.heap.size, 3, none⟩ = some (.int .i64 lo) ∧ w'.cell? ⟨w.heap.size, 4, none⟩ = some (.int .i64 hi) ∧ w'.cell? ⟨w.heap.size, 5, none⟩ = some (.int .i64 n))
              ((refine (fun hb => ⟨hb, cell_lat hb x0, cell_lat hb x1, cell_lat hb x2, cell_lat hb x3, cell_lat hb x4, cell_lat hb p0, cell_lat hb p1, cell_lat hb p2, cell_lat hb p3, cell_lat hb p4, cell_lat hb p5⟩) ?_; first | exact bb | exact b_drew wr))
              ((go_at_call 77; refine (hce _).mono ?_; rintro r w3 ⟨rfl, b3⟩; have bb : Below wr.heap.size wr w3 := below_d b3))
            clear hce
            go_wp2
            have bN := chain hb bb (Nat.le_refl _)
            have bW3 := chain hbw bb (Nat.le_refl _)
            by_cases hi0 : i = 0
            · have hs := HSt.out
              rw [if_pos (.inl hi0)] at hs
              have HS := Hid.mk hs
              clear hs HSt x0 x1 x2 x3 x4
              subst hi0
              go_region
              go_wp2
              refine ⟨⟨0 + 1, ival (by omega), hlt, HS.out.symm, bN.drew⟩, by simp only [intOf]; omega⟩
            · obtain ⟨j, hj⟩ : ∃ j, i = j + 1 := ⟨i - 1, by omega⟩
              subst hj
              have hj1 : j < l.length := by omega
              obtain ⟨z0, z1, z2, z3, z4⟩ := row_en hra rfl j hj1
              have hjA : 0 ≤ (j : Int) := by omega
              have hjB : (j : Int) < (l.length : Int) := by omega
              have hcmp := rless_any l[j] e
              have hq : l[j + 1 - 1]? = some l[j] := List.getElem?_eq_getElem hj1
              obtain ⟨f, hf⟩ : ∃ f, f = l[j] := ⟨_, rfl⟩
              rw [← hf] at z0 z1 z2 z3 z4 hcmp hq
              have y0 := cell_lat bb x0
              have y1 := cell_lat bb x1
              have y2 := cell_lat bb x2
              have y3 := cell_lat bb x3
              have y4 := cell_lat bb x4
              have z0 := cell_lat bb z0
              have z1 := cell_lat bb z1
              have z2 := cell_lat bb z2
              have z3 := cell_lat bb z3
              have z4 := cell_lat bb z4
              clear hf x0 x1 x2 x3 x4
              simp only [enC] at hcmp
              have hw3 : IntKind.i64.wrap (j : Int) = j := by rw [IntKind.wrap_i64]; omega
              have HQ := Hid.mk hq
              clear hq
              cases hls : lsB f e
              · have hs := HSt.out
                rw [if_neg (fun h => by
                  rcases h with h | ⟨q, h1, h2⟩
                  · omega
                  · rw [HQ.out] at h1; cases h1; rw [hls] at h2; cases h2)] at hs
                have HS := Hid.mk hs
                rw [hls] at hcmp
                clear hs hls HSt
                have B3 := Hid.mk bW3
                clear bb b3 bN bW3
                go_region_held (fun w' => Below w3.heap.size w3 w' ∧ w'.cell? ⟨g, off + j * 5, none⟩ = some (.int .i64 f.v) ∧ w'.cell? ⟨g, off + j * 5 + 1, none⟩ = some (.string f.c) ∧ w'.cell? ⟨g, off + j * 5 + 2, none⟩ = some (.int .i64 f.i) ∧ w'.cell? ⟨g, off + j * 5 + 3, none⟩ = some (.int .i64 f.s) ∧ w'.cell? ⟨g, off + j * 5 + 4, none⟩ = some (.bool f.d) ∧ w'.cell? ⟨g, off + (j + 1) * 5, none⟩ = some (.int .i64 e.v) ∧ w'.cell? ⟨g, off + (j + 1) * 5 + 1, none⟩ = some (.string e.c) ∧ w'.cell? ⟨g, off + (j + 1) * 5 + 2, none⟩ = some (.int .i64 e.i) ∧ w'.cell? ⟨g, off + (j + 1) * 5 + 3, none⟩ = some (.int .i64 e.s) ∧ w'.cell? ⟨g, off + (j + 1) * 5 + 4, none⟩ = some (.bool e.d))
                  ((refine (fun hb => ⟨hb, cell_lat hb z0, cell_lat hb z1, cell_lat hb z2, cell_lat hb z3, cell_lat hb z4, cell_lat hb y0, cell_lat hb y1, cell_lat hb y2, cell_lat hb y3, cell_lat hb y4⟩) ?_; first | exact bb | exact b_drew w3))
                  ((go_at_call 47; refine (hcmp _).mono ?_; rintro r w4 ⟨rfl, b4⟩; have bb : Below w3.heap.size w3 w4 := below_d b4))
                all_goals
                  clear hw3
                  go_wp2
                  go_ret
                  rw [HS.out]
                  exact ⟨rfl, chain B3.out bb (Nat.le_refl _)⟩
              · have hs := HSt.out
                rw [if_pos (.inr ⟨f, HQ.out, hls⟩)] at hs
                have HS := Hid.mk hs
                rw [hls] at hcmp
                clear hs hls HSt
                have B3 := Hid.mk bN
                clear bb b3 bN bW3
                go_region_held (fun w' => Below w3.heap.size w3 w' ∧ w'.cell? ⟨g, off + j * 5, none⟩ = some (.int .i64 f.v) ∧ w'.cell? ⟨g, off + j * 5 + 1, none⟩ = some (.string f.c) ∧ w'.cell? ⟨g, off + j * 5 + 2, none⟩ = some (.int .i64 f.i) ∧ w'.cell? ⟨g, off + j * 5 + 3, none⟩ = some (.int .i64 f.s) ∧ w'.cell? ⟨g, off + j * 5 + 4, none⟩ = some (.bool f.d) ∧ w'.cell? ⟨g, off + (j + 1) * 5, none⟩ = some (.int .i64 e.v) ∧ w'.cell? ⟨g, off + (j + 1) * 5 + 1, none⟩ = some (.string e.c) ∧ w'.cell? ⟨g, off + (j + 1) * 5 + 2, none⟩ = some (.int .i64 e.i) ∧ w'.cell? ⟨g, off + (j + 1) * 5 + 3, none⟩ = some (.int .i64 e.s) ∧ w'.cell? ⟨g, off + (j + 1) * 5 + 4, none⟩ = some (.bool e.d))
                  ((refine (fun hb => ⟨hb, cell_lat hb z0, cell_lat hb z1, cell_lat hb z2, cell_lat hb z3, cell_lat hb z4, cell_lat hb y0, cell_lat hb y1, cell_lat hb y2, cell_lat hb y3, cell_lat hb y4⟩) ?_; first | exact bb | exact b_drew w3))
                  ((go_at_call 47; refine (hcmp _).mono ?_; rintro r w4 ⟨rfl, b4⟩; have bb : Below w3.heap.size w3 w4 := below_d b4))
                all_goals
                  clear hw3
                  go_wp2
                  refine ⟨⟨j + 1 + 1, ival (by omega), hlt, HS.out.symm, chain B3.out bb (Nat.le_refl _)⟩, by simp only [intOf]; omega⟩
          · rw [if_neg hee] at hstep
            have h1 : (enE ⟨wd, t, b, lo, hi, n⟩ e != 0) = true := by simpa using hee
            rw [← hstep] at hce h1
            clear hstep hee
            go_wp2
            go_region_held (fun w' => Below wr.heap.size wr w' ∧ w'.cell? ⟨g, off + i * 5, none⟩ = some (.int .i64 e.v) ∧ w'.cell? ⟨g, off + i * 5 + 1, none⟩ = some (.string e.c) ∧ w'.cell? ⟨g, off + i * 5 + 2, none⟩ = some (.int .i64 e.i) ∧ w'.cell? ⟨g, off + i * 5 + 3, none⟩ = some (.int .i64 e.s) ∧ w'.cell? ⟨g, off + i * 5 + 4, none⟩ = some (.bool e.d) ∧ w'.cell? ⟨w.heap.size, 0, none⟩ = some (.int .i64 wd) ∧ w'.cell? ⟨w.heap.size, 1, none⟩ = some (.int .i64 t) ∧ w'.cell? ⟨w.heap.size, 2, none⟩ = some (.int .i64 b) ∧ w'.cell? ⟨w.heap.size, 3, none⟩ = some (.int .i64 lo) ∧ w'.cell? ⟨w.heap.size, 4, none⟩ = some (.int .i64 hi) ∧ w'.cell? ⟨w.heap.size, 5, none⟩ = some (.int .i64 n))
              ((refine (fun hb => ⟨hb, cell_lat hb x0, cell_lat hb x1, cell_lat hb x2, cell_lat hb x3, cell_lat hb x4, cell_lat hb p0, cell_lat hb p1, cell_lat hb p2, cell_lat hb p3, cell_lat hb p4, cell_lat hb p5⟩) ?_; first | exact bb | exact b_drew wr))
              ((go_at_call 77; refine (hce _).mono ?_; rintro r w3 ⟨rfl, b3⟩; have bb : Below wr.heap.size wr w3 := below_d b3))
            all_goals
              clear hce
              go_wp2
              go_ret
              exact ⟨rfl, chain hbw bb (Nat.le_refl _)⟩
        · have e1 : i = l.length := by omega
          subst e1
          have h0 : E = 0 := by rw [← hE]; exact HST.out.2
          have H0 := Hid.mk h0
          clear hE h0
          go_wp2
          go_ret
          rw [H0.out]
          exact ⟨rfl, hbw⟩
    · have e1 : bdE h l = 43 := by unfold bdE; rw [if_pos hh, if_neg hn]
      rw [e1]
      have hn' : (2097152 : Int) < (l.length : Int) := by omega
      obtain ⟨wd, t, b, lo, hi, n⟩ := h
      simp only [hdC] at bA q0 q1 q2 q3 q4 q5 HW kt kt' kb kb' k4 k5 k6 ⊢
      clear e1 hh hn hCE
      go_enter Tryd.func36, Tryd.ntmps36
      go_wp2_with (go_at_call 34; refine (rwidth_any _ _).mono ?_; rintro e w' ⟨rfl, rfl⟩; rw [HW.out])
      go_ret
      exact ⟨rfl, bA⟩
  · exact rgoes_no h l la cap w hh
end Go.Proofs.YtjdpolhjbkpnlaaDoor
set_option linter.unusedVariables false
set_option linter.unusedSimpArgs false
namespace Go.Proofs.YtjdpolhjbkpnlaaDoor.Rb
open Go.RowKit Go.Proofs.SealMath
theorem infoS9 : (Tryd.prog.info? 9).map (fun i => (i.zero, i.size, i.bytes)) = some (some (.string ⟨#[]⟩), 1, 16) := by kernel_rfl
/-- A text is put behind others. -/
theorem str_app (W : World) (ts : List (List UInt8)) (v : Value) (h : TAt W v ts) (y : List UInt8) (hb : ts.length + 1 ≤ 4194304) :
    ∃ v' w', (Builtin.append_ #[43, 43] 43 #[v, .slice (some ⟨W.heap.size, 0, none⟩) 1 1]).run Tryd.prog (W.alloc (.cells #[TV y] 9)) = .ok v' w' ∧ TAt w' v' (ts ++ [y]) ∧ Stay (fun k => v.ownBlock = some k) W w' ∧
      (∀ k, v'.ownBlock = some k → v.ownBlock = some k ∨ W.heap.size ≤ k) := by
  obtain ⟨i0, hi, hz0, hz1, hz2⟩ := info_parts infoS9
  have st0 : Stay (fun k => v.ownBlock = some k) W (W.alloc (.cells #[TV y] 9)) := (Stay.refl _ W).alloc _
  obtain ⟨v', w', hr, ho, hg, _, hloc⟩ := run_append_own_at (P := Tryd.prog) (W.alloc (.cells #[TV y] 9)) 0 43 43 9 i0 _ 1 16 Tryd.underlying43 hi hz0 hz1 hz2 rfl (by decide) v ts.length _ (h.row.alloc _) ⟨W.heap.size, 0, none⟩ 1 1 [TV y] rfl (new_cells W [TV y] 9) (fun u hu => by simp at hu; subst hu; rfl) (by unfold maxLen; omega) (by omega) (Nat.zero_le _)
  refine ⟨v', w', hr, ⟨by rw [List.length_append, List.map_append]; exact ho⟩, st0.trans (.grown hg (fun k hk => hk)), fun k hk => ?_⟩
  rcases hloc with hl | hl
  · exact .inl (hl ▸ hk)
  · rw [hl] at hk; cases hk; exact .inr (by simp)
theorem WRow.block {w : World} {v : Value} {l : List UInt8} (h : WRow w v l) {k : Nat} (hk : v.ownBlock = some k) : ∃ c m, w.heap[k]? = some (.cells c 5 m) := by
  obtain ⟨g, cap, cur, fz, rfl, h2, h3⟩ := h
  cases hk; exact ⟨_, _, h2⟩
/-- The rows of the call. -/
structure RS (w W : World) (tv bv sv lv : Value) (T : List (List UInt8)) (B : List UInt8) (S : List Nat) (Ls : List (List UInt8)) : Prop where
  t : TAt W tv T
  b : WRow W bv B
  s : W.ownsRow 0 3 1 sv S.length (S.map IV)
  l : TAt W lv Ls
  bel : Below w.heap.size w W
  lo : ∀ k, (tv.ownBlock = some k ∨ bv.ownBlock = some k ∨ sv.ownBlock = some k ∨ lv.ownBlock = some k) → w.heap.size ≤ k
  ap : ∀ k, tv.ownBlock = some k → lv.ownBlock ≠ some k
section
variable {w W X : World} {tv bv sv lv : Value} {T : List (List UInt8)} {B : List UInt8} {S : List Nat} {Ls : List (List UInt8)}
theorem RS.below (h : RS w W tv bv sv lv T B S Ls) (hb : Below W.heap.size W X) : RS w X tv bv sv lv T B S Ls :=
  { h with
    t := h.t.kept (F := fun _ => False) (.below hb) (fun _ _ e => e)
    b := h.b.kept (F := fun _ => False) (.below hb) (fun _ _ e => e)
    s := row_kept (F := fun _ => False) h.s (.below hb) (fun _ _ e => e)
    l := h.l.kept (F := fun _ => False) (.below hb) (fun _ _ e => e)
    bel := chain h.bel hb (Nat.le_refl _) }
theorem RS.putB (h : RS w W tv bv sv lv T B S Ls) {v' : Value} {B' : List UInt8} (hw : WRow X v' B') (st : Stay (fun k => bv.ownBlock = some k) W X) (hloc : ∀ k, v'.ownBlock = some k → bv.ownBlock = some k ∨ W.heap.size ≤ k) : RS w X tv v' sv lv T B' S Ls := by
  have ht : ∀ k, tv.ownBlock = some k → ¬ bv.ownBlock = some k := fun k hk e => by
    obtain ⟨c, h1⟩ := row_block h.t.row hk; obtain ⟨c', m, h2⟩ := WRow.block h.b e; rw [h1] at h2; cases h2
  have hs : ∀ k, sv.ownBlock = some k → ¬ bv.ownBlock = some k := fun k hk e => by
    obtain ⟨c, h1⟩ := row_block h.s hk; obtain ⟨c', m, h2⟩ := WRow.block h.b e; rw [h1] at h2; cases h2
  have hl : ∀ k, lv.ownBlock = some k → ¬ bv.ownBlock = some k := fun k hk e => by
    obtain ⟨c, h1⟩ := row_block h.l.row hk; obtain ⟨c', m, h2⟩ := WRow.block h.b e; rw [h1] at h2; cases h2
  refine ⟨h.t.kept st ht, hw, row_kept h.s st hs, h.l.kept st hl, h.bel.trans (st.toBelow (fun k hk e => ?_) h.bel.size), fun k hk => ?_, h.ap⟩
  · have := h.lo k (.inr (.inl e)); omega
  · rcases hk with e | e | e | e
    · exact h.lo k (.inl e)
    · rcases hloc k e with e | e
      · exact h.lo k (.inr (.inl e))
      · have := h.bel.size; omega
    · exact h.lo k (.inr (.inr (.inl e)))
    · exact h.lo k (.inr (.inr (.inr e)))
theorem RS.putL (h : RS w W tv bv sv lv T B S Ls) {v' : Value} {Ls' : List (List UInt8)} (hw : TAt X v' Ls') (st : Stay (fun k => lv.ownBlock = some k) W X) (hloc : ∀ k, v'.ownBlock = some k → lv.ownBlock = some k ∨ W.heap.size ≤ k) : RS w X tv bv sv v' T B S Ls' := by
  have hb : ∀ k, bv.ownBlock = some k → ¬ lv.ownBlock = some k := fun k hk e => by
    obtain ⟨c, h1⟩ := row_block h.l.row e; obtain ⟨c', m, h2⟩ := WRow.block h.b hk; rw [h1] at h2; cases h2
  have hs : ∀ k, sv.ownBlock = some k → ¬ lv.ownBlock = some k := fun k hk e => by
    obtain ⟨c, h1⟩ := row_block h.s hk; obtain ⟨c', h2⟩ := row_block h.l.row e; rw [h1] at h2; cases h2
  refine ⟨h.t.kept st (fun k hk e => h.ap k hk e), h.b.kept st hb, row_kept h.s st hs, hw, h.bel.trans (st.toBelow (fun k hk e => ?_) h.bel.size), fun k hk => ?_, fun k hk e => ?_⟩
  · have := h.lo k (.inr (.inr (.inr e))); omega
  · rcases hk with e | e | e | e
    · exact h.lo k (.inl e)
    · exact h.lo k (.inr (.inl e))
    · exact h.lo k (.inr (.inr (.inl e)))
    · rcases hloc k e with e | e
      · exact h.lo k (.inr (.inr (.inr e)))
      · have := h.bel.size; omega
  · rcases hloc k e with e | e
    · exact h.ap k hk e
    · have := row_lt h.t.row hk; omega
end
theorem step_append_eq {P : Program} {ops : Array Oper} {o : Oper} {a : Act} {w : World} {K : Act → World → Prop} {Q : Exit → Act → World → Prop} {E : Prop}
    (hg : o.guard = none) (s x : Operand) (t u : TypeId) (hop : o.op = Op.call { callee := Callee.builtin Builtin.append, args := #[s, x], argTypes := #[t, u] })
    (v xv v' : Value) (w' : World) (hs : a.eval s = v) (hx : a.eval x = xv) (hrun : (Builtin.append_ #[t, u] o.type #[v, xv]).run P w = .ok v' w') (hK : K (a.put o.dst v') w') :
    if Region.wanted o (yielded ops a.tmps) = true then Oper.wp P o a w K Q else E := by
  have hw : Region.wanted o (yielded ops a.tmps) = true := by simp [Region.wanted, hg]
  rw [if_pos hw]
  unfold Oper.wp
  simp [execOp, hop, resolve, invoke, builtin, hs, hx, hrun, Result.andThen]
  exact hK
/-- A number of a row of the call's own. -/
theorem int_at {W : World} {v : Value} {S : List Nat} (h : W.ownsRow 0 3 1 v S.length (S.map IV)) : ∃ a cap, v = .slice a S.length cap ∧ ∀ j (hj : j < S.length), ∃ g, a = some ⟨g, 0, none⟩ ∧ W.cell? ⟨g, j, none⟩ = some (.int .i64 S[j]) := by
  rcases h.2 with ⟨rfl, h0⟩ | ⟨g, cap, cur, rfl, h3, h4, h5, h6⟩
  · exact ⟨none, 0, by rw [h0], fun j hj => by omega⟩
  · refine ⟨_, cap, rfl, fun j hj => ⟨g, rfl, ?_⟩⟩
    have h7 := h.cells (g := g) rfl j (IV S[j]) (by rw [List.getElem?_map, List.getElem?_eq_getElem hj]; rfl)
    have e1 : (⟨g, 0, none⟩ : Addr).add j = ⟨g, j, none⟩ := by unfold Addr.add; split <;> simp_all
    rw [e1] at h7; exact h7
theorem cell_stay {F : Nat → Prop} {A B : World} {k o : Nat} {v : Value} (s : Stay F A B) (h : A.cell? ⟨k, o, none⟩ = some v) (hn : ¬ F k) : B.cell? ⟨k, o, none⟩ = some v := by
  have hb := s.block k (World.block_lt_of_cell? A _ h) hn
  rw [← h]; simp [World.cell?, hb]
/-- One part after the other. -/
theorem pk_at (l : List En) (k : Nat) (hk : k < (pk enB l).length) : (pk enB l).take (k + 1) = (pk enB l).take k ++ [(pk enB l)[k]] ∧ (pk enB l)[k].1 = (((pk enB l).take k).map (·.2.length)).sum ∧ (pk enB l).take k ++ [(pk enB l)[k]] <+: pk enB l := by
  have h1 : (pk enB l).take (k + 1) = (pk enB l).take k ++ [(pk enB l)[k]] := List.take_succ_eq_append_getElem hk
  refine ⟨h1, ?_, h1 ▸ List.take_prefix _ _⟩
  have h2 : pk enB l = (pk enB l).take k ++ (pk enB l)[k] :: (pk enB l).drop (k + 1) := by rw [← List.drop_eq_getElem_cons hk, List.take_append_drop]
  have h3 := pkA_at enB l 0 [] _ _ _ h2
  rw [h3]; omega
theorem pk_atL (l : List Ln) (k : Nat) (hk : k < (pk lnB l).length) : (pk lnB l).take (k + 1) = (pk lnB l).take k ++ [(pk lnB l)[k]] ∧ (pk lnB l)[k].1 = (((pk lnB l).take k).map (·.2.length)).sum ∧ (pk lnB l).take k ++ [(pk lnB l)[k]] <+: pk lnB l := by
  have h1 : (pk lnB l).take (k + 1) = (pk lnB l).take k ++ [(pk lnB l)[k]] := List.take_succ_eq_append_getElem hk
  refine ⟨h1, ?_, h1 ▸ List.take_prefix _ _⟩
  have h2 : pk lnB l = (pk lnB l).take k ++ (pk lnB l)[k] :: (pk lnB l).drop (k + 1) := by rw [← List.drop_eq_getElem_cons hk, List.take_append_drop]
  have h3 := pkA_at lnB l 0 [] _ _ _ h2
  rw [h3]; omega
end Go.Proofs.YtjdpolhjbkpnlaaDoor.Rb
set_option linter.unusedVariables false
set_option linter.unusedSimpArgs false
namespace Go.Proofs.YtjdpolhjbkpnlaaDoor.Dx
open Go.RowKit Go.Proofs.SealMath
open Go.Proofs.YtjdpolhjbkpnlaaDoor.Rb
/-- An entry is written into a block. -/
def set5 (W : World) (a : Nat) (e : En) : World := ((((W.setCell ⟨a, 0, none⟩ (.int .i64 e.v)).setCell ⟨a, 1, none⟩ (.string e.c)).setCell ⟨a, 2, none⟩ (.int .i64 e.i)).setCell ⟨a, 3, none⟩ (.int .i64 e.s)).setCell ⟨a, 4, none⟩ (.bool e.d)
theorem set5_stay (W : World) (a : Nat) (e : En) : Stay (fun k => k = a) W (set5 W a e) :=
  ((((((Stay.refl (fun k => k = a) W).setCell (p := ⟨a, 0, none⟩) (fun _ => rfl) _).setCell (p := ⟨a, 1, none⟩) (fun _ => rfl) _).setCell (p := ⟨a, 2, none⟩) (fun _ => rfl) _).setCell (p := ⟨a, 3, none⟩) (fun _ => rfl) _).setCell (p := ⟨a, 4, none⟩) (fun _ => rfl) _)
theorem set5_at {W : World} {a : Nat} {e e' : En} (h : W.heap[a]? = some (.cells (enC e').toArray 32 (0, 0))) : (set5 W a e).heap[a]? = some (.cells (enC e).toArray 32 (0, 0)) := by
  have h1 := heap_setCell_same W a 0 _ _ (.int .i64 e.v) h
  have h2 := heap_setCell_same _ a 1 _ _ (.string e.c) h1
  have h3 := heap_setCell_same _ a 2 _ _ (.int .i64 e.i) h2
  have h4 := heap_setCell_same _ a 3 _ _ (.int .i64 e.s) h3
  exact heap_setCell_same _ a 4 _ _ (.bool e.d) h4
theorem en5 {W : World} {a : Nat} {e : En} (h : W.heap[a]? = some (.cells (enC e).toArray 32 (0, 0))) : W.cell? ⟨a, 0, none⟩ = some (.int .i64 e.v) ∧ W.cell? ⟨a, 1, none⟩ = some (.string e.c) ∧ W.cell? ⟨a, 2, none⟩ = some (.int .i64 e.i) ∧ W.cell? ⟨a, 3, none⟩ = some (.int .i64 e.s) ∧ W.cell? ⟨a, 4, none⟩ = some (.bool e.d) ∧ W.frozen? ⟨a, 0, none⟩ = false ∧ W.frozen? ⟨a, 1, none⟩ = false ∧ W.frozen? ⟨a, 2, none⟩ = false ∧ W.frozen? ⟨a, 3, none⟩ = false ∧ W.frozen? ⟨a, 4, none⟩ = false := by
  refine ⟨?_, ?_, ?_, ?_, ?_, ?_, ?_, ?_, ?_, ?_⟩ <;> first | exact frozen_of_row _ _ _ _ _ h | (rw [cell_of_row _ _ _ _ _ (0, 0) h]; rfl)
theorem rfix_four (b : ByteArray) (a : Nat) (w : World) (hb : b.size < 4611686018427387904) (h : a + 4 ≤ b.size) : Calls Tryd.prog 76 #[.string b, .int .i64 a, .int .i64 4] w fun r w' => r = .returned (.tuple #[.int .u64 (numL (sub b a 4) : Nat), .int .i64 0]) ∧ w' = w := by
  have hc := rfix_any b a 4 w hb
  have hE : fxE b a 4 = 0 := fxE_ok (by omega) (by omega) (by omega)
  have hV : fxV b a 4 = numL (sub b a 4) := by unfold fxV; rw [if_pos hE]; simp
  rw [hE, hV] at hc
  exact hc
/-- What entry answers. -/
def enA (r : Option (En × Nat)) : Value := match r with
  | none => .tuple #[.agg (enC e0).toArray, .int .i64 0, .bool false]
  | some (e, q) => .tuple #[.agg (enC e).toArray, .int .i64 (q : Nat), .bool true]
theorem one_at (b : ByteArray) (q : Nat) (h : q < b.size) : (sub b q 1 == [1]) = ((b[q].toNat : Int) == 1) := by
  rw [sub_one' b q (by omega)]
  have : ([b[q]] == [1]) = (b[q] == 1) := by simp
  rw [this]
  by_cases e : b[q] = 1
  · rw [e]; rfl
  · have e2 : ¬ ((b[q].toNat : Int) = 1) := fun h => e (by
      apply UInt8.toNat_inj.1
      show _ = 1
      omega)
    rw [beq_false_of_ne e, beq_false_of_ne e2]
set_option maxHeartbeats 4000000 in
set_option maxRecDepth 100000 in
theorem rentry_any (b : ByteArray) (a cb : Nat) (w : World) (hb : b.size < 1152921504606846976) (ha : a ≤ b.size) (hcb : cb ≤ 128) :
    Calls Tryd.prog 35 #[.string b, .int .i64 a, .int .i64 cb] w fun r w' => r = .returned (enA (eaD b a cb)) ∧ Below w.heap.size w w' := by
  have hn : Below w.heap.size w (w.alloc (.cells #[.int .i64 0, .string ⟨#[]⟩, .int .i64 0, .int .i64 0, .bool false] 32)) := (Below.refl _ w).alloc (Nat.le_refl _) _
  have hb' : b.size < 4611686018427387904 := by omega
  by_cases h1 : b.size < a + (4 + cb)
  · have HE := Hid.mk (show eaD b a cb = none by unfold eaD; rw [if_pos h1])
    have f1 : (b.size : Int) - a < 4 + cb := by omega
    have w1 : IntKind.i64.wrap ((b.size : Int) - a) = (b.size : Int) - a := by rw [IntKind.wrap_i64]; omega
    have w2 : IntKind.i64.wrap ((4 : Int) + cb) = (4 : Int) + cb := by rw [IntKind.wrap_i64]; omega
    clear h1
    go_enter Tryd.func35, Tryd.ntmps35
    go_wp2
    refine bodyPost_ret (v := enA none) (by simp [results, Tryd.results35, go_sem, enA, enC, e0]; try rfl) rfl ?_
    rw [HE.out]
    exact ⟨rfl, hn⟩
  · have c1 := fun W => rfix_four b a W hb' (by omega)
    have hv := numL_sub_lt b a 4 4 (by omega) (by omega)
    have hnm := fun W => rnumbers_any (b.extract (a + 4 + cb) b.size) 2 W (by rw [rest_size b (a + 4 + cb) (by omega)]; omega) (by omega)
    obtain ⟨W1, hW1⟩ : ∃ W1, W1 = w.alloc (.cells #[.int .i64 0, .string ⟨#[]⟩, .int .i64 0, .int .i64 0, .bool false] 32) := ⟨_, rfl⟩
    have hB1 : W1.heap[w.heap.size]? = some (.cells (enC e0).toArray 32 (0, 0)) := by rw [hW1]; exact heap_alloc_last w _
    rw [← hW1] at hn
    have HV := Hid.mk hv
    obtain ⟨V, hV⟩ : ∃ V, V = numL (sub b a 4) := ⟨_, rfl⟩
    have HVe := Hid.mk hV
    rw [← hV] at c1 hv
    have hv2 : V < 4294967296 := by simpa using hv
    have f1 : ¬ (b.size : Int) - a < 4 + cb := by omega
    have f2 : (a : Int) + 4 + cb ≤ (b.size : Int) := by omega
    have f3 : (a : Int) + 4 ≤ (a : Int) + 4 + cb := by omega
    have hsz : ((a + 4 + cb : Nat) : Int) ≤ (b.size : Int) := by omega
    have HN := Hid.mk hn
    have HB := Hid.mk hB1
    clear hv hV hn hB1
    go_enter Tryd.func35, Tryd.ntmps35
    go_wp2_with (go_at_call 76; refine (c1 _).mono ?_; rintro e w' ⟨rfl, rfl⟩; clear c1)
    rw [← hW1]
    refine (hnm _).mono ?_
    clear hnm
    rintro r w2 ⟨b2, hO⟩
    have hB2 := (b2.block _ (Array.getElem?_eq_some_iff.1 HB.out).1).trans HB.out
    have bw2 := HN.out.trans (b2.mono HN.out.size)
    obtain ⟨g0, g1, g2, g3, g4, z0, z1, z2, z3, z4⟩ := en5 hB2
    simp only [e0] at g0 g1 g2 g3 g4
    clear hW1
    rcases hO with ⟨hn, rfl⟩ | ⟨l, q, v, hn, rfl, hrow, hlo⟩
    · have HE := Hid.mk (show eaD b a cb = none by unfold eaD; rw [if_neg h1, hn])
      have HF := Hid.mk (And.intro (set5_at (e := e0) hB2) (bw2.trans ((set5_stay w2 w.heap.size e0).toBelow (B := w.heap.size) (fun k hk e => by omega) bw2.size)))
      clear hn b2 bw2 hB2
      go_wp2
      obtain ⟨w9, hw9⟩ : ∃ w9, w9 = set5 w2 w.heap.size e0 := ⟨_, rfl⟩
      rw [← hw9] at HF
      obtain ⟨k0, k1, k2, k3, k4, -⟩ := en5 HF.out.1
      simp only [set5, e0] at hw9
      rw [← hw9]
      refine bodyPost_ret (v := enA none) (by simp [results, Tryd.results35, go_sem, enA, enC, k0, k1, k2, k3, k4]; try rfl) rfl ?_
      rw [HE.out]
      exact ⟨rfl, HF.out.2⟩
    · obtain ⟨hl2, -, hq, hle⟩ := nsD_at _ 2 0 q l hn (Nat.zero_le _)
      rw [rest_size b (a + 4 + cb) (by omega)] at hq
      obtain ⟨i, s, rfl⟩ : ∃ i s, l = [i, s] := by
        match l, hl2 with
        | [i, s], _ => exact ⟨i, s, rfl⟩
      have hi := hle i (by simp)
      have hs := hle s (by simp)
      obtain ⟨va, vc, rfl, hat⟩ := int_at hrow
      obtain ⟨g, rfl, x0⟩ := hat 0 (by simp)
      obtain ⟨g', hg', x1⟩ := hat 1 (by simp)
      cases hg'
      have hgn : g ≠ w.heap.size := by
        have h5 := hlo g rfl
        have h6 := (Array.getElem?_eq_some_iff.1 HB.out).1
        omega
      have x0 : w2.cell? ⟨g, 0, none⟩ = some (.int .i64 i) := x0
      have x1 : w2.cell? ⟨g, 1, none⟩ = some (.int .i64 s) := x1
      simp only [List.length_cons, List.length_nil, Nat.zero_add] at *
      by_cases hend : b.size ≤ a + 4 + cb + q
      · have HE := Hid.mk (show eaD b a cb = none by unfold eaD; rw [if_neg h1, hn]; dsimp only; rw [if_pos hend])
        have HF := Hid.mk (And.intro (set5_at (e := e0) hB2) (bw2.trans ((set5_stay w2 w.heap.size e0).toBelow (B := w.heap.size) (fun k hk e => by omega) bw2.size)))
        have f4 : (b.size : Int) ≤ (a : Int) + 4 + cb + q := by omega
        clear hn b2 bw2 hB2 hrow hlo hat hle x0 x1
        go_wp2
        obtain ⟨w9, hw9⟩ : ∃ w9, w9 = set5 w2 w.heap.size e0 := ⟨_, rfl⟩
        rw [← hw9] at HF
        obtain ⟨k0, k1, k2, k3, k4, -⟩ := en5 HF.out.1
        simp only [set5, e0] at hw9
        rw [← hw9]
        refine bodyPost_ret (v := enA none) (by simp [results, Tryd.results35, go_sem, enA, enC, k0, k1, k2, k3, k4]; try rfl) rfl ?_
        rw [HE.out]
        exact ⟨rfl, HF.out.2⟩
      · obtain ⟨Z, hZ⟩ : ∃ Z, Z = a + 4 + cb + q := ⟨_, rfl⟩
        have hlt : Z < b.size := by omega
        have HE := Hid.mk (show eaD b a cb = some (⟨(V : Nat), b.extract (a + 4) (a + 4 + cb), (i : Nat), (s : Nat), ((b[Z].toNat : Int) == 1)⟩, Z + 1) by
          unfold eaD; rw [if_neg h1, hn]; dsimp only; rw [← hZ, if_neg (by omega), one_at b _ hlt, HVe.out])
        have hz : (a : Int) + 4 + cb + q = (Z : Int) := by omega
        have f4 : ¬ (b.size : Int) ≤ (Z : Int) := by omega
        have f5 : (Z : Int) < (b.size : Int) := by omega
        have wv : IntKind.i64.wrap (V : Int) = V := by rw [IntKind.wrap_i64]; omega
        obtain ⟨EN, hEN⟩ : ∃ EN : En, EN = ⟨(V : Nat), b.extract (a + 4) (a + 4 + cb), (i : Nat), (s : Nat), ((b[Z].toNat : Int) == 1)⟩ := ⟨_, rfl⟩
        have HF := Hid.mk (And.intro (set5_at (e := EN) hB2) (bw2.trans ((set5_stay w2 w.heap.size EN).toBelow (B := w.heap.size) (fun k hk e => by omega) bw2.size)))
        have HEN := Hid.mk hEN
        clear hn b2 bw2 hB2 hrow hlo hat hle hEN hend hZ
        go_wp2_with fail
        go_region
        obtain ⟨w9, hw9⟩ : ∃ w9, set5 w2 w.heap.size EN = w9 := ⟨_, rfl⟩
        rw [hw9] at HF
        obtain ⟨k0, k1, k2, k3, k4, -⟩ := en5 HF.out.1
        rw [HEN.out] at hw9 k0 k1 k2 k3 k4
        simp only [set5] at hw9
        rw [hw9]
        have k0 : w9.drew.cell? ⟨w.heap.size, 0, none⟩ = _ := k0
        have k1 : w9.drew.cell? ⟨w.heap.size, 1, none⟩ = _ := k1
        have k2 : w9.drew.cell? ⟨w.heap.size, 2, none⟩ = _ := k2
        have k3 : w9.drew.cell? ⟨w.heap.size, 3, none⟩ = _ := k3
        have k4 : w9.drew.cell? ⟨w.heap.size, 4, none⟩ = _ := k4
        clear hw9 g0 g1 g2 g3 g4 z0 z1 z2 z3 z4 x0 x1
        go_wp2
        refine bodyPost_ret (v := enA (eaD b a cb)) (by rw [HE.out]; simp [results, Tryd.results35, go_sem, enA, enC, k0, k1, k2, k3, k4]; try rfl) rfl ?_
        exact ⟨rfl, HF.out.2.drew⟩
end Go.Proofs.YtjdpolhjbkpnlaaDoor.Dx
set_option linter.unusedVariables false
set_option linter.unusedSimpArgs false
namespace Go.Proofs.YtjdpolhjbkpnlaaDoor
open Go.RowKit Go.Proofs.SealMath
theorem fix_four (b : ByteArray) (a : Nat) (w : World) (hb : b.size < 4611686018427387904) (h : a + 4 ≤ b.size) : Calls Tryd.prog 30 #[.string b, .int .i64 a, .int .i64 4] w fun r w' => r = .returned (.tuple #[.int .u64 (numL (sub b a 4) : Nat), .int .i64 0]) ∧ w' = w := by
  have hc := fix_any b a 4 w hb
  have hE : fxE b a 4 = 0 := fxE_ok (by omega) (by omega) (by omega)
  have hV : fxV b a 4 = numL (sub b a 4) := by unfold fxV; rw [if_pos hE]; simp
  rw [hE, hV] at hc
  exact hc
theorem fix_short (b : ByteArray) (a : Nat) (w : World) (hb : b.size < 4611686018427387904) (ha : a ≤ b.size) (h : ¬ a + 4 ≤ b.size) : Calls Tryd.prog 30 #[.string b, .int .i64 a, .int .i64 4] w fun r w' => r = .returned (.tuple #[.int .u64 0, .int .i64 31]) ∧ w' = w := by
  have hc := fix_any b a 4 w hb
  have hE : fxE b a 4 = 31 := fxE_31 (by omega) (by omega) (by omega)
  have hV : fxV b a 4 = 0 := by unfold fxV; rw [if_neg (by rw [hE]; decide)]
  rw [hE, hV] at hc
  exact hc
theorem var_read (b : ByteArray) (p : Nat) (w : World) (hb : b.size < 4611686018427387904) (v q : Nat) (e : Int) (h : vA b p = (v, q, e)) :
    Calls Tryd.prog 31 #[.string b, .int .i64 p] w fun r w' => r = .returned (.tuple #[.int .u64 v, .int .i64 q, .int .i64 e]) ∧ w' = w := by
  have := var_any b p w hb
  rw [h] at this
  exact this
/-- What entryAt answers: an entry, the place behind it. -/
def eE (r : Option (En × Nat)) : En := (r.map (·.1)).getD e0
def eQ (r : Option (En × Nat)) : Nat := (r.map (·.2)).getD 0
abbrev eaV (r : Option (En × Nat)) : Value := .tuple #[.agg #[.int .i64 (eE r).v, .string (eE r).c, .int .i64 (eE r).i, .int .i64 (eE r).s, .bool (eE r).d], .int .i64 (eQ r), .bool r.isSome]
theorem sub_ext (b : ByteArray) (a n : Nat) : (⟨(sub b a n).toArray⟩ : ByteArray) = b.extract a (a + n) := by
  apply ba_ext
  rw [ByteArray.data_extract, Array.toList_extract]
  simp [List.extract, sub]
theorem one_eq (b : ByteArray) (q : Nat) (h : q < b.size) : ((b.extract q (q + 1)).toList == [1]) = (sub b q 1 == [1]) := by
  rw [← sub_ext, toL]
theorem none_fin (w : World) (a : Nat) (b : ByteArray) (cb : Nat) (h : eaA b a cb = none) (r : Value) (hr : r = eaV none) (w' : World) (hb : Below w.heap.size w w') : Ending.returned r = .returned (eaV (eaA b a cb)) ∧ Below w.heap.size w w' := by rw [h, hr]; exact ⟨rfl, hb⟩
set_option maxHeartbeats 4000000 in
set_option maxRecDepth 100000 in
theorem entryAt_any (b : ByteArray) (a cb : Nat) (w : World) (hb : b.size < 1152921504606846976) (ha : a ≤ b.size) (hcb : cb ≤ 128) :
    Calls Tryd.prog 12 #[.string b, .int .i64 a, .int .i64 cb] w fun r w' => r = .returned (eaV (eaA b a cb)) ∧ Below w.heap.size w w' := by
  have hn : Below w.heap.size w (w.alloc (.cells #[.int .i64 0, .string ⟨#[]⟩, .int .i64 0, .int .i64 0, .bool false] 32)) := (Below.refl _ w).alloc (Nat.le_refl _) _
  have hb' : b.size < 4611686018427387904 := by omega
  by_cases h1 : a + 4 ≤ b.size
  · have c1 := fun W => fix_four b a W hb' h1
    have hv := numL_sub_lt b a 4 4 h1 (by omega)
    obtain ⟨⟨i, q, e1⟩, hi⟩ : ∃ r, vA b ((a + 4 + cb : Nat) : Int) = r := ⟨_, rfl⟩
    have c2 := fun W => var_read b (a + 4 + cb) W hb' i q e1 hi
    have ki := vA_at b (a + 4 + cb)
    rw [hi] at ki
    dsimp only at ki
    by_cases he1 : e1 = 0
    · subst he1
      obtain ⟨ki1, ki2, ki3⟩ := ki rfl
      obtain ⟨⟨s, q2, e2⟩, hs⟩ : ∃ r, vA b ((q : Nat) : Int) = r := ⟨_, rfl⟩
      have c3 := fun W => var_read b q W hb' s q2 e2 hs
      have ks := vA_at b q
      rw [hs] at ks
      dsimp only at ks
      by_cases he2 : e2 = 0
      · subst he2
        obtain ⟨ks1, ks2, ks3⟩ := ks rfl
        by_cases hq : q2 = b.size
        · have hE : eaA b a cb = none := by
            unfold eaA
            simp only [hi, hs]
            simp [h1, hq]
          have HE := Hid.mk hE
          subst hq
          clear hE hi hs ki ks hv
          generalize numL (sub b a 4) = V at c1
          go_enter Tryd.func12, Tryd.ntmps12
          go_wp2_with first
            | (go_at_call 30; refine (c1 _).mono ?_; rintro e w' ⟨rfl, rfl⟩; clear c1)
            | (go_at_call 31; refine (c2 _).mono ?_; rintro e w' ⟨rfl, rfl⟩; clear c2)
            | (go_at_call 31; refine (c3 _).mono ?_; rintro e w' ⟨rfl, rfl⟩; clear c3)
          refine bodyPost_ret (v := eaV none) (by simp [results, Tryd.results12, go_sem, eE, eQ, e0]; try rfl) rfl ?_
          exact none_fin w a b cb HE.out _ rfl _ hn
        · have hq2 : q2 < b.size := by omega
          have hE : eaA b a cb = some (⟨(numL (sub b a 4) : Nat), b.extract (a + 4) (a + 4 + cb), w64 i, w64 s, (b.extract q2 (q2 + 1)).toList == [1]⟩, q2 + 1) := by
            rw [← sub_ext, one_eq b q2 hq2]
            unfold eaA
            simp only [hi, hs]
            simp [h1, hq]
          have HE := Hid.mk hE
          have wi := w64_wrap i ki1
          have ws := w64_wrap s ks1
          have hqn : ((q2 : Int) == (b.size : Int)) = false := by apply beq_false_of_ne; omega
          clear hE hi hs ki ks hq
          generalize numL (sub b a 4) = V at c1 hv HE
          have hv2 : V < 4294967296 := by simpa using hv
          have wv : IntKind.i64.wrap (V : Int) = V := by rw [IntKind.wrap_i64]; omega
          generalize w64 i = I at *
          generalize w64 s = S at *
          generalize hC : b.extract (a + 4) (a + 4 + cb) = C at *
          generalize hD : (b.extract q2 (q2 + 1)).toList = D at *
          have f1 : ((a : Int) + 4) ≤ (a : Int) + 4 + cb := by omega
          have f2 : (a : Int) + 4 + cb ≤ (b.size : Int) := by omega
          have f3 : (q2 : Int) + 1 ≤ (b.size : Int) := by omega
          go_enter Tryd.func12, Tryd.ntmps12
          go_wp2_with first
            | (go_at_call 30; refine (c1 _).mono ?_; rintro e w' ⟨rfl, rfl⟩; clear c1)
            | (go_at_call 31; refine (c2 _).mono ?_; rintro e w' ⟨rfl, rfl⟩; clear c2)
            | (go_at_call 31; refine (c3 _).mono ?_; rintro e w' ⟨rfl, rfl⟩; clear c3)
          go_region
          go_wp2
          refine bodyPost_ret (v := .tuple #[.agg #[.int .i64 V, .string C, .int .i64 I, .int .i64 S, .bool (D == [1])], .int .i64 ((q2 + 1 : Nat) : Int), .bool true]) (by simp [results, Tryd.results12, go_sem]; try rfl) rfl ?_
          rw [HE.out]
          exact ⟨rfl, ((Below.refl _ w).alloc (Nat.le_refl _) _).drew⟩
      · have hE : eaA b a cb = none := by
          unfold eaA
          simp only [hi, hs]
          simp [h1, he2]
        have HE := Hid.mk hE
        have hne : (e2 != 0) = true := by simpa using he2
        clear hE hi hs ki ks hv he2
        generalize numL (sub b a 4) = V at c1
        go_enter Tryd.func12, Tryd.ntmps12
        go_wp2_with first
          | (go_at_call 30; refine (c1 _).mono ?_; rintro e w' ⟨rfl, rfl⟩; clear c1)
          | (go_at_call 31; refine (c2 _).mono ?_; rintro e w' ⟨rfl, rfl⟩; clear c2)
          | (go_at_call 31; refine (c3 _).mono ?_; rintro e w' ⟨rfl, rfl⟩; clear c3)
        refine bodyPost_ret (v := eaV none) (by simp [results, Tryd.results12, go_sem, eE, eQ, e0]; try rfl) rfl ?_
        exact none_fin w a b cb HE.out _ rfl _ hn
    · have hE : eaA b a cb = none := by
        unfold eaA
        simp only [hi]
        simp [h1, he1]
      have HE := Hid.mk hE
      have hne : (e1 != 0) = true := by simpa using he1
      clear hE hi ki hv he1
      generalize numL (sub b a 4) = V at c1
      go_enter Tryd.func12, Tryd.ntmps12
      go_wp2_with first
        | (go_at_call 30; refine (c1 _).mono ?_; rintro e w' ⟨rfl, rfl⟩; clear c1)
        | (go_at_call 31; refine (c2 _).mono ?_; rintro e w' ⟨rfl, rfl⟩; clear c2)
      refine bodyPost_ret (v := eaV none) (by simp [results, Tryd.results12, go_sem, eE, eQ, e0]; try rfl) rfl ?_
      exact none_fin w a b cb HE.out _ rfl _ hn
  · have hE : eaA b a cb = none := by unfold eaA; rw [if_neg h1]
    have HE := Hid.mk hE
    have c1 := fun W => fix_short b a W hb' ha h1
    clear hE h1
    go_enter Tryd.func12, Tryd.ntmps12
    go_wp2_with (go_at_call 30; refine (c1 _).mono ?_; rintro e w' ⟨rfl, rfl⟩; clear c1)
    refine bodyPost_ret (v := eaV none) (by simp [results, Tryd.results12, go_sem, eE, eQ, e0]; try rfl) rfl ?_
    exact none_fin w a b cb HE.out _ rfl _ hn
end Go.Proofs.YtjdpolhjbkpnlaaDoor
