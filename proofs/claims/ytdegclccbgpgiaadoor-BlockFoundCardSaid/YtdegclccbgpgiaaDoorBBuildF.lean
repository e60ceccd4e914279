/-
  DERIVED. Build: the program's.
-/
import Derived.Test.YtdegclccbgpgiaaDoorBWrite
import Derived.Test.YtdegclccbgpgiaaDoorBCheck
set_option linter.unusedVariables false
set_option linter.unusedSimpArgs false
namespace Go.Proofs.YtdegclccbgpgiaaDoor
open Go.RowKit Go.Proofs.SealMath
/-- A list of entries, as a slice that may lie anywhere. -/
structure LAt (w : World) (la : Option Addr) (l : List En) : Prop where
  at' : l ≠ [] → ∃ g off, la = some ⟨g, off, none⟩ ∧ RowAt w g off (l.flatMap enC)
theorem LAt.below {w w' : World} {la : Option Addr} {l : List En} (h : LAt w la l) (b : Below w.heap.size w w') : LAt w' la l := ⟨fun hn => by
  obtain ⟨g, off, e, hr⟩ := h.at' hn
  exact ⟨g, off, e, fun j x hx => cell_lat b (hr j x hx)⟩⟩
theorem hdE0 {h : Hd} (e : hdE h = 0) : isW h.w = true ∧ (0 ≤ h.t ∧ h.t ≤ 127) ∧ (1 ≤ h.b ∧ h.b ≤ 32) ∧ 0 ≤ h.lo ∧ h.lo ≤ h.hi ∧ h.hi ≤ 1152921504606846976 := by
  unfold hdE at e
  split at e
  · split at e
    · exact ⟨by assumption, by assumption⟩
    · simp at e
  · simp at e
theorem enE0 {h : Hd} {e : En} (hh : hdE h = 0) (he : enE h e = 0) : Ok e := by
  obtain ⟨h1, h2, h3, h4, h5, h6⟩ := hdE0 hh
  unfold enE at he
  split at he
  · split at he
    · split at he
      · split at he
        · rename_i a1 a2 a3 a4
          obtain ⟨p1, p2, p3⟩ := shl_pow h.b.toNat (by omega)
          have := isW_bd h1
          exact ⟨⟨a2.1, by omega⟩, ⟨a3.1, by omega⟩, ⟨by omega, by omega⟩, by omega⟩
        · simp at he
      · simp at he
    · simp at he
  · simp at he
theorem lsE_ok {h : Hd} (hh : hdE h = 0) : ∀ (l : List En) (p : Option En), lsE h p l = 0 → ∀ e ∈ l, Ok e
  | [], _, _, e, he => by simp at he
  | x :: l, p, h0, e, he => by
    rw [lsE] at h0
    split at h0
    · rename_i hx
      split at h0
      · rcases List.mem_cons.1 he with rfl | he
        · exact enE0 hh hx
        · exact lsE_ok hh l _ h0 e he
      · simp at h0
    · rename_i hx
      exact absurd h0 hx
theorem bdE_ok {h : Hd} {l : List En} (e : bdE h l = 0) : hdE h = 0 ∧ l.length ≤ 2097152 ∧ lsE h none l = 0 ∧ ∀ x ∈ l, Ok x := by
  unfold bdE at e
  split at e
  · rename_i hh
    split at e
    · exact ⟨hh, by assumption, e, lsE_ok hh l none e⟩
    · simp at e
  · rename_i hh; exact absurd e hh
theorem write_any (h : Hd) (l : List En) (la : Option Addr) (cap : Nat) (w : World) (ht : Tab w) (hl : LAt w la l) (hcap : l.length ≤ cap) (hh : hdE h = 0) (hn : l.length ≤ 2097152) (hok : ∀ x ∈ l, Ok x) :
    Calls Tryd.prog 25 #[.agg (hdC h).toArray, .slice la l.length cap] w fun r w' => r = .returned (.string ⟨(fileT h l).toArray⟩) ∧ Below w.heap.size w w' := by
  obtain ⟨h1, h2, h3, h4, h5, h6⟩ := hdE0 hh
  have hw := isW_bd h1
  obtain ⟨wd, t, b, lo, hi, n⟩ := h
  dsimp only at *
  obtain ⟨wd, rfl⟩ : ∃ V : Nat, wd = V := ⟨wd.toNat, by omega⟩
  obtain ⟨t, rfl⟩ : ∃ V : Nat, t = V := ⟨t.toNat, by omega⟩
  obtain ⟨b, rfl⟩ : ∃ V : Nat, b = V := ⟨b.toNat, by omega⟩
  obtain ⟨lo, rfl⟩ : ∃ V : Nat, lo = V := ⟨lo.toNat, by omega⟩
  obtain ⟨hi, rfl⟩ : ∃ V : Nat, hi = V := ⟨hi.toNat, by omega⟩
  exact write_x wd t b lo hi n l la cap w ht hok hn hcap hl.at' (by omega) (by omega) (by omega) (by omega) (by omega)
set_option maxHeartbeats 1000000 in
set_option maxRecDepth 100000 in
theorem build_any (h : Hd) (l : List En) (la : Option Addr) (cap : Nat) (w : World) (ht : Tab w) (hl : LAt w la l) (hcap : l.length ≤ cap) :
    Calls Tryd.prog 9 #[.agg (hdC h).toArray, .slice la l.length cap] w fun r w' => r = .returned (.tuple #[.string ⟨(bdT h l).toArray⟩, .int .i64 (bdE h l)]) ∧ Below w.heap.size w w' := by
  by_cases hh : hdE h = 0
  · have hc := fun W => checkHead_any h W
    obtain ⟨k1, k2, k3, k4⟩ := hdE0 hh
    rw [hh] at hc
    have U0 := SAt.new w (hdC h) 23
    have bA : Below w.heap.size w (w.alloc (.cells (hdC h).toArray 23)) := (Below.refl _ w).alloc (Nat.le_refl _) _
    by_cases hn : l.length ≤ 2097152
    · have eE : bdE h l = lsI h l 0 := by unfold bdE; rw [if_pos hh, if_pos hn]; rfl
      have eT : lsI h l 0 ≠ 0 → bdT h l = [] := fun hne => by unfold bdT; rw [eE, if_neg hne]
      have eT0 : lsI h l 0 = 0 → bdT h l = fileT h l := fun h0 => by unfold bdT; rw [eE, if_pos h0]
      have hW := fun W (hW : Tab W) (hL : LAt W la l) (h0 : lsI h l 0 = 0) => write_any h l la cap W hW hL hcap hh hn (lsE_ok hh l none h0)
      have hCE := fun e W => checkEntry_any h e W k1 k3
      obtain ⟨E, hE⟩ : ∃ E, E = lsI h l 0 := ⟨_, rfl⟩
      rw [← hE] at eE eT eT0
      have hW := fun W (h1 : Tab W) (h2 : LAt W la l) (h0 : E = 0) => hW W h1 h2 (hE ▸ h0)
      rw [eE]
      have HE := Hid.mk hE
      have HT := Hid.mk (And.intro eT eT0)
      have hst := fun i hi => lsI_step h l i hi
      have hend := lsI_end h l
      have hln : (l.length : Int) ≤ 2097152 := by omega
      obtain ⟨TT, hTT⟩ : ∃ TT, TT = bdT h l := ⟨_, rfl⟩
      rw [← hTT] at HT ⊢
      have HW := Hid.mk hW
      have HST := Hid.mk (And.intro hst hend)
      have q0 := U0 0 _ rfl
      have q1 := U0 1 _ rfl
      have q2 := U0 2 _ rfl
      have q3 := U0 3 _ rfl
      have q4 := U0 4 _ rfl
      have q5 := U0 5 _ rfl
      clear eE eT eT0 hE hTT hst hend hW U0 hn hh k1 k2 k3 k4
      have HL := Hid.mk (And.intro ht hl)
      clear ht hl
      obtain ⟨wd, t, b, lo, hi, n⟩ := h
      simp only [hdC] at hc bA q0 q1 q2 q3 q4 q5 hCE HW ⊢
      go_enter Tryd.func9, Tryd.ntmps9
      go_wp2_with (go_at_call 22; refine (hc _).mono ?_; rintro e w2 ⟨rfl, b2⟩; have q0 := cell_lat b2 q0; have q1 := cell_lat b2 q1; have q2 := cell_lat b2 q2; have q3 := cell_lat b2 q3; have q4 := cell_lat b2 q4; have q5 := cell_lat b2 q5; have bW := chain bA b2 (Nat.le_refl _); clear hc b2 bA)
      go_loopw [20] (fun u wr => ∃ i : Nat, u = .int .i64 i ∧ i ≤ l.length ∧ lsI ⟨wd, t, b, lo, hi, n⟩ l i = E ∧ Below w2.heap.size w2 wr) (fun u _ => l.length - (intOf u).toNat)
      case atStart => exact ⟨0, rfl, Nat.zero_le _, HE.out.symm, Below.refl _ _⟩
      case round =>
        obtain ⟨i, rfl, hi1, hE, hb⟩ := hrel
        have hbw := chain bW hb (Nat.le_refl _)
        by_cases hlt : i < l.length
        · obtain ⟨g, off, hla, hra⟩ := (HL.out.2.below hbw).at' (fun h => by rw [h] at hlt; simp at hlt)
          subst hla
          obtain ⟨x0, x1, x2, x3, x4⟩ := row_en hra rfl i hlt
          have hstep := HST.out.1 i hlt
          rw [hE] at hstep
          have p0 := cell_lat hb q0
          have p1 := cell_lat hb q1
          have p2 := cell_lat hb q2
          have p3 := cell_lat hb q3
          have p4 := cell_lat hb q4
          have p5 := cell_lat hb q5
          have hwz : w.heap.size < wr.heap.size := World.block_lt_of_cell? wr _ p0
          have hgz : g < wr.heap.size := World.block_lt_of_cell? wr _ x0
          have i1 : (i : Int) < (l.length : Int) := by omega
          have hce := hCE l[i]
          obtain ⟨e, he⟩ : ∃ e, e = l[i] := ⟨_, rfl⟩
          rw [← he] at x0 x1 x2 x3 x4 hstep hce
          have HEl := Hid.mk he
          simp only [enC] at hce
          have bx : Below wr.heap.size wr (wr.alloc (.cells #[.int .i64 e.v, .string e.c, .int .i64 e.i, .int .i64 e.s, .bool e.d] 40)) := (Below.refl _ wr).alloc (Nat.le_refl _) _
          have E0 := SAt.new wr (enC e) 40
          clear he q0 q1 q2 q3 q4 q5 hE
          by_cases hee : enE ⟨wd, t, b, lo, hi, n⟩ e = 0
          · rw [hee] at hce
            rw [if_pos hee] at hstep
            clear hee
            have HSt := Hid.mk hstep
            clear hstep
            go_wp2_with (go_at_call 23; refine (hce _).mono ?_; rintro r w3 ⟨rfl, b3⟩; have bC := chain bx b3 (Nat.le_refl _); have E0 := E0.below b3 (by simp); clear hce b3)
            have y0 := E0 0 _ rfl
            have y1 := E0 1 _ rfl
            have y2 := E0 2 _ rfl
            have y3 := E0 3 _ rfl
            have y4 := E0 4 _ rfl
            have bN := chain hb bC (Nat.le_refl _)
            have bW3 := chain hbw bC (Nat.le_refl _)
            by_cases hi0 : i = 0
            · have hs := HSt.out
              rw [if_pos (.inl hi0)] at hs
              have HS := Hid.mk hs
              clear hs HSt x0 x1 x2 x3 x4
              subst hi0
              go_region
              go_wp2
              refine ⟨⟨0 + 1, ival (by omega), hlt, HS.out.symm, bN.drew⟩, by simp only [intOf]; omega⟩
            · have hi0' : (0 : Int) < (i : Int) := by omega
              obtain ⟨j, hj⟩ : ∃ j, i = j + 1 := ⟨i - 1, by omega⟩
              subst hj
              have hj1 : j < l.length := by omega
              obtain ⟨z0, z1, z2, z3, z4⟩ := row_en hra rfl j hj1
              have hjI : 0 ≤ (j : Int) ∧ (j : Int) < (l.length : Int) := by omega
              have hjA : 0 ≤ (j : Int) := hjI.1
              have hjB : (j : Int) < (l.length : Int) := hjI.2
              have hcmp := compare_any l[j] e
              have hq : l[j + 1 - 1]? = some l[j] := List.getElem?_eq_getElem hj1
              obtain ⟨f, hf⟩ : ∃ f, f = l[j] := ⟨_, rfl⟩
              rw [← hf] at z0 z1 z2 z3 z4 hcmp hq
              clear hf x0 x1 x2 x3 x4 E0
              have z0 := cell_lat bC z0
              have z1 := cell_lat bC z1
              have z2 := cell_lat bC z2
              have z3 := cell_lat bC z3
              have z4 := cell_lat bC z4
              simp only [enC] at hcmp
              have hw3 : IntKind.i64.wrap (j : Int) = j := by rw [IntKind.wrap_i64]; omega
              have HQ := Hid.mk hq
              clear hq
              by_cases hls : lsB f e = true
              · have hs := HSt.out
                rw [if_pos (.inr ⟨f, HQ.out, hls⟩)] at hs
                have HS := Hid.mk hs
                have hneg : cpE f e < 0 := (cpE_ls f e).2 hls
                obtain ⟨q, hqq⟩ : ∃ q, q = cpE f e := ⟨_, rfl⟩
                rw [← hqq] at hcmp hneg
                clear hs hls HSt hqq
                go_region_held (fun w' => Below w3.heap.size w3 w' ∧ w'.cell? ⟨g, off + j * 5, none⟩ = some (.int .i64 f.v) ∧ w'.cell? ⟨g, off + j * 5 + 1, none⟩ = some (.string f.c) ∧ w'.cell? ⟨g, off + j * 5 + 2, none⟩ = some (.int .i64 f.i) ∧ w'.cell? ⟨g, off + j * 5 + 3, none⟩ = some (.int .i64 f.s) ∧ w'.cell? ⟨g, off + j * 5 + 4, none⟩ = some (.bool f.d) ∧ w'.cell? ⟨wr.heap.size, 0, none⟩ = some (.int .i64 e.v) ∧ w'.cell? ⟨wr.heap.size, 1, none⟩ = some (.string e.c) ∧ w'.cell? ⟨wr.heap.size, 2, none⟩ = some (.int .i64 e.i) ∧ w'.cell? ⟨wr.heap.size, 3, none⟩ = some (.int .i64 e.s) ∧ w'.cell? ⟨wr.heap.size, 4, none⟩ = some (.bool e.d))
                  ((refine (fun hb => ⟨hb, cell_lat hb z0, cell_lat hb z1, cell_lat hb z2, cell_lat hb z3, cell_lat hb z4, cell_lat hb y0, cell_lat hb y1, cell_lat hb y2, cell_lat hb y3, cell_lat hb y4⟩) ?_; first | exact bb | exact b_drew w3))
                  ((go_at_call 24; refine (hcmp _).mono ?_; rintro r w4 ⟨rfl, b4⟩; have bb : Below w3.heap.size w3 w4 := below_d b4))
                all_goals
                  clear hw3
                  go_wp2
                  refine ⟨⟨j + 1 + 1, ival (by omega), hlt, HS.out.symm, chain bN bb (Nat.le_refl _)⟩, by simp only [intOf]; omega⟩
              · have hs := HSt.out
                rw [if_neg (fun h => by
                  rcases h with h | ⟨q, h1, h2⟩
                  · omega
                  · rw [HQ.out] at h1; cases h1; exact hls h2)] at hs
                have hT := Hid.mk (HT.out.1 (by rw [hs]; decide))
                have HS := Hid.mk hs
                have hneg : 0 ≤ cpE f e := Int.not_lt.1 (fun h => hls ((cpE_ls f e).1 h))
                obtain ⟨q, hqq⟩ : ∃ q, q = cpE f e := ⟨_, rfl⟩
                rw [← hqq] at hcmp hneg
                clear hs hls HSt hqq
                go_region_held (fun w' => Below w3.heap.size w3 w' ∧ w'.cell? ⟨g, off + j * 5, none⟩ = some (.int .i64 f.v) ∧ w'.cell? ⟨g, off + j * 5 + 1, none⟩ = some (.string f.c) ∧ w'.cell? ⟨g, off + j * 5 + 2, none⟩ = some (.int .i64 f.i) ∧ w'.cell? ⟨g, off + j * 5 + 3, none⟩ = some (.int .i64 f.s) ∧ w'.cell? ⟨g, off + j * 5 + 4, none⟩ = some (.bool f.d) ∧ w'.cell? ⟨wr.heap.size, 0, none⟩ = some (.int .i64 e.v) ∧ w'.cell? ⟨wr.heap.size, 1, none⟩ = some (.string e.c) ∧ w'.cell? ⟨wr.heap.size, 2, none⟩ = some (.int .i64 e.i) ∧ w'.cell? ⟨wr.heap.size, 3, none⟩ = some (.int .i64 e.s) ∧ w'.cell? ⟨wr.heap.size, 4, none⟩ = some (.bool e.d))
                  ((refine (fun hb => ⟨hb, cell_lat hb z0, cell_lat hb z1, cell_lat hb z2, cell_lat hb z3, cell_lat hb z4, cell_lat hb y0, cell_lat hb y1, cell_lat hb y2, cell_lat hb y3, cell_lat hb y4⟩) ?_; first | exact bb | exact b_drew w3))
                  ((go_at_call 24; refine (hcmp _).mono ?_; rintro r w4 ⟨rfl, b4⟩; have bb : Below w3.heap.size w3 w4 := below_d b4))
                all_goals
                  clear hw3
                  go_wp2
                  go_ret2
                  rw [hT.out, HS.out]
                  exact ⟨rfl, chain bW3 bb (Nat.le_refl _)⟩
          · rw [if_neg hee] at hstep
            have h1 : (enE ⟨wd, t, b, lo, hi, n⟩ e != 0) = true := by simpa using hee
            have hEn : E ≠ 0 := by rw [hstep]; exact hee
            have hT := HT.out.1 hEn
            rw [← hstep] at hce h1
            clear hstep hee
            go_wp2_with (go_at_call 23; refine (hce _).mono ?_; rintro r w3 ⟨rfl, b3⟩; have bC := chain bx b3 (Nat.le_refl _); clear hce)
            go_ret2
            rw [hT]
            exact ⟨rfl, chain hbw bC (Nat.le_refl _)⟩
        · have e1 : i = l.length := by omega
          subst e1
          have h0 : E = 0 := by rw [← hE]; exact HST.out.2
          have hw := HW.out wr (HL.out.1.lat hbw) (HL.out.2.below hbw) h0
          have p0 := cell_lat hb q0
          have p1 := cell_lat hb q1
          have p2 := cell_lat hb q2
          have p3 := cell_lat hb q3
          have p4 := cell_lat hb q4
          have p5 := cell_lat hb q5
          rw [← HT.out.2 h0] at hw
          have H0 := Hid.mk h0
          clear hE h0
          go_wp2_with (go_at_call 25; refine hw.mono ?_; rintro e w5 ⟨rfl, b5⟩)
          go_ret2
          rw [H0.out]
          exact ⟨rfl, chain hbw b5 (Nat.le_refl _)⟩
    · have e1 : bdE h l = 43 := by unfold bdE; rw [if_pos hh, if_neg hn]
      have e2 : bdT h l = [] := by unfold bdT; rw [e1, if_neg (by decide)]
      rw [e1, e2]
      have hn' : (2097152 : Int) < (l.length : Int) := by omega
      obtain ⟨wd, t, b, lo, hi, n⟩ := h
      simp only [hdC] at hc U0 bA ⊢
      clear e1 e2 hh hn k1 k2 k3 k4
      go_enter Tryd.func9, Tryd.ntmps9
      go_wp2_with (go_at_call 22; refine (hc _).mono ?_; rintro e w1 ⟨rfl, b1⟩)
      go_ret2
      exact ⟨rfl, chain bA b1 (Nat.le_refl _)⟩
  · have e1 : bdE h l = hdE h := by unfold bdE; rw [if_neg hh]
    have e2 : bdT h l = [] := by unfold bdT; rw [e1, if_neg hh]
    have h1 : (hdE h != 0) = true := by simpa using hh
    have hc := fun W => checkHead_any h W
    rw [e1, e2]
    have U0 := SAt.new w (hdC h) 23
    have bA : Below w.heap.size w (w.alloc (.cells (hdC h).toArray 23)) := (Below.refl _ w).alloc (Nat.le_refl _) _
    obtain ⟨q, hq⟩ : ∃ q, q = hdE h := ⟨_, rfl⟩
    rw [← hq] at hc h1 ⊢
    obtain ⟨wd, t, b, lo, hi, n⟩ := h
    simp only [hdC] at hc U0 bA ⊢
    clear e1 e2 hh hq
    go_enter Tryd.func9, Tryd.ntmps9
    go_wp2_with (go_at_call 22; refine (hc _).mono ?_; rintro e w1 ⟨rfl, b1⟩)
    go_ret2
    exact ⟨rfl, chain bA b1 (Nat.le_refl _)⟩
end Go.Proofs.YtdegclccbgpgiaaDoor
