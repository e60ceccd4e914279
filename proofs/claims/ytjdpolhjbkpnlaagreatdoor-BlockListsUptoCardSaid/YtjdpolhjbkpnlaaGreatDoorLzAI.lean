/-
  DERIVED. BBuildF, BRd2, SFrames, SParseB, BX0, as one text.
-/
import Derived.Test.YtjdpolhjbkpnlaaGreatDoorLzAH
import Derived.Test.YtjdpolhjbkpnlaaGreatDoorLzAD
import Derived.Test.YtjdpolhjbkpnlaaGreatDoorLzAC
set_option linter.unusedVariables false
set_option linter.unusedSimpArgs false
namespace Go.Proofs.YtjdpolhjbkpnlaaGreatDoor
open Go.RowKit Go.Proofs.SealMath
/-- A list of entries, as a slice that may lie anywhere. -/
structure LAt (w : World) (la : Option Addr) (l : List En) : Prop where
  at' : l ≠ [] → ∃ g off, la = some ⟨g, off, none⟩ ∧ RowAt w g off (l.flatMap enC)
theorem LAt.below {w w' : World} {la : Option Addr} {l : List En} (h : LAt w la l) (b : Below w.heap.size w w') : LAt w' la l := ⟨fun hn => by
  obtain ⟨g, off, e, hr⟩ := h.at' hn
  exact ⟨g, off, e, fun j x hx => cell_lat b (hr j x hx)⟩⟩
theorem hdE0 {h : Hd} (e : hdE h = 0) : isW h.w = true ∧ (0 ≤ h.t ∧ h.t ≤ 127) ∧ (1 ≤ h.b ∧ h.b ≤ 32) ∧ 0 ≤ h.lo ∧ h.lo ≤ h.hi ∧ h.hi ≤ 1152921504606846976 := by
  unfold hdE at e
  split at e
  · split at e
    · exact ⟨by assumption, by assumption⟩
    · simp at e
  · simp at e
theorem enE0 {h : Hd} {e : En} (hh : hdE h = 0) (he : enE h e = 0) : Ok e := by
  obtain ⟨h1, h2, h3, h4, h5, h6⟩ := hdE0 hh
  unfold enE at he
  split at he
  · split at he
    · split at he
      · split at he
        · rename_i a1 a2 a3 a4
          obtain ⟨p1, p2, p3⟩ := shl_pow h.b.toNat (by omega)
          have := isW_bd h1
          exact ⟨⟨a2.1, by omega⟩, ⟨a3.1, by omega⟩, ⟨by omega, by omega⟩, by omega⟩
        · simp at he
      · simp at he
    · simp at he
  · simp at he
theorem lsE_ok {h : Hd} (hh : hdE h = 0) : ∀ (l : List En) (p : Option En), lsE h p l = 0 → ∀ e ∈ l, Ok e
  | [], _, _, e, he => by simp at he
  | x :: l, p, h0, e, he => by
    rw [lsE] at h0
    split at h0
    · rename_i hx
      split at h0
      · rcases List.mem_cons.1 he with rfl | he
        · exact enE0 hh hx
        · exact lsE_ok hh l _ h0 e he
      · simp at h0
    · rename_i hx
      exact absurd h0 hx
theorem bdE_ok {h : Hd} {l : List En} (e : bdE h l = 0) : hdE h = 0 ∧ l.length ≤ 2097152 ∧ lsE h none l = 0 ∧ ∀ x ∈ l, Ok x := by
  unfold bdE at e
  split at e
  · rename_i hh
    split at e
    · exact ⟨hh, by assumption, e, lsE_ok hh l none e⟩
    · simp at e
  · rename_i hh; exact absurd e hh
theorem write_any (h : Hd) (l : List En) (la : Option Addr) (cap : Nat) (w : World) (ht : Tab w) (hl : LAt w la l) (hcap : l.length ≤ cap) (hh : hdE h = 0) (hn : l.length ≤ 2097152) (hok : ∀ x ∈ l, Ok x) :
    Calls Tryz.prog 37 #[.agg (hdC h).toArray, .slice la l.length cap] w fun r w' => r = .returned (.string ⟨(fileT h l).toArray⟩) ∧ Below w.heap.size w w' := by
  obtain ⟨h1, h2, h3, h4, h5, h6⟩ := hdE0 hh
  have hw := isW_bd h1
  obtain ⟨wd, t, b, lo, hi, n⟩ := h
  dsimp only at *
  obtain ⟨wd, rfl⟩ : ∃ V : Nat, wd = V := ⟨wd.toNat, by omega⟩
  obtain ⟨t, rfl⟩ : ∃ V : Nat, t = V := ⟨t.toNat, by omega⟩
  obtain ⟨b, rfl⟩ : ∃ V : Nat, b = V := ⟨b.toNat, by omega⟩
  obtain ⟨lo, rfl⟩ : ∃ V : Nat, lo = V := ⟨lo.toNat, by omega⟩
  obtain ⟨hi, rfl⟩ : ∃ V : Nat, hi = V := ⟨hi.toNat, by omega⟩
  exact write_x wd t b lo hi n l la cap w ht hok hn hcap hl.at' (by omega) (by omega) (by omega) (by omega) (by omega)
set_option maxHeartbeats 1000000 in
set_option maxRecDepth 100000 in
theorem build_any (h : Hd) (l : List En) (la : Option Addr) (cap : Nat) (w : World) (ht : Tab w) (hl : LAt w la l) (hcap : l.length ≤ cap) :
    Calls Tryz.prog 21 #[.agg (hdC h).toArray, .slice la l.length cap] w fun r w' => r = .returned (.tuple #[.string ⟨(bdT h l).toArray⟩, .int .i64 (bdE h l)]) ∧ Below w.heap.size w w' := by
  by_cases hh : hdE h = 0
  · have hc := fun W => checkHead_any h W
    obtain ⟨k1, k2, k3, k4⟩ := hdE0 hh
    rw [hh] at hc
    have U0 := SAt.new w (hdC h) 31
    have bA : Below w.heap.size w (w.alloc (.cells (hdC h).toArray 31)) := (Below.refl _ w).alloc (Nat.le_refl _) _
    by_cases hn : l.length ≤ 2097152
    · have eE : bdE h l = lsI h l 0 := by unfold bdE; rw [if_pos hh, if_pos hn]; rfl
      have eT : lsI h l 0 ≠ 0 → bdT h l = [] := fun hne => by unfold bdT; rw [eE, if_neg hne]
      have eT0 : lsI h l 0 = 0 → bdT h l = fileT h l := fun h0 => by unfold bdT; rw [eE, if_pos h0]
      have hW := fun W (hW : Tab W) (hL : LAt W la l) (h0 : lsI h l 0 = 0) => write_any h l la cap W hW hL hcap hh hn (lsE_ok hh l none h0)
      have hCE := fun e W => checkEntry_any h e W k1 k3
      obtain ⟨E, hE⟩ : ∃ E, E = lsI h l 0 := ⟨_, rfl⟩
      rw [← hE] at eE eT eT0
      have hW := fun W (h1 : Tab W) (h2 : LAt W la l) (h0 : E = 0) => hW W h1 h2 (hE ▸ h0)
      rw [eE]
      have HE := Hid.mk hE
      have HT := Hid.mk (And.intro eT eT0)
      have hst := fun i hi => lsI_step h l i hi
      have hend := lsI_end h l
      have hln : (l.length : Int) ≤ 2097152 := by omega
      obtain ⟨TT, hTT⟩ : ∃ TT, TT = bdT h l := ⟨_, rfl⟩
      rw [← hTT] at HT ⊢
      have HW := Hid.mk hW
      have HST := Hid.mk (And.intro hst hend)
      have q0 := U0 0 _ rfl
      have q1 := U0 1 _ rfl
      have q2 := U0 2 _ rfl
      have q3 := U0 3 _ rfl
      have q4 := U0 4 _ rfl
      have q5 := U0 5 _ rfl
      clear eE eT eT0 hE hTT hst hend hW U0 hn hh k1 k2 k3 k4
      have HL := Hid.mk (And.intro ht hl)
      clear ht hl
      obtain ⟨wd, t, b, lo, hi, n⟩ := h
      simp only [hdC] at hc bA q0 q1 q2 q3 q4 q5 hCE HW ⊢
      go_enter Tryz.func21, Tryz.ntmps21
      go_wp2_with (go_at_call 35; refine (hc _).mono ?_; rintro e w2 ⟨rfl, b2⟩; have q0 := cell_lat b2 q0; have q1 := cell_lat b2 q1; have q2 := cell_lat b2 q2; have q3 := cell_lat b2 q3; have q4 := cell_lat b2 q4; have q5 := cell_lat b2 q5; have bW := chain bA b2 (Nat.le_refl _); clear hc b2 bA)
      go_loopw [20] (fun u wr => ∃ i : Nat, u = .int .i64 i ∧ i ≤ l.length ∧ lsI ⟨wd, t, b, lo, hi, n⟩ l i = E ∧ Below w2.heap.size w2 wr) (fun u _ => l.length - (intOf u).toNat)
      case atStart => exact ⟨0, rfl, Nat.zero_le _, HE.out.symm, Below.refl _ _⟩
      case round =>
        obtain ⟨i, rfl, hi1, hE, hb⟩ := hrel
        have hbw := chain bW hb (Nat.le_refl _)
        by_cases hlt : i < l.length
        · obtain ⟨g, off, hla, hra⟩ := (HL.out.2.below hbw).at' (fun h => by rw [h] at hlt; simp at hlt)
          subst hla
          obtain ⟨x0, x1, x2, x3, x4⟩ := row_en hra rfl i hlt
          have hstep := HST.out.1 i hlt
          rw [hE] at hstep
          have p0 := cell_lat hb q0
          have p1 := cell_lat hb q1
          have p2 := cell_lat hb q2
          have p3 := cell_lat hb q3
          have p4 := cell_lat hb q4
          have p5 := cell_lat hb q5
          have hwz : w.heap.size < wr.heap.size := World.block_lt_of_cell? wr _ p0
          have hgz : g < wr.heap.size := World.block_lt_of_cell? wr _ x0
          have i1 : (i : Int) < (l.length : Int) := by omega
          have hce := hCE l[i]
          obtain ⟨e, he⟩ : ∃ e, e = l[i] := ⟨_, rfl⟩
          rw [← he] at x0 x1 x2 x3 x4 hstep hce
          have HEl := Hid.mk he
          simp only [enC] at hce
          have bx : Below wr.heap.size wr (wr.alloc (.cells #[.int .i64 e.v, .string e.c, .int .i64 e.i, .int .i64 e.s, .bool e.d] 38)) := (Below.refl _ wr).alloc (Nat.le_refl _) _
          have E0 := SAt.new wr (enC e) 38
          clear he q0 q1 q2 q3 q4 q5 hE
          by_cases hee : enE ⟨wd, t, b, lo, hi, n⟩ e = 0
          · rw [hee] at hce
            rw [if_pos hee] at hstep
            clear hee
            have HSt := Hid.mk hstep
            clear hstep
            go_wp2_with (go_at_call 36; refine (hce _).mono ?_; rintro r w3 ⟨rfl, b3⟩; have bC := chain bx b3 (Nat.le_refl _); have E0 := E0.below b3 (by simp); clear hce b3)
            have y0 := E0 0 _ rfl
            have y1 := E0 1 _ rfl
            have y2 := E0 2 _ rfl
            have y3 := E0 3 _ rfl
            have y4 := E0 4 _ rfl
            have bN := chain hb bC (Nat.le_refl _)
            have bW3 := chain hbw bC (Nat.le_refl _)
            by_cases hi0 : i = 0
            · have hs := HSt.out
              rw [if_pos (.inl hi0)] at hs
              have HS := Hid.mk hs
              clear hs HSt x0 x1 x2 x3 x4
              subst hi0
              go_region
              go_wp2
              refine ⟨⟨0 + 1, ival (by omega), hlt, HS.out.symm, bN.drew⟩, by simp only [intOf]; omega⟩
            · have hi0' : (0 : Int) < (i : Int) := by omega
              obtain ⟨j, hj⟩ : ∃ j, i = j + 1 := ⟨i - 1, by omega⟩
              subst hj
              have hj1 : j < l.length := by omega
              obtain ⟨z0, z1, z2, z3, z4⟩ := row_en hra rfl j hj1
              have hjI : 0 ≤ (j : Int) ∧ (j : Int) < (l.length : Int) := by omega
              have hjA : 0 ≤ (j : Int) := hjI.1
              have hjB : (j : Int) < (l.length : Int) := hjI.2
              have hcmp := compare_any l[j] e
              have hq : l[j + 1 - 1]? = some l[j] := List.getElem?_eq_getElem hj1
              obtain ⟨f, hf⟩ : ∃ f, f = l[j] := ⟨_, rfl⟩
              rw [← hf] at z0 z1 z2 z3 z4 hcmp hq
              clear hf x0 x1 x2 x3 x4 E0
              have z0 := cell_lat bC z0
              have z1 := cell_lat bC z1
              have z2 := cell_lat bC z2
              have z3 := cell_lat bC z3
              have z4 := cell_lat bC z4
              simp only [enC] at hcmp
              have hw3 : IntKind.i64.wrap (j : Int) = j := by rw [IntKind.wrap_i64]; omega
              have HQ := Hid.mk hq
              clear hq
              by_cases hls : lsB f e = true
              · have hs := HSt.out
                rw [if_pos (.inr ⟨f, HQ.out, hls⟩)] at hs
                have HS := Hid.mk hs
                have hneg : cpE f e < 0 := (cpE_ls f e).2 hls
                obtain ⟨q, hqq⟩ : ∃ q, q = cpE f e := ⟨_, rfl⟩
                rw [← hqq] at hcmp hneg
                clear hs hls HSt hqq
                go_region_held (fun w' => Below w3.heap.size w3 w' ∧ w'.cell? ⟨g, off + j * 5, none⟩ = some (.int .i64 f.v) ∧ w'.cell? ⟨g, off + j * 5 + 1, none⟩ = some (.string f.c) ∧ w'.cell? ⟨g, off + j * 5 + 2, none⟩ = some (.int .i64 f.i) ∧ w'.cell? ⟨g, off + j * 5 + 3, none⟩ = some (.int .i64 f.s) ∧ w'.cell? ⟨g, off + j * 5 + 4, none⟩ = some (.bool f.d) ∧ w'.cell? ⟨wr.heap.size, 0, none⟩ = some (.int .i64 e.v) ∧ w'.cell? ⟨wr.heap.size, 1, none⟩ = some (.string e.c) ∧ w'.cell? ⟨wr.heap.size, 2, none⟩ = some (.int .i64 e.i) ∧ w'.cell? ⟨wr.heap.size, 3, none⟩ = some (.int .i64 e.s) ∧ w'.cell? ⟨wr.heap.size, 4, none⟩ = some (.bool e.d))
                  ((refine (fun hb => ⟨hb, cell_lat hb z0, cell_lat hb z1, cell_lat hb z2, cell_lat hb z3, cell_lat hb z4, cell_lat hb y0, cell_lat hb y1, cell_lat hb y2, cell_lat hb y3, cell_lat hb y4⟩) ?_; first | exact bb | exact b_drew w3))
                  ((go_at_call 30; refine (hcmp _).mono ?_; rintro r w4 ⟨rfl, b4⟩; have bb : Below w3.heap.size w3 w4 := below_d b4))
                all_goals
                  clear hw3
                  go_wp2
                  refine ⟨⟨j + 1 + 1, ival (by omega), hlt, HS.out.symm, chain bN bb (Nat.le_refl _)⟩, by simp only [intOf]; omega⟩
              · have hs := HSt.out
                rw [if_neg (fun h => by
                  rcases h with h | ⟨q, h1, h2⟩
                  · omega
                  · rw [HQ.out] at h1; cases h1; exact hls h2)] at hs
                have hT := Hid.mk (HT.out.1 (by rw [hs]; decide))
                have HS := Hid.mk hs
                have hneg : 0 ≤ cpE f e := Int.not_lt.1 (fun h => hls ((cpE_ls f e).1 h))
                obtain ⟨q, hqq⟩ : ∃ q, q = cpE f e := ⟨_, rfl⟩
                rw [← hqq] at hcmp hneg
                clear hs hls HSt hqq
                go_region_held (fun w' => Below w3.heap.size w3 w' ∧ w'.cell? ⟨g, off + j * 5, none⟩ = some (.int .i64 f.v) ∧ w'.cell? ⟨g, off + j * 5 + 1, none⟩ = some (.string f.c) ∧ w'.cell? ⟨g, off + j * 5 + 2, none⟩ = some (.int .i64 f.i) ∧ w'.cell? ⟨g, off + j * 5 + 3, none⟩ = some (.int .i64 f.s) ∧ w'.cell? ⟨g, off + j * 5 + 4, none⟩ = some (.bool f.d) ∧ w'.cell? ⟨wr.heap.size, 0, none⟩ = some (.int .i64 e.v) ∧ w'.cell? ⟨wr.heap.size, 1, none⟩ = some (.string e.c) ∧ w'.cell? ⟨wr.heap.size, 2, none⟩ = some (.int .i64 e.i) ∧ w'.cell? ⟨wr.heap.size, 3, none⟩ = some (.int .i64 e.s) ∧ w'.cell? ⟨wr.heap.size, 4, none⟩ = some (.bool e.d))
                  ((refine (fun hb => ⟨hb, cell_lat hb z0, cell_lat hb z1, cell_lat hb z2, cell_lat hb z3, cell_lat hb z4, cell_lat hb y0, cell_lat hb y1, cell_lat hb y2, cell_lat hb y3, cell_lat hb y4⟩) ?_; first | exact bb | exact b_drew w3))
                  ((go_at_call 30; refine (hcmp _).mono ?_; rintro r w4 ⟨rfl, b4⟩; have bb : Below w3.heap.size w3 w4 := below_d b4))
                all_goals
                  clear hw3
                  go_wp2
                  go_ret2
                  rw [hT.out, HS.out]
                  exact ⟨rfl, chain bW3 bb (Nat.le_refl _)⟩
          · rw [if_neg hee] at hstep
            have h1 : (enE ⟨wd, t, b, lo, hi, n⟩ e != 0) = true := by simpa using hee
            have hEn : E ≠ 0 := by rw [hstep]; exact hee
            have hT := HT.out.1 hEn
            rw [← hstep] at hce h1
            clear hstep hee
            go_wp2_with (go_at_call 36; refine (hce _).mono ?_; rintro r w3 ⟨rfl, b3⟩; have bC := chain bx b3 (Nat.le_refl _); clear hce)
            go_ret2
            rw [hT]
            exact ⟨rfl, chain hbw bC (Nat.le_refl _)⟩
        · have e1 : i = l.length := by omega
          subst e1
          have h0 : E = 0 := by rw [← hE]; exact HST.out.2
          have hw := HW.out wr (HL.out.1.lat hbw) (HL.out.2.below hbw) h0
          have p0 := cell_lat hb q0
          have p1 := cell_lat hb q1
          have p2 := cell_lat hb q2
          have p3 := cell_lat hb q3
          have p4 := cell_lat hb q4
          have p5 := cell_lat hb q5
          rw [← HT.out.2 h0] at hw
          have H0 := Hid.mk h0
          clear hE h0
          go_wp2_with (go_at_call 37; refine hw.mono ?_; rintro e w5 ⟨rfl, b5⟩)
          go_ret2
          rw [H0.out]
          exact ⟨rfl, chain hbw b5 (Nat.le_refl _)⟩
    · have e1 : bdE h l = 43 := by unfold bdE; rw [if_pos hh, if_neg hn]
      have e2 : bdT h l = [] := by unfold bdT; rw [e1, if_neg (by decide)]
      rw [e1, e2]
      have hn' : (2097152 : Int) < (l.length : Int) := by omega
      obtain ⟨wd, t, b, lo, hi, n⟩ := h
      simp only [hdC] at hc U0 bA ⊢
      clear e1 e2 hh hn k1 k2 k3 k4
      go_enter Tryz.func21, Tryz.ntmps21
      go_wp2_with (go_at_call 35; refine (hc _).mono ?_; rintro e w1 ⟨rfl, b1⟩)
      go_ret2
      exact ⟨rfl, chain bA b1 (Nat.le_refl _)⟩
  · have e1 : bdE h l = hdE h := by unfold bdE; rw [if_neg hh]
    have e2 : bdT h l = [] := by unfold bdT; rw [e1, if_neg hh]
    have h1 : (hdE h != 0) = true := by simpa using hh
    have hc := fun W => checkHead_any h W
    rw [e1, e2]
    have U0 := SAt.new w (hdC h) 31
    have bA : Below w.heap.size w (w.alloc (.cells (hdC h).toArray 31)) := (Below.refl _ w).alloc (Nat.le_refl _) _
    obtain ⟨q, hq⟩ : ∃ q, q = hdE h := ⟨_, rfl⟩
    rw [← hq] at hc h1 ⊢
    obtain ⟨wd, t, b, lo, hi, n⟩ := h
    simp only [hdC] at hc U0 bA ⊢
    clear e1 e2 hh hq
    go_enter Tryz.func21, Tryz.ntmps21
    go_wp2_with (go_at_call 35; refine (hc _).mono ?_; rintro e w1 ⟨rfl, b1⟩)
    go_ret2
    exact ⟨rfl, chain bA b1 (Nat.le_refl _)⟩
end Go.Proofs.YtjdpolhjbkpnlaaGreatDoor
set_option linter.unusedVariables false
set_option linter.unusedSimpArgs false
namespace Go.Proofs.YtjdpolhjbkpnlaaGreatDoor
open Go.RowKit Go.Proofs.SealMath
theorem enE_code {h : Hd} {e : En} (he : enE h e = 0) : (e.c.size : Int) = h.w / 8 := by
  unfold enE at he
  split at he
  · assumption
  · simp at he
theorem lsE_codes {h : Hd} : ∀ (l : List En) (p : Option En), lsE h p l = 0 → ∀ e ∈ l, enE h e = 0
  | [], _, _, e, he => by simp at he
  | x :: l, p, h0, e, he => by
    rw [lsE] at h0
    split at h0
    · rename_i hx
      split at h0
      · rcases List.mem_cons.1 he with rfl | he
        · exact hx
        · exact lsE_codes l _ h0 e he
      · simp at h0
    · rename_i hx
      exact absurd h0 hx
theorem bdE_codes {h : Hd} {l : List En} (e : bdE h l = 0) : ∀ x ∈ l, Okc (cbH h) x := fun x hx => by
  obtain ⟨h1, h2, h3, h4⟩ := bdE_ok e
  have hc := enE_code (lsE_codes l none h3 x hx)
  have := h4 x hx
  exact ⟨this.v, this.i, this.s, by unfold cbH; omega⟩
theorem hdE_n (h : Hd) (n : Int) : hdE { h with n := n } = hdE h := rfl
theorem enE_n (h : Hd) (n : Int) (e : En) : enE { h with n := n } e = enE h e := rfl
theorem lsE_n (h : Hd) (n : Int) : ∀ (l : List En) (p : Option En), lsE { h with n := n } p l = lsE h p l
  | [], _ => rfl
  | x :: l, p => by rw [lsE, lsE, lsE_n h n l, enE_n]
theorem bdE_n (h : Hd) (n : Int) (l : List En) : bdE { h with n := n } l = bdE h l := by unfold bdE; rw [hdE_n, lsE_n]
theorem fileT_n (h : Hd) (n : Int) (l : List En) : fileT { h with n := n } l = fileT h l := rfl
theorem bdT_n (h : Hd) (n : Int) (l : List En) : bdT { h with n := n } l = bdT h l := by unfold bdT; rw [bdE_n, fileT_n]
/-- The parts of a file's text: head, blocks, index, foot. -/
theorem file_parts (h : Hd) (l : List En) : fileT h l = hdF h l ++ (blkL enB 5 (pk enB l) ++ (blkL lnB 6 (pk lnB (idx h l)) ++ frL 7 (ftB h l))) := by
  unfold fileT hbT; simp only [List.append_assoc]
theorem okL_len {y : Ln} (h : OkL y) : (lnB y).length ≤ 4096 := by
  have h1 := (lnB_len y).1
  have h2 := h.e.c
  omega
/-- Behind the blocks stands no block. -/
theorem no_block (b : ByteArray) (h : Hd) (l : List En) (x : List UInt8) (hok : ∀ y ∈ idx h l, OkL y) (hb : b.data.toList = x ++ (blkL lnB 6 (pk lnB (idx h l)) ++ frL 7 (ftB h l))) : ¬ ((psA b x.length).2.2.2 = 0 ∧ (psA b x.length).1 = 5) := by
  have hf := ftB_len h l
  cases hp : pk lnB (idx h l) with
  | nil =>
    rw [hp] at hb
    have h1 := ps_at b 7 (ftB h l) x [] (by omega) (by omega) (by omega) (by rw [hb]; simp [blkL])
    rw [h1]
    simp
  | cons p ps =>
    have hl : ln lnB p.2 ≤ 4096 := (pk_spec lnB (idx h l) (fun y hy => okL_len (hok y hy)) p (by rw [hp]; simp)).2.1
    rw [hp] at hb
    have e : blkL lnB 6 (p :: ps) = frL 6 (p.2.flatMap lnB) ++ blkL lnB 6 ps := by simp [blkL]
    rw [e, List.append_assoc] at hb
    have hl2 : (p.2.flatMap lnB).length ≤ 4096 := hl
    have h1 := ps_at b 6 (p.2.flatMap lnB) x _ (by omega) (by omega) (by omega) hb
    rw [h1]
    simp
theorem enB_few {cb : Nat} {l : List En} (h : ∀ e ∈ l, Okc cb e) : l.length * (cb + 7) ≤ ln enB l := by
  induction l with
  | nil => simp [ln]
  | cons x l ih =>
    have h1 := ih (fun e he => h e (List.mem_cons_of_mem _ he))
    have h2 := (h x (by simp)).c
    have h3 : cb + 7 ≤ (enB x).length := by
      have a1 := (pvL_len 9 x.i.toNat).1
      have a2 := (pvL_len 9 x.s.toNat).1
      have a3 := cl x.c
      unfold enB plB
      simp only [List.length_append, fixL_len, dB_len, a3]
      omega
    have : ln enB (x :: l) = (enB x).length + ln enB l := by simp [ln]
    rw [this, List.length_cons, Nat.add_mul]
    omega
/-- What is read of a file that was built. -/
theorem rd_file (h : Hd) (l : List En) (e : bdE h l = 0) : rdA ⟨(fileT h l).toArray⟩ = some ({ h with n := l.length }, (pk enB l).map fun p => p.2.flatMap enB) := by
  obtain ⟨hh, hn, hls, hok⟩ := bdE_ok e
  obtain ⟨k1, k2, k3, k4, k5, k6⟩ := hdE0 hh
  have hw := isW_bd k1
  have hbt := hbT_len h l hok hn
  have hoc := bdE_codes e
  have hlen : ∀ x ∈ l, (enB x).length ≤ 4096 := fun x hx => by
    have := (enB_len x).1
    have := (hok x hx).c
    omega
  have hhl := hdB_len h l.length
  obtain ⟨b, hb⟩ : ∃ b : ByteArray, b = ⟨(fileT h l).toArray⟩ := ⟨_, rfl⟩
  have hbl : b.data.toList = fileT h l := by rw [hb]
  rw [← hb]
  have hp := file_parts h l
  rw [← hbl] at hp
  have p0 := ps_at b 4 (hdB h l.length) [] _ (by omega) (by omega) (by omega) (by rw [hp]; rfl)
  rw [List.length_nil] at p0
  have hx : (hdF h l).length = 0 + ((hdB h l.length).length + 14) := by unfold hdF; rw [frL_len]; omega
  have hbk := blks_put b _ (pk enB l) (hdF h l) (fun p hpp => (pk_spec enB l hlen p hpp).2.1) hp (by
    have := no_block b h l (hdF h l ++ blkL enB 5 (pk enB l)) hbt.2.2 (by rw [hp]; simp only [List.append_assoc])
    rw [List.length_append] at this
    exact this)
  have hsz : l.length * (cbH h + 7) ≤ b.size := by
    have h1 := enB_few hoc
    have h2 := blkL_len enB 5 (pk enB l)
    rw [pk_flat] at h2
    have h3 := congrArg List.length hp
    rw [← ba_size, List.length_append, List.length_append] at h3
    omega
  unfold rdA
  rw [p0]
  dsimp only
  rw [if_pos ⟨rfl, rfl⟩, hdR_put h l.length (by omega) (by omega) (by omega) (by omega) (by omega) (by omega), ← hx, hbk]
  rw [if_pos]
  refine ⟨hh, by dsimp only; omega, ?_⟩
  dsimp only
  have hcb : ((cbH h : Nat) : Int) = h.w / 8 := by unfold cbH; omega
  rw [← hcb]
  have : (l.length : Int) * ((cbH h : Int) + 7) ≤ (b.size : Int) := by exact_mod_cast hsz
  exact (Int.le_ediv_iff_mul_le (by omega)).2 this
theorem al_file (h : Hd) (l : List En) (hoc : ∀ x ∈ l, Okc (cbH h) x) : alA (cbH h) ((pk enB l).map fun p => p.2.flatMap enB) = l := by
  have key : ∀ ps : List (Nat × List En), (∀ p ∈ ps, ∀ x ∈ p.2, Okc (cbH h) x) → alA (cbH h) (ps.map fun p => p.2.flatMap enB) = (ps.map (·.2)).flatten := by
    intro ps
    induction ps with
    | nil => intro _; rfl
    | cons p ps ih =>
      intro hp
      have e : alA (cbH h) ((p :: ps).map fun p => p.2.flatMap enB) = ents ⟨(p.2.flatMap enB).toArray⟩ 0 (cbH h) ++ alA (cbH h) (ps.map fun p => p.2.flatMap enB) := rfl
      rw [e, ih (fun q hq => hp q (List.mem_cons_of_mem _ hq)), ents_all _ _ (hp p (by simp))]
      simp
  rw [key, pk_flat]
  intro p hp x hx
  refine hoc x ?_
  have := pk_flat enB l
  rw [← this]
  exact List.mem_flatten.2 ⟨p.2, List.mem_map.2 ⟨p, hp, rfl⟩, hx⟩
/-- A file that was built is opened, and tells what was handed in. -/
theorem op_file (h : Hd) (l : List En) (e : bdE h l = 0) : opA ⟨(fileT h l).toArray⟩ = some ({ h with n := l.length }, (pk enB l).map fun p => p.2.flatMap enB) ∧ alA (cbH h) ((pk enB l).map fun p => p.2.flatMap enB) = l := by
  have ha := al_file h l (bdE_codes e)
  refine ⟨?_, ha⟩
  unfold opA
  rw [rd_file h l e]
  simp only []
  rw [show cbH { h with n := (l.length : Int) } = cbH h from rfl, ha, bdE_n, bdT_n, if_pos]
  refine ⟨e, ?_⟩
  unfold bdT
  rw [if_pos e]
/-- What is opened is a file, just as it is built of what it tells. -/
theorem op_only {b : ByteArray} {h : Hd} {bl : List (List UInt8)} (e : opA b = some (h, bl)) : h.n = (alA (cbH h) bl).length ∧ bl = (pk enB (alA (cbH h) bl)).map fun p => p.2.flatMap enB := by
  obtain ⟨h1, h2, h3⟩ := opA_some e
  obtain ⟨k1, k2⟩ := op_file h _ h2
  have hb : b = ⟨(fileT h (alA (cbH h) bl)).toArray⟩ := by apply ba_ext; rw [← h3]
  rw [← hb, e] at k1
  simp only [Option.some.injEq, Prod.mk.injEq] at k1
  refine ⟨?_, k1.2⟩
  have := congrArg Hd.n k1.1
  exact this
end Go.Proofs.YtjdpolhjbkpnlaaGreatDoor
namespace Go.Proofs.YtjdpolhjbkpnlaaGreatDoor
open Go.RowKit Go.Proofs.SealMath
theorem Tryz.info28 : (Tryz.prog.info? 92).map (fun i => (i.zero, i.size, i.bytes)) = some (some (.agg #[.int .i64 0, .string ⟨#[]⟩, .int .i64 0]), 3, 32) := by kernel_rfl
/-- A frame as Frames tells it: kind, payload, place. -/
abbrev Fr := Nat × List UInt8 × Nat
def frC1 (f : Fr) : List Value := [.int .i64 f.1, .string ⟨f.2.1.toArray⟩, .int .i64 f.2.2]
def frC (l : List Fr) : List Value := l.flatMap frC1
theorem frC_snoc (l : List Fr) (f : Fr) : frC (l ++ [f]) = frC l ++ frC1 f := by simp [frC]
theorem frC_len (l : List Fr) : (frC l).length = 3 * l.length := by
  induction l with
  | nil => rfl
  | cons f l ih => show (frC1 f ++ frC l).length = _; rw [List.length_append, ih]; simp [frC1]; omega
/-- The frames from a place on, and where they end. -/
def frs (b : ByteArray) : Nat → Nat → List Fr × Nat
  | 0, a => ([], a)
  | n + 1, a => if (psA b a).2.2.2 = 0 then (((psA b a).1, (psA b a).2.1, a) :: (frs b n (psA b a).2.2.1).1, (frs b n (psA b a).2.2.1).2) else ([], a)
theorem cell_new3 (w : World) (x y z : Value) (t : TypeId) : ∀ j u, [x, y, z][j]? = some u → (w.alloc (.cells #[x, y, z] t)).cell? ((⟨w.heap.size, 0, none⟩ : Addr).add j) = some u := by
  intro j u hj
  have hh := heap_alloc_last w (.cells #[x, y, z] t)
  have ea : (⟨w.heap.size, 0, none⟩ : Addr).add j = ⟨w.heap.size, j, none⟩ := by unfold Addr.add; split <;> simp_all
  rw [ea, cell_of_row _ _ j _ t (0, 0) hh]
  simpa using hj
theorem own_below {w w' : World} {base n size : Nat} {e : TypeId} {v : Value} {xs : List Value} (h : w.ownsRow base e size v n xs) (hb : Below w.heap.size w w') : w'.ownsRow base e size v n xs := by
  obtain ⟨h1, h2⟩ := h
  refine ⟨h1, ?_⟩
  rcases h2 with h2 | ⟨g, cap, cur, rfl, hg, hc, r⟩
  · exact .inl h2
  · have hlt : g < w.heap.size := by
      rw [Array.getElem?_eq_some_iff] at hc; exact hc.1
    exact .inr ⟨g, cap, cur, rfl, hg, (hb.block g hlt).trans hc, r⟩
end Go.Proofs.YtjdpolhjbkpnlaaGreatDoor
namespace Go.Proofs.YtjdpolhjbkpnlaaGreatDoor
open Go.RowKit Go.Proofs.SealMath
/-- The number of four bytes, the lowest first. -/
def lwN (c0 c1 c2 c3 : Nat) : Nat := c0 + 256 * c1 + 65536 * c2 + 16777216 * c3
theorem or_at (v c k : Nat) (h : v < 2 ^ k) : v ||| c * 2 ^ k = v + 2 ^ k * c := by
  have := Nat.two_pow_add_eq_or_of_lt h c
  rw [Nat.or_comm, Nat.mul_comm c, Nat.add_comm v]; exact this.symm
theorem or4 (c0 c1 c2 c3 : Nat) (h0 : c0 < 256) (h1 : c1 < 256) (h2 : c2 < 256) (h3 : c3 < 256) :
    bits .or .u32 (bits .or .u32 (bits .or .u32 (c0 : Int) ((c1 : Int) * 256)) ((c2 : Int) * 65536)) ((c3 : Int) * 16777216) = (lwN c0 c1 c2 c3 : Int) := by
  have e1 := u32_or_nat c0 (c1 * 256) (by omega) (by omega)
  rw [show c1 * 256 = c1 * 2 ^ 8 by rfl, or_at c0 c1 8 (by omega), show ((c1 * 2 ^ 8 : Nat) : Int) = (c1 : Int) * 256 by simp] at e1
  have e2 := u32_or_nat (c0 + 2 ^ 8 * c1) (c2 * 65536) (by omega) (by omega)
  rw [show c2 * 65536 = c2 * 2 ^ 16 by rfl, or_at _ c2 16 (by omega), show ((c2 * 2 ^ 16 : Nat) : Int) = (c2 : Int) * 65536 by simp] at e2
  have e3 := u32_or_nat (c0 + 2 ^ 8 * c1 + 2 ^ 16 * c2) (c3 * 16777216) (by omega) (by omega)
  rw [show c3 * 16777216 = c3 * 2 ^ 24 by rfl, or_at _ c3 24 (by omega), show ((c3 * 2 ^ 24 : Nat) : Int) = (c3 : Int) * 16777216 by simp] at e3
  rw [e1, e2, e3]; unfold lwN; omega
theorem lowL_iff (c0 c1 c2 c3 : UInt8) (s : Nat) (hs : s < 4294967296) : [c0, c1, c2, c3] = lowL s ↔ lwN c0.toNat c1.toNat c2.toNat c3.toNat = s := by
  have h0 := c0.toNat_lt; have h1 := c1.toNat_lt; have h2 := c2.toNat_lt; have h3 := c3.toNat_lt
  unfold lowL lwN
  constructor
  · intro h
    simp only [List.cons.injEq, and_true] at h
    obtain ⟨a, b, c, d⟩ := h
    rw [a, b, c, d, u8n, u8n, u8n, u8n]; omega
  · intro h
    subst h
    simp only [List.cons.injEq, and_true]
    refine ⟨?_, ?_, ?_, ?_⟩ <;> apply UInt8.toNat_inj.1 <;> rw [u8n] <;> omega
theorem sub_at (b : ByteArray) (a n k : Nat) (h : a + n ≤ b.size) (hk : k < n) : (sub b a n)[k]'(by rw [sub_len b a n h]; exact hk) = b[a + k]'(by omega) := by
  unfold sub; simp; rfl
theorem sub_four (b : ByteArray) (a : Nat) (h : a + 4 ≤ b.size) : sub b a 4 = [b[a]'(by omega), b[a + 1]'(by omega), b[a + 2]'(by omega), b[a + 3]'(by omega)] := by
  refine List.ext_getElem (by rw [sub_len b a 4 h]; rfl) fun k h1 h2 => ?_
  rw [sub_len b a 4 h] at h1
  rw [sub_at b a 4 k h h1]
  have : k = 0 ∨ k = 1 ∨ k = 2 ∨ k = 3 := by omega
  rcases this with rfl | rfl | rfl | rfl <;> rfl
theorem sub_one' (b : ByteArray) (a : Nat) (h : a + 1 ≤ b.size) : sub b a 1 = [b[a]'(by omega)] := by
  refine List.ext_getElem (by rw [sub_len b a 1 h]; rfl) fun k h1 h2 => ?_
  rw [sub_len b a 1 h] at h1
  rw [sub_at b a 1 k h h1]
  have : k = 0 := by omega
  subst this; rfl
set_option maxRecDepth 100000 in
set_option maxHeartbeats 4000000 in
theorem sumAt_any (b : ByteArray) (a : Nat) (w : World) (hb : b.size < 4611686018427387904) (ha : a + 4 ≤ b.size) :
    Calls Tryz.prog 80 #[.string b, .int .i64 a] w fun e w' => e = .returned (.int .u32 (lwN (b[a]).toNat (b[a + 1]).toNat (b[a + 2]).toNat (b[a + 3]).toNat)) ∧ ∃ m, w' = w.drewN m := by
  have h0 := (b[a]).toNat_lt; have h1 := (b[a + 1]).toNat_lt; have h2 := (b[a + 2]).toNat_lt; have h3 := (b[a + 3]).toNat_lt
  have ho := or4 _ _ _ _ h0 h1 h2 h3
  have i0 : (a : Int) < (b.size : Int) := by omega
  have i1 : (a : Int) + 1 < (b.size : Int) := by omega
  have i2 : (a : Int) + 2 < (b.size : Int) := by omega
  have i3 : (a : Int) + 3 < (b.size : Int) := by omega
  have j0 : 0 ≤ (a : Int) := by omega
  have j1 : 0 ≤ (a : Int) + 1 := by omega
  have j2 : 0 ≤ (a : Int) + 2 := by omega
  have j3 : 0 ≤ (a : Int) + 3 := by omega
  go_enter Tryz.func80, Tryz.ntmps80
  go_wp2
  go_quiet (fail)
  go_wp2
  go_ret
  exact ⟨rfl, ⟨_, rfl⟩⟩
def lwS (l : List UInt8) : Nat := match l with
  | [c0, c1, c2, c3] => lwN c0.toNat c1.toNat c2.toNat c3.toNat
  | _ => 0
theorem lwS_iff (b : ByteArray) (a s : Nat) (h : a + 4 ≤ b.size) (hs : s < 4294967296) : lwS (sub b a 4) = s ↔ sub b a 4 = lowL s := by
  rw [sub_four b a h]; exact (lowL_iff _ _ _ _ s hs).symm
theorem lwS_lt (b : ByteArray) (a : Nat) (h : a + 4 ≤ b.size) : lwS (sub b a 4) < 4294967296 := by
  rw [sub_four b a h]
  have h0 := (b[a]).toNat_lt; have h1 := (b[a + 1]).toNat_lt; have h2 := (b[a + 2]).toNat_lt; have h3 := (b[a + 3]).toNat_lt
  show lwN _ _ _ _ < _; unfold lwN; omega
theorem sumAt_sub (b : ByteArray) (a : Nat) (w : World) (hb : b.size < 4611686018427387904) (ha : a + 4 ≤ b.size) :
    Calls Tryz.prog 80 #[.string b, .int .i64 a] w fun e w' => e = .returned (.int .u32 (lwS (sub b a 4))) ∧ ∃ m, w' = w.drewN m := by
  rw [sub_four b a ha]; exact sumAt_any b a w hb ha
theorem ext_sub (b : ByteArray) (a c : Nat) : (b.extract a c).data.toList = sub b a (c - a) := by
  unfold sub; rw [ByteArray.data_extract, Array.toList_extract, List.extract_eq_take_drop]
set_option maxRecDepth 100000 in
set_option maxHeartbeats 4000000 in
theorem begun_10 (b : ByteArray) (w : World) (hb : b.size < 4611686018427387904) (h10 : 10 ≤ b.size) (hm : (b[0]).toNat = 167) (n : Nat) (x : Int)
    (hR : (n, x) = if sub b 6 4 = lowL (crc 0 (sub b 0 6)) then
      if (b[1]).toNat = 0 then (0, 35)
      else if numL (sub b 2 4) ≤ 65536 then (numL (sub b 2 4), 0)
      else (0, 36)
    else (0, 34)) :
    Calls Tryz.prog 79 #[.string b] w fun e w' => e = .returned (.tuple #[.int .i64 n, .int .i64 x]) ∧ ∃ m, w' = w.drewN m := by
  have h1 := (b[1]).toNat_lt
  have e6 : (b.extract 0 6).data.toList = sub b 0 6 := ext_sub b 0 6
  have s6 : (b.extract 0 6).size = 6 := by rw [ba_size, e6, sub_len b 0 6 (by omega)]
  have hl := lwS_lt b 6 (by omega)
  have hc := crc_lt (s := 0) (sub b 0 6) (by omega)
  have hi := lwS_iff b 6 (crc 0 (sub b 0 6)) (by omega) hc
  have HR : Hid ((n, x) = if sub b 6 4 = lowL (crc 0 (sub b 0 6)) then
      if (b[1]).toNat = 0 then (0, 35)
      else if numL (sub b 2 4) ≤ 65536 then (numL (sub b 2 4), 0)
      else (0, 36)
    else (0, 34)) := hR
  clear hR
  have z6 : (6 : Int) ≤ (b.size : Int) := by omega
  have HE6 : Hid ((b.extract 0 6).data.toList = sub b 0 6) := e6
  clear e6
  have HI : Hid (lwS (sub b 6 4) = crc 0 (sub b 0 6) ↔ sub b 6 4 = lowL (crc 0 (sub b 0 6))) := hi
  clear hi
  obtain ⟨S, hS⟩ : ∃ S, S = crc 0 (sub b 0 6) := ⟨_, rfl⟩
  obtain ⟨L, hL⟩ : ∃ L, L = lwS (sub b 6 4) := ⟨_, rfl⟩
  rw [← hS] at hc
  rw [← hL] at hl
  have HS : Hid (S = crc 0 (sub b 0 6)) := hS
  have HL : Hid (L = lwS (sub b 6 4)) := hL
  clear hS hL
  have hA : ∀ W, Calls Tryz.prog 80 #[.string b, .int .i64 6] W (fun e w' => e = .returned (.int .u32 L) ∧ ∃ m, w' = W.drewN m) := fun W => by rw [HL.out]; exact sumAt_sub b 6 W hb (by omega)
  have hBs : ∀ W, Calls Tryz.prog 81 #[.string (b.extract 0 6)] W (fun e w' => e = .returned (.int .u32 S) ∧ w' = W) := fun W => by rw [HS.out, ← HE6.out]; exact rsum_any (b.extract 0 6) W (by omega)
  go_enter Tryz.func79, Tryz.ntmps79
  go_wp2
  go_quiet (first | (go_at_call 80; exact Calls.quiet_of (hA _)) | (go_at_call 81; exact Calls.quiet_of_same (hBs _)))
  clear hA hBs
  have hI := HI.out
  rw [← HL.out, ← HS.out] at hI
  have hR := HR.out
  rw [← HS.out] at hR
  clear HR HI
  by_cases hq : sub b 6 4 = lowL S
  · rw [if_pos hq] at hR
    have hLS : L = S := hI.2 hq
    have hne : ((L : Int) != (S : Int)) = false := by rw [hLS]; simp
    clear hLS hI hq
    by_cases hz : (b[1]).toNat = 0
    · rw [if_pos hz] at hR
      obtain ⟨rfl, rfl⟩ := Prod.mk.inj hR
      go_wp2
      go_ret2
      exact ⟨rfl, ⟨_, rfl⟩⟩
    · rw [if_neg hz] at hR
      have hn := numL_sub_lt b 2 4 4 (by omega) (by omega)
      have hn' : numL (sub b 2 4) < 4294967296 := hn
      obtain ⟨N, hN⟩ : ∃ N, N = numL (sub b 2 4) := ⟨_, rfl⟩
      have hC : ∀ W, Calls Tryz.prog 101 #[.string b, .int .i64 2, .int .i64 4] W (fun e w' => e = .returned (.int .u64 N) ∧ w' = W) := fun W => by rw [hN]; exact number_ok b 2 4 W hb (by omega) (by omega)
      rw [← hN] at hR hn'
      clear hN hn
      by_cases h6 : N ≤ 65536
      · rw [if_pos h6] at hR
        obtain ⟨rfl, rfl⟩ := Prod.mk.inj hR
        go_wp2_with fail
        refine (hC _).mono ?_
        rintro e w1 ⟨rfl, rfl⟩
        go_wp2
        go_ret2
        exact ⟨rfl, ⟨_, rfl⟩⟩
      · rw [if_neg h6] at hR
        obtain ⟨rfl, rfl⟩ := Prod.mk.inj hR
        go_wp2_with fail
        refine (hC _).mono ?_
        rintro e w1 ⟨rfl, rfl⟩
        go_wp2
        go_ret2
        exact ⟨rfl, ⟨_, rfl⟩⟩
  · rw [if_neg hq] at hR
    obtain ⟨rfl, rfl⟩ := Prod.mk.inj hR
    have hLS : L ≠ S := fun h => hq (hI.1 h)
    have hne : ((L : Int) != (S : Int)) = true := by simp; omega
    clear hLS hI hq
    go_wp2
    go_ret2
    exact ⟨rfl, ⟨_, rfl⟩⟩
theorem mark_iff (b : ByteArray) (h : 1 ≤ b.size) : sub b 0 1 = [167] ↔ (b[0]).toNat = 167 := by
  rw [sub_one' b 0 (by omega)]
  constructor
  · intro e; rw [(List.cons.inj e).1]; rfl
  · intro e; rw [show b[0] = 167 from UInt8.toNat_inj.1 e]
set_option maxRecDepth 100000 in
set_option maxHeartbeats 4000000 in
theorem begun_any (b : ByteArray) (w : World) (hb : b.size < 4611686018427387904) :
    Calls Tryz.prog 79 #[.string b] w fun e w' => e = .returned (.tuple #[.int .i64 (hdA b 0).2.1, .int .i64 (hdA b 0).2.2.2]) ∧ ∃ m, w' = w.drewN m := by
  unfold hdA
  by_cases h0 : b.size ≤ 0
  · rw [if_pos h0]
    have hz : b.size = 0 := by omega
    go_enter Tryz.func79, Tryz.ntmps79
    go_wp2
    go_ret2
    exact ⟨rfl, ⟨0, rfl⟩⟩
  · rw [if_neg h0]
    have h1 : 1 ≤ b.size := by omega
    by_cases hm : (b[0]).toNat = 167
    · rw [if_pos ((mark_iff b h1).2 hm)]
      by_cases h10 : b.size < 0 + 10
      · rw [if_pos h10]
        have h10' : b.size < 10 := by omega
        clear h10 h0
        go_enter Tryz.func79, Tryz.ntmps79
        go_wp2
        go_ret2
        exact ⟨rfl, ⟨0, rfl⟩⟩
      · rw [if_neg h10]
        have h10' : 10 ≤ b.size := by omega
        have e1 : numL (sub b (0 + 1) 1) = (b[1]).toNat := by rw [sub_one' b (0 + 1) (by omega)]; simp [numL]
        rw [e1]
        refine begun_10 b w hb h10' hm _ _ ?_
        by_cases q1 : sub b (0 + 6) 4 = lowL (crc 0 (sub b 0 6))
        · by_cases q2 : (b[1]).toNat = 0
          · simp only [if_pos q1, if_pos q2]
          · by_cases q3 : numL (sub b (0 + 2) 4) ≤ 65536
            · simp only [if_pos q1, if_neg q2, if_pos q3]
            · simp only [if_pos q1, if_neg q2, if_neg q3]
        · simp only [if_neg q1]
    · rw [if_neg (fun h => hm ((mark_iff b h1).1 h))]
      clear h0
      go_enter Tryz.func79, Tryz.ntmps79
      go_wp2
      go_ret2
      exact ⟨rfl, ⟨0, rfl⟩⟩
theorem rest_size (b : ByteArray) (a : Nat) (_h : a ≤ b.size) : (b.extract a b.size).size = b.size - a := by
  rw [ba_size, ext_sub]; unfold sub
  rw [List.length_take, List.length_drop]
  have : b.data.toList.length = b.size := Array.length_toList
  omega
theorem rest_sub (b : ByteArray) (a i n : Nat) (h : a + i + n ≤ b.size) : sub (b.extract a b.size) i n = sub b (a + i) n := by
  have e := ext_sub b a b.size
  unfold sub at e ⊢
  rw [e, List.drop_take, List.take_take, List.drop_drop]
  congr 1; omega
theorem hdA_rest (b : ByteArray) (a : Nat) (ha : a ≤ b.size) : hdA (b.extract a b.size) 0 = hdA b a := by
  unfold hdA
  rw [rest_size b a ha]
  by_cases h0 : b.size ≤ a
  · rw [if_pos (by omega), if_pos h0]
  · rw [if_neg (by omega), if_neg h0, rest_sub b a 0 1 (by omega)]
    by_cases h1 : sub b a 1 = [167]
    · rw [Nat.add_zero, if_pos h1, if_pos h1]
      by_cases h10 : b.size < a + 10
      · rw [if_pos (by omega), if_pos h10]
      · rw [if_neg (by omega), if_neg h10, rest_sub b a (0 + 6) 4 (by omega), rest_sub b a 0 6 (by omega), rest_sub b a (0 + 1) 1 (by omega), rest_sub b a (0 + 2) 4 (by omega)]
        rfl
    · rw [Nat.add_zero, if_neg h1, if_neg h1]
/-- The first six bytes with the payload behind them: On, or Sum of the whole. -/
theorem hdA_sum (b : ByteArray) (a : Nat) (h : (hdA b a).2.2.2 = 0) : (hdA b a).2.2.1 = crc 0 (sub b a 6) ∧ (hdA b a).1 = numL (sub b (a + 1) 1) := by
  unfold hdA at h ⊢
  split at h
  · simp at h
  · split at h
    · split at h
      · simp at h
      · split at h
        · split at h
          · simp at h
          · split at h
            · rename_i h1 h2 h3 h4 h5 h6
              rw [if_neg h1, if_pos h2, if_neg h3, if_pos h4, if_neg h5, if_pos h6]
              exact ⟨rfl, rfl⟩
            · simp at h
        · simp at h
    · simp at h
end Go.Proofs.YtjdpolhjbkpnlaaGreatDoor
set_option linter.unusedVariables false
set_option linter.unusedSimpArgs false
namespace Go.Proofs.YtjdpolhjbkpnlaaGreatDoor.Dx
open Go.RowKit Go.Proofs.SealMath
/-- Numbers one behind the other, as the document reads them, and the place behind them. -/
def nsD (b : ByteArray) : Nat → Nat → Option (List Nat × Nat)
  | 0, p => some ([], p)
  | k + 1, p => if (vA b (p : Int)).2.2 = 0 ∧ (vA b (p : Int)).1 ≤ 4611686018427387904 then (nsD b k (vA b (p : Int)).2.1).map (fun x => ((vA b (p : Int)).1 :: x.1, x.2)) else none
theorem nsD_put (b : ByteArray) : ∀ (l : List Nat) (p : Nat), (∀ n ∈ l, n ≤ 4611686018427387904) → sub b p (l.flatMap (pvL 9)).length = l.flatMap (pvL 9) → p + (l.flatMap (pvL 9)).length ≤ b.size → nsD b l.length p = some (l, p + (l.flatMap (pvL 9)).length)
  | [], p, _, _, _ => rfl
  | n :: l, p, hn, hs, hb => by
    have h0 := hn n (by simp)
    rw [List.flatMap_cons] at hs hb ⊢
    rw [List.length_append] at hs hb ⊢
    obtain ⟨s1, s2⟩ := sub_cut b p _ _ _ _ hs rfl rfl
    have h1 := vA_put b p n (by omega) s1 (by omega)
    rw [List.length_cons, nsD, h1]
    dsimp only
    rw [if_pos ⟨rfl, h0⟩, nsD_put b l _ (fun x hx => hn x (List.mem_cons_of_mem _ hx)) s2 (by omega)]
    simp only [Option.map_some]
    rw [Nat.add_assoc]
theorem nsD_at (b : ByteArray) : ∀ (k p q : Nat) (l : List Nat), nsD b k p = some (l, q) → p ≤ b.size → l.length = k ∧ p ≤ q ∧ q ≤ b.size ∧ ∀ n ∈ l, n ≤ 4611686018427387904
  | 0, p, q, l, h, hp => by simp [nsD] at h; obtain ⟨rfl, rfl⟩ := h; simp [hp]
  | k + 1, p, q, l, h, hp => by
    rw [nsD] at h
    split at h
    · rename_i h1
      have h2 := vA_at b p h1.1
      cases h3 : nsD b k (vA b (p : Int)).2.1 with
      | none => rw [h3] at h; cases h
      | some x =>
        obtain ⟨m, r⟩ := x
        rw [h3] at h
        simp only [Option.map_some, Option.some.injEq, Prod.mk.injEq] at h
        obtain ⟨rfl, rfl⟩ := h
        obtain ⟨a1, a2, a3, a4⟩ := nsD_at b k _ _ _ h3 h2.2.2
        refine ⟨by rw [List.length_cons, a1], by omega, a3, fun n hn => ?_⟩
        rcases List.mem_cons.1 hn with rfl | hn
        · exact h1.2
        · exact a4 n hn
    · cases h
/-- The entry at a place of a block, and the place behind it, as the document reads it. -/
def eaD (b : ByteArray) (a cb : Nat) : Option (En × Nat) :=
  if b.size < a + (4 + cb) then none
  else match nsD (b.extract (a + 4 + cb) b.size) 2 0 with
    | some ([i, s], u) => if b.size ≤ a + 4 + cb + u then none else some (⟨(numL (sub b a 4) : Nat), b.extract (a + 4) (a + 4 + cb), (i : Nat), (s : Nat), sub b (a + 4 + cb + u) 1 == [1]⟩, a + 4 + cb + u + 1)
    | _ => none
theorem eaD_next {b : ByteArray} {a cb q : Nat} {e : En} (h : eaD b a cb = some (e, q)) : a + cb + 4 < q ∧ q ≤ b.size := by
  unfold eaD at h
  split at h
  · cases h
  · split at h
    · split at h
      · cases h
      · simp only [Option.some.injEq, Prod.mk.injEq] at h
        obtain ⟨-, rfl⟩ := h
        omega
    · cases h
/-- An entry that goes. -/
structure Okd (cb : Nat) (e : En) : Prop where
  v : 0 ≤ e.v ∧ e.v < 4294967296
  i : 0 ≤ e.i ∧ e.i ≤ 4611686018427387904
  s : 0 ≤ e.s ∧ e.s ≤ 4611686018427387904
  c : e.c.size = cb
theorem eaD_put (b : ByteArray) (a cb : Nat) (e : En) (ho : Okd cb e) (h : sub b a (enB e).length = enB e) (hb : a + (enB e).length ≤ b.size) : eaD b a cb = some (e, a + (enB e).length) := by
  obtain ⟨hv, hi, hs, hc⟩ := ho
  obtain ⟨v, c, i, s, d⟩ := e
  dsimp only at *
  obtain ⟨v, rfl⟩ : ∃ V : Nat, v = V := ⟨v.toNat, by omega⟩
  obtain ⟨i, rfl⟩ : ∃ V : Nat, i = V := ⟨i.toNat, by omega⟩
  obtain ⟨s, rfl⟩ : ∃ V : Nat, s = V := ⟨s.toNat, by omega⟩
  have hcl : c.data.toList.length = cb := by rw [cl, hc]
  have hl : (enB ⟨v, c, i, s, d⟩).length = 4 + (cb + (((pvL 9 i).length + (pvL 9 s).length) + 1)) := by
    unfold enB plB
    simp only [List.length_append, fixL_len, dB_len, Int.toNat_natCast]
    omega
  have he : enB ⟨v, c, i, s, d⟩ = fixL v 4 ++ (c.data.toList ++ ((pvL 9 i ++ pvL 9 s) ++ dB d)) := by
    unfold enB plB
    simp only [List.append_assoc, Int.toNat_natCast]
  rw [hl] at hb
  rw [hl, he] at h
  obtain ⟨s1, h⟩ := sub_cut b a _ _ _ _ h (fixL_len v 4) (by simp only [List.length_append, dB_len]; omega)
  obtain ⟨s2, h⟩ := sub_cut b _ _ _ _ _ h hcl (by simp only [List.length_append, dB_len])
  obtain ⟨s3, s5⟩ := sub_cut b _ _ _ _ _ h (by rw [List.length_append]) (dB_len d)
  have hp := nsD_put (b.extract (a + 4 + cb) b.size) [i, s] 0 (by
    intro x hx
    simp only [List.mem_cons, List.not_mem_nil, or_false] at hx
    omega) (by
      rw [rest_sub b (a + 4 + cb) 0 _ (by simp only [List.flatMap_cons, List.flatMap_nil, List.append_nil, List.length_append]; omega)]
      simp only [List.flatMap_cons, List.flatMap_nil, List.append_nil, List.length_append, Nat.add_zero]
      exact s3) (by
      rw [rest_size b (a + 4 + cb) (by omega)]
      simp only [List.flatMap_cons, List.flatMap_nil, List.append_nil, List.length_append]
      omega)
  simp only [List.flatMap_cons, List.flatMap_nil, List.append_nil, List.length_append, List.length_cons, List.length_nil, Nat.zero_add] at hp
  unfold eaD
  rw [if_neg (by omega), hp]
  dsimp only
  rw [if_neg (by omega), s1, num_fix v (by omega)]
  have hd : (dB d == [1]) = d := by cases d <;> rfl
  have hx : b.extract (a + 4) (a + 4 + cb) = c := by
    apply ba_ext
    rw [ext_sub, show a + 4 + cb - (a + 4) = cb by omega, s2]
  rw [show a + 4 + cb + ((pvL 9 i).length + (pvL 9 s).length) = a + 4 + cb + ((pvL 9 i).length + (pvL 9 s).length) from rfl, s5, hd, hx, hl]
  rw [show a + 4 + cb + ((pvL 9 i).length + (pvL 9 s).length) + 1 = a + (4 + (cb + ((pvL 9 i).length + (pvL 9 s).length + 1))) by omega]
/-- The entries of a block from a place on; none, if one of them can't be read. -/
def esD (cb : Nat) (b : ByteArray) : Nat → Nat → Option (List En)
  | 0, _ => some []
  | f + 1, a => if b.size ≤ a then some [] else match eaD b a cb with
    | none => none
    | some (e, q) => (esD cb b f q).map (e :: ·)
theorem esD_put (cb : Nat) (b : ByteArray) : ∀ (l : List En) (a f : Nat), (∀ e ∈ l, Okd cb e) → sub b a (l.flatMap enB).length = l.flatMap enB → a + (l.flatMap enB).length = b.size → b.size - a < f → esD cb b f a = some l
  | _, _, 0, _, _, _, hf => by omega
  | [], a, f + 1, _, _, h, _ => by rw [esD, if_pos (by simp at h; omega)]
  | e :: l, a, f + 1, ho, hs, hb, hf => by
    have h1 := ho e (by simp)
    have h7 := (enB_len e).2
    rw [List.flatMap_cons] at hs hb
    rw [List.length_append] at hs hb
    obtain ⟨s1, s2⟩ := sub_cut b a _ _ _ _ hs rfl rfl
    rw [esD, if_neg (by omega), eaD_put b a cb e h1 s1 (by omega)]
    dsimp only
    rw [esD_put cb b l _ f (fun x hx => ho x (List.mem_cons_of_mem _ hx)) s2 (by omega) (by omega)]
    rfl
/-- The entries of blocks. -/
def bsD (cb : Nat) : List (List UInt8) → Option (List En)
  | [] => some []
  | p :: r => (esD cb ⟨p.toArray⟩ (p.length + 1) 0).bind fun l => (bsD cb r).map (l ++ ·)
theorem bsD_put (cb : Nat) : ∀ ps : List (Nat × List En), (∀ q ∈ ps, ∀ x ∈ q.2, Okd cb x) → bsD cb (ps.map fun p => p.2.flatMap enB) = some (ps.map (·.2)).flatten
  | [], _ => rfl
  | q :: ps, h => by
    have hs : (⟨(q.2.flatMap enB).toArray⟩ : ByteArray).size = (q.2.flatMap enB).length := by rw [ba_size]
    have h1 : esD cb ⟨(q.2.flatMap enB).toArray⟩ ((q.2.flatMap enB).length + 1) 0 = some q.2 := by
      refine esD_put cb _ q.2 0 _ (h q (by simp)) ?_ (by rw [hs]; omega) (by rw [hs]; omega)
      unfold sub
      rw [List.drop_zero, List.take_of_length_le (Nat.le_refl _)]
    rw [List.map_cons, bsD, h1, bsD_put cb ps (fun x hx => h x (List.mem_cons_of_mem _ hx))]
    rfl
/-- The payloads of the blocks' frames at the beginning. -/
def pyl (r : List Fr) : List (List UInt8) := (r.takeWhile fun f => f.1 == 5).map (·.2.1)
theorem pyl_frs (b : ByteArray) : ∀ f a, pyl (frs b f a).1 = blksF f b a
  | 0, a => rfl
  | f + 1, a => by
    rw [frs, blksF]
    by_cases h : (psA b a).2.2.2 = 0
    · rw [if_pos h]
      by_cases h5 : (psA b a).1 = 5
      · rw [if_pos ⟨h, h5⟩, ← pyl_frs b f]
        unfold pyl
        simp [List.takeWhile_cons, h5]
      · rw [if_neg (fun k => h5 k.2)]
        unfold pyl
        simp [List.takeWhile_cons, h5]
    · rw [if_neg h, if_neg (fun k => h k.1)]
      rfl
/-- What the document's read answers. -/
def rdD (l : List Fr) : Option (Hd × List En) := match l with
  | [] => none
  | (k, p, _) :: r => if k = 4 then match nsD ⟨p.toArray⟩ 6 0 with
      | some ([a, c, d, e, f, g], _) => if isW (a : Int) = true then (bsD (a / 8) (pyl r)).map fun m => (⟨a, c, d, e, f, g⟩, m) else none
      | _ => none
    else none
theorem bdE_okd {h : Hd} {l : List En} (e : bdE h l = 0) : ∀ x ∈ l, Okd (cbH h) x := fun x hx => by
  obtain ⟨h1, h2, h3, h4⟩ := bdE_ok e
  have hc := bdE_codes e x hx
  have he := lsE_codes l none h3 x hx
  obtain ⟨k1, k2, k3, k4, k5, k6⟩ := hdE0 h1
  unfold enE at he
  refine ⟨hc.v, ?_, ?_, hc.c⟩ <;> (repeat' split at he) <;> first | (simp at he; done) | (exfalso; omega) | omega
theorem rdD_file (h : Hd) (l : List En) (e : bdE h l = 0) : rdD (frs ⟨(fileT h l).toArray⟩ ((⟨(fileT h l).toArray⟩ : ByteArray).size + 1) 0).1 = some ({ h with n := l.length }, l) := by
  obtain ⟨hh, hn, hls, hok⟩ := bdE_ok e
  obtain ⟨k1, k2, k3, k4, k5, k6⟩ := hdE0 hh
  have hw := isW_bd k1
  have hokd := bdE_okd e
  have hrd := rd_file h l e
  have hlen := hdB_len h l.length
  obtain ⟨b, hb⟩ : ∃ b : ByteArray, b = ⟨(fileT h l).toArray⟩ := ⟨_, rfl⟩
  rw [← hb] at hrd ⊢
  have hp := ps_at b 4 (hdB h l.length) [] _ (by omega) (by omega) (by omega) (by rw [hb]; show fileT h l = _; rw [file_parts]; rfl)
  rw [List.length_nil] at hp
  unfold rdA at hrd
  rw [hp] at hrd
  simp only [and_self, if_true] at hrd
  split at hrd
  · simp only [Option.some.injEq, Prod.mk.injEq] at hrd
    have hbl := hrd.2
    have hsz : 0 + ((hdB h l.length).length + 14) ≤ b.size := by
      have := psA_next (b := b) (a := 0) (by rw [hp])
      rw [hp] at this
      exact this.2.1
    have hpy : pyl (frs b b.size (0 + ((hdB h l.length).length + 14))).1 = (pk enB l).map fun p => p.2.flatMap enB := by
      rw [pyl_frs, blksF_more b b.size (b.size + 1) _ (by omega) (by omega)]
      exact hbl
    rw [frs, hp, if_pos rfl]
    dsimp only
    have hns : nsD ⟨(hdB h l.length).toArray⟩ 6 0 = some ([h.w.toNat, h.t.toNat, h.b.toNat, h.lo.toNat, h.hi.toNat, l.length], 0 + (hdB h l.length).length) := by
      have e2 : hdB h l.length = [h.w.toNat, h.t.toNat, h.b.toNat, h.lo.toNat, h.hi.toNat, l.length].flatMap (pvL 9) := by
        unfold hdB
        simp only [List.flatMap_cons, List.flatMap_nil, List.append_nil]
      have := nsD_put ⟨(hdB h l.length).toArray⟩ [h.w.toNat, h.t.toNat, h.b.toNat, h.lo.toNat, h.hi.toNat, l.length] 0 (by
        intro x hx
        simp only [List.mem_cons, List.not_mem_nil, or_false] at hx
        omega) (by rw [← e2, sub_all]) (by rw [← e2, ba_len]; omega)
      rw [← e2] at this
      exact this
    unfold rdD
    dsimp only
    rw [if_pos rfl, hns]
    dsimp only
    have hcb : h.w.toNat / 8 = cbH h := by unfold cbH; omega
    rw [hpy, hcb, bsD_put (cbH h) (pk enB l) (fun q hq x hx => hokd x (by
      rw [← pk_flat enB l]
      exact List.mem_flatten.2 ⟨_, List.mem_map.2 ⟨_, hq, rfl⟩, hx⟩)), pk_flat]
    rw [if_pos (by rw [show ((h.w.toNat : Nat) : Int) = h.w by omega]; exact k1)]
    simp only [Option.map_some]
    congr 2
    have q1 : ((h.w.toNat : Nat) : Int) = h.w := by omega
    have q2 : ((h.t.toNat : Nat) : Int) = h.t := by omega
    have q3 : ((h.b.toNat : Nat) : Int) = h.b := by omega
    have q4 : ((h.lo.toNat : Nat) : Int) = h.lo := by omega
    have q5 : ((h.hi.toNat : Nat) : Int) = h.hi := by omega
    rw [q1, q2, q3, q4, q5]
  · cases hrd
/-- What the document's Open answers. -/
def opD (b : ByteArray) : Option (Hd × List En) := match rdD (frs b (b.size + 1) 0).1 with
  | none => none
  | some (h, m) => if bdE h m = 0 ∧ bdT h m = b.data.toList then some ({ h with n := m.length }, m) else none
/-- Both Opens take the same texts, and tell the same. -/
theorem opD_eq (b : ByteArray) : opD b = (opA b).map fun x => (x.1, alA (cbH x.1) x.2) := by
  cases hA : opA b with
  | some x =>
    obtain ⟨h, bl⟩ := x
    obtain ⟨-, h2, h3⟩ := opA_some hA
    have hn := (op_only hA).1
    have hb : b = ⟨(fileT h (alA (cbH h) bl)).toArray⟩ := by apply ba_ext; rw [← h3]
    have hr := rdD_file h _ h2
    rw [← hb] at hr
    unfold opD
    rw [hr]
    dsimp only
    rw [bdE_n, bdT_n, if_pos ⟨h2, by unfold bdT; rw [if_pos h2]; exact h3⟩]
    simp only [Option.map_some]
    congr 2
    rw [← hn]
  | none =>
    unfold opD
    split
    · rfl
    · rename_i h m heq
      split
      · rename_i hc
        exfalso
        have hf : fileT h m = b.data.toList := by have := hc.2; unfold bdT at this; rw [if_pos hc.1] at this; exact this
        have hb : b = ⟨(fileT h m).toArray⟩ := by apply ba_ext; rw [← hf]
        have := (op_file h m hc.1).1
        rw [← hb, hA] at this
        cases this
      · rfl
end Go.Proofs.YtjdpolhjbkpnlaaGreatDoor.Dx
