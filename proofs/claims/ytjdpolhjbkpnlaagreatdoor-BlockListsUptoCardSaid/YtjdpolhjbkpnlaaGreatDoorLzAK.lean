/-
  DERIVED. BRef3, BRef6, BX2, BEa, BEn, as one text.
-/
import Derived.Test.YtjdpolhjbkpnlaaGreatDoorLzAJ
import Derived.Shelf.RegionOpenPlain
import Derived.Test.YtjdpolhjbkpnlaaGreatDoorLzAD
import Derived.Test.YtjdpolhjbkpnlaaGreatDoorLzAE
set_option linter.unusedVariables false
set_option linter.unusedSimpArgs false
namespace Go.Proofs.YtjdpolhjbkpnlaaGreatDoor
open Go.RowKit Go.Proofs.SealMath
set_option maxHeartbeats 1000000 in
set_option maxRecDepth 100000 in
theorem rgoes_any (h : Hd) (l : List En) (la : Option Addr) (cap : Nat) (w : World) (hl : LAt w la l) (hcm : l.length < 4611686018427387904) :
    Calls Tryz.prog 44 #[.agg (hdC h).toArray, .slice la l.length cap] w fun r w' => r = .returned (.int .i64 (bdE h l)) ∧ Below w.heap.size w w' := by
  by_cases hh : hdE h = 0
  · obtain ⟨k1, k2, k3, k4, k5, k6⟩ := hdE0 hh
    have U0 := SAt.new w (hdC h) 31
    have bA : Below w.heap.size w (w.alloc (.cells (hdC h).toArray 31)) := (Below.refl _ w).alloc (Nat.le_refl _) _
    have kt := k2.1
    have kt' := k2.2
    have kb := k3.1
    have kb' := k3.2
    have hCE := fun e W => rone_any h e W k1 k3
    have q0 := U0 0 _ rfl
    have q1 := U0 1 _ rfl
    have q2 := U0 2 _ rfl
    have q3 := U0 3 _ rfl
    have q4 := U0 4 _ rfl
    have q5 := U0 5 _ rfl
    have HW := Hid.mk k1
    clear k1 k2 k3 U0
    by_cases hn : l.length ≤ 2097152
    · have eE : bdE h l = lsI h l 0 := by unfold bdE; rw [if_pos hh, if_pos hn]; rfl
      obtain ⟨E, hE⟩ : ∃ E, E = lsI h l 0 := ⟨_, rfl⟩
      rw [eE, ← hE]
      have HE := Hid.mk hE
      have HST := Hid.mk (And.intro (fun i hi => lsI_step h l i hi) (lsI_end h l))
      have hln : (l.length : Int) ≤ 2097152 := by omega
      clear eE hE hn hh
      have HL := Hid.mk hl
      clear hl
      obtain ⟨wd, t, b, lo, hi, n⟩ := h
      simp only [hdC] at bA q0 q1 q2 q3 q4 q5 hCE HW kt kt' kb kb' k4 k5 k6 ⊢
      go_enter Tryz.func44, Tryz.ntmps44
      go_wp2_with (go_at_call 42; refine (rwidth_any _ _).mono ?_; rintro e w' ⟨rfl, rfl⟩; rw [HW.out])
      obtain ⟨w2, hw2⟩ : ∃ w2, w2 = w.alloc (.cells #[.int .i64 wd, .int .i64 t, .int .i64 b, .int .i64 lo, .int .i64 hi, .int .i64 n] 31) := ⟨_, rfl⟩
      rw [← hw2] at bA q0 q1 q2 q3 q4 q5 ⊢
      clear hw2
      go_loopw [5] (fun u wr => ∃ i : Nat, u = .int .i64 i ∧ i ≤ l.length ∧ lsI ⟨wd, t, b, lo, hi, n⟩ l i = E ∧ Below w2.heap.size w2 wr) (fun u _ => l.length - (intOf u).toNat)
      case atStart => exact ⟨0, rfl, Nat.zero_le _, HE.out.symm, Below.refl _ _⟩
      case round =>
        obtain ⟨i, rfl, hi1, hE, hb⟩ := hrel
        have hbw := chain bA hb (Nat.le_refl _)
        by_cases hlt : i < l.length
        · obtain ⟨g, off, hla, hra⟩ := (HL.out.below hbw).at' (fun h => by rw [h] at hlt; simp at hlt)
          subst hla
          obtain ⟨x0, x1, x2, x3, x4⟩ := row_en hra rfl i hlt
          have hstep := HST.out.1 i hlt
          rw [hE] at hstep
          have p0 := cell_lat hb q0
          have p1 := cell_lat hb q1
          have p2 := cell_lat hb q2
          have p3 := cell_lat hb q3
          have p4 := cell_lat hb q4
          have p5 := cell_lat hb q5
          have i1 : (i : Int) < (l.length : Int) := by omega
          have hce := hCE l[i]
          obtain ⟨e, he⟩ : ∃ e, e = l[i] := ⟨_, rfl⟩
          rw [← he] at x0 x1 x2 x3 x4 hstep hce
          simp only [enC] at hce
          clear he q0 q1 q2 q3 q4 q5 hE
          by_cases hee : enE ⟨wd, t, b, lo, hi, n⟩ e = 0
          · rw [hee] at hce
            rw [if_pos hee] at hstep
            clear hee
            have HSt := Hid.mk hstep
            clear hstep
            go_wp2
            go_region_held (fun w' => Below wr.heap.size wr w' ∧ w'.cell? ⟨g, off + i * 5, none⟩ = some (.int .i64 e.v) ∧ w'.cell? ⟨g, off + i * 5 + 1, none⟩ = some (.string e.c) ∧ w'.cell? ⟨g, off + i * 5 + 2, none⟩ = some (.int .i64 e.i) ∧ w'.cell? ⟨g, off + i * 5 + 3, none⟩ = some (.int .i64 e.s) ∧ w'.cell? ⟨g, off + i * 5 + 4, none⟩ = some (.bool e.d) ∧ w'.cell? ⟨w.heap.size, 0, none⟩ = some (.int .i64 wd) ∧ w'.cell? ⟨w.heap.size, 1, none⟩ = some (.int .i64 t) ∧ w'.cell? ⟨w.heap.size, 2, none⟩ = some (.int .i64 b) ∧ w'.cell? ⟨w.heap.size, 3, none⟩ = some (.int .i64 lo) ∧ w'.cell? ⟨w.heap.size, 4, none⟩ = some (.int .i64 hi) ∧ w'.cell? ⟨w.heap.size, 5, none⟩ = some (.int .i64 n))
              ((refine (fun hb => ⟨hb, cell_lat hb x0, cell_lat hb x1, cell_lat hb x2, cell_lat hb x3, cell_lat hb x4, cell_lat hb p0, cell_lat hb p1, cell_lat hb p2, cell_lat hb p3, cell_lat hb p4, cell_lat hb p5⟩) ?_; first | exact bb | exact b_drew wr))
              ((go_at_call 84; refine (hce _).mono ?_; rintro r w3 ⟨rfl, b3⟩; have bb : Below wr.heap.size wr w3 := below_d b3))
            clear hce
            go_wp2
            have bN := chain hb bb (Nat.le_refl _)
            have bW3 := chain hbw bb (Nat.le_refl _)
            by_cases hi0 : i = 0
            · have hs := HSt.out
              rw [if_pos (.inl hi0)] at hs
              have HS := Hid.mk hs
              clear hs HSt x0 x1 x2 x3 x4
              subst hi0
              go_region
              go_wp2
              refine ⟨⟨0 + 1, ival (by omega), hlt, HS.out.symm, bN.drew⟩, by simp only [intOf]; omega⟩
            · obtain ⟨j, hj⟩ : ∃ j, i = j + 1 := ⟨i - 1, by omega⟩
              subst hj
              have hj1 : j < l.length := by omega
              obtain ⟨z0, z1, z2, z3, z4⟩ := row_en hra rfl j hj1
              have hjA : 0 ≤ (j : Int) := by omega
              have hjB : (j : Int) < (l.length : Int) := by omega
              have hcmp := rless_any l[j] e
              have hq : l[j + 1 - 1]? = some l[j] := List.getElem?_eq_getElem hj1
              obtain ⟨f, hf⟩ : ∃ f, f = l[j] := ⟨_, rfl⟩
              rw [← hf] at z0 z1 z2 z3 z4 hcmp hq
              have y0 := cell_lat bb x0
              have y1 := cell_lat bb x1
              have y2 := cell_lat bb x2
              have y3 := cell_lat bb x3
              have y4 := cell_lat bb x4
              have z0 := cell_lat bb z0
              have z1 := cell_lat bb z1
              have z2 := cell_lat bb z2
              have z3 := cell_lat bb z3
              have z4 := cell_lat bb z4
              clear hf x0 x1 x2 x3 x4
              simp only [enC] at hcmp
              have hw3 : IntKind.i64.wrap (j : Int) = j := by rw [IntKind.wrap_i64]; omega
              have HQ := Hid.mk hq
              clear hq
              cases hls : lsB f e
              · have hs := HSt.out
                rw [if_neg (fun h => by
                  rcases h with h | ⟨q, h1, h2⟩
                  · omega
                  · rw [HQ.out] at h1; cases h1; rw [hls] at h2; cases h2)] at hs
                have HS := Hid.mk hs
                rw [hls] at hcmp
                clear hs hls HSt
                have B3 := Hid.mk bW3
                clear bb b3 bN bW3
                go_region_held (fun w' => Below w3.heap.size w3 w' ∧ w'.cell? ⟨g, off + j * 5, none⟩ = some (.int .i64 f.v) ∧ w'.cell? ⟨g, off + j * 5 + 1, none⟩ = some (.string f.c) ∧ w'.cell? ⟨g, off + j * 5 + 2, none⟩ = some (.int .i64 f.i) ∧ w'.cell? ⟨g, off + j * 5 + 3, none⟩ = some (.int .i64 f.s) ∧ w'.cell? ⟨g, off + j * 5 + 4, none⟩ = some (.bool f.d) ∧ w'.cell? ⟨g, off + (j + 1) * 5, none⟩ = some (.int .i64 e.v) ∧ w'.cell? ⟨g, off + (j + 1) * 5 + 1, none⟩ = some (.string e.c) ∧ w'.cell? ⟨g, off + (j + 1) * 5 + 2, none⟩ = some (.int .i64 e.i) ∧ w'.cell? ⟨g, off + (j + 1) * 5 + 3, none⟩ = some (.int .i64 e.s) ∧ w'.cell? ⟨g, off + (j + 1) * 5 + 4, none⟩ = some (.bool e.d))
                  ((refine (fun hb => ⟨hb, cell_lat hb z0, cell_lat hb z1, cell_lat hb z2, cell_lat hb z3, cell_lat hb z4, cell_lat hb y0, cell_lat hb y1, cell_lat hb y2, cell_lat hb y3, cell_lat hb y4⟩) ?_; first | exact bb | exact b_drew w3))
                  ((go_at_call 32; refine (hcmp _).mono ?_; rintro r w4 ⟨rfl, b4⟩; have bb : Below w3.heap.size w3 w4 := below_d b4))
                all_goals
                  clear hw3
                  go_wp2
                  go_ret
                  rw [HS.out]
                  exact ⟨rfl, chain B3.out bb (Nat.le_refl _)⟩
              · have hs := HSt.out
                rw [if_pos (.inr ⟨f, HQ.out, hls⟩)] at hs
                have HS := Hid.mk hs
                rw [hls] at hcmp
                clear hs hls HSt
                have B3 := Hid.mk bN
                clear bb b3 bN bW3
                go_region_held (fun w' => Below w3.heap.size w3 w' ∧ w'.cell? ⟨g, off + j * 5, none⟩ = some (.int .i64 f.v) ∧ w'.cell? ⟨g, off + j * 5 + 1, none⟩ = some (.string f.c) ∧ w'.cell? ⟨g, off + j * 5 + 2, none⟩ = some (.int .i64 f.i) ∧ w'.cell? ⟨g, off + j * 5 + 3, none⟩ = some (.int .i64 f.s) ∧ w'.cell? ⟨g, off + j * 5 + 4, none⟩ = some (.bool f.d) ∧ w'.cell? ⟨g, off + (j + 1) * 5, none⟩ = some (.int .i64 e.v) ∧ w'.cell? ⟨g, off + (j + 1) * 5 + 1, none⟩ = some (.string e.c) ∧ w'.cell? ⟨g, off + (j + 1) * 5 + 2, none⟩ = some (.int .i64 e.i) ∧ w'.cell? ⟨g, off + (j + 1) * 5 + 3, none⟩ = some (.int .i64 e.s) ∧ w'.cell? ⟨g, off + (j + 1) * 5 + 4, none⟩ = some (.bool e.d))
                  ((refine (fun hb => ⟨hb, cell_lat hb z0, cell_lat hb z1, cell_lat hb z2, cell_lat hb z3, cell_lat hb z4, cell_lat hb y0, cell_lat hb y1, cell_lat hb y2, cell_lat hb y3, cell_lat hb y4⟩) ?_; first | exact bb | exact b_drew w3))
                  ((go_at_call 32; refine (hcmp _).mono ?_; rintro r w4 ⟨rfl, b4⟩; have bb : Below w3.heap.size w3 w4 := below_d b4))
                all_goals
                  clear hw3
                  go_wp2
                  refine ⟨⟨j + 1 + 1, ival (by omega), hlt, HS.out.symm, chain B3.out bb (Nat.le_refl _)⟩, by simp only [intOf]; omega⟩
          · rw [if_neg hee] at hstep
            have h1 : (enE ⟨wd, t, b, lo, hi, n⟩ e != 0) = true := by simpa using hee
            rw [← hstep] at hce h1
            clear hstep hee
            go_wp2
            go_region_held (fun w' => Below wr.heap.size wr w' ∧ w'.cell? ⟨g, off + i * 5, none⟩ = some (.int .i64 e.v) ∧ w'.cell? ⟨g, off + i * 5 + 1, none⟩ = some (.string e.c) ∧ w'.cell? ⟨g, off + i * 5 + 2, none⟩ = some (.int .i64 e.i) ∧ w'.cell? ⟨g, off + i * 5 + 3, none⟩ = some (.int .i64 e.s) ∧ w'.cell? ⟨g, off + i * 5 + 4, none⟩ = some (.bool e.d) ∧ w'.cell? ⟨w.heap.size, 0, none⟩ = some (.int .i64 wd) ∧ w'.cell? ⟨w.heap.size, 1, none⟩ = some (.int .i64 t) ∧ w'.cell? ⟨w.heap.size, 2, none⟩ = some (.int .i64 b) ∧ w'.cell? ⟨w.heap.size, 3, none⟩ = some (.int .i64 lo) ∧ w'.cell? ⟨w.heap.size, 4, none⟩ = some (.int .i64 hi) ∧ w'.cell? ⟨w.heap.size, 5, none⟩ = some (.int .i64 n))
              ((refine (fun hb => ⟨hb, cell_lat hb x0, cell_lat hb x1, cell_lat hb x2, cell_lat hb x3, cell_lat hb x4, cell_lat hb p0, cell_lat hb p1, cell_lat hb p2, cell_lat hb p3, cell_lat hb p4, cell_lat hb p5⟩) ?_; first | exact bb | exact b_drew wr))
              ((go_at_call 84; refine (hce _).mono ?_; rintro r w3 ⟨rfl, b3⟩; have bb : Below wr.heap.size wr w3 := below_d b3))
            all_goals
              clear hce
              go_wp2
              go_ret
              exact ⟨rfl, chain hbw bb (Nat.le_refl _)⟩
        · have e1 : i = l.length := by omega
          subst e1
          have h0 : E = 0 := by rw [← hE]; exact HST.out.2
          have H0 := Hid.mk h0
          clear hE h0
          go_wp2
          go_ret
          rw [H0.out]
          exact ⟨rfl, hbw⟩
    · have e1 : bdE h l = 43 := by unfold bdE; rw [if_pos hh, if_neg hn]
      rw [e1]
      have hn' : (2097152 : Int) < (l.length : Int) := by omega
      obtain ⟨wd, t, b, lo, hi, n⟩ := h
      simp only [hdC] at bA q0 q1 q2 q3 q4 q5 HW kt kt' kb kb' k4 k5 k6 ⊢
      clear e1 hh hn hCE
      go_enter Tryz.func44, Tryz.ntmps44
      go_wp2_with (go_at_call 42; refine (rwidth_any _ _).mono ?_; rintro e w' ⟨rfl, rfl⟩; rw [HW.out])
      go_ret
      exact ⟨rfl, bA⟩
  · exact rgoes_no h l la cap w hh
end Go.Proofs.YtjdpolhjbkpnlaaGreatDoor
set_option linter.unusedVariables false
set_option linter.unusedSimpArgs false
namespace Go.Proofs.YtjdpolhjbkpnlaaGreatDoor.Rb
open Go.RowKit Go.Proofs.SealMath
theorem infoS9 : (Tryz.prog.info? 9).map (fun i => (i.zero, i.size, i.bytes)) = some (some (.string ⟨#[]⟩), 1, 16) := by kernel_rfl
/-- A text is put behind others. -/
theorem str_app (W : World) (ts : List (List UInt8)) (v : Value) (h : TAt W v ts) (y : List UInt8) (hb : ts.length + 1 ≤ 4194304) :
    ∃ v' w', (Builtin.append_ #[52, 52] 52 #[v, .slice (some ⟨W.heap.size, 0, none⟩) 1 1]).run Tryz.prog (W.alloc (.cells #[TV y] 9)) = .ok v' w' ∧ TAt w' v' (ts ++ [y]) ∧ Stay (fun k => v.ownBlock = some k) W w' ∧
      (∀ k, v'.ownBlock = some k → v.ownBlock = some k ∨ W.heap.size ≤ k) := by
  obtain ⟨i0, hi, hz0, hz1, hz2⟩ := info_parts infoS9
  have st0 : Stay (fun k => v.ownBlock = some k) W (W.alloc (.cells #[TV y] 9)) := (Stay.refl _ W).alloc _
  obtain ⟨v', w', hr, ho, hg, _, hloc⟩ := run_append_own_at (P := Tryz.prog) (W.alloc (.cells #[TV y] 9)) 0 52 52 9 i0 _ 1 16 Tryz.underlying52 hi hz0 hz1 hz2 rfl (by decide) v ts.length _ (h.row.alloc _) ⟨W.heap.size, 0, none⟩ 1 1 [TV y] rfl (new_cells W [TV y] 9) (fun u hu => by simp at hu; subst hu; rfl) (by unfold maxLen; omega) (by omega) (Nat.zero_le _)
  refine ⟨v', w', hr, ⟨by rw [List.length_append, List.map_append]; exact ho⟩, st0.trans (.grown hg (fun k hk => hk)), fun k hk => ?_⟩
  rcases hloc with hl | hl
  · exact .inl (hl ▸ hk)
  · rw [hl] at hk; cases hk; exact .inr (by simp)
theorem WRow.block {w : World} {v : Value} {l : List UInt8} (h : WRow w v l) {k : Nat} (hk : v.ownBlock = some k) : ∃ c m, w.heap[k]? = some (.cells c 5 m) := by
  obtain ⟨g, cap, cur, fz, rfl, h2, h3⟩ := h
  cases hk; exact ⟨_, _, h2⟩
/-- The rows of the call. -/
structure RS (w W : World) (tv bv sv lv : Value) (T : List (List UInt8)) (B : List UInt8) (S : List Nat) (Ls : List (List UInt8)) : Prop where
  t : TAt W tv T
  b : WRow W bv B
  s : W.ownsRow 0 3 1 sv S.length (S.map IV)
  l : TAt W lv Ls
  bel : Below w.heap.size w W
  lo : ∀ k, (tv.ownBlock = some k ∨ bv.ownBlock = some k ∨ sv.ownBlock = some k ∨ lv.ownBlock = some k) → w.heap.size ≤ k
  ap : ∀ k, tv.ownBlock = some k → lv.ownBlock ≠ some k
section
variable {w W X : World} {tv bv sv lv : Value} {T : List (List UInt8)} {B : List UInt8} {S : List Nat} {Ls : List (List UInt8)}
theorem RS.below (h : RS w W tv bv sv lv T B S Ls) (hb : Below W.heap.size W X) : RS w X tv bv sv lv T B S Ls :=
  { h with
    t := h.t.kept (F := fun _ => False) (.below hb) (fun _ _ e => e)
    b := h.b.kept (F := fun _ => False) (.below hb) (fun _ _ e => e)
    s := row_kept (F := fun _ => False) h.s (.below hb) (fun _ _ e => e)
    l := h.l.kept (F := fun _ => False) (.below hb) (fun _ _ e => e)
    bel := chain h.bel hb (Nat.le_refl _) }
theorem RS.putB (h : RS w W tv bv sv lv T B S Ls) {v' : Value} {B' : List UInt8} (hw : WRow X v' B') (st : Stay (fun k => bv.ownBlock = some k) W X) (hloc : ∀ k, v'.ownBlock = some k → bv.ownBlock = some k ∨ W.heap.size ≤ k) : RS w X tv v' sv lv T B' S Ls := by
  have ht : ∀ k, tv.ownBlock = some k → ¬ bv.ownBlock = some k := fun k hk e => by
    obtain ⟨c, h1⟩ := row_block h.t.row hk; obtain ⟨c', m, h2⟩ := WRow.block h.b e; rw [h1] at h2; cases h2
  have hs : ∀ k, sv.ownBlock = some k → ¬ bv.ownBlock = some k := fun k hk e => by
    obtain ⟨c, h1⟩ := row_block h.s hk; obtain ⟨c', m, h2⟩ := WRow.block h.b e; rw [h1] at h2; cases h2
  have hl : ∀ k, lv.ownBlock = some k → ¬ bv.ownBlock = some k := fun k hk e => by
    obtain ⟨c, h1⟩ := row_block h.l.row hk; obtain ⟨c', m, h2⟩ := WRow.block h.b e; rw [h1] at h2; cases h2
  refine ⟨h.t.kept st ht, hw, row_kept h.s st hs, h.l.kept st hl, h.bel.trans (st.toBelow (fun k hk e => ?_) h.bel.size), fun k hk => ?_, h.ap⟩
  · have := h.lo k (.inr (.inl e)); omega
  · rcases hk with e | e | e | e
    · exact h.lo k (.inl e)
    · rcases hloc k e with e | e
      · exact h.lo k (.inr (.inl e))
      · have := h.bel.size; omega
    · exact h.lo k (.inr (.inr (.inl e)))
    · exact h.lo k (.inr (.inr (.inr e)))
theorem RS.putL (h : RS w W tv bv sv lv T B S Ls) {v' : Value} {Ls' : List (List UInt8)} (hw : TAt X v' Ls') (st : Stay (fun k => lv.ownBlock = some k) W X) (hloc : ∀ k, v'.ownBlock = some k → lv.ownBlock = some k ∨ W.heap.size ≤ k) : RS w X tv bv sv v' T B S Ls' := by
  have hb : ∀ k, bv.ownBlock = some k → ¬ lv.ownBlock = some k := fun k hk e => by
    obtain ⟨c, h1⟩ := row_block h.l.row e; obtain ⟨c', m, h2⟩ := WRow.block h.b hk; rw [h1] at h2; cases h2
  have hs : ∀ k, sv.ownBlock = some k → ¬ lv.ownBlock = some k := fun k hk e => by
    obtain ⟨c, h1⟩ := row_block h.s hk; obtain ⟨c', h2⟩ := row_block h.l.row e; rw [h1] at h2; cases h2
  refine ⟨h.t.kept st (fun k hk e => h.ap k hk e), h.b.kept st hb, row_kept h.s st hs, hw, h.bel.trans (st.toBelow (fun k hk e => ?_) h.bel.size), fun k hk => ?_, fun k hk e => ?_⟩
  · have := h.lo k (.inr (.inr (.inr e))); omega
  · rcases hk with e | e | e | e
    · exact h.lo k (.inl e)
    · exact h.lo k (.inr (.inl e))
    · exact h.lo k (.inr (.inr (.inl e)))
    · rcases hloc k e with e | e
      · exact h.lo k (.inr (.inr (.inr e)))
      · have := h.bel.size; omega
  · rcases hloc k e with e | e
    · exact h.ap k hk e
    · have := row_lt h.t.row hk; omega
end
theorem step_append_eq {P : Program} {ops : Array Oper} {o : Oper} {a : Act} {w : World} {K : Act → World → Prop} {Q : Exit → Act → World → Prop} {E : Prop}
    (hg : o.guard = none) (s x : Operand) (t u : TypeId) (hop : o.op = Op.call { callee := Callee.builtin Builtin.append, args := #[s, x], argTypes := #[t, u] })
    (v xv v' : Value) (w' : World) (hs : a.eval s = v) (hx : a.eval x = xv) (hrun : (Builtin.append_ #[t, u] o.type #[v, xv]).run P w = .ok v' w') (hK : K (a.put o.dst v') w') :
    if Region.wanted o (yielded ops a.tmps) = true then Oper.wp P o a w K Q else E := by
  have hw : Region.wanted o (yielded ops a.tmps) = true := by simp [Region.wanted, hg]
  rw [if_pos hw]
  unfold Oper.wp
  simp [execOp, hop, resolve, invoke, builtin, hs, hx, hrun, Result.andThen]
  exact hK
/-- A number of a row of the call's own. -/
theorem int_at {W : World} {v : Value} {S : List Nat} (h : W.ownsRow 0 3 1 v S.length (S.map IV)) : ∃ a cap, v = .slice a S.length cap ∧ ∀ j (hj : j < S.length), ∃ g, a = some ⟨g, 0, none⟩ ∧ W.cell? ⟨g, j, none⟩ = some (.int .i64 S[j]) := by
  rcases h.2 with ⟨rfl, h0⟩ | ⟨g, cap, cur, rfl, h3, h4, h5, h6⟩
  · exact ⟨none, 0, by rw [h0], fun j hj => by omega⟩
  · refine ⟨_, cap, rfl, fun j hj => ⟨g, rfl, ?_⟩⟩
    have h7 := h.cells (g := g) rfl j (IV S[j]) (by rw [List.getElem?_map, List.getElem?_eq_getElem hj]; rfl)
    have e1 : (⟨g, 0, none⟩ : Addr).add j = ⟨g, j, none⟩ := by unfold Addr.add; split <;> simp_all
    rw [e1] at h7; exact h7
theorem cell_stay {F : Nat → Prop} {A B : World} {k o : Nat} {v : Value} (s : Stay F A B) (h : A.cell? ⟨k, o, none⟩ = some v) (hn : ¬ F k) : B.cell? ⟨k, o, none⟩ = some v := by
  have hb := s.block k (World.block_lt_of_cell? A _ h) hn
  rw [← h]; simp [World.cell?, hb]
/-- One part after the other. -/
theorem pk_at (l : List En) (k : Nat) (hk : k < (pk enB l).length) : (pk enB l).take (k + 1) = (pk enB l).take k ++ [(pk enB l)[k]] ∧ (pk enB l)[k].1 = (((pk enB l).take k).map (·.2.length)).sum ∧ (pk enB l).take k ++ [(pk enB l)[k]] <+: pk enB l := by
  have h1 : (pk enB l).take (k + 1) = (pk enB l).take k ++ [(pk enB l)[k]] := List.take_succ_eq_append_getElem hk
  refine ⟨h1, ?_, h1 ▸ List.take_prefix _ _⟩
  have h2 : pk enB l = (pk enB l).take k ++ (pk enB l)[k] :: (pk enB l).drop (k + 1) := by rw [← List.drop_eq_getElem_cons hk, List.take_append_drop]
  have h3 := pkA_at enB l 0 [] _ _ _ h2
  rw [h3]; omega
theorem pk_atL (l : List Ln) (k : Nat) (hk : k < (pk lnB l).length) : (pk lnB l).take (k + 1) = (pk lnB l).take k ++ [(pk lnB l)[k]] ∧ (pk lnB l)[k].1 = (((pk lnB l).take k).map (·.2.length)).sum ∧ (pk lnB l).take k ++ [(pk lnB l)[k]] <+: pk lnB l := by
  have h1 : (pk lnB l).take (k + 1) = (pk lnB l).take k ++ [(pk lnB l)[k]] := List.take_succ_eq_append_getElem hk
  refine ⟨h1, ?_, h1 ▸ List.take_prefix _ _⟩
  have h2 : pk lnB l = (pk lnB l).take k ++ (pk lnB l)[k] :: (pk lnB l).drop (k + 1) := by rw [← List.drop_eq_getElem_cons hk, List.take_append_drop]
  have h3 := pkA_at lnB l 0 [] _ _ _ h2
  rw [h3]; omega
end Go.Proofs.YtjdpolhjbkpnlaaGreatDoor.Rb
set_option linter.unusedVariables false
set_option linter.unusedSimpArgs false
namespace Go.Proofs.YtjdpolhjbkpnlaaGreatDoor.Dx
open Go.RowKit Go.Proofs.SealMath
open Go.Proofs.YtjdpolhjbkpnlaaGreatDoor.Rb
/-- An entry is written into a block. -/
def set5 (W : World) (a : Nat) (e : En) : World := ((((W.setCell ⟨a, 0, none⟩ (.int .i64 e.v)).setCell ⟨a, 1, none⟩ (.string e.c)).setCell ⟨a, 2, none⟩ (.int .i64 e.i)).setCell ⟨a, 3, none⟩ (.int .i64 e.s)).setCell ⟨a, 4, none⟩ (.bool e.d)
theorem set5_stay (W : World) (a : Nat) (e : En) : Stay (fun k => k = a) W (set5 W a e) :=
  ((((((Stay.refl (fun k => k = a) W).setCell (p := ⟨a, 0, none⟩) (fun _ => rfl) _).setCell (p := ⟨a, 1, none⟩) (fun _ => rfl) _).setCell (p := ⟨a, 2, none⟩) (fun _ => rfl) _).setCell (p := ⟨a, 3, none⟩) (fun _ => rfl) _).setCell (p := ⟨a, 4, none⟩) (fun _ => rfl) _)
theorem set5_at {W : World} {a : Nat} {e e' : En} (h : W.heap[a]? = some (.cells (enC e').toArray 38 (0, 0))) : (set5 W a e).heap[a]? = some (.cells (enC e).toArray 38 (0, 0)) := by
  have h1 := heap_setCell_same W a 0 _ _ (.int .i64 e.v) h
  have h2 := heap_setCell_same _ a 1 _ _ (.string e.c) h1
  have h3 := heap_setCell_same _ a 2 _ _ (.int .i64 e.i) h2
  have h4 := heap_setCell_same _ a 3 _ _ (.int .i64 e.s) h3
  exact heap_setCell_same _ a 4 _ _ (.bool e.d) h4
theorem en5 {W : World} {a : Nat} {e : En} (h : W.heap[a]? = some (.cells (enC e).toArray 38 (0, 0))) : W.cell? ⟨a, 0, none⟩ = some (.int .i64 e.v) ∧ W.cell? ⟨a, 1, none⟩ = some (.string e.c) ∧ W.cell? ⟨a, 2, none⟩ = some (.int .i64 e.i) ∧ W.cell? ⟨a, 3, none⟩ = some (.int .i64 e.s) ∧ W.cell? ⟨a, 4, none⟩ = some (.bool e.d) ∧ W.frozen? ⟨a, 0, none⟩ = false ∧ W.frozen? ⟨a, 1, none⟩ = false ∧ W.frozen? ⟨a, 2, none⟩ = false ∧ W.frozen? ⟨a, 3, none⟩ = false ∧ W.frozen? ⟨a, 4, none⟩ = false := by
  refine ⟨?_, ?_, ?_, ?_, ?_, ?_, ?_, ?_, ?_, ?_⟩ <;> first | exact frozen_of_row _ _ _ _ _ h | (rw [cell_of_row _ _ _ _ _ (0, 0) h]; rfl)
theorem rfix_four (b : ByteArray) (a : Nat) (w : World) (hb : b.size < 4611686018427387904) (h : a + 4 ≤ b.size) : Calls Tryz.prog 83 #[.string b, .int .i64 a, .int .i64 4] w fun r w' => r = .returned (.tuple #[.int .u64 (numL (sub b a 4) : Nat), .int .i64 0]) ∧ w' = w := by
  have hc := rfix_any b a 4 w hb
  have hE : fxE b a 4 = 0 := fxE_ok (by omega) (by omega) (by omega)
  have hV : fxV b a 4 = numL (sub b a 4) := by unfold fxV; rw [if_pos hE]; simp
  rw [hE, hV] at hc
  exact hc
/-- What entry answers. -/
def enA (r : Option (En × Nat)) : Value := match r with
  | none => .tuple #[.agg (enC e0).toArray, .int .i64 0, .bool false]
  | some (e, q) => .tuple #[.agg (enC e).toArray, .int .i64 (q : Nat), .bool true]
theorem one_at (b : ByteArray) (q : Nat) (h : q < b.size) : (sub b q 1 == [1]) = ((b[q].toNat : Int) == 1) := by
  rw [sub_one' b q (by omega)]
  have : ([b[q]] == [1]) = (b[q] == 1) := by simp
  rw [this]
  by_cases e : b[q] = 1
  · rw [e]; rfl
  · have e2 : ¬ ((b[q].toNat : Int) = 1) := fun h => e (by
      apply UInt8.toNat_inj.1
      show _ = 1
      omega)
    rw [beq_false_of_ne e, beq_false_of_ne e2]
set_option maxHeartbeats 4000000 in
set_option maxRecDepth 100000 in
theorem rentry_any (b : ByteArray) (a cb : Nat) (w : World) (hb : b.size < 1152921504606846976) (ha : a ≤ b.size) (hcb : cb ≤ 128) :
    Calls Tryz.prog 43 #[.string b, .int .i64 a, .int .i64 cb] w fun r w' => r = .returned (enA (eaD b a cb)) ∧ Below w.heap.size w w' := by
  have hn : Below w.heap.size w (w.alloc (.cells #[.int .i64 0, .string ⟨#[]⟩, .int .i64 0, .int .i64 0, .bool false] 38)) := (Below.refl _ w).alloc (Nat.le_refl _) _
  have hb' : b.size < 4611686018427387904 := by omega
  by_cases h1 : b.size < a + (4 + cb)
  · have HE := Hid.mk (show eaD b a cb = none by unfold eaD; rw [if_pos h1])
    have f1 : (b.size : Int) - a < 4 + cb := by omega
    have w1 : IntKind.i64.wrap ((b.size : Int) - a) = (b.size : Int) - a := by rw [IntKind.wrap_i64]; omega
    have w2 : IntKind.i64.wrap ((4 : Int) + cb) = (4 : Int) + cb := by rw [IntKind.wrap_i64]; omega
    clear h1
    go_enter Tryz.func43, Tryz.ntmps43
    go_wp2
    refine bodyPost_ret (v := enA none) (by simp [results, Tryz.results43, go_sem, enA, enC, e0]; try rfl) rfl ?_
    rw [HE.out]
    exact ⟨rfl, hn⟩
  · have c1 := fun W => rfix_four b a W hb' (by omega)
    have hv := numL_sub_lt b a 4 4 (by omega) (by omega)
    have hnm := fun W => rnumbers_any (b.extract (a + 4 + cb) b.size) 2 W (by rw [rest_size b (a + 4 + cb) (by omega)]; omega) (by omega)
    obtain ⟨W1, hW1⟩ : ∃ W1, W1 = w.alloc (.cells #[.int .i64 0, .string ⟨#[]⟩, .int .i64 0, .int .i64 0, .bool false] 38) := ⟨_, rfl⟩
    have hB1 : W1.heap[w.heap.size]? = some (.cells (enC e0).toArray 38 (0, 0)) := by rw [hW1]; exact heap_alloc_last w _
    rw [← hW1] at hn
    have HV := Hid.mk hv
    obtain ⟨V, hV⟩ : ∃ V, V = numL (sub b a 4) := ⟨_, rfl⟩
    have HVe := Hid.mk hV
    rw [← hV] at c1 hv
    have hv2 : V < 4294967296 := by simpa using hv
    have f1 : ¬ (b.size : Int) - a < 4 + cb := by omega
    have f2 : (a : Int) + 4 + cb ≤ (b.size : Int) := by omega
    have f3 : (a : Int) + 4 ≤ (a : Int) + 4 + cb := by omega
    have hsz : ((a + 4 + cb : Nat) : Int) ≤ (b.size : Int) := by omega
    have HN := Hid.mk hn
    have HB := Hid.mk hB1
    clear hv hV hn hB1
    go_enter Tryz.func43, Tryz.ntmps43
    go_wp2_with (go_at_call 83; refine (c1 _).mono ?_; rintro e w' ⟨rfl, rfl⟩; clear c1)
    rw [← hW1]
    refine (hnm _).mono ?_
    clear hnm
    rintro r w2 ⟨b2, hO⟩
    have hB2 := (b2.block _ (Array.getElem?_eq_some_iff.1 HB.out).1).trans HB.out
    have bw2 := HN.out.trans (b2.mono HN.out.size)
    obtain ⟨g0, g1, g2, g3, g4, z0, z1, z2, z3, z4⟩ := en5 hB2
    simp only [e0] at g0 g1 g2 g3 g4
    clear hW1
    rcases hO with ⟨hn, rfl⟩ | ⟨l, q, v, hn, rfl, hrow, hlo⟩
    · have HE := Hid.mk (show eaD b a cb = none by unfold eaD; rw [if_neg h1, hn])
      have HF := Hid.mk (And.intro (set5_at (e := e0) hB2) (bw2.trans ((set5_stay w2 w.heap.size e0).toBelow (B := w.heap.size) (fun k hk e => by omega) bw2.size)))
      clear hn b2 bw2 hB2
      go_wp2
      obtain ⟨w9, hw9⟩ : ∃ w9, w9 = set5 w2 w.heap.size e0 := ⟨_, rfl⟩
      rw [← hw9] at HF
      obtain ⟨k0, k1, k2, k3, k4, -⟩ := en5 HF.out.1
      simp only [set5, e0] at hw9
      rw [← hw9]
      refine bodyPost_ret (v := enA none) (by simp [results, Tryz.results43, go_sem, enA, enC, k0, k1, k2, k3, k4]; try rfl) rfl ?_
      rw [HE.out]
      exact ⟨rfl, HF.out.2⟩
    · obtain ⟨hl2, -, hq, hle⟩ := nsD_at _ 2 0 q l hn (Nat.zero_le _)
      rw [rest_size b (a + 4 + cb) (by omega)] at hq
      obtain ⟨i, s, rfl⟩ : ∃ i s, l = [i, s] := by
        match l, hl2 with
        | [i, s], _ => exact ⟨i, s, rfl⟩
      have hi := hle i (by simp)
      have hs := hle s (by simp)
      obtain ⟨va, vc, rfl, hat⟩ := int_at hrow
      obtain ⟨g, rfl, x0⟩ := hat 0 (by simp)
      obtain ⟨g', hg', x1⟩ := hat 1 (by simp)
      cases hg'
      have hgn : g ≠ w.heap.size := by
        have h5 := hlo g rfl
        have h6 := (Array.getElem?_eq_some_iff.1 HB.out).1
        omega
      have x0 : w2.cell? ⟨g, 0, none⟩ = some (.int .i64 i) := x0
      have x1 : w2.cell? ⟨g, 1, none⟩ = some (.int .i64 s) := x1
      simp only [List.length_cons, List.length_nil, Nat.zero_add] at *
      by_cases hend : b.size ≤ a + 4 + cb + q
      · have HE := Hid.mk (show eaD b a cb = none by unfold eaD; rw [if_neg h1, hn]; dsimp only; rw [if_pos hend])
        have HF := Hid.mk (And.intro (set5_at (e := e0) hB2) (bw2.trans ((set5_stay w2 w.heap.size e0).toBelow (B := w.heap.size) (fun k hk e => by omega) bw2.size)))
        have f4 : (b.size : Int) ≤ (a : Int) + 4 + cb + q := by omega
        clear hn b2 bw2 hB2 hrow hlo hat hle x0 x1
        go_wp2
        obtain ⟨w9, hw9⟩ : ∃ w9, w9 = set5 w2 w.heap.size e0 := ⟨_, rfl⟩
        rw [← hw9] at HF
        obtain ⟨k0, k1, k2, k3, k4, -⟩ := en5 HF.out.1
        simp only [set5, e0] at hw9
        rw [← hw9]
        refine bodyPost_ret (v := enA none) (by simp [results, Tryz.results43, go_sem, enA, enC, k0, k1, k2, k3, k4]; try rfl) rfl ?_
        rw [HE.out]
        exact ⟨rfl, HF.out.2⟩
      · obtain ⟨Z, hZ⟩ : ∃ Z, Z = a + 4 + cb + q := ⟨_, rfl⟩
        have hlt : Z < b.size := by omega
        have HE := Hid.mk (show eaD b a cb = some (⟨(V : Nat), b.extract (a + 4) (a + 4 + cb), (i : Nat), (s : Nat), ((b[Z].toNat : Int) == 1)⟩, Z + 1) by
          unfold eaD; rw [if_neg h1, hn]; dsimp only; rw [← hZ, if_neg (by omega), one_at b _ hlt, HVe.out])
        have hz : (a : Int) + 4 + cb + q = (Z : Int) := by omega
        have f4 : ¬ (b.size : Int) ≤ (Z : Int) := by omega
        have f5 : (Z : Int) < (b.size : Int) := by omega
        have wv : IntKind.i64.wrap (V : Int) = V := by rw [IntKind.wrap_i64]; omega
        obtain ⟨EN, hEN⟩ : ∃ EN : En, EN = ⟨(V : Nat), b.extract (a + 4) (a + 4 + cb), (i : Nat), (s : Nat), ((b[Z].toNat : Int) == 1)⟩ := ⟨_, rfl⟩
        have HF := Hid.mk (And.intro (set5_at (e := EN) hB2) (bw2.trans ((set5_stay w2 w.heap.size EN).toBelow (B := w.heap.size) (fun k hk e => by omega) bw2.size)))
        have HEN := Hid.mk hEN
        clear hn b2 bw2 hB2 hrow hlo hat hle hEN hend hZ
        go_wp2_with fail
        go_region
        obtain ⟨w9, hw9⟩ : ∃ w9, set5 w2 w.heap.size EN = w9 := ⟨_, rfl⟩
        rw [hw9] at HF
        obtain ⟨k0, k1, k2, k3, k4, -⟩ := en5 HF.out.1
        rw [HEN.out] at hw9 k0 k1 k2 k3 k4
        simp only [set5] at hw9
        rw [hw9]
        have k0 : w9.drew.cell? ⟨w.heap.size, 0, none⟩ = _ := k0
        have k1 : w9.drew.cell? ⟨w.heap.size, 1, none⟩ = _ := k1
        have k2 : w9.drew.cell? ⟨w.heap.size, 2, none⟩ = _ := k2
        have k3 : w9.drew.cell? ⟨w.heap.size, 3, none⟩ = _ := k3
        have k4 : w9.drew.cell? ⟨w.heap.size, 4, none⟩ = _ := k4
        clear hw9 g0 g1 g2 g3 g4 z0 z1 z2 z3 z4 x0 x1
        go_wp2
        refine bodyPost_ret (v := enA (eaD b a cb)) (by rw [HE.out]; simp [results, Tryz.results43, go_sem, enA, enC, k0, k1, k2, k3, k4]; try rfl) rfl ?_
        exact ⟨rfl, HF.out.2.drew⟩
end Go.Proofs.YtjdpolhjbkpnlaaGreatDoor.Dx
set_option linter.unusedVariables false
set_option linter.unusedSimpArgs false
namespace Go.Proofs.YtjdpolhjbkpnlaaGreatDoor
open Go.RowKit Go.Proofs.SealMath
theorem fix_four (b : ByteArray) (a : Nat) (w : World) (hb : b.size < 4611686018427387904) (h : a + 4 ≤ b.size) : Calls Tryz.prog 38 #[.string b, .int .i64 a, .int .i64 4] w fun r w' => r = .returned (.tuple #[.int .u64 (numL (sub b a 4) : Nat), .int .i64 0]) ∧ w' = w := by
  have hc := fix_any b a 4 w hb
  have hE : fxE b a 4 = 0 := fxE_ok (by omega) (by omega) (by omega)
  have hV : fxV b a 4 = numL (sub b a 4) := by unfold fxV; rw [if_pos hE]; simp
  rw [hE, hV] at hc
  exact hc
theorem fix_short (b : ByteArray) (a : Nat) (w : World) (hb : b.size < 4611686018427387904) (ha : a ≤ b.size) (h : ¬ a + 4 ≤ b.size) : Calls Tryz.prog 38 #[.string b, .int .i64 a, .int .i64 4] w fun r w' => r = .returned (.tuple #[.int .u64 0, .int .i64 31]) ∧ w' = w := by
  have hc := fix_any b a 4 w hb
  have hE : fxE b a 4 = 31 := fxE_31 (by omega) (by omega) (by omega)
  have hV : fxV b a 4 = 0 := by unfold fxV; rw [if_neg (by rw [hE]; decide)]
  rw [hE, hV] at hc
  exact hc
theorem var_read (b : ByteArray) (p : Nat) (w : World) (hb : b.size < 4611686018427387904) (v q : Nat) (e : Int) (h : vA b p = (v, q, e)) :
    Calls Tryz.prog 39 #[.string b, .int .i64 p] w fun r w' => r = .returned (.tuple #[.int .u64 v, .int .i64 q, .int .i64 e]) ∧ w' = w := by
  have := var_any b p w hb
  rw [h] at this
  exact this
/-- What entryAt answers: an entry, the place behind it. -/
def eE (r : Option (En × Nat)) : En := (r.map (·.1)).getD e0
def eQ (r : Option (En × Nat)) : Nat := (r.map (·.2)).getD 0
abbrev eaV (r : Option (En × Nat)) : Value := .tuple #[.agg #[.int .i64 (eE r).v, .string (eE r).c, .int .i64 (eE r).i, .int .i64 (eE r).s, .bool (eE r).d], .int .i64 (eQ r), .bool r.isSome]
theorem sub_ext (b : ByteArray) (a n : Nat) : (⟨(sub b a n).toArray⟩ : ByteArray) = b.extract a (a + n) := by
  apply ba_ext
  rw [ByteArray.data_extract, Array.toList_extract]
  simp [List.extract, sub]
theorem one_eq (b : ByteArray) (q : Nat) (h : q < b.size) : ((b.extract q (q + 1)).toList == [1]) = (sub b q 1 == [1]) := by
  rw [← sub_ext, toL]
theorem none_fin (w : World) (a : Nat) (b : ByteArray) (cb : Nat) (h : eaA b a cb = none) (r : Value) (hr : r = eaV none) (w' : World) (hb : Below w.heap.size w w') : Ending.returned r = .returned (eaV (eaA b a cb)) ∧ Below w.heap.size w w' := by rw [h, hr]; exact ⟨rfl, hb⟩
set_option maxHeartbeats 4000000 in
set_option maxRecDepth 100000 in
theorem entryAt_any (b : ByteArray) (a cb : Nat) (w : World) (hb : b.size < 1152921504606846976) (ha : a ≤ b.size) (hcb : cb ≤ 128) :
    Calls Tryz.prog 22 #[.string b, .int .i64 a, .int .i64 cb] w fun r w' => r = .returned (eaV (eaA b a cb)) ∧ Below w.heap.size w w' := by
  have hn : Below w.heap.size w (w.alloc (.cells #[.int .i64 0, .string ⟨#[]⟩, .int .i64 0, .int .i64 0, .bool false] 38)) := (Below.refl _ w).alloc (Nat.le_refl _) _
  have hb' : b.size < 4611686018427387904 := by omega
  by_cases h1 : a + 4 ≤ b.size
  · have c1 := fun W => fix_four b a W hb' h1
    have hv := numL_sub_lt b a 4 4 h1 (by omega)
    obtain ⟨⟨i, q, e1⟩, hi⟩ : ∃ r, vA b ((a + 4 + cb : Nat) : Int) = r := ⟨_, rfl⟩
    have c2 := fun W => var_read b (a + 4 + cb) W hb' i q e1 hi
    have ki := vA_at b (a + 4 + cb)
    rw [hi] at ki
    dsimp only at ki
    by_cases he1 : e1 = 0
    · subst he1
      obtain ⟨ki1, ki2, ki3⟩ := ki rfl
      obtain ⟨⟨s, q2, e2⟩, hs⟩ : ∃ r, vA b ((q : Nat) : Int) = r := ⟨_, rfl⟩
      have c3 := fun W => var_read b q W hb' s q2 e2 hs
      have ks := vA_at b q
      rw [hs] at ks
      dsimp only at ks
      by_cases he2 : e2 = 0
      · subst he2
        obtain ⟨ks1, ks2, ks3⟩ := ks rfl
        by_cases hq : q2 = b.size
        · have hE : eaA b a cb = none := by
            unfold eaA
            simp only [hi, hs]
            simp [h1, hq]
          have HE := Hid.mk hE
          subst hq
          clear hE hi hs ki ks hv
          generalize numL (sub b a 4) = V at c1
          go_enter Tryz.func22, Tryz.ntmps22
          go_wp2_with first
            | (go_at_call 38; refine (c1 _).mono ?_; rintro e w' ⟨rfl, rfl⟩; clear c1)
            | (go_at_call 39; refine (c2 _).mono ?_; rintro e w' ⟨rfl, rfl⟩; clear c2)
            | (go_at_call 39; refine (c3 _).mono ?_; rintro e w' ⟨rfl, rfl⟩; clear c3)
          refine bodyPost_ret (v := eaV none) (by simp [results, Tryz.results22, go_sem, eE, eQ, e0]; try rfl) rfl ?_
          exact none_fin w a b cb HE.out _ rfl _ hn
        · have hq2 : q2 < b.size := by omega
          have hE : eaA b a cb = some (⟨(numL (sub b a 4) : Nat), b.extract (a + 4) (a + 4 + cb), w64 i, w64 s, (b.extract q2 (q2 + 1)).toList == [1]⟩, q2 + 1) := by
            rw [← sub_ext, one_eq b q2 hq2]
            unfold eaA
            simp only [hi, hs]
            simp [h1, hq]
          have HE := Hid.mk hE
          have wi := w64_wrap i ki1
          have ws := w64_wrap s ks1
          have hqn : ((q2 : Int) == (b.size : Int)) = false := by apply beq_false_of_ne; omega
          clear hE hi hs ki ks hq
          generalize numL (sub b a 4) = V at c1 hv HE
          have hv2 : V < 4294967296 := by simpa using hv
          have wv : IntKind.i64.wrap (V : Int) = V := by rw [IntKind.wrap_i64]; omega
          generalize w64 i = I at *
          generalize w64 s = S at *
          generalize hC : b.extract (a + 4) (a + 4 + cb) = C at *
          generalize hD : (b.extract q2 (q2 + 1)).toList = D at *
          have f1 : ((a : Int) + 4) ≤ (a : Int) + 4 + cb := by omega
          have f2 : (a : Int) + 4 + cb ≤ (b.size : Int) := by omega
          have f3 : (q2 : Int) + 1 ≤ (b.size : Int) := by omega
          go_enter Tryz.func22, Tryz.ntmps22
          go_wp2_with first
            | (go_at_call 38; refine (c1 _).mono ?_; rintro e w' ⟨rfl, rfl⟩; clear c1)
            | (go_at_call 39; refine (c2 _).mono ?_; rintro e w' ⟨rfl, rfl⟩; clear c2)
            | (go_at_call 39; refine (c3 _).mono ?_; rintro e w' ⟨rfl, rfl⟩; clear c3)
          go_region
          go_wp2
          refine bodyPost_ret (v := .tuple #[.agg #[.int .i64 V, .string C, .int .i64 I, .int .i64 S, .bool (D == [1])], .int .i64 ((q2 + 1 : Nat) : Int), .bool true]) (by simp [results, Tryz.results22, go_sem]; try rfl) rfl ?_
          rw [HE.out]
          exact ⟨rfl, ((Below.refl _ w).alloc (Nat.le_refl _) _).drew⟩
      · have hE : eaA b a cb = none := by
          unfold eaA
          simp only [hi, hs]
          simp [h1, he2]
        have HE := Hid.mk hE
        have hne : (e2 != 0) = true := by simpa using he2
        clear hE hi hs ki ks hv he2
        generalize numL (sub b a 4) = V at c1
        go_enter Tryz.func22, Tryz.ntmps22
        go_wp2_with first
          | (go_at_call 38; refine (c1 _).mono ?_; rintro e w' ⟨rfl, rfl⟩; clear c1)
          | (go_at_call 39; refine (c2 _).mono ?_; rintro e w' ⟨rfl, rfl⟩; clear c2)
          | (go_at_call 39; refine (c3 _).mono ?_; rintro e w' ⟨rfl, rfl⟩; clear c3)
        refine bodyPost_ret (v := eaV none) (by simp [results, Tryz.results22, go_sem, eE, eQ, e0]; try rfl) rfl ?_
        exact none_fin w a b cb HE.out _ rfl _ hn
    · have hE : eaA b a cb = none := by
        unfold eaA
        simp only [hi]
        simp [h1, he1]
      have HE := Hid.mk hE
      have hne : (e1 != 0) = true := by simpa using he1
      clear hE hi ki hv he1
      generalize numL (sub b a 4) = V at c1
      go_enter Tryz.func22, Tryz.ntmps22
      go_wp2_with first
        | (go_at_call 38; refine (c1 _).mono ?_; rintro e w' ⟨rfl, rfl⟩; clear c1)
        | (go_at_call 39; refine (c2 _).mono ?_; rintro e w' ⟨rfl, rfl⟩; clear c2)
      refine bodyPost_ret (v := eaV none) (by simp [results, Tryz.results22, go_sem, eE, eQ, e0]; try rfl) rfl ?_
      exact none_fin w a b cb HE.out _ rfl _ hn
  · have hE : eaA b a cb = none := by unfold eaA; rw [if_neg h1]
    have HE := Hid.mk hE
    have c1 := fun W => fix_short b a W hb' ha h1
    clear hE h1
    go_enter Tryz.func22, Tryz.ntmps22
    go_wp2_with (go_at_call 38; refine (c1 _).mono ?_; rintro e w' ⟨rfl, rfl⟩; clear c1)
    refine bodyPost_ret (v := eaV none) (by simp [results, Tryz.results22, go_sem, eE, eQ, e0]; try rfl) rfl ?_
    exact none_fin w a b cb HE.out _ rfl _ hn
end Go.Proofs.YtjdpolhjbkpnlaaGreatDoor
set_option linter.unusedVariables false
set_option linter.unusedSimpArgs false
namespace Go.Proofs.YtjdpolhjbkpnlaaGreatDoor
open Go.RowKit Go.Shelf Go.Proofs.SealMath
attribute [local go_sem] Oper.semAt_some
def mE (n : Nat) (av kv : Value) : Nat := match kv with
  | .bool true => n + 2 - (intOf av).toNat
  | _ => 0
/-- An entry's cells. -/
abbrev enV (e : En) : Array Value := #[.int .i64 e.v, .string e.c, .int .i64 e.i, .int .i64 e.s, .bool e.d]
abbrev encE (e : En) : Array Value := #[.agg (enV e)]
theorem stay1 (W V : World) (g o : Nat) (u : Value) (h : Stay (fun k => k = g) W V) : Stay (fun k => k = g) W (V.setCell ⟨g, o, none⟩ u) := Stay.setCell (F := fun k => k = g) h (p := ⟨g, o, none⟩) (fun _ => rfl) u
def put5 (W : World) (a : Nat) (e : En) : World := ((((W.setCell ⟨a, 0, none⟩ (.int .i64 e.v)).setCell ⟨a, 1, none⟩ (.string e.c)).setCell ⟨a, 2, none⟩ (.int .i64 e.i)).setCell ⟨a, 3, none⟩ (.int .i64 e.s)).setCell ⟨a, 4, none⟩ (.bool e.d)
theorem put5_stay (W : World) (a : Nat) (e : En) : Stay (fun k => k = a) W (put5 W a e) := stay1 _ _ _ _ _ (stay1 _ _ _ _ _ (stay1 _ _ _ _ _ (stay1 _ _ _ _ _ (stay1 _ _ _ _ _ (.refl _ _)))))
theorem put5_at {W : World} {a : Nat} {x : En} (h : W.heap[a]? = some (.cells (enV x) 38 (0, 0))) (e : En) : (put5 W a e).heap[a]? = some (.cells (enV e) 38 (0, 0)) := by
  unfold put5
  have h1 : (W.setCell ⟨a, 0, none⟩ (.int .i64 e.v)).heap[a]? = _ := heap_setCell_same W a 0 _ _ _ h
  have h2 : ((W.setCell ⟨a, 0, none⟩ (.int .i64 e.v)).setCell ⟨a, 1, none⟩ (.string e.c)).heap[a]? = _ := heap_setCell_same _ a 1 _ _ _ h1
  have h3 : (((W.setCell ⟨a, 0, none⟩ (.int .i64 e.v)).setCell ⟨a, 1, none⟩ (.string e.c)).setCell ⟨a, 2, none⟩ (.int .i64 e.i)).heap[a]? = _ := heap_setCell_same _ a 2 _ _ _ h2
  have h4 : ((((W.setCell ⟨a, 0, none⟩ (.int .i64 e.v)).setCell ⟨a, 1, none⟩ (.string e.c)).setCell ⟨a, 2, none⟩ (.int .i64 e.i)).setCell ⟨a, 3, none⟩ (.int .i64 e.s)).heap[a]? = _ := heap_setCell_same _ a 3 _ _ _ h3
  have h5 : (((((W.setCell ⟨a, 0, none⟩ (.int .i64 e.v)).setCell ⟨a, 1, none⟩ (.string e.c)).setCell ⟨a, 2, none⟩ (.int .i64 e.i)).setCell ⟨a, 3, none⟩ (.int .i64 e.s)).setCell ⟨a, 4, none⟩ (.bool e.d)).heap[a]? = _ := heap_setCell_same _ a 4 _ _ _ h4
  exact h5
theorem en5 {W : World} {r : Nat} {e : En} (h : W.heap[r]? = some (.cells (enV e) 38 (0, 0))) : W.cell? ⟨r, 0, none⟩ = some (.int .i64 e.v) ∧ W.cell? ⟨r, 1, none⟩ = some (.string e.c) ∧ W.cell? ⟨r, 2, none⟩ = some (.int .i64 e.i) ∧ W.cell? ⟨r, 3, none⟩ = some (.int .i64 e.s) ∧ W.cell? ⟨r, 4, none⟩ = some (.bool e.d) :=
  ⟨by rw [cell_of_row _ _ 0 _ _ (0, 0) h]; rfl, by rw [cell_of_row _ _ 1 _ _ (0, 0) h]; rfl, by rw [cell_of_row _ _ 2 _ _ (0, 0) h]; rfl, by rw [cell_of_row _ _ 3 _ _ (0, 0) h]; rfl, by rw [cell_of_row _ _ 4 _ _ (0, 0) h]; rfl⟩
theorem boxc {w A : World} {b t : Nat} {v : Value} (h : w.heap[b]? = some (.cells #[v] t (0, 0))) (hA : A.heap[b]? = w.heap[b]?) : A.cell? ⟨b, 0, none⟩ = some v := by simp [World.cell?, hA, h]
/-- What stands while the entries are gone through. -/
structure EI (b : ByteArray) (cb : Nat) (K : Nat → Prop) (w : World) (J : List En → Option Nat → World → Prop) (r : Nat) (pre : List En) (a : Nat) (wr : World) : Prop where
  le : a ≤ b.size
  eq : pre ++ ents b a cb = ents b 0 cb
  box : wr.heap[r]? = some (.cells (enV (eE (eaA b a cb))) 38 (0, 0))
  j : J pre (some r) wr
  kept : ∀ k, K k → wr.heap[k]? = w.heap[k]?
  new : w.heap.size ≤ r
set_option maxRecDepth 100000 in
set_option maxHeartbeats 1000000 in
theorem entries_st (b : ByteArray) (cb Bb Bc n : Nat) (K : Nat → Prop) (w : World)
    (hb1 : w.heap[Bb]? = some (.cells #[.string b] 9 (0, 0))) (hc1 : w.heap[Bc]? = some (.cells #[.int .i64 cb] 3 (0, 0)))
    (hK' : K Bb ∧ K Bc) (hKc : ∀ k, K k → ∃ c t m, w.heap[k]? = some (.cells c t m)) (hbs : b.size < 1152921504606846976) (hcb : cb ≤ 128) :
    SeqSt Fence.wide n Tryz.prog 53 #[Pt Bb, Pt Bc] encE (fun p x => p ++ [x] <+: ents b 0 cb) TrB (KpB K) (fun p => p = ents b 0 cb) (fun _ => True) none w := fun lp J Jx W hW hJ hJx hY h0 => by
  have hKl : ∀ k, K k → k < w.heap.size := fun k hk => by obtain ⟨c, t, m, h⟩ := hKc k hk; exact (Array.getElem?_eq_some_iff.1 h).1
  have hkW : ∀ k, K k → W.heap[k]? = w.heap[k]? := fun k hk => hW.block k (hKl k hk)
  have hX := boxc hb1 (hkW Bb hK'.1)
  have hC := boxc hc1 (hkW Bc hK'.2)
  have hbl : Bb < W.heap.size := World.block_lt_of_cell? W _ hX
  have hbc : Bc < W.heap.size := World.block_lt_of_cell? W _ hC
  have hea := fun a V ha => entryAt_any b a cb V hbs ha hcb
  refine callsIn_of_wp Tryz.func53 rfl trivial ?_ rfl
  simp only [Tryz.ntmps53, List.size_toArray, List.length_cons, List.length_nil, Nat.reduceAdd, Nat.reduceSub, Array.replicate_succ, Array.replicate_zero, List.push_toArray, List.append_toArray, List.nil_append, List.cons_append]
  gi_wp2_with fail
  refine ⟨trivial, fun h => (by cases h), (callsIn_wide.2 (hea 0 _ (Nat.zero_le _))).mono ?_⟩
  rintro r w1 ⟨rfl, b1⟩
  have bA : Below w1.heap.size w1 (w1.alloc (.cells (enV (eE (eaA b 0 cb))) 38)) := (Below.refl _ w1).alloc (Nat.le_refl _) _
  have bW : Below W.heap.size W (w1.alloc (.cells (enV (eE (eaA b 0 cb))) 38)) := chain b1 bA (Nat.le_refl _)
  have P0 : EI b cb K w J w1.heap.size [] 0 (w1.alloc (.cells (enV (eE (eaA b 0 cb))) 38)) :=
    { le := Nat.zero_le _, eq := rfl, box := heap_alloc_last w1 _
      j := hJ _ _ W _ _ h0 ⟨.below bW, fun k e => by (cases e), fun k e => by (cases e; exact .inr b1.size), fun k e => by (cases e; simp)⟩
      kept := fun k hk => (bW.block k (Nat.lt_of_lt_of_le (hKl k hk) hW.size)).trans (hkW k hk)
      new := Nat.le_trans hW.size b1.size }
  obtain ⟨rb, hrb⟩ : ∃ rb, rb = w1.heap.size := ⟨_, rfl⟩
  obtain ⟨V0, hV0⟩ : ∃ V0, V0 = w1.alloc (.cells (enV (eE (eaA b 0 cb))) 38) := ⟨_, rfl⟩
  rw [← hrb, ← hV0] at P0
  have HV0 := Hid.mk hV0
  clear hV0 bA bW hX hC hbl hbc b1
  gi_wp2
  rw [← hrb, ← HV0.out]
  clear hrb HV0
  gi_loopw [5, 6] (fun av kv wr => ∃ (pre : List En) (a : Nat), av = .int .i64 (eQ (eaA b a cb)) ∧ kv = .bool (eaA b a cb).isSome ∧ EI b cb K w J rb pre a wr) (fun av kv _ => mE b.size av kv)
  case atStart => exact ⟨[], 0, rfl, rfl, P0⟩
  case round =>
    obtain ⟨pre, a, rfl, rfl, hP⟩ := hrel
    clear P0
    cases hE : eaA b a cb with
    | none =>
      have heq := hP.eq
      rw [ents_none hE, List.append_nil] at heq
      have hj := hP.j
      clear hP hE
      have HQ := Hid.mk (And.intro heq hj)
      clear heq hj
      gi_wp2_with fail
      refine ⟨fun f h => (by cases h), ?_⟩
      gi_wp2_with fail
      go_end0
      exact ⟨⟨_, rfl⟩, .inl ⟨pre, some rb, HQ.out.1, HQ.out.2⟩⟩
    | some x =>
      obtain ⟨e, q⟩ := x
      have heq := hP.eq
      rw [ents_some hE] at heq
      have hbox := hP.box
      rw [hE] at hbox
      have hqa := eaA_some hE
      obtain ⟨fn, tmps, assign, body, hy, hRd⟩ := hY pre e (some rb) wr hP.j ⟨ents b q cb, by rw [← heq]; simp⟩
      simp only [encE, enV] at hy
      obtain ⟨y0, y1, y2, y3, y4⟩ := en5 (e := e) hbox
      have HP := Hid.mk hP
      have HQ := Hid.mk heq
      have HE := Hid.mk hE
      clear hP heq hE hbox
      gi_wp2_with fail
      refine ⟨fun h => (by cases h), hRd.mono ?_⟩
      clear hy hRd y0 y1 y2 y3 y4
      rintro rr W3 (⟨rfl, hJ3, hk3⟩ | ⟨rfl, hJ3, hk3⟩)
      · have hbox := HP.out.box
        rw [HE.out] at hbox
        have hbox3 := hk3.2 rb _ _ _ (.inr rfl) hbox
        have kept3 : ∀ k, K k → W3.heap[k]? = w.heap[k]? := fun k hk => by
          obtain ⟨c, t, m, h⟩ := hKc k hk
          rw [h]
          exact hk3.2 k c t m (.inl hk) ((HP.out.kept k hk).trans h)
        have hX := boxc hb1 (kept3 Bb hK'.1)
        have hC := boxc hc1 (kept3 Bc hK'.2)
        have hq := hqa.2
        have hz3 : w.heap.size ≤ W3.heap.size := Nat.le_trans HP.out.new (Nat.le_of_lt (Array.getElem?_eq_some_iff.1 hbox3).1)
        have hE' := Hid.mk hbox3
        have hE2 := Hid.mk hJ3
        have hE3 := Hid.mk kept3
        clear hbox hbox3 hJ3 kept3 hk3
        gi_wp2_with fail
        refine ⟨trivial, fun h => (by cases h), (callsIn_wide.2 (hea q W3 hq)).mono ?_⟩
        rintro r4 W4 ⟨rfl, b4⟩
        have hbox4 : W4.heap[rb]? = _ := (b4.block rb (Array.getElem?_eq_some_iff.1 hE'.out).1).trans hE'.out
        obtain ⟨y0, y1, y2, y3, y4⟩ := en5 (e := e) hbox4
        have f0 : W4.frozen? ⟨rb, 0, none⟩ = false := frozen_of_row _ _ _ _ _ hbox4
        have f1 : W4.frozen? ⟨rb, 1, none⟩ = false := frozen_of_row _ _ _ _ _ hbox4
        have f2 : W4.frozen? ⟨rb, 2, none⟩ = false := frozen_of_row _ _ _ _ _ hbox4
        have f3 : W4.frozen? ⟨rb, 3, none⟩ = false := frozen_of_row _ _ _ _ _ hbox4
        have f4 : W4.frozen? ⟨rb, 4, none⟩ = false := frozen_of_row _ _ _ _ _ hbox4
        have HB4 := Hid.mk hbox4
        clear hbox4 hX hC
        gi_wp2
        have st4 : Stay (fun k => (some rb : Option Nat) = some k) W3 (put5 W4 rb (eE (eaA b q cb))) := (Stay.below b4).trans ((put5_stay W4 rb _).mono (fun k _ e => by rw [e]))
        have hrl := (Array.getElem?_eq_some_iff.1 hE'.out).1
        have hb5 := put5_at HB4.out (eE (eaA b q cb))
        refine ⟨⟨pre ++ [e], q, rfl, rfl, hq, by rw [List.append_assoc]; exact HQ.out, hb5, hJ _ _ W3 _ _ hE2.out ⟨st4, fun k h => by (cases h; exact ⟨_, _, _, hE'.out⟩), fun k h => .inl h, fun k h => by (cases h; exact (Array.getElem?_eq_some_iff.1 hb5).1)⟩, fun k hk => ?_, HP.out.new⟩, ?_⟩
        · have hkl := hKl k hk
          have : k ≠ rb := fun h => by have := HP.out.new; omega
          exact (st4.block k (by omega) (fun h => by cases h; exact this rfl)).trans (hE3.out k hk)
        · cases hE5 : eaA b q cb with
          | none => simp only [mE, Option.isSome, eQ, Option.map, Option.getD, intOf]; omega
          | some x =>
            obtain ⟨e5, q5⟩ := x
            have := eaA_some hE5
            simp only [mE, Option.isSome, eQ, Option.map, Option.getD, intOf]; omega
      · have HJ := Hid.mk hJ3
        clear hJ3 hk3
        gi_wp2_with fail
        go_end0
        exact ⟨⟨_, rfl⟩, .inr ⟨_, _, trivial, HJ.out⟩⟩
end Go.Proofs.YtjdpolhjbkpnlaaGreatDoor
