/-
  DERIVED. ManifestCheck: the walk.
-/
import Derived.Test.YtibjneoiombbfaaDoorCKept
import Derived.Test.YtibjneoiombbfaaDoorCRef4
import Derived.Test.YtibjneoiombbfaaDoorKNames
import Derived.Deep.RegionHeld
set_option linter.unusedVariables false
set_option linter.unusedSimpArgs false
namespace Go.Proofs.YtibjneoiombbfaaDoor
open Go.RowKit Go.Proofs.SealMath
/-- The runs that are written over the list. -/
def newR (i : Nat) : Ru := ⟨(i : Int) + 1, i, (i : Int) + 1, 1⟩
def newL (n : Nat) : List Ru := (List.range n).map newR
theorem newL_len (n : Nat) : (newL n).length = n := by simp [newL]
theorem newL_s (n : Nat) : newL (n + 1) = newL n ++ [newR n] := by simp [newL, List.range_succ]
theorem mix_set (l : List Ru) (i : Nat) (h : i < l.length) : (newL i ++ l.drop i).set i (newR i) = newL (i + 1) ++ l.drop (i + 1) := by
  rw [List.set_append_right _ _ (by rw [newL_len]; exact Nat.le_refl _), newL_len, Nat.sub_self, List.drop_eq_getElem_cons h, newL_s, List.set_cons_zero, List.append_assoc]
  rfl
/-- What is kept while the list is written over. -/
def RO (w : World) (m : Mf) (q cp bt : Nat) (u : Value) (wr : World) : Prop :=
  ∃ i : Nat, u = .int .i64 i ∧ i ≤ m.rs.length ∧ Rw wr q cp (newL i ++ (m.rs ++ [r7]).drop i) ∧ SAt wr bt (mfC m (some ⟨q, 0, none⟩) cp) ∧ Below w.heap.size w wr
/-- The manifest's box, its twin's, and what they lead to. -/
structure TW (w : World) (m : Mf) (la : Option Addr) (c q cp bt : Nat) (W : World) : Prop where
  sm : SAt W w.heap.size (mfC m la c)
  st : SAt W bt (mfC m (some ⟨q, 0, none⟩) cp)
  rw : Rw W q cp (m.rs ++ [r7])
  la : LAt W la m.rs
  tab : Tab W
  pos : 0 < W.heap.size
  bw : Below w.heap.size w W
theorem TW.lat {w : World} {m : Mf} {la : Option Addr} {c q cp bt : Nat} {W W' : World} (h : TW w m la c q cp bt W) (b : Below W.heap.size W W') : TW w m la c q cp bt W' :=
  ⟨h.sm.lat b, h.st.lat b, h.rw.below b, h.la.below b, h.tab.below b h.pos, Nat.lt_of_lt_of_le h.pos b.size, chain h.bw b (Nat.le_refl _)⟩
structure TN (w : World) (m : Mf) (q cp bt q2 c2 bn : Nat) (W : World) : Prop where
  st : SAt W bt (mfC m (some ⟨q, 0, none⟩) cp)
  sn : SAt W bn (mfC m (some ⟨q2, 0, none⟩) c2)
  rw : Rw W q cp (m.rs ++ [r7])
  rn : Rw W q2 c2 (m.rs ++ [r7])
  tab : Tab W
  pos : 0 < W.heap.size
  bw : Below w.heap.size w W
theorem TN.lat {w : World} {m : Mf} {q cp bt q2 c2 bn : Nat} {W W' : World} (h : TN w m q cp bt q2 c2 bn W) (b : Below W.heap.size W W') : TN w m q cp bt q2 c2 bn W' :=
  ⟨h.st.lat b, h.sn.lat b, h.rw.below b, h.rn.below b, h.tab.below b h.pos, Nat.lt_of_lt_of_le h.pos b.size, chain h.bw b (Nat.le_refl _)⟩
abbrev Cs (W : World) (g : Nat) (m : Mf) (la : Option Addr) (c : Nat) : Prop := W.cell? ⟨g, 0, none⟩ = some (.int .i64 m.w) ∧ W.cell? ⟨g, 1, none⟩ = some (.int .i64 m.ch) ∧ W.cell? ⟨g, 2, none⟩ = some (.int .i64 m.md) ∧ W.cell? ⟨g, 3, none⟩ = some (.int .i64 m.seq) ∧ W.cell? ⟨g, 4, none⟩ = some (.int .i64 m.nx) ∧ W.cell? ⟨g, 5, none⟩ = some (.int .i64 m.jn) ∧ W.cell? ⟨g, 6, none⟩ = some (.slice la m.rs.length c)
theorem SAt.cs {W : World} {g : Nat} {m : Mf} {la : Option Addr} {c : Nat} (h : SAt W g (mfC m la c)) : Cs W g m la c := ⟨h 0 _ rfl, h 1 _ rfl, h 2 _ rfl, h 3 _ rfl, h 4 _ rfl, h 5 _ rfl, h 6 _ rfl⟩
set_option maxHeartbeats 16000000 in
set_option maxRecDepth 100000 in
theorem law_check (m : Mf) (la : Option Addr) (c : Nat) (w : World) (hL : LAt w la m.rs) (hw : MfW m) (hc : m.rs.length ≤ c) (hs : (m.rs.length + 1) * 32 ≤ 140737488355328) (ht : Tab w) (hg0 : 0 < w.heap.size) :
    Calls Tryd.prog 4 #[.agg (mfC m la c).toArray] w fun e w' => e = .returned (.bool true) ∧ Below w.heap.size w w' := by
  obtain ⟨wa, hwa⟩ : ∃ wa, wa = w.alloc (.cells (mfC m la c).toArray 26) := ⟨_, rfl⟩
  have ba : Below w.heap.size w wa := by rw [hwa]; exact (Below.refl _ w).alloc (Nat.le_refl _) _
  have sza : wa.heap.size = w.heap.size + 1 := by rw [hwa]; simp
  have SA : SAt wa w.heap.size (mfC m la c) := by rw [hwa]; exact SAt.new w _ _
  have hwa' : w.alloc (.cells (mfC m la c).toArray 26) = wa := hwa.symm
  have ct := twin_any m la c wa (hL.below ba) hs
  have ck := fun W q cp bt (h : TW w m la c q cp bt W) => check_any m (some ⟨q, 0, none⟩) cp W h.rw.lat hw (by omega)
  have ce := fun W q cp bt (h : TW w m la c q cp bt W) => encode_any m (some ⟨q, 0, none⟩) cp W h.rw.lat hw (by have := h.rw.cap (by simp); simp at this; omega) (by omega) h.tab h.pos
  have cr := fun W q cp bt (h : TW w m la c q cp bt W) => rencode_any m la c W h.la hc (by omega)
  have cq := fun W q cp bt (h : TW w m la c q cp bt W) => rcheck_any m la c W h.la hc (by omega)
  have cp' := fun W q cp bt (h : TW w m la c q cp bt W) => kept_any m q cp la c W h.rw h.la hc (by omega)
  have HL := Hid.mk hL
  have HT := Hid.mk ht
  have HW := Hid.mk hw
  obtain ⟨E, hE⟩ : ∃ E, E = chE m := ⟨_, rfl⟩
  obtain ⟨T, hT⟩ : ∃ T, T = enT m := ⟨_, rfl⟩
  rw [← hE] at ck
  rw [← hT, ← hE] at ce cr
  rw [← hE] at cq
  have HA := Hid.mk SA
  obtain ⟨a0, a1, a2, a3, a4, a5, a6⟩ := SA.cs
  have mk : ∀ (q cp : Nat) (w1 : World), Rw w1 q cp (m.rs ++ [r7]) → Below wa.heap.size wa w1 → Hid (TW w m la c q cp w1.heap.size (w1.alloc (.cells (mfC m (some ⟨q, 0, none⟩) cp).toArray 26))) := fun q cp w1 h b => by
    have bt : Below w1.heap.size w1 (w1.alloc (.cells (mfC m (some ⟨q, 0, none⟩) cp).toArray 26)) := (Below.refl _ w1).alloc (Nat.le_refl _) _
    have b2 := chain b bt (Nat.le_refl _)
    have b3 := chain ba b2 (Nat.le_refl _)
    exact ⟨HA.out.lat b2, SAt.new w1 _ _, h.below bt, HL.out.below b3, HT.out.below b3 hg0, Nat.lt_of_lt_of_le hg0 b3.size, b3⟩
  clear hwa hE hT hL ht hw SA
  simp only [mfC] at hwa' ct ck ce cr cq cp' ⊢
  go_enter Tryd.func4, Tryd.ntmps4
  go_wp2_with first
    | (go_at_call 15; refine ct.mono ?_; rintro e w1 ⟨q, cp, rfl, rw1, hq, b1⟩; clear ct; have X := mk q cp w1 rw1 b1; obtain ⟨wt, hwt⟩ : ∃ wt, wt = w1.alloc (.cells (mfC m (some ⟨q, 0, none⟩) cp).toArray 26) := ⟨_, rfl⟩; rw [← hwt] at X; have hwt' : w1.alloc (.cells (mfC m (some ⟨q, 0, none⟩) cp).toArray 26) = wt := hwt.symm; clear hwt mk; simp only [mfC] at hwt'; obtain ⟨t0, t1, t2, t3, t4, t5, t6⟩ := X.out.st.cs)
    | (go_at_call 16; refine (ck wt q cp _ X.out).mono ?_; rintro e w2 ⟨rfl, b2⟩; have X2 := Hid.mk (X.out.lat b2); clear t0 t1 t2 t3 t4 t5 t6 X b2 ck hwt' ; obtain ⟨t0, t1, t2, t3, t4, t5, t6⟩ := X2.out.st.cs)
    | (go_at_call 10; refine (ce w2 q cp _ X2.out).mono ?_; rintro e w3 ⟨rfl, b3⟩; have X3 := Hid.mk (X2.out.lat b3); clear t0 t1 t2 t3 t4 t5 t6 X2 b3 ce; obtain ⟨t0, t1, t2, t3, t4, t5, t6⟩ := X3.out.sm.cs)
    | (go_at_call 17; refine (cr w3 q cp _ X3.out).mono ?_; rintro e w4 ⟨rfl, b4⟩; have X4 := Hid.mk (X3.out.lat b4); clear t0 t1 t2 t3 t4 t5 t6 X3 b4 cr; obtain ⟨t0, t1, t2, t3, t4, t5, t6⟩ := X4.out.sm.cs; obtain ⟨s0, s1, s2, s3, s4, s5, s6⟩ := X4.out.st.cs)
    | (go_at_call 18; refine (cp' w4 q cp _ X4.out).mono ?_; rintro e w5 ⟨rfl, b5⟩; have X5 := Hid.mk (X4.out.lat b5); clear t0 t1 t2 t3 t4 t5 t6 s0 s1 s2 s3 s4 s5 s6 X4 b5 cp')
  clear a0 a1 a2 a3 a4 a5 a6 hwa' HA
  obtain ⟨q0, q1, q2, q3, q4, q5, q6⟩ := X5.out.sm.cs
  have cq5 := fun W (b : Below w5.heap.size w5 W) => cq W q cp _ (X5.out.lat b)
  clear cq
  go_region_held (fun w' => Below w5.heap.size w5 w' ∧ w'.cell? ⟨w.heap.size, 0, none⟩ = some (.int .i64 m.w) ∧ w'.cell? ⟨w.heap.size, 1, none⟩ = some (.int .i64 m.ch) ∧ w'.cell? ⟨w.heap.size, 2, none⟩ = some (.int .i64 m.md) ∧ w'.cell? ⟨w.heap.size, 3, none⟩ = some (.int .i64 m.seq) ∧ w'.cell? ⟨w.heap.size, 4, none⟩ = some (.int .i64 m.nx) ∧ w'.cell? ⟨w.heap.size, 5, none⟩ = some (.int .i64 m.jn) ∧ w'.cell? ⟨w.heap.size, 6, none⟩ = some (.slice la m.rs.length c))
    ((refine (fun hb => ⟨hb, cell_lat hb q0, cell_lat hb q1, cell_lat hb q2, cell_lat hb q3, cell_lat hb q4, cell_lat hb q5, cell_lat hb q6⟩) ?_; first | exact bb | exact b_drew w5))
    (first
      | (go_at_call 13; refine (num_any _ _).mono ?_; rintro e w' ⟨rfl, rfl⟩)
      | (go_at_call 19; refine (cq5 _ (by first | exact bb | exact b_drew w5)).mono ?_; rintro e w6 ⟨rfl, b6⟩; clear cq5; have bb : Below w5.heap.size w5 w6 := (by first | exact chain bb b6 (Nat.le_refl _) | exact below_d b6)))
  rename_i hH
  have X6 := Hid.mk (X5.out.lat hH.1)
  clear hH X5 q0 q1 q2 q3 q4 q5 q6 bb b6
  have hqt : q ≠ w1.heap.size := by have := rw1.lt; omega
  have hqw : w.heap.size < q := by omega
  have hbt : w.heap.size < w1.heap.size := by have := b1.size; omega
  generalize w1.heap.size = bt at X6 hqt hbt ⊢
  have k6 := X6.out.st 6 _ rfl
  go_wp2
  clear k6
  go_loopw [10] (fun u wr => RO w m q cp bt u wr) (fun u _ => m.rs.length - (intOf u).toNat)
  case atStart => exact ⟨0, rfl, Nat.zero_le _, by simpa [newL] using X6.out.rw, X6.out.st, X6.out.bw⟩
  case round =>
    obtain ⟨i, rfl, hi, hR, hS, bw⟩ := hrel
    have k6 := hS 6 _ rfl
    by_cases hlt : i < m.rs.length
    · have hln : (newL i ++ (m.rs ++ [r7]).drop i).length = m.rs.length + 1 := by rw [List.length_append, newL_len, List.length_drop]; simp; omega
      have hcp := hR.cap (fun h => by rw [h] at hln; simp at hln)
      obtain ⟨x0, x1, x2, x3⟩ := row_ru hR.row i (by omega)
      rw [Nat.zero_add] at x0 x1 x2 x3
      have f0 := hR.free
      have R2 := hR.set i (newR i) (by omega)
      rw [mix_set _ i (by simp; omega)] at R2
      have s4 := set4_stay wr q i (newR i)
      have HR2 := Hid.mk R2
      have HS4 := Hid.mk s4
      have HS := Hid.mk hS
      have HB := Hid.mk bw
      clear R2 s4 hS hR bw X6
      simp only [set4, newR] at HR2 HS4
      go_wp2
      refine ⟨⟨i + 1, rfl, hlt, HR2.out, HS.out.stay HS4.out (fun h => hqt h.symm), HB.out.trans (HS4.out.toBelow (B := w.heap.size) (fun k hk h => by (have h' : k = q := h; omega)) HB.out.size)⟩, by simp only [intOf]; omega⟩
    · have e : i = m.rs.length := by omega
      subst e
      have hR' : Rw wr q cp (newL m.rs.length ++ [r7]) := by
        have := hR
        rw [List.drop_left] at this
        exact this
      obtain ⟨m2, hm2⟩ : ∃ m2 : Mf, m2 = { m with rs := newL m.rs.length } := ⟨_, rfl⟩
      have hl2 : m2.rs.length = m.rs.length := by rw [hm2]; exact newL_len _
      have hrs : m2.rs = newL m.rs.length := by rw [hm2]
      have hS2 : SAt wr bt (mfC m2 (some ⟨q, 0, none⟩) cp) := by
        have e1 : mfC m2 (some ⟨q, 0, none⟩) cp = mfC m (some ⟨q, 0, none⟩) cp := by rw [mfC, hl2, hm2]; rfl
        rw [e1]; exact hS
      rw [← hrs] at hR'
      have hw2 : MfW m2 := by
        have h := HW.out
        rw [hm2]
        refine ⟨h.w, h.ch, h.md, h.seq, h.nx, h.jn, fun r hr => ?_⟩
        obtain ⟨k, hk, rfl⟩ := List.mem_map.1 hr
        have hk' : k < m.rs.length := List.mem_range.1 hk
        simp only [newR]
        omega
      have tabR : Tab wr := HT.out.below bw hg0
      have posR : 0 < wr.heap.size := Nat.lt_of_lt_of_le hg0 bw.size
      rw [← hl2] at hs
      clear hm2 hrs hS hR HW HT HL X6
      have ct := twin_any m2 (some ⟨q, 0, none⟩) cp wr hR'.lat hs
      have ck := fun W q2 c2 bn (h : TN w m2 q cp bt q2 c2 bn W) => check_any m2 (some ⟨q, 0, none⟩) cp W h.rw.lat hw2 (by omega)
      have ce := fun W q2 c2 bn (h : TN w m2 q cp bt q2 c2 bn W) => encode_any m2 (some ⟨q, 0, none⟩) cp W h.rw.lat hw2 (by have := h.rw.cap (by simp); simp at this; omega) (by omega) h.tab h.pos
      have cr := fun W q2 c2 bn (h : TN w m2 q cp bt q2 c2 bn W) => rencode_any m2 (some ⟨q2, 0, none⟩) c2 W h.rn.lat (by have := h.rn.cap (by simp); simp at this; omega) (by omega)
      have cq := fun W q2 c2 bn (h : TN w m2 q cp bt q2 c2 bn W) => rcheck_any m2 (some ⟨q2, 0, none⟩) c2 W h.rn.lat (by have := h.rn.cap (by simp); simp at this; omega) (by omega)
      have cs := fun W q2 c2 bn (h : TN w m2 q cp bt q2 c2 bn W) => same_eq m2 (some ⟨q, 0, none⟩) (some ⟨q2, 0, none⟩) cp c2 W h.rw.lat h.rn.lat (by have := h.rw.cap (by simp); simp at this; omega) (by have := h.rn.cap (by simp); simp at this; omega) (by omega)
      obtain ⟨E2, hE⟩ : ∃ E, E = chE m2 := ⟨_, rfl⟩
      obtain ⟨T2, hT⟩ : ∃ T, T = enT m2 := ⟨_, rfl⟩
      rw [← hE] at ck
      rw [← hT, ← hE] at ce cr
      rw [← hE] at cq
      have mk : ∀ (q2 c2 : Nat) (w7 : World), Rw w7 q2 c2 (m2.rs ++ [r7]) → Below wr.heap.size wr w7 → Hid (TN w m2 q cp bt q2 c2 w7.heap.size (w7.alloc (.cells (mfC m2 (some ⟨q2, 0, none⟩) c2).toArray 26))) := fun q2 c2 w7 h b => by
        have b7 : Below w7.heap.size w7 (w7.alloc (.cells (mfC m2 (some ⟨q2, 0, none⟩) c2).toArray 26)) := (Below.refl _ w7).alloc (Nat.le_refl _) _
        have b2 := chain b b7 (Nat.le_refl _)
        exact ⟨hS2.lat b2, SAt.new w7 _ _, hR'.below b2, h.below b7, tabR.below b2 posR, Nat.lt_of_lt_of_le posR b2.size, chain bw b2 (Nat.le_refl _)⟩
      obtain ⟨t0, t1, t2, t3, t4, t5, t6⟩ := hS2.cs
      rw [← hl2] at k6 ⊢
      clear hE hT hw2 hl2 hi hlt hc hR' hS2 tabR posR hs
      simp only [mfC] at ct ck ce cr cq cs
      go_wp2_with first
        | (go_at_call 15; refine ct.mono ?_; rintro e w7 ⟨q2, c2, rfl, rw2, -, b7⟩; clear ct; have X := mk q2 c2 w7 rw2 b7; obtain ⟨wn, hwn⟩ : ∃ wn, wn = w7.alloc (.cells (mfC m2 (some ⟨q2, 0, none⟩) c2).toArray 26) := ⟨_, rfl⟩; rw [← hwn] at X; have hwn' : w7.alloc (.cells (mfC m2 (some ⟨q2, 0, none⟩) c2).toArray 26) = wn := hwn.symm; clear hwn mk; simp only [mfC] at hwn'; clear t0 t1 t2 t3 t4 t5 t6 k6 b7; obtain ⟨t0, t1, t2, t3, t4, t5, t6⟩ := X.out.sn.cs)
        | (go_at_call 19; refine (cq wn q2 c2 _ X.out).mono ?_; rintro e w8 ⟨rfl, b8⟩; have X8 := Hid.mk (X.out.lat b8); clear t0 t1 t2 t3 t4 t5 t6 X b8 cq hwn'; obtain ⟨t0, t1, t2, t3, t4, t5, t6⟩ := X8.out.sn.cs)
        | (go_at_call 17; refine (cr w8 q2 c2 _ X8.out).mono ?_; rintro e w9 ⟨rfl, b9⟩; have X9 := Hid.mk (X8.out.lat b9); clear t0 t1 t2 t3 t4 t5 t6 X8 b9 cr; obtain ⟨t0, t1, t2, t3, t4, t5, t6⟩ := X9.out.st.cs)
        | (go_at_call 16; refine (ck w9 q2 c2 _ X9.out).mono ?_; rintro e w10 ⟨rfl, b10⟩; have X10 := Hid.mk (X9.out.lat b10); clear t0 t1 t2 t3 t4 t5 t6 X9 b10 ck; obtain ⟨t0, t1, t2, t3, t4, t5, t6⟩ := X10.out.st.cs)
        | (go_at_call 10; refine (ce w10 q2 c2 _ X10.out).mono ?_; rintro e w11 ⟨rfl, b11⟩; have X11 := Hid.mk (X10.out.lat b11); clear t0 t1 t2 t3 t4 t5 t6 X10 b11 ce; obtain ⟨t0, t1, t2, t3, t4, t5, t6⟩ := X11.out.st.cs; obtain ⟨s0, s1, s2, s3, s4, s5, s6⟩ := X11.out.sn.cs)
        | (go_at_call 12; refine (cs w11 q2 c2 _ X11.out).mono ?_; rintro e w12 ⟨rfl, b12⟩; have X12 := Hid.mk (X11.out.lat b12))
        | (go_at_call 13; refine (num_any _ _).mono ?_; rintro e w' ⟨rfl, rfl⟩)
      go_ret
      exact ⟨rfl, X12.out.bw⟩
end Go.Proofs.YtibjneoiombbfaaDoor
