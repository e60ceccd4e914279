/-
  DERIVED. sign: Sums, for every signer and vector.
-/
import Derived.Test.YtmdmjjobhkpojaaQSum
set_option linter.unusedVariables false
set_option linter.unusedSimpArgs false
namespace Go.Proofs.Ytmdmjjobhkpojaa
open Go.RowKit Go.Shelf Go.Proofs.BitMath Go.Proofs.FloatMath
theorem Try.infoZ : (Try.prog.info? 30).map (fun i => (i.zero, i.size, i.bytes)) = some (some (.agg #[.int .i64 0, .int .i64 0]), 2, 16) := by kernel_rfl
/-- All sums of a vector. -/
def sumsL (wd : Nat) (sd : Int) (v : List Zp) : List Zp := (List.range (wd / 2)).map fun j => sumZ sd j v v.length
theorem sumsL_len (wd : Nat) (sd : Int) (v : List Zp) : (sumsL wd sd v).length = wd / 2 := by simp [sumsL]
theorem sumsL_at {wd : Nat} {sd : Int} {v : List Zp} {j : Nat} (h : j < (sumsL wd sd v).length) : (sumsL wd sd v)[j] = sumZ sd j v v.length := by simp [sumsL]
/-- While they are written: the first j are there, noughts behind. -/
def sumsT (wd : Nat) (sd : Int) (v : List Zp) (j : Nat) : List Zp := (sumsL wd sd v).take j ++ List.replicate (wd / 2 - j) (0, 0)
theorem sumsT_zero (wd : Nat) (sd : Int) (v : List Zp) : sumsT wd sd v 0 = List.replicate (wd / 2) (0, 0) := by simp [sumsT]
theorem sumsT_len (wd : Nat) (sd : Int) (v : List Zp) (j : Nat) (h : j ≤ wd / 2) : (sumsT wd sd v j).length = wd / 2 := by simp [sumsT, sumsL_len]; omega
theorem sumsT_end (wd : Nat) (sd : Int) (v : List Zp) : sumsT wd sd v (wd / 2) = sumsL wd sd v := by
  unfold sumsT
  rw [List.take_of_length_le (by rw [sumsL_len]; omega), Nat.sub_self]; simp
theorem sumsT_step (wd : Nat) (sd : Int) (v : List Zp) (j : Nat) (h : j < wd / 2) : (sumsT wd sd v j).set j (sumZ sd j v v.length) = sumsT wd sd v (j + 1) := by
  have hl : j < (sumsL wd sd v).length := by rw [sumsL_len]; exact h
  have h1 : ((sumsL wd sd v).take j).length = j := by rw [List.length_take]; omega
  unfold sumsT
  rw [List.set_append_right _ _ (by omega), h1, Nat.sub_self, List.take_succ_eq_append_getElem hl, sumsL_at]
  obtain ⟨m, hm⟩ : ∃ m, wd / 2 - j = m + 1 := ⟨wd / 2 - j - 1, by omega⟩
  rw [hm, show wd / 2 - (j + 1) = m by omega, List.replicate_succ, List.set_cons_zero]
  simp
theorem z_row {W : World} {g cap m : Nat} {X : List Zp} (h : zE.Row W (.slice (some ⟨g, 0, none⟩) m cap) X) (i : Nat) (hi : i < X.length) : W.cell? ⟨g, i * 2, none⟩ = some (.int .i64 X[i].1) ∧ W.cell? ⟨g, i * 2 + 1, none⟩ = some (.int .i64 X[i].2) ∧ ∀ j, W.frozen? ⟨g, j, none⟩ = false := by
  obtain ⟨g', cap', e, h1, h2⟩ := El.cells zOk h i hi
  simp only [Value.slice.injEq, Option.some.injEq, Addr.mk.injEq] at e
  obtain ⟨⟨rfl, -, -⟩, -, -⟩ := e
  exact ⟨h1 0 _ rfl, h1 1 _ rfl, h2⟩
theorem z_set {W : World} {g cap m : Nat} {X : List Zp} (h : zE.Row W (.slice (some ⟨g, 0, none⟩) m cap) X) (hm : m = X.length) (i : Nat) (hi : i < X.length) (p : Zp) : zE.Row ((W.setCell ⟨g, i * 2, none⟩ (.int .i64 p.1)).setCell ⟨g, i * 2 + 1, none⟩ (.int .i64 p.2)) (.slice (some ⟨g, 0, none⟩) m cap) (X.set i p) := El.set zOk h hm i hi p
/-- What Sums answers: the refusal, or the sums in a row of their own. -/
def SumsO (wd dm : Nat) (sd : Int) (v : List Zp) (B : Nat) (e : Ending) (w' : World) : Prop :=
  (ckE dm v ≠ 0 ∧ e = .returned (.tuple #[.slice none 0 0, .int .i64 (ckE dm v)])) ∨ ∃ g cap, ckE dm v = 0 ∧ B ≤ g ∧ zE.Row w' (.slice (some ⟨g, 0, none⟩) (wd / 2) cap) (sumsL wd sd v) ∧ e = .returned (.tuple #[.slice (some ⟨g, 0, none⟩) (wd / 2) cap, .int .i64 0])
theorem ckE0 {dm : Nat} {v : List Zp} (h : ckE dm v = 0) : v.length = dm ∧ v.all okP = true := by
  unfold ckE at h
  split at h
  · split at h
    · exact ⟨‹_›, ‹_›⟩
    · cases h
  · cases h
set_option maxRecDepth 100000 in
set_option maxHeartbeats 4000000 in
theorem sums_any (b wd dm : Nat) (sd : Int) (la : Option Addr) (c : Nat) (v : List Zp) (w : World) (hs : SgAt w b wd dm sd) (hd : 0 < dm) (hd2 : dm ≤ 1024) (hw : 2 ≤ wd) (hw2 : wd ≤ 1024) (hv : zE.At w la v) (R : Ending → World → Prop)
    (hR : ∀ e w', SumsO wd dm sd v w.heap.size e w' → Below w.heap.size w w' → R e w') :
    Calls Try.prog 16 #[Pt b, .slice la v.length c] w R := by
  have HQ := Hid.mk hR
  clear hR
  by_cases hk : ckE dm v = 0
  · obtain ⟨hl, hok⟩ := ckE0 hk
    have hn : v ≠ [] := fun e => by subst e; simp at hl; omega
    obtain ⟨g, off, rfl, hr⟩ := hv.at' hn
    have hgl : g < w.heap.size := World.block_lt_of_cell? w _ (z_cells hr 0 (by omega)).1
    have kc := check_v b wd dm sd (some ⟨g, off, none⟩) c v w hs hd hd2 hv
    have s0 := hs.c0
    have hsl := hs.lt
    have HR := Hid.mk hr
    have HS := Hid.mk hs
    have HK := Hid.mk hk
    have HL := Hid.mk hl
    have HO := Hid.mk hok
    have HD := Hid.mk (And.intro hd hd2)
    rw [hk] at kc
    obtain ⟨m, em⟩ : ∃ m, wd / 2 = m := ⟨_, rfl⟩
    have eI : (wd : Int) / 2 = (m : Int) := by omega
    have hm : m ≤ 512 := by omega
    have hm1 : 0 < m := by omega
    have EM := Hid.mk em
    rw [hl] at kc ⊢
    clear hs hv hr hn hk hl hok hd hd2 hw hw2 em
    go_enter Try.func16, Try.ntmps16
    go_wp2_with (first
      | (go_at_call 25; refine kc.mono ?_; rintro e w1 ⟨rfl, hB1⟩; clear kc; have s0 := cell_lat hB1 s0; obtain ⟨w2, hmk, hrow, hb2, hs2⟩ := El.make zOk w1 (0, 0) rfl m (by omega); have HM := Hid.mk hmk; clear hmk)
      | (at_make; refine wpList_make_run _ rfl _ _ _ rfl _ _ HM.out ?_; clear HM))
    have B2 : Below w.heap.size w w2 := hB1.trans (hb2.mono hB1.size)
    rw [← EM.out, ← sumsT_zero wd sd v, EM.out] at hrow
    have hG : w.heap.size ≤ w1.heap.size := hB1.size
    obtain ⟨G, eG⟩ : ∃ G, w1.heap.size = G := ⟨_, rfl⟩
    rw [eG] at hrow hG
    simp only [eG]
    clear eG hB1 hb2 hs2 s0
    have H0 := Hid.mk (And.intro hrow B2)
    clear hrow B2
    go_loopw [8, 23] (fun f i wr => ∃ (j : Nat), j ≤ m ∧ i = .int .i64 j ∧ zE.Row wr (.slice (some ⟨G, 0, none⟩) m m) (sumsT wd sd v j) ∧ Below w.heap.size w wr) (fun _ i _ => m - (intOf i).toNat)
    case atStart => exact ⟨0, Nat.zero_le _, rfl, H0.out.1, H0.out.2⟩
    case round =>
      obtain ⟨j, hj, rfl, hrow, hB⟩ := hrel
      clear H0
      by_cases hlt : j < m
      · have hj' : (j : Int) < (m : Int) := by omega
        have kS := sum_any b wd dm j sd g off c v wr (HS.out.below hB) HL.out HD.out.1 HD.out.2 (by omega) HO.out (fun i x hx => cell_lat hB (HR.out i x hx))
        have hbd := sumZ_bd (sd := sd) (jj := j) HO.out dm
        have hTl := sumsT_len wd sd v j (by rw [EM.out]; omega)
        rw [EM.out] at hTl
        have HT := Hid.mk hTl
        have hgs : ∀ k, (Value.slice (some ⟨G, 0, none⟩) m m).ownBlock = some k → k = G := fun k e => by cases e; rfl
        have HB := Hid.mk hB
        have HW := Hid.mk hrow
        clear hB hrow hTl
        obtain ⟨P, eP⟩ : ∃ P, sumZ sd j v dm = P := ⟨_, rfl⟩
        rw [eP] at kS hbd
        have EP := Hid.mk eP
        have hb1 : P.1.natAbs ≤ 1073741824 := by have := hbd.1; have := HD.out.2; have : dm * 1048576 ≤ 1024 * 1048576 := Nat.mul_le_mul_right _ this; omega
        have hb2 : P.2.natAbs ≤ 1073741824 := by have := hbd.2; have := HD.out.2; have : dm * 1048576 ≤ 1024 * 1048576 := Nat.mul_le_mul_right _ this; omega
        clear eP hbd
        go_wp2_with (first
          | (go_at_call 27; refine kS.mono ?_; rintro e w3 ⟨⟨x, y, rfl, hC⟩, hB3⟩; clear kS)
          | (go_at_call 26; refine (part_any _ _ _ _ _ hC (by omega) (by omega)).mono ?_; rintro e w4 ⟨rfl, hB4⟩; have hR4 := (HW.out.below hB3).below hB4; obtain ⟨q0, q1, qf⟩ := z_row hR4 j (by rw [HT.out]; exact hlt); have qf0 := qf (j * 2); have qf1 := qf (j * 2 + 1); clear qf hC))
        go_roundw
        case rel =>
          refine ⟨j + 1, hlt, by go_num, ?_, ?_⟩
          · have := z_set hR4 HT.out.symm j (by rw [HT.out]; exact hlt) P
            rw [show P = sumZ sd j v v.length by rw [HL.out, EP.out], sumsT_step wd sd v j (by rw [EM.out]; exact hlt)] at this
            rw [show P = sumZ sd j v v.length by rw [HL.out, EP.out]]
            exact this
          · exact (((HB.out.trans (hB3.mono HB.out.size)).trans (hB4.mono (HB.out.trans (hB3.mono HB.out.size)).size)).setCell (by simpa using hG) _).setCell (by simpa using hG) _
        case measure => simp [intOf]; omega
      · have e : j = m := by omega
        have HW : Hid (zE.Row wr (.slice (some ⟨G, 0, none⟩) m m) (sumsL wd sd v)) := by
          rw [e, ← EM.out, sumsT_end, EM.out] at hrow
          exact hrow
        have HB := Hid.mk hB
        clear e hrow hB
        go_wp2
        refine HQ.out _ _ ?_ HB.out
        refine Or.inr ⟨G, m, HK.out, hG, ?_, ?_⟩
        · rw [EM.out]; exact HW.out
        · rw [EM.out]; rfl
  · have HK := Hid.mk hk
    have k1 : ((ckE dm v) != 0) = true := by simpa using hk
    have kc := check_v b wd dm sd la c v w hs hd hd2 hv
    clear hs hv hk hd hd2 hw hw2
    go_enter Try.func16, Try.ntmps16
    go_wp2_with (go_at_call 25; refine kc.mono ?_; rintro e w' ⟨rfl, hB⟩)
    exact HQ.out _ _ (Or.inl ⟨HK.out, rfl⟩) hB
end Go.Proofs.Ytmdmjjobhkpojaa
