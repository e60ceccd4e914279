/-
  DERIVED. The document's own Join.
-/
import Derived.Test.YtfjbabiobobboaaVJoin
set_option linter.unusedVariables false
set_option linter.unusedSimpArgs false
namespace Go.Proofs.Ytfjbabiobobboaa
open Go.RowKit Go.Proofs.BitMath
theorem wN (n : Nat) (h : n ≤ 1000000) : IntKind.i64.wrap (n : Int) = (n : Int) := by rw [IntKind.wrap_i64]; omega
theorem wN64 (n : Nat) (h : n ≤ 1000000) : wrap64 (n : Int) = (n : Int) := by unfold wrap64; omega
theorem wU (n : Nat) (h : n ≤ 1000000) : IntKind.u64.wrap (n : Int) = (n : Int) := by
  show (n : Int) % 18446744073709551616 = _
  omega
theorem sub_nat {B k t : Nat} (h : B - 1 - k = t) (hk : k < B) : (B : Int) - 1 - (k : Int) = (t : Int) := by omega
theorem sub_one {B : Nat} (h : 1 ≤ B) : (B : Int) - 1 = ((B - 1 : Nat) : Int) := by omega
/-- The bytes under way. -/
def BR (W : World) (g : Nat) (l : List UInt8) : Prop := RowIs W g 5 (l.map BV)
theorem br_of {W : World} {g : Nat} {l : List UInt8} (h : W.ownsRow 0 5 1 (.slice (some ⟨g, 0, none⟩) l.length l.length) l.length (l.map BV)) : BR W g l := by
  rcases h.2 with ⟨h0, _⟩ | ⟨g', c, cur, hv, k1, k2, k3, k4, k5, k6⟩
  · cases h0
  · simp only [Value.slice.injEq, Option.some.injEq, Addr.mk.injEq] at hv
    obtain ⟨⟨rfl, -, -⟩, -, rfl⟩ := hv
    unfold BR RowIs
    rw [k2, ← k6, List.take_of_length_le (by simp [k5])]
theorem br_own {W : World} {g : Nat} {l : List UInt8} (h : BR W g l) (hl : l.length ≤ 1048576) : W.ownsRow 0 5 1 (.slice (some ⟨g, 0, none⟩) l.length l.length) l.length (l.map BV) :=
  ⟨by simp, .inr ⟨g, l.length, (l.map BV).toArray, rfl, Nat.zero_le _, h, Nat.le_refl _, by unfold maxLen; omega, by simp, by simp; exact List.take_of_length_le (by simp)⟩⟩
def RJ1 (w1 : World) (g X M : Nat) (Z : List Int) (u : Value) (wr : World) : Prop := ∃ j : Nat, u = .int .i64 j ∧ j ≤ M ∧ Hid (BR wr g (joinL X M (zF Z) (List.range j)) ∧ (∀ i, i < j → valid X M (zF Z) i) ∧ Below w1.heap.size w1 wr)
def RJ2 (w1 : World) (g v n fr : Nat) (l : List UInt8) (u : Value) (wr : World) : Prop := ∃ k : Nat, u = .int .i64 k ∧ k ≤ n ∧ Hid (BR wr g (wrF v n l ((List.range k).map (fr + ·))).1 ∧ Below w1.heap.size w1 wr)
set_option maxHeartbeats 4000000 in
set_option maxRecDepth 100000 in
theorem rjoin_yes (X M : Nat) (ok : OkC X M) (Z : List Int) (hZ : ∀ z ∈ Z, -9223372036854775808 ≤ z ∧ z ≤ 9223372036854775807) (hl : Z.length = M) (la : Option Addr) (ca : Nat) (w : World) (ha : EI.At w la Z) : Calls Try.prog 16 #[.int .i64 X, .int .i64 M, .slice la M ca] w fun e w' => ∃ t : ByteArray, e = .returned (.tuple #[.string t, .int .i64 (jnE X M Z)]) ∧ t.data.toList = jnT X M Z ∧ Below w.heap.size w w' := by
  have hc := rchunks_all X M w
  rw [cc_of ok, chA_yes ok] at hc
  have hp := ok.pos
  have hle := ok.le
  have hX := ok.2.1
  obtain ⟨i0, hi0, hz0, hz1, hz2⟩ := info_parts Try.info5
  obtain ⟨n8, hn8⟩ : ∃ n8, n8 = X / 8 := ⟨_, rfl⟩
  have HW8 : Hid ((X : Int) / 8 = (n8 : Int)) := by show (X : Int) / 8 = (n8 : Int); rw [hn8]; omega
  have hb8 : i0.bytes * n8 ≤ 281474976710656 := by rw [hz2]; omega
  have hb9 : n8 ≤ maxLen := by unfold maxLen; omega
  have hn8b : n8 ≤ 128 := by omega
  have HO := Hid.mk (And.intro ok (And.intro hZ (And.intro hl (And.intro ha hn8))))
  clear hZ hl ha hn8
  go_enter Try.func16, Try.ntmps16
  go_wp2_with first
    | (go_at_call 7; refine hc.mono ?_; clear hc; rintro e w1 ⟨v1, rfl, r1, n1, b1⟩)
    | (refine wpList_make_full (P := Try.prog) _ rfl _ _ _ rfl 0 5 i0 _ 1 Try.underlying59 hi0 hz0 hz1 .i64 .i64 _ _ n8 rfl rfl HW8.out HW8.out hb8 hb9 (Nat.zero_le _) ?_; rintro w2 ho2 hg2)
  rw [made_bytes] at ho2
  have b2 : Below w1.heap.size w1 w2 := ⟨hg2.os, hg2.tape, hg2.output, hg2.size, fun k hk => hg2.block k hk (by simp)⟩
  have J0 : Hid (RJ1 w1 w1.heap.size X M Z (.int .i64 ((0 : Nat) : Int)) w2) := ⟨0, rfl, Nat.zero_le _, by
    have e : joinL X M (zF Z) (List.range 0) = List.replicate n8 0 := by rw [HO.out.2.2.2.2]; rfl
    rw [e]
    exact br_of (by rw [List.length_replicate]; exact ho2), fun i hi => by omega, b2⟩
  obtain ⟨av, cv, hv1, -⟩ := slice_form r1
  rw [show (chL X M).length = M by simp [chL]] at hv1
  subst hv1
  have HR1 := Hid.mk (And.intro r1 b1)
  clear r1 n1 b1 b2 ho2 hg2 hz0 hz1 hz2 hi0 hb8 hb9
  go_loopw [11] (fun u wr => RJ1 w1 w1.heap.size X M Z u wr) (fun u _ => M - (intOf u).toNat)
  case atStart => exact J0.out
  case round =>
    clear J0
    obtain ⟨j, rfl, hj, HR⟩ := hrel
    obtain ⟨w3, rfl⟩ : ∃ w3, w3 = wr := ⟨_, rfl⟩
    by_cases hlt : j < M
    · have j1 : (j : Int) < (M : Int) := by omega
      have j2 : (0 : Int) ≤ (j : Int) := by omega
      have hwj : IntKind.i64.wrap ((j : Int) + 1) = ((j + 1 : Nat) : Int) := by rw [IntKind.wrap_i64]; omega
      have hlC : (chL X M).length = M := by simp [chL]
      obtain ⟨g, cap, e1, X0, X1, -⟩ := chRow HR1.out.1 j (by omega)
      rw [hlC] at e1
      simp only [Value.slice.injEq] at e1
      obtain ⟨rfl, -, rfl⟩ := e1
      have ec : (chL X M)[j]'(by omega) = ((frC X M j : Int), (btC X M j : Int)) := by simp [chL]
      rw [ec] at X0 X1
      have bw : Below w.heap.size w w3 := HR1.out.2.trans (HR.out.2.2.mono HR1.out.2.size)
      obtain ⟨gz, oz, e2, Y0⟩ := intAt (HO.out.2.2.2.1.below HR1.out.2) j (by rw [HO.out.2.2.1]; exact hlt)
      subst e2
      rw [← zF_at] at Y0
      have hzb : -9223372036854775808 ≤ zF Z j ∧ zF Z j ≤ 9223372036854775807 := by
        rw [zF_at (by rw [HO.out.2.2.1]; exact hlt)]; exact HO.out.2.1 _ (List.getElem_mem _)
      have hbb := btC_bd HO.out.1 j
      obtain ⟨B, hB⟩ : ∃ B, B = btC X M j := ⟨_, rfl⟩
      obtain ⟨F, hF⟩ : ∃ F, F = frC X M j := ⟨_, rfl⟩
      obtain ⟨z, hz⟩ : ∃ z, z = zF Z j := ⟨_, rfl⟩
      have xx0 : w1.cell? ⟨g, j * 2, none⟩ = some (.int .i64 (F : Int)) := by rw [hF]; exact X0
      have xx1 : w1.cell? ⟨g, j * 2 + 1, none⟩ = some (.int .i64 (B : Int)) := by rw [hB]; exact X1
      have yy0 : w1.cell? ⟨gz, oz + j, none⟩ = some (.int .i64 z) := by rw [hz]; exact Y0
      have x0 := cell_lat HR.out.2.2 xx0
      have x1 := cell_lat HR.out.2.2 xx1
      have y0 := cell_lat HR.out.2.2 yy0
      rw [← hz] at hzb
      rw [← hB] at hbb
      have HJ := Hid.mk (And.intro hB (And.intro hF hz))
      clear X0 X1 Y0 ec hB hF hz hlC
      have HBad : Hid (¬ (0 ≤ z ∧ z < 2 ^ B) → jnE X M Z = 13 ∧ jnT X M Z = []) := fun hb => jn_no HO.out.1 (fun e => hb (by
        have := vldB_iff.1 e.2 j hlt
        unfold valid at this
        rw [← HJ.out.1, ← HJ.out.2.2] at this; exact this))
      have HEnd : Hid (Below w.heap.size w w3) := bw
      clear bw
      by_cases hneg : z < 0
      · have HK := Hid.mk (HBad.out (by omega))
        clear HBad xx0 xx1 yy0
        go_wp2
        go_ret2
        exact ⟨⟨#[]⟩, by rw [HK.out.1]; rfl, by rw [HK.out.2], HEnd.out⟩
      · obtain ⟨v, hv⟩ : ∃ v : Nat, z = (v : Int) := ⟨z.toNat, by omega⟩
        subst hv
        by_cases hbig : 2 ^ B ≤ v
        · have HK := Hid.mk (HBad.out (fun e => by
            have : ((v : Nat) : Int) < ((2 ^ B : Nat) : Int) := by simpa using e.2
            omega))
          have ht : ((v : Int) / 2 ^ B != 0) = true := by
            have e1 : (v : Int) / 2 ^ B = ((v / 2 ^ B : Nat) : Int) := by simp
            rw [e1]
            have : v / 2 ^ B ≠ 0 := fun h0 => by
              have := Nat.div_pos hbig (Nat.two_pow_pos B)
              omega
            exact bne_iff_ne.2 (fun e => this (Int.natCast_eq_zero.1 e))
          clear HBad hbig xx0 xx1 yy0
          go_wp2
          go_ret2
          exact ⟨⟨#[]⟩, by rw [HK.out.1]; rfl, by rw [HK.out.2], HEnd.out⟩
        · have ht : ((v : Int) / 2 ^ B != 0) = false := by
            have e1 : (v : Int) / 2 ^ B = ((v / 2 ^ B : Nat) : Int) := by simp
            rw [e1, Nat.div_eq_of_lt (by omega)]; rfl
          have hvl : v < 4294967296 := by
            have h2 : 2 ^ B ≤ 2 ^ 32 := Nat.pow_le_pow_right (by decide) hbb.2
            have h3 : (2 : Nat) ^ 32 = 4294967296 := rfl
            omega
          have HV : Hid (valid X M (zF Z) j) := by
            show 0 ≤ zF Z j ∧ zF Z j < 2 ^ btC X M j
            rw [← HJ.out.1, ← HJ.out.2.2]
            refine ⟨by omega, ?_⟩
            have : ((v : Nat) : Int) < ((2 ^ B : Nat) : Int) := by omega
            simpa using this
          have HX := Hid.mk (And.intro xx0 yy0)
          clear xx0 xx1 yy0
          have K0 : Hid (RJ2 w1 w1.heap.size v B F (joinL X M (zF Z) (List.range j)) (.int .i64 ((0 : Nat) : Int)) w3) := ⟨0, rfl, Nat.zero_le _, HR.out.1, HR.out.2.2⟩
          have hll : (joinL X M (zF Z) (List.range j)).length = n8 := by rw [joinL_length, ← HO.out.2.2.2.2]
          have htop : F + B ≤ 8 * n8 := by
            have h3 : (j + 1) * (X / M) + min (j + 1) (X % M) ≤ M * (X / M) + X % M := Nat.add_le_add (Nat.mul_le_mul_right _ (by omega)) (Nat.min_le_right _ _)
            rw [Nat.div_add_mod] at h3
            have h5 := HO.out.2.2.2.2
            have h6 := HO.out.1.2.2.1
            have h7 := frC_succ X M j
            rw [HJ.out.1, HJ.out.2.1, ← h7]
            unfold frC
            omega
          obtain ⟨l, hlj⟩ : ∃ l, l = joinL X M (zF Z) (List.range j) := ⟨_, rfl⟩
          rw [← hlj] at K0 hll
          have HLj := Hid.mk (And.intro hlj hll)
          clear HBad hbig hlj hll
          go_wp2
          clear x0 x1 y0
          go_loopw [13] (fun u wr => RJ2 w1 w1.heap.size v B F l u wr) (fun u _ => B - (intOf u).toNat)
          case atStart => exact K0.out
          case round =>
            clear K0
            obtain ⟨k, rfl, hk, HK⟩ := hrel
            by_cases hkl : k < B
            · have k1 : (k : Int) < (B : Int) := by omega
              have hwk : IntKind.i64.wrap ((k : Int) + 1) = ((k + 1 : Nat) : Int) := by rw [IntKind.wrap_i64]; omega
              have x0 := cell_lat HK.out.2 HX.out.1
              have y0 := cell_lat HK.out.2 HX.out.2
              obtain ⟨L, hL⟩ : ∃ L, L = (wrF v B l ((List.range k).map (F + ·))).1 := ⟨_, rfl⟩
              have hsn := wrF_snoc v B l ((List.range k).map (F + ·)) (F + k)
              rw [wrF_count, List.length_map, List.length_range, ← hL] at hsn
              have hra : (List.range (k + 1)).map (F + ·) = (List.range k).map (F + ·) ++ [F + k] := by rw [List.range_succ, List.map_append]; rfl
              have hLl : L.length = n8 := by rw [hL, wrF_length, HLj.out.2]
              obtain ⟨p, hp'⟩ : ∃ p, p = F + k := ⟨_, rfl⟩
              have hpl : p / 8 < L.length := by omega
              have hrow : BR wr w1.heap.size L := by rw [hL]; exact HK.out.1
              have c0 : wr.cell? ⟨w1.heap.size, p / 8, none⟩ = some (.int .u8 (L[p / 8].toNat)) := by rw [RowIs.cell hrow, BV_get hpl]
              have f0 := RowIs.frozen hrow (p / 8)
              have hpb : p ≤ 1000000 := by omega
              have hwp : IntKind.i64.wrap ((F : Int) + (k : Int)) = (p : Int) := by rw [show (F : Int) + (k : Int) = ((p : Nat) : Int) by rw [hp']; rfl]; exact wN p hpb
              have hdp : (p : Int).tdiv 8 = ((p / 8 : Nat) : Int) := by rw [Int.tdiv_eq_ediv_of_nonneg (Int.natCast_nonneg p)]; rfl
              have hrp : (p : Int).tmod 8 = ((p % 8 : Nat) : Int) := by rw [Int.tmod_eq_emod_of_nonneg (Int.natCast_nonneg p)]; rfl
              obtain ⟨q, hq⟩ : ∃ q, q = p / 8 := ⟨_, rfl⟩
              obtain ⟨r, hr⟩ : ∃ r, r = p % 8 := ⟨_, rfl⟩
              have hr8 : r < 8 := by rw [hr]; exact Nat.mod_lt _ (by decide)
              have hqb : q ≤ 1000000 := Nat.le_trans (by rw [hq]; exact Nat.div_le_self _ _) hpb
              have hwq : IntKind.i64.wrap (q : Int) = (q : Int) := wN q hqb
              have hwq2 : wrap64 (q : Int) = (q : Int) := wN64 q hqb
              have hq8 : (q : Int) < (n8 : Int) := Int.ofNat_lt.2 (by rw [hq, ← hLl]; exact hpl)
              have hq0 : (0 : Int) ≤ (q : Int) := Int.natCast_nonneg q
              have ho := u8_or_nat (L[p / 8]'hpl).toNat (mkN p) (L[p / 8]'hpl).toNat_lt (mkN_lt p)
              obtain ⟨y, hy⟩ : ∃ y, y = (L[p / 8]'hpl).toNat := ⟨_, rfl⟩
              have hsb : BR (wr.setCell ⟨w1.heap.size, p / 8, none⟩ (.int .u8 (((L[p / 8]'hpl).toNat ||| mkN p : Nat) : Int))) w1.heap.size (setBit L p) := setBit_row hrow hpl
              obtain ⟨t, ht'⟩ : ∃ t : Nat, B - 1 - k = t := ⟨_, rfl⟩
              have hwt : IntKind.i64.wrap ((B : Int) - 1) = (B : Int) - 1 := by rw [sub_one (by have := hbb.1; exact Nat.le_trans (by decide) this)]; exact wN _ (Nat.le_trans (Nat.sub_le _ _) (Nat.le_trans hbb.2 (by decide)))
              have htb : t ≤ 32 := by rw [← ht']; exact Nat.le_trans (Nat.sub_le _ _) (Nat.le_trans (Nat.sub_le _ _) hbb.2)
              have hwt2 : IntKind.i64.wrap ((B : Int) - 1 - (k : Int)) = (t : Int) := by rw [sub_nat ht' hkl]; exact wN t (Nat.le_trans htb (by decide))
              have hut : IntKind.u64.wrap (t : Int) = (t : Int) := wU t (Nat.le_trans htb (by decide))
              have hmin : min t 64 = t := Nat.min_eq_left (Nat.le_trans htb (by decide))
              have hq2 := div_pow_le v t
              have ha1 := i64_and1 ((v : Int) / 2 ^ t) hq2.1 (Int.lt_of_le_of_lt hq2.2 (by have h9 : (v : Int) < 4294967296 := Int.ofNat_lt.2 hvl; exact Int.lt_trans h9 (by decide)))
              have hbt : ((v : Int) / 2 ^ t) % 2 = (bt v t : Int) := by unfold bt; simp
              rw [hbt] at ha1
              rw [ht'] at hsn
              rw [← hy] at c0 ho hsb
              rw [← hq] at c0 f0 hdp hsb
              rw [← hr] at hrp
              have HN : Hid (RJ2 w1 w1.heap.size v B F l (.int .i64 ((k + 1 : Nat) : Int)) (if bt v t = 1 then wr.setCell ⟨w1.heap.size, q, none⟩ (.int .u8 ((y ||| mkN p : Nat) : Int)) else wr)) := by
                refine ⟨k + 1, rfl, hkl, ?_, ?_⟩
                · rw [hra, hsn, ← hp']
                  by_cases hb : bt v t = 1
                  · rw [if_pos hb, if_pos hb]; exact hsb
                  · rw [if_neg hb, if_neg hb]; exact hrow
                · by_cases hb : bt v t = 1
                  · rw [if_pos hb]; exact HK.out.2.setCell (p := ⟨w1.heap.size, q, none⟩) (Nat.le_refl _) _
                  · rw [if_neg hb]; exact HK.out.2
              have hmk : mkN p = 2 ^ (7 - r) := by unfold mkN; rw [← hr]
              have HM := Hid.mk hmk
              obtain ⟨b, hb'⟩ : ∃ b, b = bt v t := ⟨_, rfl⟩
              rw [← hb'] at ha1 HN
              clear hsn hra hL hrow hsb hbt hq2 hq hr hy hb' ht' hp' HK hpl hLl hmk
              by_cases hb1 : b = 1
              · rw [if_pos hb1] at HN
                subst hb1
                go_wp2
                have e9 : (2 : Int) ^ (7 - r) % 256 = ((mkN p : Nat) : Int) := by
                  have h9 := mkN_lt p
                  have h8 := HM.out
                  have h7 : (2 : Int) ^ (7 - r) = ((mkN p : Nat) : Int) := by rw [h8]; simp
                  rw [h7]
                  exact Int.emod_eq_of_lt (Int.natCast_nonneg _) (Int.ofNat_lt.2 h9)
                refine ⟨?_, by simp only [intOf]; omega⟩
                rw [e9, ho]; exact HN.out
              · rw [if_neg hb1] at HN
                have hb2 : ((b : Int) == 1) = false := by simp; omega
                go_wp2
                exact ⟨HN.out, by simp only [intOf]; omega⟩
            · have k1 : ¬ (k : Int) < (B : Int) := by omega
              have HN : Hid (RJ1 w1 w1.heap.size X M Z (.int .i64 ((j + 1 : Nat) : Int)) wr) := by
                refine ⟨j + 1, rfl, hlt, ?_, fun i hi => ?_, HK.out.2⟩
                · have h9 := HK.out.1
                  rw [show k = B by omega] at h9
                  rw [List.range_succ, joinL_snoc, ← HJ.out.1, ← HJ.out.2.1, ← HJ.out.2.2, ← HLj.out.1]
                  exact h9
                · rcases Nat.lt_or_ge i j with h9 | h9
                  · exact HR.out.2.1 i h9
                  · obtain rfl : i = j := by omega
                    exact HV.out
              clear HK
              go_wp2
              exact ⟨HN.out, by simp only [intOf]; omega⟩
    · have j1 : ¬ (j : Int) < (M : Int) := by omega
      have hjM : j = M := by omega
      obtain ⟨l, hlj⟩ : ∃ l, l = joinL X M (zF Z) (List.range M) := ⟨_, rfl⟩
      have hll : l.length = n8 := by rw [hlj, joinL_length, ← HO.out.2.2.2.2]
      have hrow : BR w3 w1.heap.size l := by rw [hlj]; have h9 := HR.out.1; rw [hjM] at h9; exact h9
      have hcv := conv_row l (br_own hrow (by omega))
      rw [hll] at hcv
      have HE : Hid (jnE X M Z = 0 ∧ l = jnT X M Z ∧ Below w.heap.size w w3) := by
        obtain ⟨k1, k2⟩ := jn_yes HO.out.1 HO.out.2.2.1 (vldB_iff.2 (by have h9 := HR.out.2.1; rw [hjM] at h9; exact h9))
        exact ⟨k1, by rw [k2]; exact hlj, HR1.out.2.trans (HR.out.2.2.mono HR1.out.2.size)⟩
      clear hlj hll hrow HR hjM
      go_wp2
      go_ret2
      exact ⟨⟨l.toArray⟩, by rw [HE.out.1]; rfl, by simpa using HE.out.2.1, HE.out.2.2⟩
set_option maxRecDepth 100000 in
theorem rjoin_all (x m : Int) (Z : List Int) (hZ : ∀ z ∈ Z, -9223372036854775808 ≤ z ∧ z ≤ 9223372036854775807) (la : Option Addr) (ca : Nat) (w : World) (ha : EI.At w la Z) : Calls Try.prog 16 #[.int .i64 x, .int .i64 m, .slice la Z.length ca] w fun e w' => ∃ t : ByteArray, e = .returned (.tuple #[.string t, .int .i64 (jnE x m Z)]) ∧ t.data.toList = jnT x m Z ∧ Below w.heap.size w w' := by
  by_cases h : cc x m = 0
  · obtain ⟨X, M, rfl, rfl, ok⟩ := cc_nat h
    by_cases hl : Z.length = M
    · have := rjoin_yes X M ok Z hZ hl la ca w ha
      rw [← hl] at this ⊢
      exact this
    · obtain ⟨k1, k2⟩ := jn_no (Z := Z) ok (fun e => hl e.1)
      have hc := rchunks_all X M w
      rw [h] at hc
      rw [k1, k2]
      have hne : ((Z.length : Int) != (M : Int)) = true := bne_iff_ne.2 (by omega)
      obtain ⟨n, hn⟩ : ∃ n, n = Z.length := ⟨_, rfl⟩
      rw [← hn] at hne ⊢
      clear k1 k2 ha hl hn
      go_enter Try.func16, Try.ntmps16
      go_wp2_with (go_at_call 7; refine hc.mono ?_; clear hc; rintro e w1 ⟨v1, rfl, r1, n1, b1⟩)
      go_ret2
      exact ⟨⟨#[]⟩, rfl, rfl, b1⟩
  · obtain ⟨k1, k2⟩ := jn_cc (Z := Z) h
    have hc := rchunks_all x m w
    rw [k1, k2]
    obtain ⟨y, hy⟩ : ∃ y, y = cc x m := ⟨_, rfl⟩
    rw [← hy] at hc h ⊢
    have h3 : (y != 0) = true := by simpa using h
    clear k1 k2 hy ha
    go_enter Try.func16, Try.ntmps16
    go_wp2_with (go_at_call 7; refine hc.mono ?_; clear hc; rintro e w1 ⟨v1, rfl, r1, n1, b1⟩)
    go_ret2
    exact ⟨⟨#[]⟩, rfl, rfl, b1⟩
end Go.Proofs.Ytfjbabiobobboaa
