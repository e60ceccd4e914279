/-
  DERIVED. The document's own Encode.
-/
import Derived.Test.YtejpakejfikkmaaDoorCRef3
import Derived.Test.YtejpakejfikkmaaDoorCApp
import Derived.Test.YtejpakejfikkmaaDoorCEnc2
import Derived.Test.YtejpakejfikkmaaDoorSRFrame
set_option linter.unusedVariables false
set_option linter.unusedSimpArgs false
namespace Go.Proofs.YtejpakejfikkmaaDoor
open Go.RowKit Go.Proofs.SealMath
def ruI (r : Ru) : List Int := [r.num, r.lo, r.hi, r.cnt]
def hdI (m : Mf) : List Int := [m.w, m.ch, m.md, m.seq, m.nx, m.jn, m.rs.length]
/-- All numbers of a manifest. -/
def mfN (m : Mf) : List Int := hdI m ++ m.rs.flatMap ruI
theorem ruI_len (rs : List Ru) : (rs.flatMap ruI).length = rs.length * 4 := by
  induction rs with
  | nil => rfl
  | cons r rs ih => rw [List.flatMap_cons, List.length_append, ih, List.length_cons]; simp [ruI]; omega
theorem row_new (w : World) (l : List Int) (hl : l.length ≤ 1000) : (w.alloc (.cells (l.map IV).toArray 3)).ownsRow 0 3 1 (.slice (some ⟨w.heap.size, 0, none⟩) l.length l.length) l.length (l.map IV) :=
  ⟨by simp, .inr ⟨w.heap.size, l.length, (l.map IV).toArray, rfl, Nat.zero_le _, heap_alloc_last w _, Nat.le_refl _, by unfold maxLen; omega, by simp, by rw [Nat.mul_one]; exact List.take_of_length_le (by simp)⟩⟩
/-- What is kept while the runs' numbers are put behind. -/
def RNm (w : World) (m : Mf) (la : Option Addr) (c : Nat) (xv u : Value) (wr : World) : Prop :=
  ∃ (i n : Nat) (a : Option Addr) (cp : Nat), xv = .slice a n cp ∧ u = .int .i64 i ∧ i ≤ m.rs.length ∧ n = (hdI m ++ (m.rs.take i).flatMap ruI).length ∧ wr.ownsRow 0 3 1 (.slice a n cp) n ((hdI m ++ (m.rs.take i).flatMap ruI).map IV) ∧ (∀ k, (Value.slice a n cp).ownBlock = some k → w.heap.size + 1 ≤ k) ∧ SAt wr w.heap.size (mfC m la c) ∧ Below w.heap.size w wr
set_option maxHeartbeats 8000000 in
set_option maxRecDepth 100000 in
theorem rnumbers_any (m : Mf) (la : Option Addr) (c : Nat) (w : World) (hL : LAt w la m.rs) (hcap : m.rs.length ≤ c) (hlen : m.rs.length ≤ 24) :
    Calls Tryd.prog 15 #[.agg (mfC m la c).toArray] w fun e w' => ∃ v, e = .returned v ∧ w'.ownsRow 0 3 1 v (mfN m).length ((mfN m).map IV) ∧ Below w.heap.size w w' := by
  obtain ⟨wa, hwa⟩ : ∃ wa, wa = w.alloc (.cells (mfC m la c).toArray 26) := ⟨_, rfl⟩
  have ba : Below w.heap.size w wa := by rw [hwa]; exact (Below.refl _ w).alloc (Nat.le_refl _) _
  have sza : wa.heap.size = w.heap.size + 1 := by rw [hwa]; simp
  have SA : SAt wa w.heap.size (mfC m la c) := by rw [hwa]; exact SAt.new w _ _
  have hwa' : w.alloc (.cells (mfC m la c).toArray 26) = wa := hwa.symm
  have a0 := SA 0 _ rfl
  have a1 := SA 1 _ rfl
  have a2 := SA 2 _ rfl
  have a3 := SA 3 _ rfl
  have a4 := SA 4 _ rfl
  have a5 := SA 5 _ rfl
  have a6 := SA 6 _ rfl
  obtain ⟨wb, hwb⟩ : ∃ wb, wb = wa.alloc (.cells ((hdI m).map IV).toArray 3) := ⟨_, rfl⟩
  have bb : Below wa.heap.size wa wb := by rw [hwb]; exact (Below.refl _ wa).alloc (Nat.le_refl _) _
  have R0 := row_new wa (hdI m) (by simp [hdI])
  rw [← hwb, sza] at R0
  have SB := SA.lat bb
  have b0 := chain ba bb (Nat.le_refl _)
  have hwb' : wa.alloc (.cells ((hdI m).map IV).toArray 3) = wb := hwb.symm
  have HLL := Hid.mk hL
  have HR0 := Hid.mk R0
  have HSB := Hid.mk SB
  clear hwa hwb hL R0 SB SA
  simp only [mfC, hdI, IV, List.map] at hwa' hwb' ⊢
  go_enter Tryd.func15, Tryd.ntmps15
  go_wp2
  clear a0 a1 a2 a3 a4 a5 a6 hwa' hwb'
  go_loopw [3, 4] (fun lv u wr => RNm w m la c lv u wr) (fun _ u _ => m.rs.length - (intOf u).toNat)
  case atStart => exact ⟨0, 7, _, _, rfl, rfl, Nat.zero_le _, rfl, by simpa [hdI] using HR0.out, fun k hk => by (have h1 : some (w.heap.size + 1) = some k := hk; injection h1 with h1; omega), HSB.out, b0⟩
  case round =>
    obtain ⟨i, n, a, cp, rfl, rfl, hi, hn, ow, own, SW, bw⟩ := hrel
    have q6 := SW 6 _ rfl
    by_cases hlt : i < m.rs.length
    · obtain ⟨g, off, rfl, hra⟩ := (HLL.out.below bw).at' (by intro h; rw [h] at hlt; simp at hlt)
      obtain ⟨x0, x1, x2, x3⟩ := row_ru hra i hlt
      have HT2 : Hid (hdI m ++ (m.rs.take (i + 1)).flatMap ruI = hdI m ++ (m.rs.take i).flatMap ruI ++ ruI m.rs[i]) := by
        show _ = _
        rw [List.take_add_one, List.getElem?_eq_getElem hlt, List.flatMap_append, List.append_assoc]
        simp only [Option.toList_some, List.flatMap_cons, List.flatMap_nil, List.append_nil]
      have hll : (hdI m ++ (m.rs.take i).flatMap ruI).length ≤ 200 := by
        rw [List.length_append, ruI_len, List.length_take]; simp [hdI]; omega
      obtain ⟨R, hR⟩ : ∃ R, R = m.rs[i] := ⟨_, rfl⟩
      rw [← hR] at x0 x1 x2 x3 HT2
      obtain ⟨W, hW⟩ : ∃ W, W = wr.alloc (.cells (ruC R).toArray 36) := ⟨_, rfl⟩
      have bW : Below wr.heap.size wr W := by rw [hW]; exact (Below.refl _ wr).alloc (Nat.le_refl _) _
      have szW : W.heap.size = wr.heap.size + 1 := by rw [hW]; simp
      have SR : SAt W wr.heap.size (ruC R) := by rw [hW]; exact SAt.new wr _ _
      have hW' : wr.alloc (.cells (ruC R).toArray 36) = W := hW.symm
      obtain ⟨W2, hW2⟩ : ∃ W2, W2 = W.alloc (.cells ((ruI R).map IV).toArray 3) := ⟨_, rfl⟩
      have bW2 : Below W.heap.size W W2 := by rw [hW2]; exact (Below.refl _ W).alloc (Nat.le_refl _) _
      have RI : RowAt W2 W.heap.size 0 ((ruI R).map IV) := fun j x hx => by
        rw [hW2, Nat.zero_add]; exact SAt.new W _ _ j x hx
      have hW2' : W.alloc (.cells ((ruI R).map IV).toArray 3) = W2 := hW2.symm
      have s0 := SR 0 _ rfl
      have s1 := SR 1 _ rfl
      have s2 := SR 2 _ rfl
      have s3 := SR 3 _ rfl
      have b2 : Below wr.heap.size wr W2 := chain bW bW2 (Nat.le_refl _)
      have ow2 := row_kept (F := fun _ => False) ow (.below b2) (fun _ _ h => h)
      rw [hn] at ow2
      obtain ⟨v', w', hrun, ow3, st3, loc3⟩ := int_app W2 _ (ruI R) _ ow2 W.heap.size 0 4 RI (by simp [ruI]) (by simp only [ruI, List.length_cons, List.length_nil]; omega)
      obtain ⟨a3, cp3, hv3, -⟩ := slice_form ow3
      subst hv3
      rw [← hn] at hrun st3 loc3 hll
      have hn3 : (hdI m ++ (m.rs.take i).flatMap ruI ++ ruI R).length = n + 4 := by rw [List.length_append, ← hn]; rfl
      rw [hn3] at hrun ow3 loc3
      rw [show (ruI R).length = 4 from rfl] at hrun
      have HN3 := Hid.mk hn3
      have HO3 := Hid.mk ow3
      have HS3 := Hid.mk st3
      have HL3 := Hid.mk loc3
      have HOw := Hid.mk own
      have HSW := Hid.mk SW
      have S2 := Hid.mk (SW.lat b2)
      clear hR hra hW hW2 HLL HR0 HSB ow own SW ow2 ow3 st3 loc3 RI SR
      simp only [ruC, ruI, IV, List.map] at hW' hW2' hrun
      rw [szW] at hrun
      clear hn hn3
      go_wp2_with (at_builtin; refine wpList_append_eq rfl _ _ _ _ rfl _ _ _ _ rfl rfl hrun ?_)
      have x2 := chain bw b2 (Nat.le_refl _)
      refine ⟨⟨i + 1, n + 4, a3, cp3, rfl, rfl, hlt, by rw [HT2.out, HN3.out], by rw [HT2.out]; exact HO3.out, fun k hk => ?_, S2.out.stay HS3.out (fun h => ?_), x2.trans (HS3.out.toBelow (B := w.heap.size) (fun k hk h => ?_) x2.size)⟩, by simp only [intOf]; omega⟩
      · rcases HL3.out k hk with h | h
        · exact HOw.out k h
        · have := bw.size; have := bW2.size; omega
      · have := HOw.out _ h; omega
      · have := HOw.out k h; omega
    · have e : i = m.rs.length := by omega
      subst e
      rw [List.take_of_length_le (Nat.le_refl _)] at ow hn
      have HO : Hid (wr.ownsRow 0 3 1 (.slice a n cp) (mfN m).length ((mfN m).map IV)) := by
        show World.ownsRow _ _ _ _ _ _ _
        rw [show (mfN m).length = n from hn.symm]; exact ow
      clear HLL HR0 HSB ow own SW hn
      go_wp2
      go_ret
      exact ⟨_, rfl, HO.out, bw⟩
theorem app_l (a b : ByteArray) : (a ++ b).data.toList = a.data.toList ++ b.data.toList := by simp
theorem nat_of {n : Int} (h : 0 ≤ n) : ((n.toNat : Nat) : Int) = n := by omega
theorem mfN_pv {m : Mf} (h : Goes m) : (mfN m).flatMap (fun n => pv n.toNat) = payL m := by
  unfold mfN payL
  rw [List.flatMap_append]
  congr 1
  · simp [hdI, hdN]
  · have : ∀ rs : List Ru, (rs.flatMap ruI).flatMap (fun n => pv n.toNat) = (rs.flatMap ruN).flatMap pv := by
      intro rs
      induction rs with
      | nil => rfl
      | cons r rs ih => rw [List.flatMap_cons, List.flatMap_cons, List.flatMap_append, List.flatMap_append, ih]; simp [ruI, ruN]
    exact this _
theorem mfN_le {m : Mf} (h : Goes m) : ∀ n ∈ mfN m, 0 ≤ n ∧ n ≤ 1152921504606846976 := fun n hn => by
  have := h.w; have := h.ch; have := h.md; have := h.seq; have := h.nx; have := h.jn; have := h.len
  unfold mfN at hn
  rw [List.mem_append] at hn
  rcases hn with hn | hn
  · simp only [hdI, List.mem_cons, List.not_mem_nil, or_false] at hn
    omega
  · obtain ⟨r, hr, hn⟩ := List.mem_flatMap.1 hn
    have := h.rs r hr
    simp only [ruI, List.mem_cons, List.not_mem_nil, or_false] at hn
    omega
set_option maxHeartbeats 8000000 in
set_option maxRecDepth 100000 in
theorem rencode_any (m : Mf) (la : Option Addr) (c : Nat) (w : World) (hL : LAt w la m.rs) (hcap : m.rs.length ≤ c) (hs : m.rs.length < 4611686018427387904) :
    Calls Tryd.prog 9 #[.agg (mfC m la c).toArray] w fun e w' => e = .returned (.tuple #[.string (enT m), .int .i64 (chE m)]) ∧ Below w.heap.size w w' := by
  obtain ⟨wa, hwa⟩ : ∃ wa, wa = w.alloc (.cells (mfC m la c).toArray 26) := ⟨_, rfl⟩
  have ba : Below w.heap.size w wa := by rw [hwa]; exact (Below.refl _ w).alloc (Nat.le_refl _) _
  have SA : SAt wa w.heap.size (mfC m la c) := by rw [hwa]; exact SAt.new w _ _
  have hwa' : w.alloc (.cells (mfC m la c).toArray 26) = wa := hwa.symm
  have cc := rcheck_any m la c wa (hL.below ba) hcap hs
  have a0 := SA 0 _ rfl
  have a1 := SA 1 _ rfl
  have a2 := SA 2 _ rfl
  have a3 := SA 3 _ rfl
  have a4 := SA 4 _ rfl
  have a5 := SA 5 _ rfl
  have a6 := SA 6 _ rfl
  clear hwa
  by_cases hE : chE m = 0
  · have hGo := goes_of hE
    have hT : enT m = ⟨(frL 3 (payL m)).toArray⟩ := by unfold enT; rw [if_pos hE]
    rw [hE] at cc
    rw [hE, hT]
    have cn := fun W (h : LAt W la m.rs) => rnumbers_any m la c W h hcap hGo.len
    have hPL := pay_len hGo
    have HP := Hid.mk (mfN_pv hGo)
    have HLe := Hid.mk (mfN_le hGo)
    have hn1 : (mfN m).length ≤ 200 := by have := hGo.len; unfold mfN; rw [List.length_append, ruI_len]; simp [hdI]; omega
    have hn0 : mfN m ≠ [] := by simp [mfN, hdI]
    obtain ⟨N, hN⟩ : ∃ N, N = mfN m := ⟨_, rfl⟩
    obtain ⟨Q, hQ⟩ : ∃ Q, Q = payL m := ⟨_, rfl⟩
    rw [← hN] at cn HP HLe hn1 hn0
    rw [← hQ] at HP hPL ⊢
    have HLL := Hid.mk (hL.below ba)
    clear hE hGo hT hN hQ hL
    simp only [mfC] at hwa' cc cn SA ⊢
    go_enter Tryd.func9, Tryd.ntmps9
    go_wp2_with first
      | (go_at_call 14; refine cc.mono ?_; rintro e w1 ⟨rfl, b1⟩; clear cc; have S1 := SA.lat b1; have c0 := S1 0 _ rfl; have c1 := S1 1 _ rfl; have c2 := S1 2 _ rfl; have c3 := S1 3 _ rfl; have c4 := S1 4 _ rfl; have c5 := S1 5 _ rfl; have c6 := S1 6 _ rfl)
      | (go_at_call 15; refine (cn w1 (HLL.out.below b1)).mono ?_; rintro e w3 ⟨v, rfl, ow, b3⟩; obtain ⟨q, cq, rfl, rw3⟩ := row_int ow hn0)
    have b13 := chain (chain ba b1 (Nat.le_refl _)) b3 (Nat.le_refl _)
    have HRW := Hid.mk rw3
    clear ow b1 b3 S1 c0 c1 c2 c3 c4 c5 c6 a0 a1 a2 a3 a4 a5 a6 SA hwa' cn HLL rw3
    go_loopw [6, 7] (fun tv u wr => ∃ (i : Nat) (T : ByteArray), tv = .string T ∧ u = .int .i64 i ∧ i ≤ N.length ∧ Hid (T.data.toList = (N.take i).flatMap (fun n => pv n.toNat)) ∧ Below w3.heap.size w3 wr) (fun _ u _ => N.length - (intOf u).toNat)
    case atStart => exact ⟨0, _, rfl, rfl, Nat.zero_le _, rfl, Below.refl _ _⟩
    case round =>
      obtain ⟨i, T, rfl, rfl, hi, HT, bw⟩ := hrel
      by_cases hlt : i < N.length
      · have cq : wr.cell? ⟨q, i, none⟩ = some (.int .i64 N[i]) := cell_lat bw (by have := HRW.out i (IV N[i]) (by simp [hlt]); simpa [IV] using this)
        have hb := HLe.out N[i] (List.getElem_mem hlt)
        have HT2 : Hid ((N.take (i + 1)).flatMap (fun n => pv n.toNat) = T.data.toList ++ pv N[i].toNat) := by
          show _ = _
          rw [HT.out, List.take_add_one, List.getElem?_eq_getElem hlt, List.flatMap_append]
          simp only [Option.toList_some, List.flatMap_cons, List.flatMap_nil, List.append_nil]
        have hTs : T.size ≤ 2000 := by
          rw [← nm_size, HT.out]
          refine Nat.le_trans ?_ hPL
          rw [← HP.out]
          conv => rhs; rw [← List.take_append_drop i N]
          rw [List.flatMap_append, List.length_append]; omega
        obtain ⟨k, hk⟩ : ∃ k : Nat, N[i] = (k : Int) := ⟨N[i].toNat, by omega⟩
        rw [hk] at cq hb HT2
        simp only [Int.toNat_natCast] at HT2
        have cp := rputvar_any k wr (by omega)
        have pn := pv_len k
        have hsz : (⟨(pvL 9 k).toArray⟩ : ByteArray).size ≤ 10 := pn
        clear hk HT HRW HLe HP
        go_wp2_with (go_at_call 16; refine cp.mono ?_; rintro e w4 ⟨rfl, b4⟩; clear cp)
        exact ⟨⟨i + 1, _, rfl, rfl, hlt, by (show _ = _; rw [HT2.out, app_l]; rfl), chain bw b4 (Nat.le_refl _)⟩, by simp only [intOf]; omega⟩
      · have e : i = N.length := by omega
        subst e
        have hTQ : T = ⟨Q.toArray⟩ := by
          have := HT.out
          rw [List.take_of_length_le (Nat.le_refl _), HP.out] at this
          exact ba_ext this
        subst hTQ
        clear HT HRW HLe HP
        go_wp2_with (go_at_call 17; refine (rframe_any 3 _ _).mono ?_; rintro e w4 ⟨rfl, b4⟩)
        have t1 : frT 3 ⟨Q.toArray⟩ = frL 3 Q := by unfold frT; rw [if_pos (by decide), if_pos (by show Q.length ≤ 65536; omega)]; rfl
        have t2 : frE 3 ⟨Q.toArray⟩ = 0 := by unfold frE; rw [if_pos (by decide), if_pos (by show Q.length ≤ 65536; omega)]
        rw [t1, t2]
        go_ret2
        exact ⟨rfl, chain b13 (chain bw b4 (Nat.le_refl _)) (Nat.le_refl _)⟩
  · have hE' : (chE m != 0) = true := by simpa [bne_iff_ne] using hE
    have hT : enT m = ⟨#[]⟩ := by unfold enT; rw [if_neg hE]
    rw [hT]
    generalize chE m = E at cc hE' ⊢
    clear SA hE hT
    simp only [mfC] at hwa' cc ⊢
    go_enter Tryd.func9, Tryd.ntmps9
    go_wp2_with (go_at_call 14; refine cc.mono ?_; rintro e w1 ⟨rfl, b1⟩; clear cc)
    go_ret2
    exact ⟨rfl, chain ba b1 (Nat.le_refl _)⟩
end Go.Proofs.YtejpakejfikkmaaDoor
