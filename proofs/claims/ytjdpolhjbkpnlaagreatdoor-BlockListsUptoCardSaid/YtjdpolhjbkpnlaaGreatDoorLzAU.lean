/-
  DERIVED. SParseC, BX7F, BX7, BX8, as one text.
-/
import Derived.Test.YtjdpolhjbkpnlaaGreatDoorLzAI
import Derived.Test.YtjdpolhjbkpnlaaGreatDoorLzAN
import Derived.Test.YtjdpolhjbkpnlaaGreatDoorLzAT
namespace Go.Proofs.YtjdpolhjbkpnlaaGreatDoor
open Go.RowKit Go.Proofs.SealMath
set_option maxRecDepth 100000 in
set_option maxHeartbeats 8000000 in
theorem rparse_ok (b : ByteArray) (a : Nat) (R : Nat × List UInt8 × Nat × Int) (w : World) (hb : b.size < 4611686018427387904) (ha : a ≤ b.size) (hR : R = psA b a) :
    Calls Tryz.prog 40 #[.string b, .int .i64 a] w fun e w' => e = .returned (.tuple #[.int .i64 R.1, .string ⟨R.2.1.toArray⟩, .int .i64 R.2.2.1, .int .i64 R.2.2.2]) ∧ ∃ m, w' = w.drewN m := by
  have HR : Hid (R = psA b a) := hR
  clear hR
  have hp1 : ¬ (a : Int) < 0 := by omega
  have hp2 : ¬ b.size < a := by omega
  have hrs := rest_size b a ha
  have HE : Hid (∀ i n, a + i + n ≤ b.size → sub (b.extract a b.size) i n = sub b (a + i) n) := fun i n h => rest_sub b a i n h
  have HD : Hid (hdA (b.extract a b.size) 0 = hdA b a) := hdA_rest b a ha
  obtain ⟨r, hr⟩ : ∃ r, r = b.extract a b.size := ⟨_, rfl⟩
  have HX : Hid (r = b.extract a b.size) := hr
  rw [← hr] at hrs HE HD
  clear hr
  have HRS : Hid (r.size = b.size - a) := hrs
  have hrl : r.size ≤ b.size := by omega
  clear hrs
  go_enter Tryz.func40, Tryz.ntmps40
  go_wp2_with fail
  rw [← HX.out]
  refine (begun_any r _ (by omega)).mono ?_
  rintro e w1 ⟨rfl, m1, rfl⟩
  rw [HD.out]
  have hok := hdA_ok b a
  have hsm := hdA_sum b a
  have hR := HR.out
  unfold psA at hR
  clear HR
  obtain ⟨⟨k, n, s, x⟩, hH⟩ : ∃ H, H = hdA b a := ⟨_, rfl⟩
  rw [← hH] at hR hok hsm ⊢
  clear hH
  dsimp only at hR hok hsm ⊢
  by_cases hx : x = 0
  · subst hx
    rw [if_pos rfl] at hR
    obtain ⟨ha10, hn, hk, hs⟩ := hok rfl
    obtain ⟨rfl, rfl⟩ := hsm rfl
    clear hok hsm
    by_cases h14 : b.size < a + 14 + n
    · rw [if_pos h14] at hR
      subst hR
      have h14' : r.size < 10 + n + 4 := by have := HRS.out; omega
      go_wp2
      refine bodyPost_ret (results_tmp4 rfl _ _ _) rfl ?_
      exact ⟨rfl, ⟨_, rfl⟩⟩
    · rw [if_neg h14] at hR
      have h14' : 10 + n + 4 ≤ r.size := by have := HRS.out; omega
      have hsz : r.size < 4611686018427387904 := by omega
      go_wp2
      obtain ⟨P, hP⟩ : ∃ P, P = r.extract 10 (10 + n) := ⟨_, rfl⟩
      rw [← hP]
      have hPl : P.data.toList = sub b (a + 10) n := by
        rw [hP, ext_sub, show 10 + n - 10 = n by omega, HE.out 10 n (by omega)]
      have hPs : P.size = n := by rw [ba_size, hPl, sub_len b (a + 10) n (by omega)]
      have h6l : (r.extract 0 6).data.toList = sub b a 6 := by rw [ext_sub, HE.out 0 (6 - 0) (by omega)]; rfl
      have h6s : (r.extract 0 6).size = 6 := by rw [ba_size, h6l, sub_len b a 6 (by omega)]
      clear hP
      have hc := crc_lt (s := crc 0 (sub b a 6)) (sub b (a + 10) n) hs
      have hl := lwS_lt b (a + 10 + n) (by omega)
      have hI := lwS_iff b (a + 10 + n) (crc (crc 0 (sub b a 6)) (sub b (a + 10) n)) (by omega) hc
      obtain ⟨S, hS⟩ : ∃ S, S = crc (crc 0 (sub b a 6)) (sub b (a + 10) n) := ⟨_, rfl⟩
      obtain ⟨L, hL⟩ : ∃ L, L = lwS (sub b (a + 10 + n) 4) := ⟨_, rfl⟩
      have hA : ∀ W, Calls Tryz.prog 80 #[.string r, .int .i64 (10 + (n : Int))] W (fun e w' => e = .returned (.int .u32 L) ∧ ∃ m, w' = W.drewN m) := fun W => by
        have := sumAt_sub r (10 + n) W hsz (by omega)
        rw [HE.out (10 + n) 4 (by omega), show a + (10 + n) = a + 10 + n by omega, ← hL] at this
        exact this
      have hBs : ∀ W, Calls Tryz.prog 81 #[.string (r.extract 0 6 ++ P)] W (fun e w' => e = .returned (.int .u32 S) ∧ w' = W) := fun W => by
        have := rsum_any (r.extract 0 6 ++ P) W (by rw [ByteArray.size_append, h6s, hPs]; omega)
        rw [ByteArray.data_append, Array.toList_append, h6l, hPl, crc_append, ← hS] at this
        exact this
      rw [← hS] at hc hI hR
      rw [← hL] at hl hI
      have HI : Hid (L = S ↔ sub b (a + 10 + n) 4 = lowL S) := hI
      have HR : Hid (R = if sub b (a + 10 + n) 4 = lowL S then (numL (sub b (a + 1) 1), sub b (a + 10) n, a + 14 + n, 0) else (0, [], 0, 34)) := hR
      have HPl : Hid (P.data.toList = sub b (a + 10) n) := hPl
      have hk1 : r[1].toNat = numL (sub b (a + 1) 1) := by
        have e := HE.out 1 1 (by omega)
        rw [sub_one' r 1 (by omega)] at e
        rw [← e]; simp [numL]
      have z6 : (6 : Int) ≤ (r.size : Int) := by omega
      clear hI hR hS hL hs h6l hPl
      have hwr : IntKind.i64.wrap (10 + (n : Int)) = 10 + (n : Int) := i64_in _ (by omega) (by omega)
      have z1 : (1 : Int) < (r.size : Int) := by omega
      have zs : ¬ (9223372036854775807 : Int) < 6 + (n : Int) := by omega
      obtain ⟨W1, hW1⟩ : ∃ W, W = w.drewN m1 := ⟨_, rfl⟩
      rw [← hW1]
      have HW : Hid (W1 = w.drewN m1) := hW1
      clear hW1
      go_quiet (first | (go_at_call 80; exact Calls.quiet_of (hA _)) | (go_at_call 81; exact Calls.quiet_of_same (hBs _)))
      clear hA hBs
      have hR := HR.out
      have hI := HI.out
      have HK : Hid (r[1].toNat = numL (sub b (a + 1) 1)) := hk1
      have hkb : r[1].toNat ≤ 255 := by rw [hk1]; exact hk
      clear hk1 HR HI
      by_cases hq : sub b (a + 10 + n) 4 = lowL S
      · rw [if_pos hq] at hR
        have hLS : L = S := hI.2 hq
        have hne : ((L : Int) != (S : Int)) = false := by rw [hLS]; simp
        rw [← HPl.out, ← HK.out] at hR
        subst hR
        clear hLS hI hq
        go_wp2
        refine bodyPost_ret (results_tmp4 rfl _ _ _) rfl ?_
        refine ⟨ret4 rfl rfl (ival ?_) rfl, ⟨_, by rw [HW.out, World.drewN_drewN]⟩⟩
        show (a : Int) + 10 + n + 4 = ((a + 14 + n : Nat) : Int)
        omega
      · rw [if_neg hq] at hR
        subst hR
        have hLS : L ≠ S := fun h => hq (hI.1 h)
        have hne : ((L : Int) != (S : Int)) = true := by simp; omega
        clear hLS hI hq
        go_wp2
        refine bodyPost_ret (results_tmp4 rfl _ _ _) rfl ?_
        exact ⟨rfl, ⟨_, by rw [HW.out, World.drewN_drewN]⟩⟩
  · rw [if_neg hx] at hR
    subst hR
    go_wp2
    refine bodyPost_ret (results_tmp4 rfl _ _ _) rfl ?_
    exact ⟨rfl, ⟨_, rfl⟩⟩
set_option maxRecDepth 100000 in
set_option maxHeartbeats 1000000 in
theorem rparse_any (b : ByteArray) (p : Int) (w : World) (hb : b.size < 4611686018427387904) :
    Calls Tryz.prog 40 #[.string b, .int .i64 p] w fun e w' => e = .returned (.tuple #[.int .i64 (prA b p).1, .string ⟨(prA b p).2.1.toArray⟩, .int .i64 (prA b p).2.2.1, .int .i64 (prA b p).2.2.2]) ∧ ∃ m, w' = w.drewN m := by
  unfold prA
  by_cases h : 0 ≤ p
  · by_cases k : p ≤ b.size
    · rw [if_pos ⟨h, k⟩]
      obtain ⟨a, rfl⟩ : ∃ a : Nat, p = a := ⟨p.toNat, by omega⟩
      exact rparse_ok b a _ w hb (by omega) rfl
    · rw [if_neg (by omega)]
      go_enter Tryz.func40, Tryz.ntmps40
      go_wp2
      refine bodyPost_ret (results_tmp4 rfl _ _ _) rfl ?_
      exact ⟨rfl, ⟨0, rfl⟩⟩
  · rw [if_neg (by omega)]
    go_enter Tryz.func40, Tryz.ntmps40
    go_wp2
    refine bodyPost_ret (results_tmp4 rfl _ _ _) rfl ?_
    exact ⟨rfl, ⟨0, rfl⟩⟩
end Go.Proofs.YtjdpolhjbkpnlaaGreatDoor
set_option linter.unusedVariables false
set_option linter.unusedSimpArgs false
namespace Go.Proofs.YtjdpolhjbkpnlaaGreatDoor.Dx
open Go.RowKit Go.Proofs.SealMath
theorem psA_end (b : ByteArray) : (psA b b.size).2.2.2 = 31 := by
  have h : hdA b b.size = (0, 0, 0, 31) := by unfold hdA; rw [if_pos (Nat.le_refl _)]
  unfold psA; rw [h, if_neg (by decide)]
theorem frs_len (b : ByteArray) : ∀ (n a : Nat), a ≤ b.size → 14 * (frs b n a).1.length + a ≤ b.size
  | 0, a, h => by simp [frs]; exact h
  | n + 1, a, h => by
    rw [frs]
    by_cases h0 : (psA b a).2.2.2 = 0
    · rw [if_pos h0]
      obtain ⟨k, p, _, _, _, hsz, hps, _⟩ := psA_yes b a h0
      rw [hps]
      have := frs_len b n (a + (p.length + 14)) hsz
      simp only [List.length_cons]
      omega
    · rw [if_neg h0]; simp; exact h
set_option maxRecDepth 100000 in
set_option maxHeartbeats 8000000 in
theorem rframes_any (b : ByteArray) (w : World) (hb : b.size < 4611686018427387904) (R : List Fr × Nat) (hR : R = frs b (b.size + 1) 0) (hN : R.1.length * 32 ≤ 140737488355328) :
    Calls Tryz.prog 24 #[.string b] w fun e w' => (∃ v, e = .returned (.tuple #[v, .int .i64 R.2]) ∧ w'.ownsRow w.heap.size 92 3 v R.1.length (frC R.1)) ∧ Below w.heap.size w w' := by
  obtain ⟨i0, hi, hz0, hz1, hz2⟩ := info_parts Tryz.info28
  go_enter Tryz.func24, Tryz.ntmps24
  go_wp2
  go_loopw [4, 5] (fun s u wr => ∃ (l : List Fr) (a n : Nat), u = .int .i64 a ∧ a ≤ b.size ∧ b.size - a < n ∧ R.1 = l ++ (frs b n a).1 ∧ R.2 = (frs b n a).2 ∧ wr.ownsRow w.heap.size 92 3 s l.length (frC l) ∧ Below w.heap.size w wr) (fun _ u _ => b.size + 1 - (intOf u).toNat)
  case atStart => exact ⟨[], 0, b.size + 1, rfl, by omega, by omega, by rw [hR]; rfl, by rw [hR], ⟨rfl, .inl ⟨rfl, rfl⟩⟩, Below.refl _ _⟩
  case round =>
    obtain ⟨l, a, n, rfl, ha, hn, hR1, hR2, hown, hbl⟩ := hrel
    clear hR
    obtain ⟨n, rfl⟩ : ∃ k, n = k + 1 := ⟨n - 1, by omega⟩
    have hcp0 := rparse_any b a wr hb
    have hcp : Calls Tryz.prog 40 #[.string b, .int .i64 a] wr fun e w' => e = .returned (.tuple #[.int .i64 (prA b a).1, .string ⟨(prA b a).2.1.toArray⟩, .int .i64 (prA b a).2.2.1, .int .i64 (prA b a).2.2.2]) ∧ Below wr.heap.size wr w' := by
      refine hcp0.mono ?_
      rintro e w' ⟨rfl, m, rfl⟩
      exact ⟨rfl, Drew.below ⟨m, rfl⟩ _⟩
    clear hcp0
    have e0 : prA b a = psA b a := by unfold prA; rw [if_pos (by omega), Int.toNat_natCast]
    rw [e0] at hcp
    rw [frs] at hR1 hR2
    clear e0
    by_cases hal : ¬ a < b.size
    · have e : a = b.size := by omega
      have h0 : (psA b a).2.2.2 ≠ 0 := by rw [e, psA_end]; decide
      rw [if_neg h0] at hR1 hR2
      rw [List.append_nil] at hR1
      dsimp only at hR2
      have HR1 : Hid (R.1 = l) := hR1
      have HR2 : Hid (R.2 = a) := hR2
      clear hR1 hR2 hcp h0 e
      go_wp2
      go_ret2
      rw [HR1.out, HR2.out]
      exact ⟨⟨u4, rfl, hown⟩, hbl⟩
    have hal2 : a < b.size := by omega
    by_cases h0 : (psA b a).2.2.2 = 0
    · rw [if_pos h0] at hR1 hR2
      obtain ⟨k, p, hk1, hk2, hp, hsz, hps, hsub⟩ := psA_yes b a h0
      rw [hps] at hR1 hR2 hcp
      dsimp only at hR1 hR2 hcp
      clear hps h0 hsub
      obtain ⟨z, hz⟩ : ∃ z, z = a + (p.length + 14) := ⟨_, rfl⟩
      rw [← hz] at hR1 hR2 hcp hsz
      have hza : a < z := by omega
      clear hz
      have HR1 : Hid (R.1 = (l ++ [(k, p, a)]) ++ (frs b n z).1) := by show _ = _; rw [hR1]; simp
      have HR2 : Hid (R.2 = (frs b n z).2) := hR2
      have hll : (l.length + 1) * 32 ≤ 140737488355328 := by
        have : l.length + 1 ≤ R.1.length := by rw [hR1]; simp
        omega
      clear hR1 hR2
      go_wp2_with fail
      refine hcp.mono ?_
      rintro e w2 ⟨rfl, b2⟩
      clear hcp
      have hbl2 := chain hbl b2 (Nat.le_refl _)
      have hown2 : w2.ownsRow w.heap.size 92 3 u4 l.length (frC l) := own_below hown b2
      go_wp2_with (at_builtin; refine wpList_append_own _ rfl _ _ 57 rfl w.heap.size 92 i0 (.agg #[.int .i64 0, .string ⟨#[]⟩, .int .i64 0]) 3 32 Tryz.underlying57 hi hz0 hz1 hz2 rfl (by decide) _ _ _ rfl (hown2.alloc _) ⟨w2.heap.size, 0, none⟩ 1 1 [.int .i64 k, .string ⟨p.toArray⟩, .int .i64 a] ?_ rfl (cell_new3 _ _ _ _ _) (fun x hx => by simp at hx; rcases hx with rfl | rfl | rfl <;> rfl) (by unfold maxLen; omega) (by omega) (by have := hbl2.size; simp; omega) ?_; go_simp; intro v' w3 hown' hgrow3 hnil3)
      clear hnil3
      have hgr : (w2.alloc (Obj.cells #[Value.int IntKind.i64 k, Value.string ⟨p.toArray⟩, Value.int IntKind.i64 a] 92)).grownBy w3 u4.ownBlock := hgrow3
      clear hgrow3
      have hb3 : Below w.heap.size w w3 := (hbl2.alloc hbl2.size _).grown hgr (by have := hbl2.size; simp; omega) (fun k hk => (hown2.lt k hk).1)
      refine ⟨⟨l ++ [(k, p, a)], z, n, rfl, hsz, by omega, HR1.out, HR2.out, ?_, hb3⟩, by simp only [intOf]; omega⟩
      rw [frC_snoc, List.length_append]; exact hown'
    · rw [if_neg h0] at hR1 hR2
      rw [List.append_nil] at hR1
      dsimp only at hR2
      obtain ⟨⟨rk, rp, rn, rx⟩, hP⟩ : ∃ P, P = psA b a := ⟨_, rfl⟩
      rw [← hP] at h0 hcp
      clear hP
      dsimp only at h0 hcp
      have HR1 : Hid (R.1 = l) := hR1
      have HR2 : Hid (R.2 = a) := hR2
      clear hR1 hR2
      go_wp2_with fail
      refine hcp.mono ?_
      rintro e w2 ⟨rfl, b2⟩
      clear hcp
      have hbl2 := chain hbl b2 (Nat.le_refl _)
      have hown2 : w2.ownsRow w.heap.size 92 3 u4 l.length (frC l) := own_below hown b2
      go_wp2
      go_ret2
      rw [HR1.out, HR2.out]
      exact ⟨⟨u4, rfl, hown2⟩, hbl2⟩
theorem frs_sum (b : ByteArray) : ∀ (n a : Nat), a ≤ b.size → ((frs b n a).1.map (fun f => f.2.1.length)).sum + a ≤ b.size
  | 0, a, h => by simp [frs]; exact h
  | n + 1, a, h => by
    rw [frs]
    by_cases h0 : (psA b a).2.2.2 = 0
    · rw [if_pos h0]
      obtain ⟨k, p, _, _, _, hsz, hps, _⟩ := psA_yes b a h0
      rw [hps]
      have := frs_sum b n (a + (p.length + 14)) hsz
      simp only [List.map_cons, List.sum_cons]
      omega
    · rw [if_neg h0]; simp; exact h
theorem frs_kind (b : ByteArray) : ∀ (n a : Nat), ∀ f ∈ (frs b n a).1, f.1 ≤ 255
  | 0, a, f, hf => by simp [frs] at hf
  | n + 1, a, f, hf => by
    rw [frs] at hf
    by_cases h0 : (psA b a).2.2.2 = 0
    · rw [if_pos h0] at hf
      obtain ⟨k, p, _, hk, _, hsz, hps, _⟩ := psA_yes b a h0
      rw [hps] at hf
      dsimp only at hf
      rcases List.mem_cons.1 hf with rfl | hf
      · exact hk
      · exact frs_kind b n _ f hf
    · rw [if_neg h0] at hf; simp at hf
theorem frC_at : ∀ (l : List Fr) (i : Nat) (f : Fr), l[i]? = some f → (frC l)[i * 3]? = some (.int .i64 (f.1 : Nat)) ∧ (frC l)[i * 3 + 1]? = some (.string ⟨f.2.1.toArray⟩)
  | [], i, f, h => by simp at h
  | x :: l, 0, f, h => by
    simp at h
    subst h
    have e : frC (x :: l) = frC1 x ++ frC l := by simp [frC]
    rw [e]
    exact ⟨rfl, rfl⟩
  | x :: l, i + 1, f, h => by
    have := frC_at l i f (by simpa using h)
    have e : frC (x :: l) = frC1 x ++ frC l := by simp [frC]
    have hl : (frC1 x).length = 3 := rfl
    rw [e, List.getElem?_append_right (by omega), List.getElem?_append_right (by omega), hl, show (i + 1) * 3 - 3 = i * 3 by omega, show (i + 1) * 3 + 1 - 3 = i * 3 + 1 by omega]
    exact this
/-- Frames that lie in a row of the call's own. -/
theorem fr_cells {w : World} {B : Nat} {v : Value} {l : List Fr} (h : w.ownsRow B 92 3 v l.length (frC l)) (hne : l ≠ []) : ∃ g cap, v = .slice (some ⟨g, 0, none⟩) l.length cap ∧ ∀ (i : Nat) (f : Fr), l[i]? = some f → w.cell? ⟨g, i * 3, none⟩ = some (.int .i64 (f.1 : Nat)) ∧ w.cell? ⟨g, i * 3 + 1, none⟩ = some (.string ⟨f.2.1.toArray⟩) := by
  obtain ⟨g, cap, rfl⟩ : ∃ g cap, v = .slice (some ⟨g, 0, none⟩) l.length cap := by
    rcases h.2 with ⟨_, h2⟩ | ⟨g4, c4, _, h1, _⟩
    · exact absurd (List.length_eq_zero_iff.1 h2) hne
    · exact ⟨g4, c4, h1⟩
  refine ⟨g, cap, rfl, fun i f hf => ?_⟩
  obtain ⟨c1, c2⟩ := frC_at l i f hf
  have e : ∀ j, (⟨g, 0, none⟩ : Addr).add j = ⟨g, j, none⟩ := fun j => by unfold Addr.add; split <;> simp_all
  have d1 := h.cells (g := g) rfl (i * 3) _ c1
  have d2 := h.cells (g := g) rfl (i * 3 + 1) _ c2
  rw [e] at d1 d2
  exact ⟨d1, d2⟩
end Go.Proofs.YtjdpolhjbkpnlaaGreatDoor.Dx
set_option linter.unusedVariables false
set_option linter.unusedSimpArgs false
namespace Go.Proofs.YtjdpolhjbkpnlaaGreatDoor.Dx
open Go.RowKit Go.Proofs.SealMath
open Go.Proofs.YtjdpolhjbkpnlaaGreatDoor.Rb
/-- What the document's Open comes to. -/
def RoO (b : ByteArray) (w : World) (r : Ending) (w' : World) : Prop :=
  Below w.heap.size w w' ∧ ((opD b = none ∧ r = .returned (.tuple #[.pointer none, .int .i64 80])) ∨
    ∃ h m fb lv sv, opD b = some (h, m) ∧ r = .returned (.tuple #[Pt fb, .int .i64 0]) ∧ w.heap.size ≤ fb ∧ RF w' fb h m lv sv 0 ∧ (∀ k, lv.ownBlock = some k → w.heap.size ≤ k) ∧ ∀ k, sv.ownBlock = some k → w.heap.size ≤ k)
/-- Read, for every row of frames. -/
theorem rread_all (l : List Fr) (v : Value) (B : Nat) (w : World) (h : w.ownsRow B 92 3 v l.length (frC l)) (hs : (l.map (fun f => f.2.1.length)).sum ≤ 1099511627776) (hk : ∀ f ∈ l, f.1 ≤ 255) (hl : l.length < 4611686018427387904) :
    Calls Tryz.prog 25 #[v] w (RdO l w) := by
  cases l with
  | nil =>
    obtain ⟨a, cap, rfl, -⟩ := slice_form h
    exact rread_nil a cap w
  | cons x r =>
    obtain ⟨k0, p0, q0⟩ := x
    obtain ⟨g, cap, rfl, hc⟩ := fr_cells h (by simp)
    exact rread_any k0 p0 q0 r g cap w hs hc hk (by simp at hl; omega)
set_option maxHeartbeats 8000000 in
set_option maxRecDepth 100000 in
theorem ropen_any (b : ByteArray) (w : World) (hb : b.size ≤ 1099511627776) : Calls Tryz.prog 6 #[.string b] w (RoO b w) := by
  obtain ⟨R, hR⟩ : ∃ R, R = frs b (b.size + 1) 0 := ⟨_, rfl⟩
  have hlen := frs_len b (b.size + 1) 0 (Nat.zero_le _)
  have hsum := frs_sum b (b.size + 1) 0 (Nat.zero_le _)
  have hkd := frs_kind b (b.size + 1) 0
  rw [← hR] at hlen hsum hkd
  have hfr := rframes_any b w (by omega) R hR (by omega)
  have HO := Hid.mk (And.intro (show rdD R.1 = none → opD b = none from fun e => by unfold opD; rw [← hR, e]) (show ∀ h m, rdD R.1 = some (h, m) → opD b = if bdE h m = 0 ∧ bdT h m = b.data.toList then some ({ h with n := m.length }, m) else none from fun h m e => by unfold opD; rw [← hR, e]))
  clear hR
  go_enter Tryz.func6, Tryz.ntmps6
  go_wp2_with fail
  refine hfr.mono ?_
  clear hfr
  rintro e w1 ⟨⟨v, rfl, hrow⟩, b1⟩
  have hrd := rread_all R.1 v _ w1 hrow (by omega) hkd (by omega)
  obtain ⟨va, vc, rfl, -⟩ := slice_form hrow
  clear hrow hkd hsum hlen
  go_wp2_with fail
  refine hrd.mono ?_
  clear hrd
  rintro e w2 ⟨b2, ⟨hn, rfl⟩ | ⟨h, m, lv, hn, rfl, hrow, hlo, hml⟩⟩
  · have b12 := chain b1 b2 (Nat.le_refl _)
    have b13 := b12.alloc b12.size (.cells (hdC h0).toArray 31)
    have HE := Hid.mk (And.intro (show opD b = none from HO.out.1 hn) b13)
    clear hn HO b13
    simp only [rdN, hdC, h0]
    go_wp2
    go_ret2
    exact ⟨HE.out.2, .inl ⟨HE.out.1, rfl⟩⟩
  · have hn2 := HO.out.2 h m hn
    obtain ⟨la, lc, rfl, hcap, hla⟩ := lat_row hrow
    obtain ⟨W3, hW3⟩ : ∃ W3, W3 = w2.alloc (.cells (hdC h).toArray 31) := ⟨_, rfl⟩
    have b3 : Below w2.heap.size w2 W3 := by rw [hW3]; exact (Below.refl _ w2).alloc (Nat.le_refl _) _
    have hH3 : W3.heap[w2.heap.size]? = some (.cells (hdC h).toArray 31 (0, 0)) := by rw [hW3]; exact heap_alloc_last w2 _
    have hbd := fun W hW => rbuild_any h m la lc W hW (by omega)
    have hla3 := hla.below b3
    have hrow3 := row_kept (F := fun _ => False) hrow (.below b3) (fun _ _ e => e)
    obtain ⟨⟨y0, y1, y2, y3, y4, y5⟩, -⟩ := hd6 hH3
    have HN := Hid.mk hn2
    obtain ⟨H2, hH2⟩ : ∃ H2, H2 = h := ⟨_, rfl⟩
    obtain ⟨wd, ht, hbb, hlo', hhi, hnn⟩ := h
    have HH2 := Hid.mk hH2
    rw [← hH2] at HN
    simp only [hdC] at hbd hW3 y0 y1 y2 y3 y4 y5 ⊢
    have b123 := chain (chain b1 b2 (Nat.le_refl _)) b3 (Nat.le_refl _)
    have hbl := hbd W3 hla3
    clear hbd hn hn2 HO hla hrow hH2
    go_upto_region 3 with fail
    first | rw [← hW3] | (simp at hW3; rw [← hW3])
    clear hW3
    go_wp2_with fail
    refine hbl.mono ?_
    clear hbl
    rintro e W4 ⟨rfl, b4⟩
    rw [← HH2.out]
    obtain ⟨E, hE⟩ : ∃ E, E = bdE H2 m := ⟨_, rfl⟩
    obtain ⟨TX, hTX⟩ : ∃ TX : ByteArray, TX = ⟨(bdT H2 m).toArray⟩ := ⟨_, rfl⟩
    rw [← hE, ← hTX]
    have hH4 := (b4.block _ (Array.getElem?_eq_some_iff.1 hH3).1).trans hH3
    have hrow4 := row_kept (F := fun _ => False) hrow3 (.below b4) (fun _ _ e => e)
    have bw4 : Below w.heap.size w W4 := chain b123 b4 (Nat.le_refl _)
    have hsz2 : w.heap.size ≤ w2.heap.size := Nat.le_trans b1.size b2.size
    obtain ⟨⟨y0, y1, y2, y3, y4, y5⟩, -, -, -, -, -, f5⟩ := hd6 hH4
    dsimp only at y0 y1 y2 y3 y4 y5
    have HE := Hid.mk hE
    have HTX := Hid.mk hTX
    clear hE hTX hla3 hrow3 hH3
    by_cases hE0 : E = 0
    · subst hE0
      by_cases hT : TX = b
      · have hop : opD b = some ({ H2 with n := m.length }, m) := by
          rw [HN.out, if_pos ⟨HE.out.symm, by rw [← hT, HTX.out]⟩]
        obtain ⟨-, hm2, -, hok⟩ := bdE_ok HE.out.symm
        obtain ⟨W5, hW5⟩ : ∃ W5, W5 = W4.setCell ⟨w2.heap.size, 5, none⟩ (.int .i64 (m.length : Nat)) := ⟨_, rfl⟩
        have st5 : Stay (fun k => k = w2.heap.size) W4 W5 := by rw [hW5]; exact Stay.setCell (F := fun k => k = w2.heap.size) (Stay.refl _ W4) (p := ⟨w2.heap.size, 5, none⟩) (fun _ => rfl) _
        have hH5 : W5.heap[w2.heap.size]? = some (.cells (hdC ⟨wd, ht, hbb, hlo', hhi, m.length⟩).toArray 31 (0, 0)) := by rw [hW5]; exact heap_setCell_same W4 w2.heap.size 5 _ _ _ hH4
        have hrow5 := row_kept hrow4 st5 (fun k hk e => by
          obtain ⟨c, hc⟩ := row_block hrow4 hk
          rw [e, hH4] at hc; simp at hc)
        have bw5 : Below w.heap.size w W5 := bw4.trans (st5.toBelow (fun k hk e => by omega) bw4.size)
        obtain ⟨la2, lc2, e2, -, hla5⟩ := lat_row hrow5
        cases e2
        have hsz := rsizes_any m la lc W5.drew (hla5.below (b_drew W5)) hok hm2
        obtain ⟨⟨z0, z1, z2, z3, z4, z5⟩, -⟩ := hd6 hH5
        dsimp only at z0 z1 z2 z3 z4 z5
        have hs : (TX.toList == b.toList) = true := by rw [hT]; simp
        have HP := Hid.mk (And.intro hop (And.intro hrow5 (And.intro bw5 (And.intro hlo hsz2))))
        clear hop hok hH5 hrow5 bw5 st5 hla5 hrow4 hH4 hT HN hlo
        go_upto_region 9 with fail
        first | rw [← hW5] | (simp at hW5; rw [← hW5])
        clear hW5 y0 y1 y2 y3 y4 y5 f5
        have y0 := z0
        have y1 := z1
        have y2 := z2
        have y3 := z3
        have y4 := z4
        have y5 := z5
        clear z0 z1 z2 z3 z4 z5
        refine wp_region_held_drew (S := fun w' => w'.cell? ⟨w2.heap.size, 0, none⟩ = some (.int .i64 wd) ∧ w'.cell? ⟨w2.heap.size, 1, none⟩ = some (.int .i64 ht) ∧ w'.cell? ⟨w2.heap.size, 2, none⟩ = some (.int .i64 hbb) ∧ w'.cell? ⟨w2.heap.size, 3, none⟩ = some (.int .i64 hlo') ∧ w'.cell? ⟨w2.heap.size, 4, none⟩ = some (.int .i64 hhi) ∧ w'.cell? ⟨w2.heap.size, 5, none⟩ = some (.int .i64 (m.length : Nat))) (by kernel_rfl) ?_ (fun hHeld => ?_)
        · exact ⟨y0, y1, y2, y3, y4, y5⟩
        refine wpAnyH_take (i := 0) (oi := { dst := some 40, op := Op.load 31 (Operand.tmp 6), type := 31, pos := "kindredref6.go:262", after := #[], guard := none }) (v := ?vo0) rfl (by kernel_rfl) (by kernel_rfl) (by kernel_rfl) (fun _ _ _ h => h) (Or.inl ⟨by rfl, ?ho0⟩) (by assumption) ?ro0
        case ho0 => (intro w0 hSw; (try dsimp only at hSw); go_simp; try (with_reducible rfl))
        simp only [Act.put, List.setIfInBounds_toArray, List.set_cons_zero, List.set_cons_succ]
        refine wpAnyH_take (i := 1) (oi := { dst := some 41, op := Op.move (Operand.tmp 7), type := 34, pos := "kindredref6.go:262", after := #[], guard := none }) (v := ?vo1) rfl (by kernel_rfl) (by kernel_rfl) (by kernel_rfl) (fun _ _ _ h => h) (Or.inl ⟨by rfl, ?ho1⟩) (by assumption) ?ro1
        case ho1 => (intro w0 hSw; (try dsimp only at hSw); go_simp; try (with_reducible rfl))
        simp only [Act.put, List.setIfInBounds_toArray, List.set_cons_zero, List.set_cons_succ]
        refine wpAnyH_take (i := 2) (oi := { dst := some 42, op := Op.move (Operand.tmp 7), type := 34, pos := "kindredref6.go:262", after := #[], guard := none }) (v := ?vo2) rfl (by kernel_rfl) (by kernel_rfl) (by kernel_rfl) (fun _ _ _ h => h) (Or.inl ⟨by rfl, ?ho2⟩) (by assumption) ?ro2
        case ho2 => (intro w0 hSw; (try dsimp only at hSw); go_simp; try (with_reducible rfl))
        simp only [Act.put, List.setIfInBounds_toArray, List.set_cons_zero, List.set_cons_succ]
        refine wpAnyH_ready (rs := [3]) (by kernel_rfl) (by simp) ?_
        refine AllReadyH.cons rfl (fun K hK => ?_) AllReadyH.nil
        go_simp
        go_wp2_with (go_at_call 27; refine hsz.mono ?_; clear hsz; rintro r6 w6 ⟨sv, rfl, hS6, hlo6, b6⟩; have b6 : Below W5.heap.size W5 w6 := below_d b6; obtain ⟨sa, sc, rfl, -⟩ := slice_form hS6)
        refine hK.out _ _ ?_ (fun hHeld => ?_)
        · first | exact ⟨cell_lat b6 y0, cell_lat b6 y1, cell_lat b6 y2, cell_lat b6 y3, cell_lat b6 y4, cell_lat b6 y5⟩ | (have b7 := b6.alloc b6.size (.cells (rfV ⟨wd, ht, hbb, hlo', hhi, m.length⟩ (.slice la m.length lc) (.slice sa (szs m).length sc) 0) 67); exact ⟨cell_lat b7 y0, cell_lat b7 y1, cell_lat b7 y2, cell_lat b7 y3, cell_lat b7 y4, cell_lat b7 y5⟩)
        clear hK K
        refine wpAnyH_take (i := 4) (oi := { dst := some 44, op := Op.build 67 #[(0, Operand.tmp 40), (1, Operand.tmp 41), (2, Operand.tmp 43)], type := 67, pos := "kindredref6.go:262", after := #[{ on := 0, ground := Ground.data }, { on := 1, ground := Ground.data }, { on := 3, ground := Ground.data }], guard := none }) (v := ?vo4) rfl (by kernel_rfl) (by kernel_rfl) (by kernel_rfl) (fun _ _ _ h => h) (Or.inl ⟨by rfl, ?ho4⟩) (by assumption) ?ro4
        case ho4 => (intro w0 hSw; (try dsimp only at hSw); go_simp; try (with_reducible rfl))
        simp only [Act.put, List.setIfInBounds_toArray, List.set_cons_zero, List.set_cons_succ]
        refine wpAnyH_ready (rs := [5]) (by kernel_rfl) (by simp) ?_
        refine AllReadyH.cons rfl (fun K hK => ?_) AllReadyH.nil
        go_simp
        go_wp2_with (go_at_call 27; refine hsz.mono ?_; clear hsz; rintro r6 w6 ⟨sv, rfl, hS6, hlo6, b6⟩; have b6 : Below W5.heap.size W5 w6 := below_d b6; obtain ⟨sa, sc, rfl, -⟩ := slice_form hS6)
        refine hK.out _ _ ?_ (fun hHeld => ?_)
        · first | exact ⟨cell_lat b6 y0, cell_lat b6 y1, cell_lat b6 y2, cell_lat b6 y3, cell_lat b6 y4, cell_lat b6 y5⟩ | (have b7 := b6.alloc b6.size (.cells (rfV ⟨wd, ht, hbb, hlo', hhi, m.length⟩ (.slice la m.length lc) (.slice sa (szs m).length sc) 0) 67); exact ⟨cell_lat b7 y0, cell_lat b7 y1, cell_lat b7 y2, cell_lat b7 y3, cell_lat b7 y4, cell_lat b7 y5⟩)
        clear hK K
        refine wpAnyH_take (i := 6) (oi := { dst := some 2, op := Op.assign (Operand.tmp 45), type := 27, pos := "kindredref6.go:262", after := #[{ on := 5, ground := Ground.data }, { on := 3, ground := Ground.chain }, { on := 0, ground := Ground.phase }, { on := 1, ground := Ground.phase }, { on := 2, ground := Ground.phase }, { on := 3, ground := Ground.phase }, { on := 4, ground := Ground.phase }, { on := 5, ground := Ground.phase }], guard := none }) (v := ?vo6) rfl (by kernel_rfl) (by kernel_rfl) (by kernel_rfl) (fun _ _ _ h => h) (Or.inl ⟨by rfl, ?ho6⟩) (by assumption) ?ro6
        case ho6 => (intro w0 hSw; (try dsimp only at hSw); go_simp; try (with_reducible rfl))
        simp only [Act.put, List.setIfInBounds_toArray, List.set_cons_zero, List.set_cons_succ]
        refine wpAnyH_take (i := 7) (oi := { dst := some 3, op := Op.assign (Operand.const (Value.int IntKind.i64 0)), type := 3, pos := "kindredref6.go:262", after := #[{ on := 6, ground := Ground.chain }, { on := 0, ground := Ground.phase }, { on := 1, ground := Ground.phase }, { on := 2, ground := Ground.phase }, { on := 3, ground := Ground.phase }, { on := 4, ground := Ground.phase }, { on := 5, ground := Ground.phase }, { on := 6, ground := Ground.phase }], guard := none }) (v := ?vo7) rfl (by kernel_rfl) (by kernel_rfl) (by kernel_rfl) (fun _ _ _ h => h) (Or.inl ⟨by rfl, ?ho7⟩) (by assumption) ?ro7
        case ho7 => (intro w0 hSw; (try dsimp only at hSw); go_simp; try (with_reducible rfl))
        simp only [Act.put, List.setIfInBounds_toArray, List.set_cons_zero, List.set_cons_succ]
        refine wpAnyH_done (by kernel_rfl) ?_ _
        go_wp2
        go_ret2
        have b56 : Below w.heap.size w w6 := chain HP.out.2.2.1 b6 (Nat.le_refl _)
        refine ⟨b56.alloc b56.size _, .inr ⟨_, m, w6.heap.size, .slice la m.length lc, .slice sa (szs m).length sc, HP.out.1, rfl, b56.size, ⟨?_, ?_, hS6.alloc _⟩, ?_, ?_⟩⟩
        · rw [HH2.out]; exact heap_alloc_last w6 _
        · exact (row_kept (F := fun _ => False) HP.out.2.1 (.below b6) (fun _ _ e => e)).alloc _
        · intro k hk; have h1 := HP.out.2.2.2.1 k hk; have h2 := b1.size; omega
        · intro k hk; have h1 := hlo6 k hk; have h2 := HP.out.2.2.1.size; exact Nat.le_trans h2 h1
      · have hop : opD b = none := by
          rw [HN.out, if_neg (fun h => hT (by rw [HTX.out]; apply ba_ext; exact h.2))]
        have hs : (TX.toList == b.toList) = false := by
          apply beq_false_of_ne
          intro e
          apply hT
          apply ba_ext
          rw [toL, toL] at e
          exact e
        have HP := Hid.mk (And.intro hop bw4)
        clear hop hT HN bw4
        go_wp2
        go_ret2
        exact ⟨HP.out.2, .inl ⟨HP.out.1, rfl⟩⟩
    · have hop : opD b = none := by
        rw [HN.out, if_neg (fun h => hE0 (by rw [HE.out]; exact h.1))]
      have hne : (E != 0) = true := by simpa using hE0
      have HP := Hid.mk (And.intro hop bw4)
      clear hop HN bw4
      go_wp2
      go_ret2
      exact ⟨HP.out.2, .inl ⟨HP.out.1, rfl⟩⟩
end Go.Proofs.YtjdpolhjbkpnlaaGreatDoor.Dx
set_option linter.unusedVariables false
set_option linter.unusedSimpArgs false
namespace Go.Proofs.YtjdpolhjbkpnlaaGreatDoor.Dx
open Go.RowKit Go.Proofs.SealMath
open Go.Proofs.YtjdpolhjbkpnlaaGreatDoor.Rb
/-- Where a block's entries begin. -/
def At (G : List (List En)) (k : Nat) : Nat := (G.take k).flatten.length
theorem at_zero (G : List (List En)) : At G 0 = 0 := rfl
theorem at_succ : ∀ (G : List (List En)) (k : Nat) (B : List En), G[k]? = some B → At G (k + 1) = At G k + B.length
  | [], k, B, h => by simp at h
  | C :: G, 0, B, h => by simp at h; subst h; simp [At]
  | C :: G, k + 1, B, h => by
    have := at_succ G k B (by simpa using h)
    unfold At at this ⊢
    simp only [List.take_succ_cons, List.flatten_cons, List.length_append]
    omega
theorem at_get : ∀ (G : List (List En)) (k : Nat) (B : List En) (j : Nat) (e : En), G[k]? = some B → B[j]? = some e → G.flatten[At G k + j]? = some e
  | [], k, B, j, e, h, _ => by simp at h
  | C :: G, 0, B, j, e, h, h2 => by
    simp at h
    subst h
    obtain ⟨hj, -⟩ := List.getElem?_eq_some_iff.1 h2
    rw [at_zero, Nat.zero_add, List.flatten_cons, List.getElem?_append_left hj]
    exact h2
  | C :: G, k + 1, B, j, e, h, h2 => by
    have := at_get G k B j e (by simpa using h) h2
    have e1 : At (C :: G) (k + 1) = C.length + At G k := by unfold At; simp
    rw [e1, List.flatten_cons, List.getElem?_append_right (by omega), show C.length + At G k + j - C.length = At G k + j by omega]
    exact this
theorem at_le (G : List (List En)) (k : Nat) : At G k ≤ G.flatten.length := by
  unfold At
  have := congrArg (fun x => x.flatten.length) (List.take_append_drop k G)
  simp only [List.flatten_append, List.length_append] at this
  omega
theorem lsB_cp (a b : En) : lsB a b = decide (cpE a b < 0) := by
  by_cases h : cpE a b < 0
  · rw [decide_eq_true h]; exact (cpE_ls a b).1 h
  · rw [decide_eq_false h]
    cases hb : lsB a b with
    | false => rfl
    | true => exact absurd ((cpE_ls a b).2 hb) h
theorem hd_at {B : List En} (h : B ≠ []) : B[0]? = some (B.headD e0) := by
  cases B with
  | nil => exact absurd rfl h
  | cons x r => rfl
set_option maxRecDepth 100000 in
set_option maxHeartbeats 4000000 in
/-- Begin: the first block for a place, and where its entries begin. -/
theorem rbegin_any (fb : Nat) (h : Hd) (l : List En) (lv sv : Value) (rd : Nat) (p : En) (ix : List En) (w : World) (H : RF w fb h l lv sv rd) (hix : ix = (Gs l).map (fun B => B.headD e0)) (hup : Up ix) (hne : ∀ B ∈ Gs l, B ≠ []) (hl : l.length ≤ 2097152) :
    Calls Tryz.prog 31 #[Pt fb, .agg (enC p).toArray] w fun r w' => r = .returned (.tuple #[.int .i64 ((rF ix p - 1 : Nat) : Int), .int .i64 (At (Gs l) (rF ix p - 1) : Nat)]) ∧ Below w.heap.size w w' := by
  have hlen : (szs l).length = (Gs l).length := by rw [szs_eq]; simp
  have hil : ix.length = (Gs l).length := by rw [hix]; simp
  have hGl : (Gs l).length ≤ l.length := by
    have := pk_len enB l
    unfold Gs
    rw [List.length_map]
    have h1 := flat_ge (pk enB l) (fun q hq => hne q.2 (List.mem_map.2 ⟨q, hq, rfl⟩))
    rw [pk_flat] at h1
    exact h1
  obtain ⟨sa, sc, rfl, hsat⟩ := int_at H.szr
  obtain ⟨la, lc, rfl, hlcap, hla⟩ := lat_row H.row
  obtain ⟨W1, hW1⟩ : ∃ W1, W1 = w.alloc (.cells (enC p).toArray 38) := ⟨_, rfl⟩
  have b1 : Below w.heap.size w W1 := by rw [hW1]; exact (Below.refl _ w).alloc (Nat.le_refl _) _
  have hB1 : W1.heap[w.heap.size]? = some (.cells (enC p).toArray 38 (0, 0)) := by rw [hW1]; exact heap_alloc_last w _
  obtain ⟨-, y6, y7, -⟩ := rf9 (H.below b1).box
  obtain ⟨p0, p1, p2, p3, p4, -⟩ := en5 hB1
  obtain ⟨G, hG⟩ : ∃ G, G = Gs l := ⟨_, rfl⟩
  have hfl : G.flatten = l := by rw [hG]; exact Gs_flat l
  rw [← hG] at hlen hil hne hGl ⊢
  have HX := Hid.mk (And.intro hix (And.intro hup (And.intro hne (And.intro hsat (And.intro hla (And.intro hfl (And.intro hil (And.intro hG hlen))))))))
  obtain ⟨n, hn⟩ : ∃ n, n = G.length := ⟨_, rfl⟩
  rw [hlen, ← hn] at y7
  rw [← hn] at hGl
  have HN := Hid.mk hn
  clear H hix hup hne hsat hla hfl hil hG hn hlen hB1
  go_enter Tryz.func31, Tryz.ntmps31
  go_upto_region 1 with fail
  first | rw [← hW1] | (simp [enC] at hW1; rw [← hW1])
  clear hW1
  go_wp2
  go_loopw [6, 7, 8, 9] (fun bv fv av kv wr => ∃ k : Nat, k ≤ n ∧ kv = .int .i64 k ∧ av = .int .i64 (At G k : Nat) ∧ bv = .int .i64 ((rF (ix.take k) p - 1 : Nat) : Int) ∧ fv = .int .i64 (At G (rF (ix.take k) p - 1) : Nat) ∧ Hid (Below W1.heap.size W1 wr)) (fun _ _ _ kv _ => n - (intOf kv).toNat)
  case atStart => exact ⟨0, Nat.zero_le _, rfl, rfl, rfl, rfl, Hid.mk (Below.refl _ _)⟩
  case round =>
    obtain ⟨k, hk, rfl, rfl, rfl, rfl, HB⟩ := hrel
    have c6 := cell_lat HB.out y6
    have c7 := cell_lat HB.out y7
    obtain ⟨A, hA⟩ : ∃ A, A = At G k := ⟨_, rfl⟩
    obtain ⟨F, hF⟩ : ∃ F, F = At G (rF (ix.take k) p - 1) := ⟨_, rfl⟩
    obtain ⟨Q, hQ⟩ : ∃ Q, Q = rF (ix.take k) p - 1 := ⟨_, rfl⟩
    rw [← hA, ← hF, ← hQ]
    have HA := Hid.mk (And.intro hA (And.intro hF hQ))
    clear hA hF hQ
    by_cases hlt : k < n
    · obtain ⟨B, hBk⟩ : ∃ B, G[k]? = some B := ⟨_, List.getElem?_eq_getElem (by rw [← HN.out]; exact hlt)⟩
      have hBne : B ≠ [] := HX.out.2.2.1 B (List.mem_of_getElem? hBk)
      have hx : l[A]? = some (B.headD e0) := by
        have := at_get G k B 0 _ hBk (hd_at hBne)
        rw [HX.out.2.2.2.2.2.1, Nat.add_zero, ← HA.out.1] at this
        exact this
      obtain ⟨hAl, hxe⟩ := List.getElem?_eq_some_iff.1 hx
      have hs := at_succ G k B hBk
      have hle := at_le G (k + 1)
      rw [HX.out.2.2.2.2.2.1] at hle
      rw [← HA.out.1] at hs
      have hkix : k < ix.length := by rw [HX.out.2.2.2.2.2.2.1, ← HN.out]; exact hlt
      have hixk : ix[k] = B.headD e0 := by
        have : ix[k]? = some (B.headD e0) := by rw [HX.out.1, List.getElem?_map, ← HX.out.2.2.2.2.2.2.2.1, hBk]; rfl
        exact (List.getElem?_eq_some_iff.1 this).2
      have hrt := rF_take HX.out.2.1 p k hkix
      rw [hixk] at hrt
      obtain ⟨gs, hgs, hsc⟩ := HX.out.2.2.2.1 k (by rw [HX.out.2.2.2.2.2.2.2.2, ← HN.out]; exact hlt)
      subst hgs
      have hSk : (szs l)[k]'(by rw [HX.out.2.2.2.2.2.2.2.2, ← HN.out]; exact hlt) = B.length := by
        have : (szs l)[k]? = some B.length := by rw [szs_eq, List.getElem?_map, ← HX.out.2.2.2.2.2.2.2.1, hBk]; rfl
        exact (List.getElem?_eq_some_iff.1 this).2
      rw [hSk] at hsc
      have hw1 := chain b1 HB.out (Nat.le_refl _)
      have hsc1 := cell_lat hw1 hsc
      obtain ⟨gl, off, hla2, hra⟩ := (HX.out.2.2.2.2.1.below hw1).at' (fun h => by rw [h] at hAl; simp at hAl)
      subst hla2
      obtain ⟨x0, x1, x2, x3, x4⟩ := row_en hra rfl A hAl
      rw [hxe] at x0 x1 x2 x3 x4
      obtain ⟨x, hxx⟩ : ∃ x, x = B.headD e0 := ⟨_, rfl⟩
      rw [← hxx] at x0 x1 x2 x3 x4 hrt
      have q0 := cell_lat HB.out p0
      have q1 := cell_lat HB.out p1
      have q2 := cell_lat HB.out p2
      have q3 := cell_lat HB.out p3
      have q4 := cell_lat HB.out p4
      have hls := fun W => rless_any p x W
      have hcp : lsB p x = decide (0 < cpE x p) := by rw [lsB_cp, cpE_rev x p]; congr 1; apply propext; omega
      rw [hcp] at hls
      simp only [enC] at hls
      have i1 : (k : Int) < (n : Int) := by omega
      have i2 : (A : Int) < (l.length : Int) := by omega
      have HS := Hid.mk (And.intro hs hrt)
      have hAl2 : A + B.length ≤ 2097152 := by omega
      obtain ⟨BL, hBL⟩ : ∃ BL, BL = B.length := ⟨_, rfl⟩
      rw [← hBL] at hsc1 hAl2 HS
      clear hra hxe hx hBne hs hle hrt hixk hsc hSk hw1 hcp hxx hBk hBL
      go_upto_region 7 with fail
      go_region_held (fun w' => Below wr.heap.size wr w' ∧ w'.cell? ⟨w.heap.size, 0, none⟩ = some (.int .i64 p.v) ∧ w'.cell? ⟨w.heap.size, 1, none⟩ = some (.string p.c) ∧ w'.cell? ⟨w.heap.size, 2, none⟩ = some (.int .i64 p.i) ∧ w'.cell? ⟨w.heap.size, 3, none⟩ = some (.int .i64 p.s) ∧ w'.cell? ⟨w.heap.size, 4, none⟩ = some (.bool p.d) ∧ w'.cell? ⟨fb, 6, none⟩ = some (.slice (some ⟨gl, off, none⟩) l.length lc) ∧ w'.cell? ⟨gl, off + A * 5, none⟩ = some (.int .i64 x.v) ∧ w'.cell? ⟨gl, off + A * 5 + 1, none⟩ = some (.string x.c) ∧ w'.cell? ⟨gl, off + A * 5 + 2, none⟩ = some (.int .i64 x.i) ∧ w'.cell? ⟨gl, off + A * 5 + 3, none⟩ = some (.int .i64 x.s) ∧ w'.cell? ⟨gl, off + A * 5 + 4, none⟩ = some (.bool x.d))
        ((refine (fun hb => ⟨hb, cell_lat hb q0, cell_lat hb q1, cell_lat hb q2, cell_lat hb q3, cell_lat hb q4, cell_lat hb c6, cell_lat hb x0, cell_lat hb x1, cell_lat hb x2, cell_lat hb x3, cell_lat hb x4⟩) ?_; first | exact bb | exact b_drew wr))
        ((go_at_call 32; refine (hls _).mono ?_; clear hls; rintro r w4 ⟨rfl, b4⟩; have bb : Below wr.heap.size wr w4 := below_d b4))
      have e7 := cell_lat bb c7
      have e8 := cell_lat bb hsc1
      have HB4 := Hid.mk (chain HB.out bb (Nat.le_refl _))
      clear c6 c7 hsc1 x0 x1 x2 x3 x4 q0 q1 q2 q3 q4 bb
      by_cases hc : 0 < cpE x p
      · have hd : decide (0 < cpE x p) = true := decide_eq_true hc
        have hr2 := HS.out.2
        rw [if_pos hc] at hr2
        rw [hd]
        have HS2 := Hid.mk (And.intro HS.out.1 hr2)
        clear hr2 hd hc HS
        go_wp2
        refine ⟨⟨k + 1, by omega, ival (by omega), ?_, ?_, ?_, HB4⟩, by simp only [intOf]; omega⟩
        · rw [HS2.out.1]; exact ival (by omega)
        · rw [HS2.out.2, ← HA.out.2.2]
        · rw [HS2.out.2, ← HA.out.2.1]
      · have hd : decide (0 < cpE x p) = false := decide_eq_false hc
        have hr2 := HS.out.2
        rw [if_neg hc] at hr2
        rw [hd]
        have HS2 := Hid.mk (And.intro HS.out.1 hr2)
        clear hr2 hd hc HS
        go_wp2
        refine ⟨⟨k + 1, by omega, ival (by omega), ?_, ?_, ?_, HB4⟩, by simp only [intOf]; omega⟩
        · rw [HS2.out.1]; exact ival (by omega)
        · rw [HS2.out.2, Nat.add_sub_cancel]
        · rw [HS2.out.2, Nat.add_sub_cancel, ← HA.out.1]
    · have hkn : k = n := by omega
      have ht : ix.take k = ix := List.take_of_length_le (by rw [HX.out.2.2.2.2.2.2.1, ← HN.out]; omega)
      have i1 : ¬ ((k : Int) < (n : Int)) := by omega
      have HT := Hid.mk ht
      clear hkn ht
      go_wp2
      go_ret2
      have h1 := HA.out
      rw [HT.out] at h1
      rw [h1.2.1, h1.2.2]
      exact ⟨rfl, chain b1 HB.out (Nat.le_refl _)⟩
end Go.Proofs.YtjdpolhjbkpnlaaGreatDoor.Dx
