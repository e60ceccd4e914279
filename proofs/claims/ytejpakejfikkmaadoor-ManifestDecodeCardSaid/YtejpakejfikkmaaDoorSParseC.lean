/-
  DERIVED. The document's own Parse; SealParse's walk.
-/
import Derived.Test.YtejpakejfikkmaaDoorSParseB
namespace Go.Proofs.YtejpakejfikkmaaDoor
open Go.RowKit Go.Proofs.SealMath
set_option maxRecDepth 100000 in
set_option maxHeartbeats 8000000 in
theorem rparse_ok (b : ByteArray) (a : Nat) (R : Nat × List UInt8 × Nat × Int) (w : World) (hb : b.size < 4611686018427387904) (ha : a ≤ b.size) (hR : R = psA b a) :
    Calls Tryd.prog 12 #[.string b, .int .i64 a] w fun e w' => e = .returned (.tuple #[.int .i64 R.1, .string ⟨R.2.1.toArray⟩, .int .i64 R.2.2.1, .int .i64 R.2.2.2]) ∧ ∃ m, w' = w.drewN m := by
  have HR : Hid (R = psA b a) := hR
  clear hR
  have hp1 : ¬ (a : Int) < 0 := by omega
  have hp2 : ¬ b.size < a := by omega
  have hrs := rest_size b a ha
  have HE : Hid (∀ i n, a + i + n ≤ b.size → sub (b.extract a b.size) i n = sub b (a + i) n) := fun i n h => rest_sub b a i n h
  have HD : Hid (hdA (b.extract a b.size) 0 = hdA b a) := hdA_rest b a ha
  obtain ⟨r, hr⟩ : ∃ r, r = b.extract a b.size := ⟨_, rfl⟩
  have HX : Hid (r = b.extract a b.size) := hr
  rw [← hr] at hrs HE HD
  clear hr
  have HRS : Hid (r.size = b.size - a) := hrs
  have hrl : r.size ≤ b.size := by omega
  clear hrs
  go_enter Tryd.func12, Tryd.ntmps12
  go_wp2_with fail
  rw [← HX.out]
  refine (begun_any r _ (by omega)).mono ?_
  rintro e w1 ⟨rfl, m1, rfl⟩
  rw [HD.out]
  have hok := hdA_ok b a
  have hsm := hdA_sum b a
  have hR := HR.out
  unfold psA at hR
  clear HR
  obtain ⟨⟨k, n, s, x⟩, hH⟩ : ∃ H, H = hdA b a := ⟨_, rfl⟩
  rw [← hH] at hR hok hsm ⊢
  clear hH
  dsimp only at hR hok hsm ⊢
  by_cases hx : x = 0
  · subst hx
    rw [if_pos rfl] at hR
    obtain ⟨ha10, hn, hk, hs⟩ := hok rfl
    obtain ⟨rfl, rfl⟩ := hsm rfl
    clear hok hsm
    by_cases h14 : b.size < a + 14 + n
    · rw [if_pos h14] at hR
      subst hR
      have h14' : r.size < 10 + n + 4 := by have := HRS.out; omega
      go_wp2
      refine bodyPost_ret (results_tmp4 rfl _ _ _) rfl ?_
      exact ⟨rfl, ⟨_, rfl⟩⟩
    · rw [if_neg h14] at hR
      have h14' : 10 + n + 4 ≤ r.size := by have := HRS.out; omega
      have hsz : r.size < 4611686018427387904 := by omega
      go_wp2
      obtain ⟨P, hP⟩ : ∃ P, P = r.extract 10 (10 + n) := ⟨_, rfl⟩
      rw [← hP]
      have hPl : P.data.toList = sub b (a + 10) n := by
        rw [hP, ext_sub, show 10 + n - 10 = n by omega, HE.out 10 n (by omega)]
      have hPs : P.size = n := by rw [ba_size, hPl, sub_len b (a + 10) n (by omega)]
      have h6l : (r.extract 0 6).data.toList = sub b a 6 := by rw [ext_sub, HE.out 0 (6 - 0) (by omega)]; rfl
      have h6s : (r.extract 0 6).size = 6 := by rw [ba_size, h6l, sub_len b a 6 (by omega)]
      clear hP
      have hc := crc_lt (s := crc 0 (sub b a 6)) (sub b (a + 10) n) hs
      have hl := lwS_lt b (a + 10 + n) (by omega)
      have hI := lwS_iff b (a + 10 + n) (crc (crc 0 (sub b a 6)) (sub b (a + 10) n)) (by omega) hc
      obtain ⟨S, hS⟩ : ∃ S, S = crc (crc 0 (sub b a 6)) (sub b (a + 10) n) := ⟨_, rfl⟩
      obtain ⟨L, hL⟩ : ∃ L, L = lwS (sub b (a + 10 + n) 4) := ⟨_, rfl⟩
      have hA : ∀ W, Calls Tryd.prog 38 #[.string r, .int .i64 (10 + (n : Int))] W (fun e w' => e = .returned (.int .u32 L) ∧ ∃ m, w' = W.drewN m) := fun W => by
        have := sumAt_sub r (10 + n) W hsz (by omega)
        rw [HE.out (10 + n) 4 (by omega), show a + (10 + n) = a + 10 + n by omega, ← hL] at this
        exact this
      have hBs : ∀ W, Calls Tryd.prog 39 #[.string (r.extract 0 6 ++ P)] W (fun e w' => e = .returned (.int .u32 S) ∧ w' = W) := fun W => by
        have := rsum_any (r.extract 0 6 ++ P) W (by rw [ByteArray.size_append, h6s, hPs]; omega)
        rw [ByteArray.data_append, Array.toList_append, h6l, hPl, crc_append, ← hS] at this
        exact this
      rw [← hS] at hc hI hR
      rw [← hL] at hl hI
      have HI : Hid (L = S ↔ sub b (a + 10 + n) 4 = lowL S) := hI
      have HR : Hid (R = if sub b (a + 10 + n) 4 = lowL S then (numL (sub b (a + 1) 1), sub b (a + 10) n, a + 14 + n, 0) else (0, [], 0, 34)) := hR
      have HPl : Hid (P.data.toList = sub b (a + 10) n) := hPl
      have hk1 : r[1].toNat = numL (sub b (a + 1) 1) := by
        have e := HE.out 1 1 (by omega)
        rw [sub_one' r 1 (by omega)] at e
        rw [← e]; simp [numL]
      have z6 : (6 : Int) ≤ (r.size : Int) := by omega
      clear hI hR hS hL hs h6l hPl
      have hwr : IntKind.i64.wrap (10 + (n : Int)) = 10 + (n : Int) := i64_in _ (by omega) (by omega)
      have z1 : (1 : Int) < (r.size : Int) := by omega
      have zs : ¬ (9223372036854775807 : Int) < 6 + (n : Int) := by omega
      obtain ⟨W1, hW1⟩ : ∃ W, W = w.drewN m1 := ⟨_, rfl⟩
      rw [← hW1]
      have HW : Hid (W1 = w.drewN m1) := hW1
      clear hW1
      go_quiet (first | (go_at_call 38; exact Calls.quiet_of (hA _)) | (go_at_call 39; exact Calls.quiet_of_same (hBs _)))
      clear hA hBs
      have hR := HR.out
      have hI := HI.out
      have HK : Hid (r[1].toNat = numL (sub b (a + 1) 1)) := hk1
      have hkb : r[1].toNat ≤ 255 := by rw [hk1]; exact hk
      clear hk1 HR HI
      by_cases hq : sub b (a + 10 + n) 4 = lowL S
      · rw [if_pos hq] at hR
        have hLS : L = S := hI.2 hq
        have hne : ((L : Int) != (S : Int)) = false := by rw [hLS]; simp
        rw [← HPl.out, ← HK.out] at hR
        subst hR
        clear hLS hI hq
        go_wp2
        refine bodyPost_ret (results_tmp4 rfl _ _ _) rfl ?_
        refine ⟨ret4 rfl rfl (ival ?_) rfl, ⟨_, by rw [HW.out, World.drewN_drewN]⟩⟩
        show (a : Int) + 10 + n + 4 = ((a + 14 + n : Nat) : Int)
        omega
      · rw [if_neg hq] at hR
        subst hR
        have hLS : L ≠ S := fun h => hq (hI.1 h)
        have hne : ((L : Int) != (S : Int)) = true := by simp; omega
        clear hLS hI hq
        go_wp2
        refine bodyPost_ret (results_tmp4 rfl _ _ _) rfl ?_
        exact ⟨rfl, ⟨_, by rw [HW.out, World.drewN_drewN]⟩⟩
  · rw [if_neg hx] at hR
    subst hR
    go_wp2
    refine bodyPost_ret (results_tmp4 rfl _ _ _) rfl ?_
    exact ⟨rfl, ⟨_, rfl⟩⟩
set_option maxRecDepth 100000 in
set_option maxHeartbeats 1000000 in
theorem rparse_any (b : ByteArray) (p : Int) (w : World) (hb : b.size < 4611686018427387904) :
    Calls Tryd.prog 12 #[.string b, .int .i64 p] w fun e w' => e = .returned (.tuple #[.int .i64 (prA b p).1, .string ⟨(prA b p).2.1.toArray⟩, .int .i64 (prA b p).2.2.1, .int .i64 (prA b p).2.2.2]) ∧ ∃ m, w' = w.drewN m := by
  unfold prA
  by_cases h : 0 ≤ p
  · by_cases k : p ≤ b.size
    · rw [if_pos ⟨h, k⟩]
      obtain ⟨a, rfl⟩ : ∃ a : Nat, p = a := ⟨p.toNat, by omega⟩
      exact rparse_ok b a _ w hb (by omega) rfl
    · rw [if_neg (by omega)]
      go_enter Tryd.func12, Tryd.ntmps12
      go_wp2
      refine bodyPost_ret (results_tmp4 rfl _ _ _) rfl ?_
      exact ⟨rfl, ⟨0, rfl⟩⟩
  · rw [if_neg (by omega)]
    go_enter Tryd.func12, Tryd.ntmps12
    go_wp2
    refine bodyPost_ret (results_tmp4 rfl _ _ _) rfl ?_
    exact ⟨rfl, ⟨0, rfl⟩⟩
end Go.Proofs.YtejpakejfikkmaaDoor
