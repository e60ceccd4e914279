/-
  DERIVED. SealOnly's walk.
-/
import Derived.Test.YtgjfdmnlengbfaaDoorSPm
namespace Go.Proofs.YtgjfdmnlengbfaaDoor
open Go.RowKit Go.Proofs.SealMath
set_option maxRecDepth 100000 in
set_option maxHeartbeats 8000000 in
theorem law_only (b : ByteArray) (p kd : Int) (q : ByteArray) (w : World) (ht : Tab w) (hg : 0 < w.heap.size) (hb : b.size < 1152921504606846976) :
    Calls Tryd.prog 5 #[.string b, .int .i64 p, .int .i64 kd, .string q] w fun e w' => e = .returned (.bool true) ∧ Below w.heap.size w w' := by
  go_enter Tryd.func5, Tryd.ntmps5
  go_wp2_with fail
  refine (lbegun_any w ht hg).mono ?_
  rintro e w1 ⟨rfl, b1⟩
  have hc1 := parse_any b p w1 (ht.below b1 hg) (Nat.lt_of_lt_of_le hg b1.size) (by omega)
  by_cases h0 : (prA b p).2.2.2 = 0
  · have hpp : 0 ≤ p ∧ p ≤ b.size := by
      by_cases h : 0 ≤ p ∧ p ≤ b.size
      · exact h
      · unfold prA at h0; rw [if_neg h] at h0; simp at h0
    obtain ⟨a, rfl⟩ : ∃ a : Nat, p = a := ⟨p.toNat, by omega⟩
    have e0 : prA b a = psA b a := by unfold prA; rw [if_pos hpp, Int.toNat_natCast]
    rw [e0] at h0 hc1
    obtain ⟨k, pl, hk1, hk2, hpl, hsz, hps, hsub⟩ := psA_yes b a h0
    rw [hps] at hc1
    clear e0 h0 hps
    obtain ⟨P, hP⟩ : ∃ P : ByteArray, P = ⟨pl.toArray⟩ := ⟨_, rfl⟩
    have hPl : P.data.toList = pl := by rw [hP]
    obtain ⟨hE1, hT1⟩ := frT_yes k P hk1 hk2 (by rw [hPl]; exact hpl)
    rw [hPl] at hT1
    dsimp only at hc1
    rw [← hP] at hc1
    obtain ⟨z, hzz⟩ : ∃ z, z = a + (pl.length + 14) := ⟨_, rfl⟩
    rw [← hzz] at hc1 hsz
    obtain ⟨S, hS⟩ : ∃ S : ByteArray, S = ⟨(frL k pl).toArray⟩ := ⟨_, rfl⟩
    have hSl : S.data.toList = frL k pl := by rw [hS]
    have hSs : S.size = pl.length + 14 := by rw [ba_size, hSl, frL_len]
    have hbs : (b.extract a z).toList = S.toList := by
      rw [toL, toL, hSl, ← hsub]
      unfold sub; rw [ByteArray.data_extract, Array.toList_extract, List.extract_eq_take_drop]; congr 1; omega
    have hza : a ≤ z := by omega
    have hzs : (z : Int) - (a : Int) = (S.size : Int) := by omega
    go_wp2_with fail
    refine hc1.mono ?_
    rintro e w2 ⟨rfl, b2⟩
    have b12 := chain b1 b2 (Nat.le_refl _)
    have hc2 := frame_any (k : Int) P w2 (ht.below b12 hg) (Nat.lt_of_lt_of_le hg b12.size)
    rw [hE1, hT1, ← hS] at hc2
    clear hc1 hE1 hT1 hS hSl hP hPl hsub
    clear hzz hSs
    go_wp2_with fail
    refine hc2.mono ?_
    rintro e w3 ⟨rfl, b3⟩
    have b13 := chain b12 b3 (Nat.le_refl _)
    clear hc2 hpp
    by_cases hE : frE kd q = 0
    · obtain ⟨u, rfl, hu1, hu2, hu3, hTu⟩ := frT_ok kd q hE
      have hP2 := prA_frame (b ++ ⟨(frL u q.data.toList).toArray⟩ ++ b) b.size u q.data.toList b.data.toList b.data.toList hu1 hu2 hu3 (by rw [ByteArray.data_append, ByteArray.data_append, Array.toList_append, Array.toList_append]) (ba_size b).symm
      have hc3 := frame_any (u : Int) q w3 (ht.below b13 hg) (Nat.lt_of_lt_of_le hg (b13).size)
      rw [hE, hTu] at hc3
      obtain ⟨F, hF⟩ : ∃ F : ByteArray, F = ⟨(frL u q.data.toList).toArray⟩ := ⟨_, rfl⟩
      rw [← hF] at hP2 hc3
      have hFs : F.size = q.size + 14 := by rw [ba_size, hF]; show (frL u q.data.toList).length = _; rw [frL_len, ← ba_size]
      have hqs : q.size ≤ 65536 := by rw [ba_size]; exact hu3
      clear hF hTu hu3
      go_wp2_with fail
      refine hc3.mono ?_
      rintro e w4 ⟨rfl, b4⟩
      have b14 := chain (b13) b4 (Nat.le_refl _)
      have hc4 := parse_any (b ++ F ++ b) b.size w4 (ht.below b14 hg) (Nat.lt_of_lt_of_le hg b14.size) (by rw [ByteArray.size_append, ByteArray.size_append]; omega)
      rw [hP2] at hc4
      clear hP2 hc3
      have hz : ((b.size + (q.data.toList.length + 14) : Nat) : Int) = (b.size : Int) + (F.size : Int) := by rw [← ba_size]; omega
      go_wp2_with fail
      refine hc4.mono ?_
      rintro e w5 ⟨rfl, b5⟩
      clear hc4
      have hqq : (⟨q.data.toList.toArray⟩ : ByteArray) = q := rfl
      dsimp only
      rw [hz, hqq]
      clear hz hqq hE
      go_wp2
      go_ret
      exact ⟨rfl, chain b14 b5 (Nat.le_refl _)⟩
    · have hc3 := frame_any kd q w3 (ht.below b13 hg) (Nat.lt_of_lt_of_le hg (b13).size)
      rw [frT_no kd q hE] at hc3
      generalize frE kd q = x at *
      go_wp2_with fail
      refine hc3.mono ?_
      rintro e w4 ⟨rfl, b4⟩
      clear hc3
      go_wp2
      go_ret
      exact ⟨rfl, chain (b13) b4 (Nat.le_refl _)⟩
  · generalize prA b p = R at *
    obtain ⟨k, pl, n, x⟩ := R
    dsimp only at h0 hc1
    go_wp2_with fail
    refine hc1.mono ?_
    rintro e w2 ⟨rfl, b2⟩
    have b12 := chain b1 b2 (Nat.le_refl _)
    clear hc1
    by_cases hE : frE kd q = 0
    · obtain ⟨u, rfl, hu1, hu2, hu3, hTu⟩ := frT_ok kd q hE
      have hP2 := prA_frame (b ++ ⟨(frL u q.data.toList).toArray⟩ ++ b) b.size u q.data.toList b.data.toList b.data.toList hu1 hu2 hu3 (by rw [ByteArray.data_append, ByteArray.data_append, Array.toList_append, Array.toList_append]) (ba_size b).symm
      have hc3 := frame_any (u : Int) q w2 (ht.below b12 hg) (Nat.lt_of_lt_of_le hg (b12).size)
      rw [hE, hTu] at hc3
      obtain ⟨F, hF⟩ : ∃ F : ByteArray, F = ⟨(frL u q.data.toList).toArray⟩ := ⟨_, rfl⟩
      rw [← hF] at hP2 hc3
      have hFs : F.size = q.size + 14 := by rw [ba_size, hF]; show (frL u q.data.toList).length = _; rw [frL_len, ← ba_size]
      have hqs : q.size ≤ 65536 := by rw [ba_size]; exact hu3
      clear hF hTu hu3
      go_wp2_with fail
      refine hc3.mono ?_
      rintro e w4 ⟨rfl, b4⟩
      have b14 := chain (b12) b4 (Nat.le_refl _)
      have hc4 := parse_any (b ++ F ++ b) b.size w4 (ht.below b14 hg) (Nat.lt_of_lt_of_le hg b14.size) (by rw [ByteArray.size_append, ByteArray.size_append]; omega)
      rw [hP2] at hc4
      clear hP2 hc3
      have hz : ((b.size + (q.data.toList.length + 14) : Nat) : Int) = (b.size : Int) + (F.size : Int) := by rw [← ba_size]; omega
      go_wp2_with fail
      refine hc4.mono ?_
      rintro e w5 ⟨rfl, b5⟩
      clear hc4
      have hqq : (⟨q.data.toList.toArray⟩ : ByteArray) = q := rfl
      dsimp only
      rw [hz, hqq]
      clear hz hqq hE
      go_wp2
      go_ret
      exact ⟨rfl, chain b14 b5 (Nat.le_refl _)⟩
    · have hc3 := frame_any kd q w2 (ht.below b12 hg) (Nat.lt_of_lt_of_le hg (b12).size)
      rw [frT_no kd q hE] at hc3
      generalize frE kd q = x at *
      go_wp2_with fail
      refine hc3.mono ?_
      rintro e w4 ⟨rfl, b4⟩
      clear hc3
      go_wp2
      go_ret
      exact ⟨rfl, chain (b12) b4 (Nat.le_refl _)⟩
end Go.Proofs.YtgjfdmnlengbfaaDoor
