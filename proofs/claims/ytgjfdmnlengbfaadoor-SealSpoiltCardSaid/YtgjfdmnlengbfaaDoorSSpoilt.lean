/-
  DERIVED. SealSpoilt's walk.
-/
import Derived.Test.YtgjfdmnlengbfaaDoorSTurn
import Derived.Test.YtgjfdmnlengbfaaDoorSFive
namespace Go.Proofs.YtgjfdmnlengbfaaDoor
open Go.RowKit Go.Proofs.SealMath
set_option maxRecDepth 100000 in
set_option maxHeartbeats 8000000 in
theorem law_spoilt (kd : Int) (q : ByteArray) (i : Int) (m : Nat) (b : ByteArray) (w : World) (ht : Tab w) (hg : 0 < w.heap.size) (hi : i ≤ 9223372036854775807) (hm : m < 4294967296) (hb : b.size < 1152921504606846976) :
    Calls Tryd.prog 6 #[.int .i64 kd, .string q, .int .i64 i, .int .u32 m, .string b] w fun e w' => e = .returned (.bool true) ∧ Below w.heap.size w w' := by
  go_enter Tryd.func6, Tryd.ntmps6
  go_wp2_with fail
  refine (lbegun_any w ht hg).mono ?_
  rintro e w1 ⟨rfl, b1⟩
  by_cases hE : frE kd q = 0
  · obtain ⟨u, rfl, hu1, hu2, hu3, hTu⟩ := frT_ok kd q hE
    have hc1 := frame_any (u : Int) q w1 (ht.below b1 hg) (Nat.lt_of_lt_of_le hg b1.size)
    rw [hE, hTu] at hc1
    obtain ⟨F, hF⟩ : ∃ F : ByteArray, F = ⟨(frL u q.data.toList).toArray⟩ := ⟨_, rfl⟩
    rw [← hF] at hc1
    have hFl : F.data.toList = frL u q.data.toList := by rw [hF]
    have hFs : F.size = q.size + 14 := by rw [ba_size, hFl, frL_len, ← ba_size]
    have hqs : q.size ≤ 65536 := by rw [ba_size]; exact hu3
    have HFl : Hid (F.data.toList = frL u q.data.toList) := hFl
    clear hF hTu hFl hE
    go_wp2_with fail
    refine hc1.mono ?_
    rintro e w2 ⟨rfl, b2⟩
    have b12 := chain b1 b2 (Nat.le_refl _)
    clear hc1
    go_wp2_with fail
    refine (turned_any q i m w2 (by omega) hm hi).mono ?_
    rintro e w3 ⟨⟨X, okX, rfl, hX⟩, b3⟩
    have b13 := chain b12 b3 (Nat.le_refl _)
    have key : ∀ (W : World), Below w.heap.size w W → Calls Tryd.prog 14 #[.string F, .int .i64 i, .int .u32 m] W fun e w' => Turned F m e ∧ Below W.heap.size W w' := fun W _ => turned_any F i m W (by omega) hm hi
    cases okX with
    | true =>
      obtain ⟨hm0, j, hXl, hXN⟩ := hX rfl
      have hne := crc_apart q.data.toList X j m hm hm0 (by rw [hXl, ba_size]) hXN
      have hXs : (⟨X.toArray⟩ : ByteArray).size = q.size := by rw [ba_size]; exact hXl
      obtain ⟨Y, hY⟩ : ∃ Y : ByteArray, Y = ⟨X.toArray⟩ := ⟨_, rfl⟩
      have hYl : Y.data.toList = X := by rw [hY]
      rw [← hY] at hXs ⊢
      rw [← hYl] at hne
      clear hY hYl hX hXN hXl
      have hcx := sum_any Y w3 (ht.below b13 hg) (by omega)
      have hcq := sum_any q w3 (ht.below b13 hg) (by omega)
      have hneI : (((crc 0 Y.data.toList : Nat) : Int) == ((crc 0 q.data.toList : Nat) : Int)) = false := by simp; omega
      obtain ⟨s1, hs1⟩ : ∃ s, s = crc 0 Y.data.toList := ⟨_, rfl⟩
      obtain ⟨s2, hs2⟩ : ∃ s, s = crc 0 q.data.toList := ⟨_, rfl⟩
      rw [← hs1, ← hs2] at hneI
      rw [← hs1] at hcx
      rw [← hs2] at hcq
      clear hs1 hs2 hne
      go_wp2_with fail
      refine hcx.mono ?_
      rintro e w4 ⟨rfl, rfl⟩
      go_wp2_with fail
      refine hcq.mono ?_
      rintro e w4 ⟨rfl, rfl⟩
      clear hcx hcq
      go_wp2_with fail
      refine (key _ b13).mono ?_
      rintro e w5 ⟨⟨T, okT, rfl, hT⟩, b5⟩
      have b15 := chain (b13) b5 (Nat.le_refl _)
      clear key
      cases okT with
      | true =>
        obtain ⟨hm0, j, hTl, hTN⟩ := hT rfl
        clear hT
        obtain ⟨Z, hZ⟩ : ∃ Z : ByteArray, Z = ⟨T.toArray⟩ := ⟨_, rfl⟩
        have hZl : Z.data.toList = T := by rw [hZ]
        rw [← hZ]
        have hZs : Z.size = F.size := by rw [ba_size, hZl, hTl]
        have hsp := spoilt u q.data.toList T b.data.toList j m (Z ++ b) hu3 hm hm0 (by rw [hTl, frL_len, hFs, ← ba_size]) (by rw [hTN, HFl.out]) (by rw [ByteArray.data_append, Array.toList_append, hZl])
        have hP2 := prA_frame (F ++ b) 0 u q.data.toList [] b.data.toList hu1 hu2 hu3 (by rw [ByteArray.data_append, Array.toList_append, HFl.out, List.nil_append]) rfl
        have e0 : prA (Z ++ b) 0 = psA (Z ++ b) 0 := by unfold prA; rw [if_pos (by omega)]; rfl
        have hc4 := parse_any (Z ++ b) 0 w5 (ht.below b15 hg) (Nat.lt_of_lt_of_le hg b15.size) (by rw [ByteArray.size_append]; omega)
        rw [e0] at hc4
        generalize psA (Z ++ b) 0 = R at *
        obtain ⟨rk, rp, rn, rx⟩ := R
        dsimp only at hsp hc4
        clear e0 hZ hZl hTl hTN
        go_wp2_with fail
        refine hc4.mono ?_
        rintro e w6 ⟨rfl, b6⟩
        have b16 := chain b15 b6 (Nat.le_refl _)
        have hc5 := parse_any (F ++ b) 0 w6 (ht.below b16 hg) (Nat.lt_of_lt_of_le hg b16.size) (by rw [ByteArray.size_append]; omega)
        rw [show ((0 : Nat) : Int) = 0 from rfl] at hP2
        rw [hP2] at hc5
        dsimp only at hc5
        have hz : ((0 + (q.data.toList.length + 14) : Nat) : Int) = (F.size : Int) := by rw [← ba_size]; omega
        rw [hz] at hc5
        have hrx : (rx != 0) = true := by simpa using hsp
        clear hP2 hc4 hz hsp
        go_wp2_with fail
        refine hc5.mono ?_
        rintro e w7 ⟨rfl, b7⟩
        clear hc5
        go_wp2
        go_ret
        exact ⟨rfl, chain b16 b7 (Nat.le_refl _)⟩
      | false =>
        clear hT
        go_wp2
        go_ret
        exact ⟨rfl, b15⟩
    | false =>
      clear hX
      go_wp2_with fail
      refine (key _ b13).mono ?_
      rintro e w5 ⟨⟨T, okT, rfl, hT⟩, b5⟩
      have b15 := chain (b13) b5 (Nat.le_refl _)
      clear key
      cases okT with
      | true =>
        obtain ⟨hm0, j, hTl, hTN⟩ := hT rfl
        clear hT
        obtain ⟨Z, hZ⟩ : ∃ Z : ByteArray, Z = ⟨T.toArray⟩ := ⟨_, rfl⟩
        have hZl : Z.data.toList = T := by rw [hZ]
        rw [← hZ]
        have hZs : Z.size = F.size := by rw [ba_size, hZl, hTl]
        have hsp := spoilt u q.data.toList T b.data.toList j m (Z ++ b) hu3 hm hm0 (by rw [hTl, frL_len, hFs, ← ba_size]) (by rw [hTN, HFl.out]) (by rw [ByteArray.data_append, Array.toList_append, hZl])
        have hP2 := prA_frame (F ++ b) 0 u q.data.toList [] b.data.toList hu1 hu2 hu3 (by rw [ByteArray.data_append, Array.toList_append, HFl.out, List.nil_append]) rfl
        have e0 : prA (Z ++ b) 0 = psA (Z ++ b) 0 := by unfold prA; rw [if_pos (by omega)]; rfl
        have hc4 := parse_any (Z ++ b) 0 w5 (ht.below b15 hg) (Nat.lt_of_lt_of_le hg b15.size) (by rw [ByteArray.size_append]; omega)
        rw [e0] at hc4
        generalize psA (Z ++ b) 0 = R at *
        obtain ⟨rk, rp, rn, rx⟩ := R
        dsimp only at hsp hc4
        clear e0 hZ hZl hTl hTN
        go_wp2_with fail
        refine hc4.mono ?_
        rintro e w6 ⟨rfl, b6⟩
        have b16 := chain b15 b6 (Nat.le_refl _)
        have hc5 := parse_any (F ++ b) 0 w6 (ht.below b16 hg) (Nat.lt_of_lt_of_le hg b16.size) (by rw [ByteArray.size_append]; omega)
        rw [show ((0 : Nat) : Int) = 0 from rfl] at hP2
        rw [hP2] at hc5
        dsimp only at hc5
        have hz : ((0 + (q.data.toList.length + 14) : Nat) : Int) = (F.size : Int) := by rw [← ba_size]; omega
        rw [hz] at hc5
        have hrx : (rx != 0) = true := by simpa using hsp
        clear hP2 hc4 hz hsp
        go_wp2_with fail
        refine hc5.mono ?_
        rintro e w7 ⟨rfl, b7⟩
        clear hc5
        go_wp2
        go_ret
        exact ⟨rfl, chain b16 b7 (Nat.le_refl _)⟩
      | false =>
        clear hT
        go_wp2
        go_ret
        exact ⟨rfl, b15⟩
  · have hc1 := frame_any kd q w1 (ht.below b1 hg) (Nat.lt_of_lt_of_le hg b1.size)
    rw [frT_no kd q hE] at hc1
    generalize frE kd q = x at *
    go_wp2_with fail
    refine hc1.mono ?_
    rintro e w4 ⟨rfl, b4⟩
    clear hc1
    go_wp2
    go_ret
    exact ⟨rfl, chain b1 b4 (Nat.le_refl _)⟩
end Go.Proofs.YtgjfdmnlengbfaaDoor
