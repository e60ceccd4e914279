/-
  DERIVED. BitsFlips: its walk.
-/
import Derived.Test.YtajnhpmokhmmeaaDoorBit
namespace Go.Proofs.YtajnhpmokhmmeaaDoor
open Go.ChangeShapes Go.WideShapes Go.ChangeAt Go.WideMaps Go.WideElems Go.RowKit Go.Proofs.BitMath
open Go.ChangeMaps (open_string shut_string)
set_option maxHeartbeats 400000 in
theorem flips_empty (s : ByteArray) (v : Value) (w : World) (h : s.size = 0) :
    Calls Tryd.prog 4 #[.string s, v] w fun e w' => e = .returned (.bool true) ∧ Below w.heap.size w w' := by
  have hz : ((8 * (s.size : Int)) == 0) = true := by rw [beq_iff_eq]; omega
  have hle : s.size ≤ 0 := by omega
  have Hh : Hid (s.size = 0) := h
  clear h
  go_enter Tryd.func4, Tryd.ntmps4
  go_wp2_with fail
  refine (flip_no s 0 _ (by omega) (Or.inr (by rw [Hh.out]; exact Int.le_refl _))).mono ?_
  rintro e w1 ⟨rfl, hb⟩
  go_wp2
  go_ret
  exact ⟨rfl, hb⟩
theorem mod_idx (x : Int) (n : Nat) (hn : 0 < n) : -(8 * (n : Int)) < x.tmod (8 * n) ∧ x.tmod (8 * n) < 8 * n := by
  have h1 := Int.tmod_lt_of_pos x (show (0 : Int) < 8 * n by omega)
  have h2 := Int.lt_tmod_of_pos x (show (0 : Int) < 8 * n by omega)
  exact ⟨h2, h1⟩
theorem idx_of (x : Int) (n : Nat) (hm : -(8 * (n : Int)) < x.tmod (8 * n) ∧ x.tmod (8 * n) < 8 * n) : ∃ j : Nat, j < 8 * n ∧ ((x.tmod (8 * n) < 0 ∧ x.tmod (8 * n) + 8 * n = (j : Int)) ∨ (¬ x.tmod (8 * n) < 0 ∧ x.tmod (8 * n) = (j : Int))) := by
  by_cases h : x.tmod (8 * n) < 0
  · exact ⟨(x.tmod (8 * n) + 8 * n).toNat, by omega, .inl ⟨h, by omega⟩⟩
  · exact ⟨(x.tmod (8 * n)).toNat, by omega, .inr ⟨h, by omega⟩⟩
set_option maxHeartbeats 1000000 in
set_option maxRecDepth 100000 in
theorem flips_none (s : ByteArray) (ao : Option Addr) (cap : Nat) (w : World) (hs : s.size ≤ 140737488351232) (h : 0 < s.size) (ht : Tab w) :
    Calls Tryd.prog 4 #[.string s, .slice ao 0 cap] w fun e w' => e = .returned (.bool true) ∧ Below w.heap.size w w' := by
  have hz : ((8 * (s.size : Int)) == 0) = false := by rw [beq_eq_false_iff_ne]; omega
  have hx := xorL_self s.data.toList
  go_enter Tryd.func4, Tryd.ntmps4
  go_wp2_with fail
  go_loopw [5, 6, 10] (fun t f i wr => t = .string s ∧ f = .int .i64 0 ∧ i = .int .i64 0 ∧ wr = w) (fun _ _ _ _ => 0)
  case atStart => exact ⟨rfl, rfl, rfl, rfl⟩
  case round =>
    obtain ⟨rfl, rfl, rfl, rfl⟩ := hrel
    go_wp2_with fail
    refine (distance_yes s s _ hs rfl ht).mono ?_
    rintro e w1 ⟨rfl, hd⟩
    go_wp2
    go_ret
    exact ⟨rfl, hd.below _⟩
theorem flip_ex (s : ByteArray) (i : Nat) (w : World) (hs : s.size ≤ 140737488351232) (hi : i < 8 * s.size) :
    Calls Tryd.prog 10 #[.string s, .int .i64 i] w fun e w' => (∃ U : ByteArray, U.size = s.size ∧ U.data.toList = flipL s.data.toList i ∧ e = .returned (.tuple #[.string U, .int .i64 0])) ∧ Below w.heap.size w w' :=
  (flip_yes s i w hs hi).mono fun _ _ ⟨he, hb⟩ => ⟨⟨_, by show (flipL s.data.toList i).toArray.size = _; simp [flipL_length], by simp, he⟩, hb⟩
set_option maxHeartbeats 2000000 in
set_option maxRecDepth 100000 in
theorem flips_some (s : ByteArray) (b off len cap : Nat) (zs : List Int) (w : World) (hs : s.size ≤ 140737488351232) (h : 0 < s.size) (ht : Tab w) (h0 : 0 < w.heap.size)
    (hbw : b < w.heap.size) (hc : ∀ k, k < len → w.cell? ⟨b, off + k, none⟩ = some (.int .i64 (zs.getD k 0))) :
    Calls Tryd.prog 4 #[.string s, .slice (some ⟨b, off, none⟩) len cap] w fun e w' => e = .returned (.bool true) ∧ Below w.heap.size w w' := by
  have hz : ((8 * (s.size : Int)) == 0) = false := by rw [beq_eq_false_iff_ne]; omega
  have hx0 := xorL_self s.data.toList
  go_enter Tryd.func4, Tryd.ntmps4
  go_wp2_with fail
  go_loopw [5, 6, 10] (fun t f i wr => ∃ (k : Nat) (T : ByteArray), k ≤ len ∧ k ≤ 300 ∧ i = .int .i64 k ∧ t = .string T ∧ T.size = s.size ∧ f = .int .i64 (wt (xorL s.data.toList T.data.toList)) ∧ Below w.heap.size w wr) (fun _ _ i _ => 300 - (intOf i).toNat)
  case atStart => exact ⟨0, s, Nat.zero_le _, Nat.zero_le _, rfl, rfl, rfl, by rw [hx0]; rfl, Below.refl _ _⟩
  case round =>
    clear hx0
    obtain ⟨k, T, hk, hk3, rfl, rfl, hT, rfl, hb⟩ := hrel
    have HT : Hid (T.size = s.size) := hT
    have sT : T.size ≤ 140737488351232 := by omega
    have HL : Hid (s.data.toList.length = T.data.toList.length) := by show s.size = T.size; exact hT.symm
    have hd := wt_le (xorL s.data.toList T.data.toList)
    rw [xorL_length _ _ HL.out] at hd
    change _ ≤ 8 * s.size at hd
    have tr := ht.below hb h0
    clear hT
    by_cases hlt : k < len ∧ k < 300
    · obtain ⟨hl1, hl2⟩ := hlt
      have hcx : wr.cell? ⟨b, off + k, none⟩ = some (.int .i64 (zs.getD k 0)) := (hb.cell (p := ⟨b, off + k, none⟩) hbw).trans (hc k hl1)
      have hm := mod_idx (zs.getD k 0) s.size h
      generalize zs.getD k 0 = x at *
      obtain ⟨j, hj8, hj⟩ := idx_of x s.size hm
      have hjT : j < 8 * T.size := by rw [HT.out]; exact hj8
      have wf := wt_flip T.data.toList j (by simpa using hjT)
      have df := dist_flip s.data.toList T.data.toList j HL.out (by simpa using hj8)
      have ff := flip_flip T.data.toList j (by simpa using hjT)
      have p1 := bitL_le s.data.toList j
      have p2 := bitL_le T.data.toList j
      have wT := wt_le T.data.toList
      change _ ≤ 8 * T.size at wT
      have WF : Hid _ := wf
      have DF : Hid _ := df
      have FF : Hid _ := ff
      clear wf df ff hm
      rcases hj with ⟨hneg, hj⟩ | ⟨hneg, hj⟩
      all_goals
        go_wp2_with fail
        refine (bit_yes s j _ hs hj8).mono ?_
        rintro e w1 ⟨rfl, d1⟩
        have b1 := hb.trans (d1.below _)
        clear d1 hj hneg hcx
        go_wp2_with fail
        refine (bit_yes T j _ sT hjT).mono ?_
        rintro e w2 ⟨rfl, d2⟩
        have b2 := b1.trans (d2.below _)
        clear d2 b1
        go_wp2_with fail
        refine (flip_ex T j _ sT hjT).mono ?_
        rintro e w3 ⟨⟨U, hu0, hu1, rfl⟩, q3⟩
        have HU0 : Hid (U.size = T.size) := hu0
        have HU1 : Hid (U.data.toList = flipL T.data.toList j) := hu1
        clear hu0 hu1
        have b3 := chain b2 q3 (Nat.le_refl _)
        clear b2 q3
        go_wp2_with fail
        refine (flip_yes U j _ (by rw [HU0.out]; exact sT) (by rw [HU0.out]; exact hjT)).mono ?_
        rintro e w4 ⟨rfl, q4⟩
        have b4 := chain b3 q4 (Nat.le_refl _)
        clear b3 q4
        have FU : Hid (flipL U.data.toList j = T.data.toList) := by show _ = _; rw [HU1.out]; exact FF.out
        have t4 := ht.below b4 h0
        go_wp2_with fail
        refine (distance_yes s U _ hs (by rw [HU0.out]; exact HT.out.symm) t4).mono ?_
        rintro e w5 ⟨rfl, d5⟩
        have b5 := b4.trans (d5.below _)
        have t5 := t4.later d5
        clear b4 t4 d5
        rw [← HU1.out] at WF DF
        have wU := wt_le U.data.toList
        change _ ≤ 8 * U.size at wU
        rw [HU0.out] at wU
        have fu := FU.out
        by_cases hbb : bitL s.data.toList j = bitL T.data.toList j
        · have hbq : ((bitL s.data.toList j : Int) == (bitL T.data.toList j : Int)) = true := by rw [beq_iff_eq, hbb]
          have g1 : wt U.data.toList + 2 * bitL T.data.toList j = wt T.data.toList + 1 := WF.out
          have g2 : wt (xorL s.data.toList U.data.toList) = wt (xorL s.data.toList T.data.toList) + 1 := by have := DF.out; omega
          have e1 : ((wt (xorL s.data.toList U.data.toList) : Int) != (wt (xorL s.data.toList T.data.toList) : Int) + 1) = false := by rw [bne_eq_false_iff_eq]; omega
          have e2 : ((wt U.data.toList : Int) != (wt T.data.toList : Int) + 1 - 2 * (bitL T.data.toList j : Int)) = false := by rw [bne_eq_false_iff_eq]; omega
          have G2 : Hid _ := g2
          clear hbb g1 g2
          go_wp2_with fail
          refine (weight_any U _ (by rw [HU0.out]; exact sT) t5).mono ?_
          rintro e w6 ⟨rfl, d6⟩
          have b6 := b5.trans (d6.below _)
          have t6 := t5.later d6
          go_wp2_with fail
          refine (weight_any T _ sT t6).mono ?_
          rintro e w7 ⟨rfl, d7⟩
          have b7 := b6.trans (d7.below _)
          go_wp2
          exact ⟨⟨k + 1, U, hl1, hl2, by go_num, rfl, HU0.out.trans HT.out, ival (by rw [G2.out]; omega), b7⟩, by simp [intOf]; omega⟩
        · have hbq : ((bitL s.data.toList j : Int) == (bitL T.data.toList j : Int)) = false := by rw [beq_eq_false_iff_ne]; omega
          have g1 : wt U.data.toList + 2 * bitL T.data.toList j = wt T.data.toList + 1 := WF.out
          have g2 : wt (xorL s.data.toList U.data.toList) + 1 = wt (xorL s.data.toList T.data.toList) := by have := DF.out; omega
          have e1 : ((wt (xorL s.data.toList U.data.toList) : Int) != (wt (xorL s.data.toList T.data.toList) : Int) - 1) = false := by rw [bne_eq_false_iff_eq]; omega
          have e2 : ((wt U.data.toList : Int) != (wt T.data.toList : Int) + 1 - 2 * (bitL T.data.toList j : Int)) = false := by rw [bne_eq_false_iff_eq]; omega
          have G2 : Hid _ := g2
          clear hbb g1 g2
          go_wp2_with fail
          refine (weight_any U _ (by rw [HU0.out]; exact sT) t5).mono ?_
          rintro e w6 ⟨rfl, d6⟩
          have b6 := b5.trans (d6.below _)
          have t6 := t5.later d6
          go_wp2_with fail
          refine (weight_any T _ sT t6).mono ?_
          rintro e w7 ⟨rfl, d7⟩
          have b7 := b6.trans (d7.below _)
          go_wp2
          exact ⟨⟨k + 1, U, hl1, hl2, by go_num, rfl, HU0.out.trans HT.out, ival (by have := G2.out; omega), b7⟩, by simp [intOf]; omega⟩
    · by_cases hl1 : k < len
      all_goals
        go_wp2_with fail
        refine (distance_yes s T _ hs HT.out.symm tr).mono ?_
        rintro e w1 ⟨rfl, hd⟩
        go_wp2
        go_ret
        exact ⟨rfl, hb.trans (hd.below _)⟩
end Go.Proofs.YtajnhpmokhmmeaaDoor
