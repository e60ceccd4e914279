/-
  DERIVED. Contracts: bits.ones by its table, Distance; fit; the statements' own ones.
-/
import Derived.Test.YtmdmjjobhkpojaaDoorBit
namespace Go.Proofs.YtmdmjjobhkpojaaDoor
open Go.RowKit Go.Proofs.BitMath
def halfPop (i : Nat) : Int := [0, 1, 1, 2, 1, 2, 2, 3, 1, 2, 2, 3, 2, 3, 3, 4].getD i 0
def Tab (w : World) : Prop := ∀ i : Nat, i < 16 → w.cell? ⟨0, i, none⟩ = some (.int .i64 (halfPop i))
theorem and15b (b : Int) (h0 : 0 ≤ b) (h1 : b ≤ 255) : bits .and .u8 b 15 = b % 16 := by
  rw [u8_and b 15 h0 (by omega) (by omega) (by omega)]
  have := Nat.and_two_pow_sub_one_eq_mod b.toNat 4
  simp only [Nat.reducePow, Nat.reduceSub] at this
  rw [show (15 : Int).toNat = 15 from rfl, this]; omega
theorem half_bd (i : Nat) : 0 ≤ halfPop i ∧ halfPop i ≤ 4 := by
  by_cases h : i < 16
  · have : ∀ j : Fin 16, 0 ≤ halfPop j.1 ∧ halfPop j.1 ≤ 4 := by decide
    exact this ⟨i, h⟩
  · unfold halfPop; rw [List.getD_eq_getElem?_getD, List.getElem?_eq_none (by simp; omega)]; decide
theorem pop_half (b : Nat) (h : b ≤ 255) : (popB b : Int) = halfPop (b / 16) + halfPop (b % 16) := by
  have : ∀ j : Fin 256, (popB j.1 : Int) = halfPop (j.1 / 16) + halfPop (j.1 % 16) := by decide +kernel
  exact this ⟨b, by omega⟩
theorem Tab.below {w w' : World} {B : Nat} (h : Tab w) (hb : Below B w w') (hB : 0 < B) : Tab w' := fun i hi => (hb.cell (p := ⟨0, i, none⟩) hB).trans (h i hi)
theorem Tab.later {w w' : World} (h : Tab w) (hb : Drew w w') : Tab w' := h.below (hb.below 1) (by omega)
theorem Tab.drewN {w : World} (h : Tab w) (n : Nat) : Tab (w.drewN n) := h.later ⟨n, rfl⟩
set_option maxHeartbeats 400000 in
theorem ones_any (b : Int) (h0 : 0 ≤ b) (h1 : b ≤ 255) (w : World) (ht : Tab w) :
    Calls Tryd.prog 15 #[.int .u8 b] w fun e w' => e = .returned (.int .i64 (popB b.toNat)) ∧ Drew w w' := by
  have c1 := ht (b / 16).toNat (by omega)
  have c2 := ht (b % 16).toNat (by omega)
  have hb1 : (b / 16) < 16 := by omega
  have hb2 : (b % 16) < 16 := by omega
  have hb3 : 0 ≤ (b / 16) := by omega
  have hb4 : 0 ≤ (b % 16) := by omega
  have ha := and15b b h0 h1
  have hd1 := half_bd (b / 16).toNat
  have hd2 := half_bd (b % 16).toNat
  go_enter Tryd.func15, Tryd.ntmps15
  go_wp2
  go_quiet (fail)
  go_wp2
  go_ret
  refine ⟨ret_int ?_, _, rfl⟩
  rw [pop_half _ (by omega)]
  congr 2 <;> omega
set_option maxHeartbeats 400000 in
theorem distance_yes (a b : ByteArray) (w : World) (hs : a.size ≤ 140737488351232) (h : a.size = b.size) (ht : Tab w) :
    Calls Tryd.prog 9 #[.string a, .string b] w fun e w' => e = .returned (.tuple #[.int .i64 (wt (xorL a.data.toList b.data.toList)), .int .i64 0]) ∧ Drew w w' := by
  have hne : ((a.size : Int) != (b.size : Int)) = false := by rw [bne_eq_false_iff_eq]; omega
  have hle : a.size ≤ b.size := by omega
  have Hl : Hid ((xorL a.data.toList b.data.toList).length = a.size) := xorL_length _ _ (by simpa using h)
  clear h
  go_enter Tryd.func9, Tryd.ntmps9
  go_wp2
  go_loopw [6, 15] (fun n i wr => ∃ k : Nat, k ≤ a.size ∧ i = .int .i64 k ∧ n = .int .i64 (wt ((xorL a.data.toList b.data.toList).take k)) ∧ Drew w wr) (fun _ i _ => a.size - (intOf i).toNat)
  case atStart => exact ⟨0, Nat.zero_le _, rfl, rfl, Drew.refl _⟩
  case round =>
    obtain ⟨k, hk, rfl, rfl, hw⟩ := hrel
    have hd := wt_take_le (xorL a.data.toList b.data.toList) k (by rw [Hl.out]; exact hk)
    by_cases hlt : k < a.size
    · have hltb : k < b.size := by omega
      have HS : Hid (wt ((xorL a.data.toList b.data.toList).take (k + 1)) = wt ((xorL a.data.toList b.data.toList).take k) + popB (a[k].toNat ^^^ b[k].toNat)) := by
        have := wt_take_succ (xorL a.data.toList b.data.toList) k (by rw [Hl.out]; exact hlt)
        rw [xorL_get _ _ _ _ (by simpa using hlt) (by simpa using hltb), UInt8.toNat_xor] at this; exact this
      have hp := popB_le (a[k].toNat ^^^ b[k].toNat)
      have hc := (a[k] ^^^ b[k]).toNat_lt
      rw [UInt8.toNat_xor] at hc
      have hx := u8_xor_nat a[k].toNat b[k].toNat a[k].toNat_lt b[k].toNat_lt
      have hk1 : (k : Int) < (a.size : Int) := by omega
      have hk2 : (k : Int) < (b.size : Int) := by omega
      have hk3 : (0 : Int) ≤ (k : Int) := by omega
      go_wp2
      go_quiet ((go_at_call 15; exact Calls.quiet_of (ones_any _ (by omega) (by omega) _ ((ht.later hw).drewN _))))
      go_wp2
      exact ⟨⟨k + 1, hlt, by go_num, by rw [HS.out]; go_num, hw.more _⟩, by simp [intOf]; omega⟩
    · go_wp2
      go_ret2
      exact ⟨ret2 (by rw [List.take_of_length_le (by rw [Hl.out]; omega)]; rfl) rfl, hw⟩
end Go.Proofs.YtmdmjjobhkpojaaDoor
