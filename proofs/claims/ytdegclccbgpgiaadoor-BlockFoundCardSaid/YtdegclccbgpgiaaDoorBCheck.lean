/-
  DERIVED. Heads and entries are checked; entries are compared: the program's.
-/
import Derived.Test.YtdegclccbgpgiaaDoorBBytes
import Derived.Test.YtdegclccbgpgiaaDoorBStay
import Derived.Test.YtdegclccbgpgiaaDoorShelf
set_option linter.unusedVariables false
set_option linter.unusedSimpArgs false
namespace Go.Proofs.YtdegclccbgpgiaaDoor
open Go.RowKit Go.Proofs.SealMath
theorem hdE10 {h : Hd} (hw : isW h.w = false) : hdE h = 10 := by unfold hdE; rw [hw]; rfl
set_option maxHeartbeats 1000000 in
set_option maxRecDepth 100000 in
theorem checkHead_any (h : Hd) (w : World) :
    Calls Tryd.prog 22 #[.agg (hdC h).toArray] w fun r w' => r = .returned (.int .i64 (hdE h)) ∧ Below w.heap.size w w' := by
  obtain ⟨wd, t, b, lo, hi, n⟩ := h
  have bA : Below w.heap.size w (w.alloc (.cells #[.int .i64 wd, .int .i64 t, .int .i64 b, .int .i64 lo, .int .i64 hi, .int .i64 n] 23)) := (Below.refl _ w).alloc (Nat.le_refl _) _
  have hc : ∀ W, Calls Tryd.prog 37 #[.int .i64 wd, .string ⟨#[]⟩] W fun e w' => e = .returned (.int .i64 (chk wd 0)) ∧ w' = W := fun W => bcheck_any wd ⟨#[]⟩ W
  unfold hdE
  simp only [hdC]
  cases hW : isW wd
  · have h10 : chk wd 0 = 10 := chk10 hW
    rw [h10] at hc
    clear hW h10
    go_enter Tryd.func22, Tryd.ntmps22
    go_wp2_with (go_at_call 37; refine (hc _).mono ?_; rintro e w' ⟨rfl, rfl⟩)
    go_ret
    exact ⟨rfl, bA⟩
  · have h10 : chk wd 0 = 10 ↔ False := by rw [chk_w, hW]; simp
    have h11 : (chk wd 0 == 10) = false := by simp [h10]
    obtain ⟨q, hq⟩ : ∃ q, q = chk wd 0 := ⟨_, rfl⟩
    rw [← hq] at hc h11
    clear hW h10 hq
    rw [if_pos rfl]
    go_enter Tryd.func22, Tryd.ntmps22
    go_wp2_with (go_at_call 37; refine (hc _).mono ?_; rintro e w' ⟨rfl, rfl⟩)
    all_goals go_ret
    all_goals refine ⟨ret_int ?_, bA⟩
    all_goals first | rfl | (rw [if_pos (by omega)]) | (rw [if_neg (by omega)])
theorem shl_pow (b : Nat) (hb : b ≤ 32) : IntKind.i64.wrap (1 * 2 ^ b) = 2 ^ b ∧ (2 : Int) ^ b ≤ 4294967296 ∧ (0 : Int) < 2 ^ b := by
  have h1 : (2 : Nat) ^ b ≤ 2 ^ 32 := Nat.pow_le_pow_right (by omega) hb
  have h2 : (((2 : Nat) ^ b : Nat) : Int) = (2 : Int) ^ b := by rw [Int.natCast_pow]; rfl
  have h3 : 0 < (2 : Nat) ^ b := Nat.two_pow_pos b
  have h4 : (2 : Int) ^ b ≤ 4294967296 := by rw [← h2]; omega
  have h5 : (0 : Int) < 2 ^ b := by rw [← h2]; omega
  refine ⟨?_, h4, h5⟩
  rw [Int.one_mul, IntKind.wrap_i64]
  omega
set_option maxHeartbeats 1000000 in
set_option maxRecDepth 100000 in
theorem checkEntry_any (h : Hd) (e : En) (w : World) (hw : isW h.w = true) (hb : 1 ≤ h.b ∧ h.b ≤ 32) :
    Calls Tryd.prog 23 #[.agg (hdC h).toArray, .agg (enC e).toArray] w fun r w' => r = .returned (.int .i64 (enE h e)) ∧ Below w.heap.size w w' := by
  obtain ⟨wd, t, b, lo, hi, n⟩ := h
  obtain ⟨v, c, i, s, d⟩ := e
  dsimp only at hw hb
  have bA : Below w.heap.size w ((w.alloc (.cells #[.int .i64 wd, .int .i64 t, .int .i64 b, .int .i64 lo, .int .i64 hi, .int .i64 n] 23)).alloc (.cells #[.int .i64 v, .string c, .int .i64 i, .int .i64 s, .bool d] 40)) := ((Below.refl _ w).alloc (Nat.le_refl _) _).alloc (by simp) _
  have hc : ∀ W, Calls Tryd.prog 37 #[.int .i64 wd, .string c] W fun e w' => e = .returned (.int .i64 (chk wd c.size)) ∧ w' = W := fun W => bcheck_any wd c W
  obtain ⟨B, rfl⟩ : ∃ B : Nat, b = B := ⟨b.toNat, by omega⟩
  obtain ⟨p1, p2, p3⟩ := shl_pow B (by omega)
  unfold enE
  simp only [hdC, enC, Int.toNat_natCast]
  by_cases hs : (c.size : Int) = wd / 8
  · have h0 : chk wd c.size = 0 := chk_ok.2 ⟨hw, hs⟩
    rw [if_pos hs]
    rw [h0] at hc
    clear h0 hs hw
    obtain ⟨Q, hQ⟩ : ∃ Q : Int, Q = 2 ^ B := ⟨_, rfl⟩
    go_enter Tryd.func23, Tryd.ntmps23
    go_wp2_with (go_at_call 37; refine (hc _).mono ?_; rintro e w' ⟨rfl, rfl⟩)
    have hB : (0 : Int) ≤ (B : Int) := by omega
    by_cases hv : v < 0
    · go_quiet (fail)
      go_wp2
      go_ret
      exact ⟨ret_int (by first | rfl | rw [if_neg (by omega)]), bA.trans (Drew.below ⟨_, rfl⟩ _)⟩
    · have hv' : 0 ≤ v := by omega
      go_region
      go_wp2
      all_goals go_ret
      all_goals refine ⟨ret_int ?_, bA.drew⟩
      all_goals first
        | rfl
        | rw [if_neg (by omega)]
        | (rw [if_pos (by omega), if_neg (by omega)])
        | (rw [if_pos (by omega), if_pos (by omega), if_neg (by omega)])
        | (rw [if_pos (by omega), if_pos (by omega), if_pos (by omega)])
  · have h0 : (chk wd c.size != 0) = true := by
      have : ¬ chk wd c.size = 0 := fun e => hs (chk_ok.1 e).2
      simpa using this
    rw [if_neg hs]
    obtain ⟨q, hq⟩ : ∃ q, q = chk wd c.size := ⟨_, rfl⟩
    rw [← hq] at hc h0
    clear hq hs hw
    go_enter Tryd.func23, Tryd.ntmps23
    go_wp2_with (go_at_call 37; refine (hc _).mono ?_; rintro e w' ⟨rfl, rfl⟩)
    go_ret
    exact ⟨rfl, bA⟩
/-- How two entries stand. -/
def cpE (a b : En) : Int := if a.v = b.v then (if Lib.compareBytes a.c.data.toList b.c.data.toList = 0 then Lib.compareInt a.i b.i else Lib.compareBytes a.c.data.toList b.c.data.toList) else Lib.compareInt a.v b.v
theorem cmpI (a b : Int) : (Lib.compareInt a b < 0 ↔ a < b) ∧ (Lib.compareInt a b = 0 ↔ a = b) ∧ (0 < Lib.compareInt a b ↔ b < a) := by
  unfold Lib.compareInt
  split
  · omega
  · split <;> omega
theorem cpE_ls (a b : En) : cpE a b < 0 ↔ lsB a b = true := by
  unfold cpE lsB
  by_cases h1 : a.v = b.v
  · rw [if_pos h1, if_pos h1]
    by_cases h2 : a.c = b.c
    · rw [if_pos h2, if_pos ((cmp_zero _ _).2 (by rw [h2])), (cmpI _ _).1]; simp
    · have h3 : ¬ Lib.compareBytes a.c.data.toList b.c.data.toList = 0 := fun h => h2 (ba_ext ((cmp_zero _ _).1 h))
      rw [if_neg h2, if_neg h3, bytesLess_cmp]; simp
  · rw [if_neg h1, if_neg h1, (cmpI _ _).1]; simp
set_option maxHeartbeats 1000000 in
set_option maxRecDepth 100000 in
theorem compare_any (a b : En) (w : World) :
    Calls Tryd.prog 24 #[.agg (enC a).toArray, .agg (enC b).toArray] w fun r w' => r = .returned (.int .i64 (cpE a b)) ∧ Below w.heap.size w w' := by
  obtain ⟨v, c, i, s, d⟩ := a
  obtain ⟨v', c', i', s', d'⟩ := b
  have bA : Below w.heap.size w ((w.alloc (.cells #[.int .i64 v, .string c, .int .i64 i, .int .i64 s, .bool d] 40)).alloc (.cells #[.int .i64 v', .string c', .int .i64 i', .int .i64 s', .bool d'] 40)) := ((Below.refl _ w).alloc (Nat.le_refl _) _).alloc (by simp) _
  have k1 := fun W => Tryd.cmp_Compare_int v v' W
  have k2 := fun W => Tryd.strings_Compare c c' W
  have k3 := fun W => Tryd.cmp_Compare_int i i' W
  unfold cpE
  simp only [enC]
  by_cases h1 : v = v'
  · rw [if_pos h1]
    have h1' : (v != v') = false := by simp [h1]
    by_cases h2 : Lib.compareBytes c.data.toList c'.data.toList = 0
    · rw [if_pos h2]
      have h2' : (Lib.compareBytes c.data.toList c'.data.toList != 0) = false := by simp [h2]
      obtain ⟨q, hq⟩ : ∃ q, q = Lib.compareBytes c.data.toList c'.data.toList := ⟨_, rfl⟩
      rw [← hq] at k2 h2'
      clear h2 hq k1 h1
      go_enter Tryd.func24, Tryd.ntmps24
      go_wp2_with first
        | (go_at_call 39; refine (k2 _).mono ?_; rintro e w' ⟨rfl, rfl⟩)
        | (go_at_call 38; refine (k3 _).mono ?_; rintro e w' ⟨rfl, rfl⟩)
      go_ret
      exact ⟨rfl, bA⟩
    · rw [if_neg h2]
      have h2' : (Lib.compareBytes c.data.toList c'.data.toList != 0) = true := by simpa using h2
      obtain ⟨q, hq⟩ : ∃ q, q = Lib.compareBytes c.data.toList c'.data.toList := ⟨_, rfl⟩
      rw [← hq] at k2 h2' ⊢
      clear h2 hq k1 h1 k3
      go_enter Tryd.func24, Tryd.ntmps24
      go_wp2_with (go_at_call 39; refine (k2 _).mono ?_; rintro e w' ⟨rfl, rfl⟩)
      go_ret
      exact ⟨rfl, bA⟩
  · rw [if_neg h1]
    have h1' : (v != v') = true := by simpa using h1
    clear h1 k2 k3
    go_enter Tryd.func24, Tryd.ntmps24
    go_wp2_with (go_at_call 38; refine (k1 _).mono ?_; rintro e w' ⟨rfl, rfl⟩)
    go_ret
    exact ⟨rfl, bA⟩
end Go.Proofs.YtdegclccbgpgiaaDoor
