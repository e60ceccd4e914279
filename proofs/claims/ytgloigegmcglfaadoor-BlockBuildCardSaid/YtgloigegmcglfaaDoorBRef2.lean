/-
  DERIVED. The document's own checks and order.
-/
import Derived.Test.YtgloigegmcglfaaDoorBBuildF
set_option linter.unusedVariables false
set_option linter.unusedSimpArgs false
namespace Go.Proofs.YtgloigegmcglfaaDoor
open Go.RowKit Go.Proofs.SealMath
theorem rwidth_any (x : Int) (w : World) :
    Calls Tryd.prog 72 #[.int .i64 x] w fun e w' => e = .returned (.bool (isW x)) ∧ w' = w := by
  go_enter Tryd.func72, Tryd.ntmps72
  go_wp2
  all_goals go_ret
  · exact ⟨ret_bool (isW_pos ‹_› ‹_›).symm, rfl⟩
  · exact ⟨ret_bool (isW_big ‹_›).symm, rfl⟩
  · exact ⟨ret_bool (isW_small ‹_›).symm, rfl⟩
set_option maxHeartbeats 1000000 in
set_option maxRecDepth 100000 in
theorem rless_any (a b : En) (w : World) :
    Calls Tryd.prog 74 #[.agg (enC a).toArray, .agg (enC b).toArray] w fun r w' => r = .returned (.bool (lsB a b)) ∧ Below w.heap.size w w' := by
  obtain ⟨v, c, i, s, d⟩ := a
  obtain ⟨v', c', i', s', d'⟩ := b
  have bA : Below w.heap.size w ((w.alloc (.cells #[.int .i64 v, .string c, .int .i64 i, .int .i64 s, .bool d] 40)).alloc (.cells #[.int .i64 v', .string c', .int .i64 i', .int .i64 s', .bool d'] 40)) := ((Below.refl _ w).alloc (Nat.le_refl _) _).alloc (by simp) _
  unfold lsB
  simp only [enC]
  by_cases h1 : v = v'
  · rw [if_pos h1]
    have h1' : (v != v') = false := by simp [h1]
    by_cases h2 : c = c'
    · rw [if_pos h2]
      subst h2
      clear h1
      have h2' : (c.toList == c.toList) = true := by simp
      go_enter Tryd.func74, Tryd.ntmps74
      go_wp2
      go_ret
      exact ⟨ret_bool rfl, bA⟩
    · rw [if_neg h2]
      have h2' : (c.toList == c'.toList) = false := by
        rw [ByteArray.toList_eq, ByteArray.toList_eq]
        exact beq_false_of_ne (fun h => h2 (ba_ext h))
      have h3 : Op.bytesLess c.data.toList c'.data.toList = Op.bytesLess c.toList c'.toList := by rw [ByteArray.toList_eq, ByteArray.toList_eq]
      rw [h3]
      clear h1 h2 h3
      go_enter Tryd.func74, Tryd.ntmps74
      go_wp2
      go_ret
      exact ⟨ret_bool rfl, bA⟩
  · rw [if_neg h1]
    have h1' : (v != v') = true := by simpa using h1
    clear h1
    go_enter Tryd.func74, Tryd.ntmps74
    go_wp2
    go_ret
    exact ⟨ret_bool rfl, bA⟩
set_option maxHeartbeats 1000000 in
set_option maxRecDepth 100000 in
theorem rone_any (h : Hd) (e : En) (w : World) (hw : isW h.w = true) (hb : 1 ≤ h.b ∧ h.b ≤ 32) :
    Calls Tryd.prog 73 #[.agg (hdC h).toArray, .agg (enC e).toArray] w fun r w' => r = .returned (.int .i64 (enE h e)) ∧ Below w.heap.size w w' := by
  obtain ⟨wd, t, b, lo, hi, n⟩ := h
  obtain ⟨v, c, i, s, d⟩ := e
  dsimp only at hw hb
  have hwb := isW_bd hw
  have bA : Below w.heap.size w ((w.alloc (.cells #[.int .i64 wd, .int .i64 t, .int .i64 b, .int .i64 lo, .int .i64 hi, .int .i64 n] 23)).alloc (.cells #[.int .i64 v, .string c, .int .i64 i, .int .i64 s, .bool d] 40)) := ((Below.refl _ w).alloc (Nat.le_refl _) _).alloc (by simp) _
  obtain ⟨B, rfl⟩ : ∃ B : Nat, b = B := ⟨b.toNat, by omega⟩
  obtain ⟨p1, p2, p3⟩ := shl_pow B (by omega)
  have hu : IntKind.u64.wrap (B : Int) = B := by rw [IntKind.wrap_u64]; omega
  have hB64 : (B : Int) < 64 := by omega
  unfold enE
  simp only [hdC, enC, Int.toNat_natCast]
  by_cases hs : (c.size : Int) = wd / 8
  · have hs' : ((c.size : Int) != wd / 8) = false := by simpa using hs
    rw [if_pos hs]
    clear hs hw
    obtain ⟨Q, hQ⟩ : ∃ Q : Int, Q = 2 ^ B := ⟨_, rfl⟩
    have hB : (0 : Int) ≤ (B : Int) := by omega
    go_enter Tryd.func73, Tryd.ntmps73
    by_cases hv : v < 0
    · go_wp2
      all_goals first
        | (go_ret; exact ⟨ret_int (by first | rfl | rw [if_neg (by omega)]), bA⟩)
        | (go_quiet (fail); go_wp2; go_ret; exact ⟨ret_int (by first | rfl | rw [if_neg (by omega)]), bA.trans (Drew.below ⟨_, rfl⟩ _)⟩)
    · have hv' : 0 ≤ v := by omega
      go_wp2
      all_goals go_ret
      all_goals first | refine ⟨ret_int ?_, bA⟩ | refine ⟨ret_int ?_, bA.drew⟩
      all_goals first
        | rfl
        | rw [if_neg (by omega)]
        | (rw [if_pos (by omega), if_neg (by omega)])
        | (rw [if_pos (by omega), if_pos (by omega), if_neg (by omega)])
        | (rw [if_pos (by omega), if_pos (by omega), if_pos (by omega)])
  · have hs' : ((c.size : Int) != wd / 8) = true := by simpa using hs
    rw [if_neg hs]
    clear hs hw
    go_enter Tryd.func73, Tryd.ntmps73
    go_wp2
    go_ret
    exact ⟨rfl, bA⟩
set_option maxHeartbeats 1000000 in
set_option maxRecDepth 100000 in
theorem rgoes_no (h : Hd) (l : List En) (la : Option Addr) (cap : Nat) (w : World) (hh : hdE h ≠ 0) :
    Calls Tryd.prog 34 #[.agg (hdC h).toArray, .slice la l.length cap] w fun r w' => r = .returned (.int .i64 (bdE h l)) ∧ Below w.heap.size w w' := by
  have e1 : bdE h l = hdE h := by unfold bdE; rw [if_neg hh]
  rw [e1]
  have bA : Below w.heap.size w (w.alloc (.cells (hdC h).toArray 23)) := (Below.refl _ w).alloc (Nat.le_refl _) _
  obtain ⟨wd, t, b, lo, hi, n⟩ := h
  simp only [hdC] at bA ⊢
  cases hW : isW wd
  · have e2 : hdE ⟨wd, t, b, lo, hi, n⟩ = 10 := hdE10 hW
    rw [e2]
    clear hh e1 e2
    have HW := Hid.mk hW
    clear hW
    go_enter Tryd.func34, Tryd.ntmps34
    go_wp2_with (go_at_call 72; refine (rwidth_any _ _).mono ?_; rintro e w' ⟨rfl, rfl⟩; rw [HW.out])
    go_ret
    exact ⟨rfl, bA⟩
  · have h3 : ¬ ((0 ≤ t ∧ t ≤ 127) ∧ (1 ≤ b ∧ b ≤ 32) ∧ 0 ≤ lo ∧ lo ≤ hi ∧ hi ≤ 1152921504606846976) := fun h3 => hh (by unfold hdE; rw [if_pos hW, if_pos h3])
    have e2 : hdE ⟨wd, t, b, lo, hi, n⟩ = 13 := by unfold hdE; rw [if_pos hW, if_neg h3]
    rw [e2]
    clear hh e1 e2
    have HW := Hid.mk hW
    clear hW
    go_enter Tryd.func34, Tryd.ntmps34
    go_wp2_with (go_at_call 72; refine (rwidth_any _ _).mono ?_; rintro e w' ⟨rfl, rfl⟩; rw [HW.out])
    all_goals first | (go_ret; exact ⟨rfl, bA⟩) | (exfalso; omega)
end Go.Proofs.YtgloigegmcglfaaDoor
