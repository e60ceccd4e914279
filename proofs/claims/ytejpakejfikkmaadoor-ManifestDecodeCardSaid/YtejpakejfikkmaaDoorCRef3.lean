/-
  DERIVED. The document's own Check, whole.
-/
import Derived.Test.YtejpakejfikkmaaDoorCRef2
set_option linter.unusedVariables false
set_option linter.unusedSimpArgs false
namespace Go.Proofs.YtejpakejfikkmaaDoor
open Go.RowKit
/-- What is kept while the runs are gone through. -/
def RK (w : World) (m : Mf) (la : Option Addr) (c : Nat) (R : Bool) (u : Value) (wr : World) : Prop :=
  ∃ i : Nat, u = .int .i64 i ∧ i ≤ m.rs.length ∧ Hid (runs1 m (tkA m i) (bA m i) (m.rs.drop i) = R) ∧ SAt wr w.heap.size (mfC m la c) ∧ Below w.heap.size w wr
set_option maxHeartbeats 4000000 in
set_option maxRecDepth 100000 in
theorem rcheck_any (m : Mf) (la : Option Addr) (c : Nat) (w : World) (hL : LAt w la m.rs) (hcap : m.rs.length ≤ c) (hs : m.rs.length < 4611686018427387904) :
    Calls Tryd.prog 14 #[.agg (mfC m la c).toArray] w fun e w' => e = .returned (.int .i64 (chE m)) ∧ Below w.heap.size w w' := by
  obtain ⟨r, hr⟩ : ∃ r, r = chE m := ⟨_, rfl⟩
  rw [← hr]
  obtain ⟨wa, hwa⟩ : ∃ wa, wa = w.alloc (.cells (mfC m la c).toArray 26) := ⟨_, rfl⟩
  have ba : Below w.heap.size w wa := by rw [hwa]; exact (Below.refl _ w).alloc (Nat.le_refl _) _
  have SA : SAt wa w.heap.size (mfC m la c) := by rw [hwa]; exact SAt.new w _ _
  have hwa' : w.alloc (.cells (mfC m la c).toArray 26) = wa := hwa.symm
  have a0 := SA 0 _ rfl
  have a1 := SA 1 _ rfl
  have a2 := SA 2 _ rfl
  rw [chE_op] at hr
  have co := ropts_any m.w m.ch m.md wa
  have HR := Hid.mk hr
  have HA := Hid.mk SA
  clear hwa hr SA
  generalize opE m.w m.ch m.md = E at co HR
  by_cases hE : E ≠ 0
  · have HV : Hid (r = E) := by show _ = _; rw [HR.out, if_pos hE]
    have hE' : (E != 0) = true := by simpa [bne_iff_ne] using hE
    clear HR HA
    simp only [mfC] at hwa' ⊢
    go_enter Tryd.func14, Tryd.ntmps14
    go_wp2_with (go_at_call 41; refine co.mono ?_; rintro e w1 ⟨rfl, b1⟩; clear co)
    go_ret
    exact ⟨ret_int HV.out.symm, chain ba b1 (Nat.le_refl _)⟩
  have hE0 : E = 0 := Classical.byContradiction hE
  subst hE0
  have hr := HR.out
  rw [if_neg (by simp)] at hr
  have hr2 : r = if (nbB m && runs1 m (tkA m 0) (bA m 0) (m.rs.drop 0)) = true then 0 else 80 := by
    rw [hr, show runs1 m (tkA m 0) (bA m 0) (m.rs.drop 0) = runs1 m [m.jn] 0 m.rs from rfl, runs1_eq, Bool.and_assoc]
  clear HR hr hE
  have HL := Hid.mk hL
  clear hL
  have hnb : nbB m = decide ((0 ≤ m.seq ∧ m.seq ≤ 1152921504606846976) ∧ (2 ≤ m.nx ∧ m.nx ≤ 1099511627776) ∧ (1 ≤ m.jn ∧ m.jn < m.nx) ∧ (m.rs.length : Int) ≤ 24) := by
    unfold nbB
    rw [← Bool.decide_and, ← Bool.decide_and, ← Bool.decide_and]
    refine decide_eq_decide.2 ?_
    constructor
    · rintro ⟨⟨⟨h1, h2⟩, h3⟩, h4⟩; exact ⟨h1, h2, by omega, by omega⟩
    · rintro ⟨h1, h2, h3, h4⟩; exact ⟨⟨⟨h1, h2⟩, by omega⟩, by omega⟩
  cases hb : nbB m
  · have HV : Hid (r = 80) := by show _ = _; rw [hr2, hb]; rfl
    rw [hnb] at hb
    have hno := of_decide_eq_false hb
    clear hr2 hnb hb HL
    have HA' := HA.out
    clear HA
    simp only [mfC] at hwa' HA' ⊢
    go_enter Tryd.func14, Tryd.ntmps14
    go_wp2_with (go_at_call 41; refine co.mono ?_; rintro e w1 ⟨rfl, b1⟩; clear co; have a3 := cell_lat b1 (HA' 3 _ rfl); have a4 := cell_lat b1 (HA' 4 _ rfl); have a5 := cell_lat b1 (HA' 5 _ rfl); have a6 := cell_lat b1 (HA' 6 _ rfl))
    all_goals first
      | (exfalso; omega)
      | (go_ret; exact ⟨ret_int HV.out.symm, chain ba b1 (Nat.le_refl _)⟩)
  · have hr3 : r = if runs1 m (tkA m 0) (bA m 0) (m.rs.drop 0) = true then 0 else 80 := by rw [hr2, hb, Bool.true_and]
    rw [hnb] at hb
    obtain ⟨⟨h1, h2⟩, ⟨h3, h4⟩, ⟨h5, h6⟩, h7⟩ := of_decide_eq_true hb
    clear hr2 hnb hb
    obtain ⟨B, hB⟩ : ∃ B, B = runs1 m (tkA m 0) (bA m 0) (m.rs.drop 0) := ⟨_, rfl⟩
    rw [← hB] at hr3
    have HB : Hid (runs1 m (tkA m 0) (bA m 0) (m.rs.drop 0) = B) := hB.symm
    have HV := Hid.mk hr3
    clear hB hr3
    have HA' := HA.out
    simp only [mfC] at hwa' HA' ⊢
    go_enter Tryd.func14, Tryd.ntmps14
    go_wp2_with (go_at_call 41; refine co.mono ?_; rintro e w1 ⟨rfl, b1⟩; clear co; have a3 := cell_lat b1 (HA' 3 _ rfl); have a4 := cell_lat b1 (HA' 4 _ rfl); have a5 := cell_lat b1 (HA' 5 _ rfl); have a6 := cell_lat b1 (HA' 6 _ rfl))
    all_goals first | (exfalso; omega) | skip
    have S1 := HA.out.lat b1
    have bw1 := chain ba b1 (Nat.le_refl _)
    clear a0 a1 a2 a3 a4 a5 a6 HA HA' hwa' b1 ba
    go_loopw [4] (fun u wr => RK w m la c B u wr) (fun u _ => m.rs.length - (intOf u).toNat)
    case atStart => exact ⟨0, rfl, Nat.zero_le _, HB, S1, bw1⟩
    case round =>
      obtain ⟨i, rfl, hi, HB, S1, bw⟩ := hrel
      have q6 := S1 6 _ rfl
      by_cases hlt : i < m.rs.length
      · have q0 := S1 0 _ rfl
        have q1 := S1 1 _ rfl
        have q2 := S1 2 _ rfl
        have q3 := S1 3 _ rfl
        have q4 := S1 4 _ rfl
        have q5 := S1 5 _ rfl
        have HS := HB.out
        rw [runs1_at m i hlt] at HS
        have cr := rrun_any m la c i wr (HL.out.below bw) hlt (by omega) hcap
        simp only [mfC] at cr
        cases hrb : runB m i m.rs[i]
        · rw [hrb] at cr HS
          have hV2 : Hid (r = 80) := by show _ = _; rw [HV.out, ← HS]; rfl
          clear HS HB HV HL hrb S1
          go_wp2_with (go_at_call 42; refine cr.mono ?_; rintro e w2 ⟨rfl, b2⟩; clear cr)
          go_ret
          exact ⟨ret_int hV2.out.symm, chain bw b2 (Nat.le_refl _)⟩
        · rw [hrb] at cr HS
          have HS2 := Hid.mk HS
          rw [Bool.true_and] at HS2
          clear HS HB HV HL hrb
          go_wp2_with (go_at_call 42; refine cr.mono ?_; rintro e w2 ⟨rfl, b2⟩; clear cr)
          exact ⟨⟨i + 1, rfl, hlt, HS2, S1.lat b2, chain bw b2 (Nat.le_refl _)⟩, by simp only [intOf]; omega⟩
      · have e : i = m.rs.length := by omega
        subst e
        have hV2 : Hid (r = 0) := by
          have := HB.out
          rw [List.drop_eq_nil_of_le (Nat.le_refl _)] at this
          show _ = _; rw [HV.out, ← this]; rfl
        clear HB HV HL S1
        go_wp2
        go_ret
        exact ⟨ret_int hV2.out.symm, bw⟩
end Go.Proofs.YtejpakejfikkmaaDoor
