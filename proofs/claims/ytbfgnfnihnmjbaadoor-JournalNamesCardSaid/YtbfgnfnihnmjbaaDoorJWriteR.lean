/-
  DERIVED. Updates as bytes: the document's Write.
-/
import Derived.Test.YtbfgnfnihnmjbaaDoorJWrite
set_option linter.unusedVariables false
set_option linter.unusedSimpArgs false
namespace Go.Proofs.YtbfgnfnihnmjbaaDoor
open Go.RowKit Go.Proofs.SealMath
theorem rputvar_x (v : Nat) (w : World) (hv : v < 18446744073709551616) :
    Calls Tryd.prog 43 #[.int .u64 v] w fun e w' => ∃ X : ByteArray, e = .returned (.string X) ∧ X.size ≤ 10 ∧ Hid (X.data.toList = pvL 9 v) ∧ Below w.heap.size w w' :=
  (rputvar_any v w hv).mono fun e w' h => ⟨_, h.1, by have := (pvL_len 9 v).2; show (pvL 9 v).toArray.size ≤ 10; simpa using this, rfl, h.2⟩
set_option maxHeartbeats 4000000 in
set_option maxRecDepth 100000 in
theorem rwrite_no (s k i : Int) (c : ByteArray) (w : World) (hE : wE s k i c.size ≠ 0) :
    Calls Tryd.prog 15 #[.agg (uC s k i c)] w fun e w' => e = .returned (.tuple #[.string ⟨#[]⟩, .int .i64 (wE s k i c.size)]) ∧ Below w.heap.size w w' := by
  by_cases h1 : 1 ≤ s ∧ s ≤ 1152921504606846976
  · by_cases h2 : k = 1 ∨ k = 2
    · by_cases h3 : 0 ≤ i ∧ i ≤ 281474976710656
      · by_cases h4 : (k = 1 ∧ 8 ≤ c.size ∧ c.size ≤ 128 ∧ c.size % 8 = 0) ∨ (k = 2 ∧ c.size = 0)
        · exact absurd (by unfold wE; rw [if_pos h1, if_pos h2, if_pos h3, if_pos h4]) hE
        · have e1 : wE s k i c.size = 11 := by unfold wE; rw [if_pos h1, if_pos h2, if_pos h3, if_neg h4]
          rw [e1]
          clear e1 hE
          go_enter Tryd.func15, Tryd.ntmps15
          rcases h2 with rfl | rfl
          · go_wp2
            all_goals first | (go_ret2; exact ⟨rfl, (Below.refl _ w).alloc (Nat.le_refl _) _⟩) | (exfalso; omega)
          · go_wp2
            all_goals first | (go_ret2; exact ⟨rfl, (Below.refl _ w).alloc (Nat.le_refl _) _⟩) | (exfalso; omega)
      · have e1 : wE s k i c.size = 60 := by unfold wE; rw [if_pos h1, if_pos h2, if_neg h3]
        rw [e1]
        clear e1 hE
        go_enter Tryd.func15, Tryd.ntmps15
        rcases h2 with rfl | rfl
        all_goals
          go_wp2
          all_goals first | (go_ret2; exact ⟨rfl, (Below.refl _ w).alloc (Nat.le_refl _) _⟩) | (exfalso; omega)
    · have e1 : wE s k i c.size = 35 := by unfold wE; rw [if_pos h1, if_neg h2]
      rw [e1]
      clear e1 hE
      have hk1 : (k != 1) = true := by simp; omega
      have hk2 : (k != 2) = true := by simp; omega
      go_enter Tryd.func15, Tryd.ntmps15
      go_wp2
      all_goals first | (go_ret2; exact ⟨rfl, (Below.refl _ w).alloc (Nat.le_refl _) _⟩) | (exfalso; omega)
  · have e1 : wE s k i c.size = 51 := by unfold wE; rw [if_neg h1]
    rw [e1]
    clear hE e1
    go_enter Tryd.func15, Tryd.ntmps15
    go_wp2
    all_goals first | (go_ret2; exact ⟨rfl, (Below.refl _ w).alloc (Nat.le_refl _) _⟩) | (exfalso; omega)
set_option maxHeartbeats 4000000 in
set_option maxRecDepth 100000 in
theorem rwrite_ok1 (s i : Nat) (c : ByteArray) (w : World) (h1 : 1 ≤ s ∧ s ≤ 1152921504606846976) (h3 : i ≤ 281474976710656) (h4 : 8 ≤ c.size) (h5 : c.size ≤ 128) (h6 : c.size % 8 = 0) :
    Calls Tryd.prog 15 #[.agg (uC s 1 i c)] w fun e w' => e = .returned (.tuple #[.string ⟨(frL 1 (upP s i c.data.toList)).toArray⟩, .int .i64 0]) ∧ Below w.heap.size w w' := by
  have U0 := UAt.new w s 1 i c
  have ba : Below w.heap.size w (w.alloc (.cells (uC s 1 i c) 23)) := (Below.refl _ w).alloc (Nat.le_refl _) _
  have hws : IntKind.u64.wrap (s : Int) = s := by rw [IntKind.wrap_u64]; omega
  have hwi : IntKind.u64.wrap (i : Int) = i := by rw [IntKind.wrap_u64]; omega
  have hc : c.size ≤ 128 := by omega
  go_enter Tryd.func15, Tryd.ntmps15
  go_wp2
  all_goals first | (exfalso; omega) | skip
  obtain ⟨q0, q1, q2, q3⟩ := U0
  clear h4
  obtain ⟨w1, hw1⟩ : ∃ w1, w1 = w.alloc (.cells (uC s 1 i c) 23) := ⟨_, rfl⟩
  rw [← hw1] at q0 q1 q2 q3 ba ⊢
  clear hw1
  go_region_held (fun w' => Below w1.heap.size w1 w' ∧ w'.cell? ⟨w.heap.size, 0, none⟩ = some (.int .i64 s) ∧ w'.cell? ⟨w.heap.size, 1, none⟩ = some (.int .i64 1) ∧ w'.cell? ⟨w.heap.size, 2, none⟩ = some (.int .i64 i) ∧ w'.cell? ⟨w.heap.size, 3, none⟩ = some (.string c))
    ((refine (fun hb => ⟨hb, cell_lat hb q0, cell_lat hb q1, cell_lat hb q2, cell_lat hb q3⟩) ?_; first | exact bb | exact b_drew w1))
    (first
      | (go_at_call 43; refine (rputvar_x _ _ (by omega)).mono ?_; rintro e w2 ⟨X, rfl, hX, HX, b2⟩; have bb : Below w1.heap.size w1 w2 := (by first | exact chain bb b2 (Nat.le_refl _) | exact below_d b2))
      | (go_at_call 42; refine (rframe_ok 1 _ _ (by omega) (by omega) (by simp only [ByteArray.size_append]; omega)).mono ?_; rintro e w3 ⟨rfl, b3⟩; have bb := chain bb b3 (Nat.le_refl _)))
  all_goals
    go_wp2
    go_ret2
    exact wr_fin s 1 i c w ‹_› ‹_› (chain ba bb (Nat.le_refl _))
set_option maxHeartbeats 4000000 in
set_option maxRecDepth 100000 in
theorem rwrite_ok2 (s i : Nat) (c : ByteArray) (w : World) (h1 : 1 ≤ s ∧ s ≤ 1152921504606846976) (h3 : i ≤ 281474976710656) (h4 : c.size = 0) :
    Calls Tryd.prog 15 #[.agg (uC s 2 i c)] w fun e w' => e = .returned (.tuple #[.string ⟨(frL 2 (upP s i c.data.toList)).toArray⟩, .int .i64 0]) ∧ Below w.heap.size w w' := by
  have U0 := UAt.new w s 2 i c
  have ba : Below w.heap.size w (w.alloc (.cells (uC s 2 i c) 23)) := (Below.refl _ w).alloc (Nat.le_refl _) _
  have hws : IntKind.u64.wrap (s : Int) = s := by rw [IntKind.wrap_u64]; omega
  have hwi : IntKind.u64.wrap (i : Int) = i := by rw [IntKind.wrap_u64]; omega
  have hc : c.size ≤ 128 := by omega
  go_enter Tryd.func15, Tryd.ntmps15
  go_wp2
  all_goals first | (exfalso; omega) | skip
  obtain ⟨q0, q1, q2, q3⟩ := U0
  clear h4
  obtain ⟨w1, hw1⟩ : ∃ w1, w1 = w.alloc (.cells (uC s 2 i c) 23) := ⟨_, rfl⟩
  rw [← hw1] at q0 q1 q2 q3 ba ⊢
  clear hw1
  go_region_held (fun w' => Below w1.heap.size w1 w' ∧ w'.cell? ⟨w.heap.size, 0, none⟩ = some (.int .i64 s) ∧ w'.cell? ⟨w.heap.size, 1, none⟩ = some (.int .i64 2) ∧ w'.cell? ⟨w.heap.size, 2, none⟩ = some (.int .i64 i) ∧ w'.cell? ⟨w.heap.size, 3, none⟩ = some (.string c))
    ((refine (fun hb => ⟨hb, cell_lat hb q0, cell_lat hb q1, cell_lat hb q2, cell_lat hb q3⟩) ?_; first | exact bb | exact b_drew w1))
    (first
      | (go_at_call 43; refine (rputvar_x _ _ (by omega)).mono ?_; rintro e w2 ⟨X, rfl, hX, HX, b2⟩; have bb : Below w1.heap.size w1 w2 := (by first | exact chain bb b2 (Nat.le_refl _) | exact below_d b2))
      | (go_at_call 42; refine (rframe_ok 2 _ _ (by omega) (by omega) (by simp only [ByteArray.size_append]; omega)).mono ?_; rintro e w3 ⟨rfl, b3⟩; have bb := chain bb b3 (Nat.le_refl _)))
  all_goals
    go_wp2
    go_ret2
    exact wr_fin s 2 i c w ‹_› ‹_› (chain ba bb (Nat.le_refl _))
theorem rwrite_any (s k i : Int) (c : ByteArray) (w : World) :
    Calls Tryd.prog 15 #[.agg (uC s k i c)] w fun e w' => e = .returned (.tuple #[.string ⟨(wT s k i c).toArray⟩, .int .i64 (wE s k i c.size)]) ∧ Below w.heap.size w w' := by
  by_cases hE : wE s k i c.size = 0
  · obtain ⟨h1, h2, h3, h4⟩ := wE_zero hE
    have eT : wT s k i c = frL k.toNat (upP s.toNat i.toNat c.data.toList) := by unfold wT; rw [if_pos hE]
    rw [hE, eT]
    clear hE eT
    obtain ⟨S, rfl⟩ : ∃ S : Nat, s = S := ⟨s.toNat, by omega⟩
    obtain ⟨K, rfl⟩ : ∃ K : Nat, k = K := ⟨k.toNat, by omega⟩
    obtain ⟨I, rfl⟩ : ∃ I : Nat, i = I := ⟨i.toNat, by omega⟩
    have hK : K = 1 ∨ K = 2 := by omega
    rcases hK with rfl | rfl
    · exact rwrite_ok1 S I c w (by omega) (by omega) (by omega) (by omega) (by omega)
    · exact rwrite_ok2 S I c w (by omega) (by omega) (by omega)
  · have eT : wT s k i c = [] := by unfold wT; rw [if_neg hE]
    rw [eT]
    exact rwrite_no s k i c w hE
end Go.Proofs.YtbfgnfnihnmjbaaDoor
