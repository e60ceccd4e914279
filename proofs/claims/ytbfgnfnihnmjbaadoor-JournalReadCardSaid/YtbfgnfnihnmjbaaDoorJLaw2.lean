/-
  DERIVED. The document's payload and Read; JournalRead.
-/
import Derived.Test.YtbfgnfnihnmjbaaDoorJRead
set_option linter.unusedVariables false
set_option linter.unusedSimpArgs false
namespace Go.Proofs.YtbfgnfnihnmjbaaDoor
open Go.RowKit Go.Proofs.SealMath
theorem rvar_at (b : ByteArray) (p : Nat) (w : World) (hb : b.size < 4611686018427387904) (v q : Nat) (e : Int) (h : vA b p = (v, q, e)) :
    Calls Tryd.prog 75 #[.string b, .int .i64 p] w fun r w' => r = .returned (.tuple #[.int .u64 v, .int .i64 q, .int .i64 e]) ∧ w' = w := by
  have := rvar_any b p w hb
  rw [h] at this
  exact this
theorem fit_one {x : Int} {n : Nat} (h : isW x = true) : fitB 1 n x = ((n : Int) == x / 8) := by
  unfold fitB; rw [if_neg (by decide)]
  by_cases hn : (n : Int) = x / 8
  · rw [(chk_ok).2 ⟨h, hn⟩]; simp [hn]
  · have : ¬ chk x n = 0 := fun e => hn (chk_ok.1 e).2
    rw [beq_eq_false_iff_ne.2 this, beq_eq_false_iff_ne.2 hn]
theorem fit_two {x : Int} {n : Nat} : fitB 2 n x = (n == 0) := by unfold fitB; rw [if_pos rfl]
set_option maxHeartbeats 4000000 in
set_option maxRecDepth 100000 in
theorem pay_all (k : Nat) (b : ByteArray) (x : Int) (w : World) (hb : b.size < 4611686018427387904) (hW : isW x = true) (hk : k = 1 ∨ k = 2) (v q : Nat) (e1 : Int) (hv : vA b 0 = (v, q, e1)) (hv2 : e1 = 0 → v < 18446744073709551616)
    (i at_ : Nat) (e2 : Int) (hi : vA b q = (i, at_, e2)) (hi2 : e2 = 0 → i < 18446744073709551616 ∧ at_ ≤ b.size) (E : Up × Int)
    (hE : E = if e1 = 0 then if 1 ≤ v ∧ v ≤ 1152921504606846976 then if e2 = 0 then if i ≤ 281474976710656 then if fitB k (b.size - at_) x = true then (⟨v, k, i, b.data.toList.drop at_⟩, 0) else (up0, 11) else (up0, 60) else (up0, e2) else (up0, 51) else (up0, e1)) :
    Calls Tryd.prog 39 #[.int .i64 k, .string b, .int .i64 x] w fun e w' => e = .returned (.tuple #[.agg (upV E.1), .int .i64 E.2]) ∧ Below w.heap.size w w' := by
  have c1 := fun W => rvar_at b 0 W hb v q e1 hv
  have c2 := fun W => rvar_at b q W hb i at_ e2 hi
  have hn : Below w.heap.size w (w.alloc (.cells (upV up0) 23)) := (Below.refl _ w).alloc (Nat.le_refl _) _
  have hx := isW_bd hW
  clear hv hi
  by_cases he : e1 = 0
  · rw [if_pos he] at hE
    have hv3 := hv2 he
    clear hv2
    subst he
    by_cases h1 : 1 ≤ v ∧ v ≤ 1152921504606846976
    · rw [if_pos h1] at hE
      by_cases he2 : e2 = 0
      · rw [if_pos he2] at hE
        obtain ⟨hi3, hi4⟩ := hi2 he2
        clear hi2
        subst he2
        by_cases h3 : i ≤ 281474976710656
        · rw [if_pos h3] at hE
          have hsz : (b.extract at_ b.size).size = b.size - at_ := by rw [ByteArray.size_extract]; omega
          have hcl : (b.extract at_ b.size) = ⟨(b.data.toList.drop at_).toArray⟩ := by
            apply ByteArray.ext
            rw [ByteArray.data_extract]
            apply Array.toList_inj.1
            rw [Array.toList_extract]
            simp [List.extract, List.take_of_length_le]
          have HC : Hid _ := hcl
          clear hcl
          rcases hk with rfl | rfl
          · have hf := fit_one (n := b.size - at_) hW
            by_cases hq : ((b.size - at_ : Nat) : Int) = x / 8
            · rw [if_pos (by show fitB 1 _ _ = true; rw [hf]; simpa using hq)] at hE
              subst hE
              clear hf
              go_enter Tryd.func39, Tryd.ntmps39
              go_wp2_with first
                | (go_at_call 75; refine (c1 _).mono ?_; rintro e w' ⟨rfl, rfl⟩; clear c1)
                | (go_at_call 75; refine (c2 _).mono ?_; rintro e w' ⟨rfl, rfl⟩; clear c2)
              all_goals first | (exfalso; omega) | skip
              refine bodyPost_ret (v := .tuple #[.agg (uC v 1 i (b.extract at_ b.size)), .int .i64 0]) (by simp [results, Tryd.results39, go_sem]; try rfl) rfl ?_
              exact ⟨by rw [HC.out]; rfl, (Below.refl _ w).alloc (Nat.le_refl _) _⟩
            · rw [if_neg (by show ¬ fitB 1 _ _ = true; rw [hf]; simpa using hq)] at hE
              subst hE
              clear hf
              go_enter Tryd.func39, Tryd.ntmps39
              go_wp2_with first
                | (go_at_call 75; refine (c1 _).mono ?_; rintro e w' ⟨rfl, rfl⟩; clear c1)
                | (go_at_call 75; refine (c2 _).mono ?_; rintro e w' ⟨rfl, rfl⟩; clear c2)
              all_goals first | (exfalso; omega) | skip
              refine bodyPost_ret (v := .tuple #[.agg (upV up0), .int .i64 11]) (by simp [results, Tryd.results39, go_sem]; try rfl) rfl ?_
              exact ⟨rfl, hn⟩
          · have hf := fit_two (x := x) (n := b.size - at_)
            have hem := empt (b.extract at_ b.size)
            rw [hsz] at hem
            by_cases hq : b.size - at_ = 0
            · rw [if_pos (by show fitB 2 _ _ = true; rw [hf]; simpa using hq)] at hE
              subst hE
              clear hf
              rw [beq_iff_eq.2 hq] at hem
              go_enter Tryd.func39, Tryd.ntmps39
              go_wp2_with first
                | (go_at_call 75; refine (c1 _).mono ?_; rintro e w' ⟨rfl, rfl⟩; clear c1)
                | (go_at_call 75; refine (c2 _).mono ?_; rintro e w' ⟨rfl, rfl⟩; clear c2)
              all_goals first | (exfalso; omega) | skip
              refine bodyPost_ret (v := .tuple #[.agg (uC v 2 i (b.extract at_ b.size)), .int .i64 0]) (by simp [results, Tryd.results39, go_sem]; try rfl) rfl ?_
              exact ⟨by rw [HC.out]; rfl, (Below.refl _ w).alloc (Nat.le_refl _) _⟩
            · rw [if_neg (by show ¬ fitB 2 _ _ = true; rw [hf]; simpa using hq)] at hE
              subst hE
              clear hf
              rw [beq_eq_false_iff_ne.2 hq] at hem
              go_enter Tryd.func39, Tryd.ntmps39
              go_wp2_with first
                | (go_at_call 75; refine (c1 _).mono ?_; rintro e w' ⟨rfl, rfl⟩; clear c1)
                | (go_at_call 75; refine (c2 _).mono ?_; rintro e w' ⟨rfl, rfl⟩; clear c2)
              all_goals first | (exfalso; omega) | skip
              refine bodyPost_ret (v := .tuple #[.agg (upV up0), .int .i64 11]) (by simp [results, Tryd.results39, go_sem]; try rfl) rfl ?_
              exact ⟨rfl, hn⟩
        · rw [if_neg h3] at hE
          subst hE
          rcases hk with rfl | rfl
          all_goals
            go_enter Tryd.func39, Tryd.ntmps39
            go_wp2_with first
              | (go_at_call 75; refine (c1 _).mono ?_; rintro e w' ⟨rfl, rfl⟩; clear c1)
              | (go_at_call 75; refine (c2 _).mono ?_; rintro e w' ⟨rfl, rfl⟩; clear c2)
            all_goals first | (exfalso; omega) | skip
            all_goals
              refine bodyPost_ret (v := .tuple #[.agg (upV up0), .int .i64 60]) (by simp [results, Tryd.results39, go_sem]; try rfl) rfl ?_
              exact ⟨rfl, hn⟩
      · rw [if_neg he2] at hE
        subst hE
        rcases hk with rfl | rfl
        all_goals
          go_enter Tryd.func39, Tryd.ntmps39
          go_wp2_with first
            | (go_at_call 75; refine (c1 _).mono ?_; rintro e w' ⟨rfl, rfl⟩; clear c1)
            | (go_at_call 75; refine (c2 _).mono ?_; rintro e w' ⟨rfl, rfl⟩; clear c2)
          all_goals first | (exfalso; omega) | skip
          all_goals
            refine bodyPost_ret (v := .tuple #[.agg (upV up0), .int .i64 e2]) (by simp [results, Tryd.results39, go_sem]; try rfl) rfl ?_
            exact ⟨rfl, hn⟩
    · rw [if_neg h1] at hE
      subst hE
      rcases hk with rfl | rfl
      all_goals
        go_enter Tryd.func39, Tryd.ntmps39
        go_wp2_with first
          | (go_at_call 75; refine (c1 _).mono ?_; rintro e w' ⟨rfl, rfl⟩; clear c1)
        all_goals first | (exfalso; omega) | skip
        all_goals
          refine bodyPost_ret (v := .tuple #[.agg (upV up0), .int .i64 51]) (by simp [results, Tryd.results39, go_sem]; try rfl) rfl ?_
          exact ⟨rfl, hn⟩
  · rw [if_neg he] at hE
    subst hE
    rcases hk with rfl | rfl
    all_goals
      go_enter Tryd.func39, Tryd.ntmps39
      go_wp2_with first
        | (go_at_call 75; refine (c1 _).mono ?_; rintro e w' ⟨rfl, rfl⟩; clear c1)
      refine bodyPost_ret (v := .tuple #[.agg (upV up0), .int .i64 e1]) (by simp [results, Tryd.results39, go_sem]; try rfl) rfl ?_
      exact ⟨rfl, hn⟩
set_option maxHeartbeats 4000000 in
set_option maxRecDepth 100000 in
theorem pay_kind (k : Nat) (b : ByteArray) (x : Int) (w : World) (hk : ¬ (k = 1 ∨ k = 2)) :
    Calls Tryd.prog 39 #[.int .i64 k, .string b, .int .i64 x] w fun e w' => e = .returned (.tuple #[.agg (upV up0), .int .i64 35]) ∧ Below w.heap.size w w' := by
  have k1 : ((k : Int) != 1) = true := by simp; omega
  have k2 : ((k : Int) != 2) = true := by simp; omega
  go_enter Tryd.func39, Tryd.ntmps39
  go_wp2
  all_goals first | (exfalso; omega) | skip
  refine bodyPost_ret (v := .tuple #[.agg (upV up0), .int .i64 35]) (by simp [results, Tryd.results39, go_sem]; try rfl) rfl ?_
  exact ⟨rfl, (Below.refl _ w).alloc (Nat.le_refl _) _⟩
theorem payload_any (k : Nat) (b : ByteArray) (x : Int) (w : World) (hb : b.size < 4611686018427387904) (hW : isW x = true) :
    Calls Tryd.prog 39 #[.int .i64 k, .string b, .int .i64 x] w fun e w' => e = .returned (.tuple #[.agg (upV (unA k b x).1), .int .i64 (unA k b x).2]) ∧ Below w.heap.size w w' := by
  by_cases hk : k = 1 ∨ k = 2
  · exact pay_all k b x w hb hW hk _ _ _ (trip _) (fun h => (vA_lt b 0 h).1) _ _ _ (trip _) (fun h => vA_lt b _ h) _ (by unfold unA; rw [if_pos hk])
  · have e : unA k b x = (up0, 35) := by unfold unA; rw [if_neg hk]
    rw [e]
    exact pay_kind k b x w hk
set_option maxHeartbeats 4000000 in
set_option maxRecDepth 100000 in
theorem rread_any (b : ByteArray) (x : Int) (w : World) (hb : b.size < 4611686018427387904) :
    Calls Tryd.prog 13 #[.string b, .int .i64 x] w fun e w' => e = .returned (.tuple #[.agg (upV (rdA b x).1), .int .i64 (rdA b x).2]) ∧ Below w.heap.size w w' := by
  have hn : Below w.heap.size w (w.alloc (.cells (upV up0) 23)) := (Below.refl _ w).alloc (Nat.le_refl _) _
  have U0 := UAt.new w 0 0 0 ⟨#[]⟩
  have F0 := UFr.new w 0 0 0 ⟨#[]⟩
  have c1 := fun W => (rparse_any b 0 W hb).mono (R' := fun e w' => e = .returned (.tuple #[.int .i64 (prA b 0).1, .string ⟨(prA b 0).2.1.toArray⟩, .int .i64 (prA b 0).2.2.1, .int .i64 (prA b 0).2.2.2]) ∧ Below W.heap.size W w') (fun e w' h => ⟨h.1, Drew.below h.2 _⟩)
  rw [prA0] at c1
  cases hW : isW x
  · have e : rdA b x = (up0, 10) := by unfold rdA; rw [if_neg (by rw [hW]; exact Bool.false_ne_true)]
    rw [e]
    have HW : Hid _ := hW
    clear c1 e hW
    go_enter Tryd.func13, Tryd.ntmps13
    go_wp2_with first
      | (go_at_call 37; refine (rWidth_any _ _).mono ?_; rintro e w' ⟨rfl, rfl⟩; rw [HW.out])
    refine bodyPost_ret (v := .tuple #[.agg (upV up0), .int .i64 10]) (by simp [results, Tryd.results13, go_sem]; try rfl) rfl ?_
    exact ⟨rfl, hn⟩
  · have HW : Hid _ := hW
    have HP := pay_le b 0
    have e : rdA b x = if (psA b 0).2.2.2 = 0 then if (psA b 0).2.2.1 = b.size then unA (psA b 0).1 ⟨(psA b 0).2.1.toArray⟩ x else (up0, 37) else (up0, (psA b 0).2.2.2) := by unfold rdA; rw [if_pos hW]
    rw [e]
    clear e hW
    obtain ⟨K, hK⟩ : ∃ K, K = (psA b 0).1 := ⟨_, rfl⟩
    obtain ⟨P, hP⟩ : ∃ P : ByteArray, P = ⟨(psA b 0).2.1.toArray⟩ := ⟨_, rfl⟩
    obtain ⟨M, hM⟩ : ∃ M, M = (psA b 0).2.2.1 := ⟨_, rfl⟩
    obtain ⟨E, hE⟩ : ∃ E, E = (psA b 0).2.2.2 := ⟨_, rfl⟩
    rw [← hK, ← hP, ← hM, ← hE] at c1 ⊢
    rw [← hP] at HP
    clear hK hP hM hE
    by_cases h1 : E = 0
    · rw [if_pos h1]
      subst h1
      by_cases h2 : M = b.size
      · rw [if_pos h2]
        subst h2
        have c2 := fun W => payload_any K P x W (by omega) HW.out
        obtain ⟨R, hR⟩ : ∃ R, R = unA K P x := ⟨_, rfl⟩
        rw [← hR] at c2 ⊢
        clear hR
        go_enter Tryd.func13, Tryd.ntmps13
        go_wp2_with first
          | (go_at_call 37; refine (rWidth_any _ _).mono ?_; rintro e w' ⟨rfl, rfl⟩; rw [HW.out])
          | (go_at_call 38; refine (c1 _).mono ?_; rintro e w1 ⟨rfl, b1⟩; clear c1; have U1 := U0.below b1 (by simp); have F1 := F0.below b1 (by simp); have bb := chain hn b1 (Nat.le_refl _); clear U0 F0 b1 hn)
          | (go_at_call 39; refine (c2 _).mono ?_; rintro e w2 ⟨rfl, b2⟩; clear c2; obtain ⟨q0, q1, q2, q3⟩ := U1.below b2 (Nat.lt_of_lt_of_le (World.block_lt_of_cell? _ _ U1.c0) (Nat.le_refl _)); obtain ⟨f0, f1, f2, f3⟩ := F1.below b2 (World.block_lt_of_cell? _ _ U1.c0); have bb := chain bb b2 (Nat.le_refl _); clear U1 F1 b2)
        refine bodyPost_ret (v := .tuple #[.agg (upV R.1), .int .i64 R.2]) (by simp [results, Tryd.results13, go_sem, q0, q1, q2, q3]; try rfl) rfl ?_
        exact ⟨rfl, (((bb.setCell (p := ⟨w.heap.size, 0, none⟩) (Nat.le_refl _) _).setCell (p := ⟨w.heap.size, 1, none⟩) (Nat.le_refl _) _).setCell (p := ⟨w.heap.size, 2, none⟩) (Nat.le_refl _) _).setCell (p := ⟨w.heap.size, 3, none⟩) (Nat.le_refl _) _⟩
      · rw [if_neg h2]
        have h2' : ((M : Int) != b.size) = true := by simp; omega
        clear h2
        go_enter Tryd.func13, Tryd.ntmps13
        go_wp2_with first
          | (go_at_call 37; refine (rWidth_any _ _).mono ?_; rintro e w' ⟨rfl, rfl⟩; rw [HW.out])
          | (go_at_call 38; refine (c1 _).mono ?_; rintro e w1 ⟨rfl, b1⟩; clear c1; obtain ⟨q0, q1, q2, q3⟩ := U0.below b1 (by simp); obtain ⟨f0, f1, f2, f3⟩ := F0.below b1 (by simp); have bb := chain hn b1 (Nat.le_refl _); clear U0 F0 b1 hn)
        refine bodyPost_ret (v := .tuple #[.agg (upV up0), .int .i64 37]) (by simp [results, Tryd.results13, go_sem, q0, q1, q2, q3]; try rfl) rfl ?_
        exact ⟨rfl, (((bb.setCell (p := ⟨w.heap.size, 0, none⟩) (Nat.le_refl _) _).setCell (p := ⟨w.heap.size, 1, none⟩) (Nat.le_refl _) _).setCell (p := ⟨w.heap.size, 2, none⟩) (Nat.le_refl _) _).setCell (p := ⟨w.heap.size, 3, none⟩) (Nat.le_refl _) _⟩
    · rw [if_neg h1]
      have h1' : (E != 0) = true := by simp; exact h1
      clear h1
      go_enter Tryd.func13, Tryd.ntmps13
      go_wp2_with first
        | (go_at_call 37; refine (rWidth_any _ _).mono ?_; rintro e w' ⟨rfl, rfl⟩; rw [HW.out])
        | (go_at_call 38; refine (c1 _).mono ?_; rintro e w1 ⟨rfl, b1⟩; clear c1; obtain ⟨q0, q1, q2, q3⟩ := U0.below b1 (by simp); obtain ⟨f0, f1, f2, f3⟩ := F0.below b1 (by simp); have bb := chain hn b1 (Nat.le_refl _); clear U0 F0 b1 hn)
      refine bodyPost_ret (v := .tuple #[.agg (upV up0), .int .i64 E]) (by simp [results, Tryd.results13, go_sem, q0, q1, q2, q3]; try rfl) rfl ?_
      exact ⟨rfl, (((bb.setCell (p := ⟨w.heap.size, 0, none⟩) (Nat.le_refl _) _).setCell (p := ⟨w.heap.size, 1, none⟩) (Nat.le_refl _) _).setCell (p := ⟨w.heap.size, 2, none⟩) (Nat.le_refl _) _).setCell (p := ⟨w.heap.size, 3, none⟩) (Nat.le_refl _) _⟩
end Go.Proofs.YtbfgnfnihnmjbaaDoor
