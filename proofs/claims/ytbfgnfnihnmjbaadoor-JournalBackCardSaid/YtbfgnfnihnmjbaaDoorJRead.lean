/-
  DERIVED. Read, the program's; what the document's payload and Read answer.
-/
import Derived.Test.YtbfgnfnihnmjbaaDoorJUn
import Derived.Test.YtbfgnfnihnmjbaaDoorSParseC
set_option linter.unusedVariables false
set_option linter.unusedSimpArgs false
namespace Go.Proofs.YtbfgnfnihnmjbaaDoor
open Go.RowKit Go.Proofs.SealMath
theorem trip {α β γ : Type} (p : α × β × γ) : p = (p.1, p.2.1, p.2.2) := rfl
theorem unpack_any (k : Nat) (b : ByteArray) (x : Int) (w : World) (hb : b.size < 4611686018427387904) :
    Calls Tryd.prog 36 #[.int .i64 k, .string b, .int .i64 x] w fun e w' => e = .returned (.tuple #[.agg (upV (unA k b x).1), .int .i64 (unA k b x).2]) ∧ Below w.heap.size w w' := by
  by_cases hk : k = 1 ∨ k = 2
  · exact unpack_all k b x w hb hk _ _ _ (trip _) (fun h => (vA_lt b 0 h).1) _ _ _ (trip _) (fun h => vA_lt b _ h) _ (by unfold unA; rw [if_pos hk])
  · have e : unA k b x = (up0, 35) := by unfold unA; rw [if_neg hk]
    rw [e]
    exact unpack_kind k b x w hk
/-- What Read answers. -/
def rdA (b : ByteArray) (x : Int) : Up × Int :=
  if isW x = true then
    if (psA b 0).2.2.2 = 0 then
      if (psA b 0).2.2.1 = b.size then unA (psA b 0).1 ⟨(psA b 0).2.1.toArray⟩ x else (up0, 37)
    else (up0, (psA b 0).2.2.2)
  else (up0, 10)
theorem pay_le (b : ByteArray) (a : Nat) : (⟨(psA b a).2.1.toArray⟩ : ByteArray).size ≤ 65536 := by
  show (psA b a).2.1.toArray.size ≤ 65536
  rw [List.size_toArray]
  by_cases h : (psA b a).2.2.2 = 0
  · obtain ⟨k, p, h1, h2, h3, h4, h5, h6⟩ := psA_yes b a h
    rw [h5]; exact h3
  · unfold psA at h ⊢
    split at h
    · split at h
      · rename_i h1 h2; rw [if_pos h1, if_pos h2]; simp
      · split at h
        · simp at h
        · rename_i h1 h2 h3; rw [if_pos h1, if_neg h2, if_neg h3]; simp
    · rename_i h1; rw [if_neg h1]; simp
theorem prA0 (b : ByteArray) : prA b 0 = psA b 0 := by unfold prA; rw [if_pos (by omega)]; rfl
theorem quad {α β γ δ : Type} (p : α × β × γ × δ) : p = (p.1, p.2.1, p.2.2.1, p.2.2.2) := rfl
set_option maxHeartbeats 4000000 in
set_option maxRecDepth 100000 in
theorem read_any (b : ByteArray) (x : Int) (w : World) (ht : Tab w) (hb : b.size < 4611686018427387904) :
    Calls Tryd.prog 11 #[.string b, .int .i64 x] w fun e w' => e = .returned (.tuple #[.agg (upV (rdA b x).1), .int .i64 (rdA b x).2]) ∧ Below w.heap.size w w' := by
  have hn : Below w.heap.size w (w.alloc (.cells (upV up0) 23)) := (Below.refl _ w).alloc (Nat.le_refl _) _
  have U0 := UAt.new w 0 0 0 ⟨#[]⟩
  have F0 := UFr.new w 0 0 0 ⟨#[]⟩
  have c1 := fun W (h : Tab W) => parse_any b 0 W h h.pos hb
  rw [prA0] at c1
  cases hW : isW x
  · have e : rdA b x = (up0, 10) := by unfold rdA; rw [if_neg (by rw [hW]; exact Bool.false_ne_true)]
    rw [e]
    have HW : Hid _ := hW
    clear c1 e hW
    go_enter Tryd.func11, Tryd.ntmps11
    go_wp2_with first
      | (go_at_call 34; refine (jWidth_any _ _).mono ?_; rintro e w' ⟨rfl, rfl⟩; rw [HW.out])
    refine bodyPost_ret (v := .tuple #[.agg (upV up0), .int .i64 10]) (by simp [results, Tryd.results11, go_sem]; try rfl) rfl ?_
    exact ⟨rfl, hn⟩
  · have HW : Hid _ := hW
    have HP := pay_le b 0
    have e : rdA b x = if (psA b 0).2.2.2 = 0 then if (psA b 0).2.2.1 = b.size then unA (psA b 0).1 ⟨(psA b 0).2.1.toArray⟩ x else (up0, 37) else (up0, (psA b 0).2.2.2) := by unfold rdA; rw [if_pos hW]
    rw [e]
    clear e hW
    obtain ⟨K, hK⟩ : ∃ K, K = (psA b 0).1 := ⟨_, rfl⟩
    obtain ⟨P, hP⟩ : ∃ P : ByteArray, P = ⟨(psA b 0).2.1.toArray⟩ := ⟨_, rfl⟩
    obtain ⟨M, hM⟩ : ∃ M, M = (psA b 0).2.2.1 := ⟨_, rfl⟩
    obtain ⟨E, hE⟩ : ∃ E, E = (psA b 0).2.2.2 := ⟨_, rfl⟩
    rw [← hK, ← hP, ← hM, ← hE] at c1 ⊢
    rw [← hP] at HP
    clear hK hP hM hE
    by_cases h1 : E = 0
    · rw [if_pos h1]
      subst h1
      by_cases h2 : M = b.size
      · rw [if_pos h2]
        subst h2
        have c2 := fun W => unpack_any K P x W (by omega)
        obtain ⟨R, hR⟩ : ∃ R, R = unA K P x := ⟨_, rfl⟩
        rw [← hR] at c2 ⊢
        clear hR
        go_enter Tryd.func11, Tryd.ntmps11
        go_wp2_with first
          | (go_at_call 34; refine (jWidth_any _ _).mono ?_; rintro e w' ⟨rfl, rfl⟩; rw [HW.out])
          | (go_at_call 35; refine (c1 _ (ht.lat hn)).mono ?_; rintro e w1 ⟨rfl, b1⟩; clear c1; have U1 := U0.below b1 (by simp); have F1 := F0.below b1 (by simp); have bb := chain hn b1 (Nat.le_refl _); clear U0 F0 b1 hn)
          | (go_at_call 36; refine (c2 _).mono ?_; rintro e w2 ⟨rfl, b2⟩; clear c2; obtain ⟨q0, q1, q2, q3⟩ := U1.below b2 (Nat.lt_of_lt_of_le (World.block_lt_of_cell? _ _ U1.c0) (Nat.le_refl _)); obtain ⟨f0, f1, f2, f3⟩ := F1.below b2 (World.block_lt_of_cell? _ _ U1.c0); have bb := chain bb b2 (Nat.le_refl _); clear U1 F1 b2)
        refine bodyPost_ret (v := .tuple #[.agg (upV R.1), .int .i64 R.2]) (by simp [results, Tryd.results11, go_sem, q0, q1, q2, q3]; try rfl) rfl ?_
        exact ⟨rfl, (((bb.setCell (p := ⟨w.heap.size, 0, none⟩) (Nat.le_refl _) _).setCell (p := ⟨w.heap.size, 1, none⟩) (Nat.le_refl _) _).setCell (p := ⟨w.heap.size, 2, none⟩) (Nat.le_refl _) _).setCell (p := ⟨w.heap.size, 3, none⟩) (Nat.le_refl _) _⟩
      · rw [if_neg h2]
        have h2' : ((M : Int) != b.size) = true := by simp; omega
        clear h2
        go_enter Tryd.func11, Tryd.ntmps11
        go_wp2_with first
          | (go_at_call 34; refine (jWidth_any _ _).mono ?_; rintro e w' ⟨rfl, rfl⟩; rw [HW.out])
          | (go_at_call 35; refine (c1 _ (ht.lat hn)).mono ?_; rintro e w1 ⟨rfl, b1⟩; clear c1; obtain ⟨q0, q1, q2, q3⟩ := U0.below b1 (by simp); obtain ⟨f0, f1, f2, f3⟩ := F0.below b1 (by simp); have bb := chain hn b1 (Nat.le_refl _); clear U0 F0 b1 hn)
        refine bodyPost_ret (v := .tuple #[.agg (upV up0), .int .i64 37]) (by simp [results, Tryd.results11, go_sem, q0, q1, q2, q3]; try rfl) rfl ?_
        exact ⟨rfl, (((bb.setCell (p := ⟨w.heap.size, 0, none⟩) (Nat.le_refl _) _).setCell (p := ⟨w.heap.size, 1, none⟩) (Nat.le_refl _) _).setCell (p := ⟨w.heap.size, 2, none⟩) (Nat.le_refl _) _).setCell (p := ⟨w.heap.size, 3, none⟩) (Nat.le_refl _) _⟩
    · rw [if_neg h1]
      have h1' : (E != 0) = true := by simp; exact h1
      clear h1
      go_enter Tryd.func11, Tryd.ntmps11
      go_wp2_with first
        | (go_at_call 34; refine (jWidth_any _ _).mono ?_; rintro e w' ⟨rfl, rfl⟩; rw [HW.out])
        | (go_at_call 35; refine (c1 _ (ht.lat hn)).mono ?_; rintro e w1 ⟨rfl, b1⟩; clear c1; obtain ⟨q0, q1, q2, q3⟩ := U0.below b1 (by simp); obtain ⟨f0, f1, f2, f3⟩ := F0.below b1 (by simp); have bb := chain hn b1 (Nat.le_refl _); clear U0 F0 b1 hn)
      refine bodyPost_ret (v := .tuple #[.agg (upV up0), .int .i64 E]) (by simp [results, Tryd.results11, go_sem, q0, q1, q2, q3]; try rfl) rfl ?_
      exact ⟨rfl, (((bb.setCell (p := ⟨w.heap.size, 0, none⟩) (Nat.le_refl _) _).setCell (p := ⟨w.heap.size, 1, none⟩) (Nat.le_refl _) _).setCell (p := ⟨w.heap.size, 2, none⟩) (Nat.le_refl _) _).setCell (p := ⟨w.heap.size, 3, none⟩) (Nat.le_refl _) _⟩
end Go.Proofs.YtbfgnfnihnmjbaaDoor
