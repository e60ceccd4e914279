/-
  DERIVED. JournalRead.
-/
import Derived.Test.YtbfgnfnihnmjbaaDoorJLaw2
set_option linter.unusedVariables false
set_option linter.unusedSimpArgs false
namespace Go.Proofs.YtbfgnfnihnmjbaaDoor
open Go.RowKit Go.Proofs.SealMath
theorem num_any (x : Int) (w : World) : Calls Tryd.prog 12 #[.int .i64 x] w fun e w' => e = .returned (.int .i64 x) ∧ w' = w := by
  go_enter Tryd.func12, Tryd.ntmps12
  go_wp2
  go_ret
  exact ⟨rfl, rfl⟩
set_option maxHeartbeats 4000000 in
set_option maxRecDepth 100000 in
theorem law_read (b : ByteArray) (x : Int) (w : World) (ht : Tab w) (hb : b.size < 4611686018427387904) :
    Calls Tryd.prog 4 #[.string b, .int .i64 x] w fun e w' => e = .returned (.bool true) ∧ Below w.heap.size w w' := by
  have c1 := fun W (h : Tab W) => read_any b x W h hb
  have c2 := fun W => rread_any b x W hb
  obtain ⟨R, hR⟩ : ∃ R, R = rdA b x := ⟨_, rfl⟩
  rw [← hR] at c1 c2
  clear hR
  go_enter Tryd.func4, Tryd.ntmps4
  go_wp2_with first
    | (go_at_call 11; refine (c1 _ ht).mono ?_; rintro e w1 ⟨rfl, b1⟩; clear c1)
    | (go_at_call 13; refine (c2 _).mono ?_; rintro e w2 ⟨rfl, b2⟩; clear c2; have U1 := (UAt.new w1 R.1.s R.1.k R.1.i ⟨R.1.c.toArray⟩).below b2 (by simp); obtain ⟨q0, q1, q2, q3⟩ := U1.below ((Below.refl w2.heap.size w2).alloc (Nat.le_refl _) (.cells (upV R.1) 23)) (World.block_lt_of_cell? _ _ U1.c0); have bb := chain (chain b1 ((Below.refl w1.heap.size w1).alloc (Nat.le_refl _) (.cells (upV R.1) 23)) (Nat.le_refl _)) b2 (Nat.le_refl _); clear U1)
    | (go_at_call 12; refine (num_any _ _).mono ?_; rintro e w' ⟨rfl, rfl⟩)
  go_ret
  exact ⟨rfl, bb.alloc bb.size _⟩
end Go.Proofs.YtbfgnfnihnmjbaaDoor
