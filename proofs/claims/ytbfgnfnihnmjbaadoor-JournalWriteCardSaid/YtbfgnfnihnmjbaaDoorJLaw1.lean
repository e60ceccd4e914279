/-
  DERIVED. JournalNames, JournalWrite.
-/
import Derived.Test.YtbfgnfnihnmjbaaDoorJWriteR
import Derived.Test.YtbfgnfnihnmjbaaDoorJName
set_option linter.unusedVariables false
set_option linter.unusedSimpArgs false
namespace Go.Proofs.YtbfgnfnihnmjbaaDoor
open Go.RowKit Go.Proofs.SealMath
theorem num_any (x : Int) (w : World) : Calls Tryd.prog 12 #[.int .i64 x] w fun e w' => e = .returned (.int .i64 x) ∧ w' = w := by
  go_enter Tryd.func12, Tryd.ntmps12
  go_wp2
  go_ret
  exact ⟨rfl, rfl⟩
theorem Pow.lat {w w' : World} (h : Pow w) (hb : Below w.heap.size w w') : Pow w' := by
  have hgn : Tryd.prog.globalNamed "internal/strconv.uint64pow10" = some 1 := by kernel_rfl
  unfold Pow Lib.TabIs World.var? at h ⊢
  rw [hgn] at h ⊢
  simp only [Option.bind_some] at h ⊢
  have hlt : 1 < w.heap.size := by
    rcases Nat.lt_or_ge 1 w.heap.size with h' | h'
    · exact h'
    · rw [Array.getElem?_eq_none h'] at h; cases h
  rw [hb.block 1 hlt]
  exact h
set_option maxHeartbeats 2000000 in
set_option maxRecDepth 100000 in
theorem law_write (n s k i : Int) (c : ByteArray) (w : World) (ht : Tab w) (hp : Pow w) :
    Calls Tryd.prog 6 #[.int .i64 n, .agg (uC s k i c)] w fun e w' => e = .returned (.bool true) ∧ Below w.heap.size w w' := by
  obtain ⟨T, hT⟩ : ∃ T, T = wT s k i c := ⟨_, rfl⟩
  obtain ⟨E, hE⟩ : ∃ E, E = wE s k i c.size := ⟨_, rfl⟩
  have c1 := fun W (hW : Tab W) => write_any s k i c W hW
  have c2 := fun W => rwrite_any s k i c W
  rw [← hT, ← hE] at c1 c2
  clear hT hE
  obtain ⟨M, hM⟩ : ∃ M, M = nmT n := ⟨_, rfl⟩
  have c3 := fun W (hW : Pow W) => name_any n W hW
  have c4 := fun W (hW : Pow W) => rname_any n W hW
  rw [← hM] at c3 c4
  clear hM
  have U0 := UAt.new w s k i c
  have ba : Below w.heap.size w (w.alloc (.cells (uC s k i c) 23)) := (Below.refl _ w).alloc (Nat.le_refl _) _
  go_enter Tryd.func6, Tryd.ntmps6
  go_wp2_with first
    | (go_at_call 10; refine (c1 _ (ht.lat ba)).mono ?_; rintro e w1 ⟨rfl, b1'⟩; have b1 := chain ba b1' (Nat.le_refl _); obtain ⟨q0, q1, q2, q3⟩ := U0.below b1' (by simp); clear U0 b1' c1 ba)
    | (go_at_call 15; refine (c2 _).mono ?_; rintro e w2 ⟨rfl, b2⟩; have b3 := chain b1 b2 (Nat.le_refl _); clear c2)
    | (go_at_call 12; refine (num_any _ _).mono ?_; rintro e w' ⟨rfl, rfl⟩)
    | (go_at_call 14; refine (c3 _ (hp.lat b3)).mono ?_; rintro e w4 ⟨rfl, b4⟩; have b5 := chain b3 b4 (Nat.le_refl _))
    | (go_at_call 16; refine (c4 _ (hp.lat b5)).mono ?_; rintro e w6 ⟨rfl, b6⟩; have b7 := chain b5 b6 (Nat.le_refl _))
  go_ret
  exact ⟨rfl, b7⟩
set_option maxHeartbeats 2000000 in
set_option maxRecDepth 100000 in
theorem law_names (w : World) (hp : Pow w) :
    Calls Tryd.prog 5 #[] w fun e w' => e = .returned (.bool true) ∧ Below w.heap.size w w' := by
  have n1 : nmT 1 = ⟨#[106, 49]⟩ := by
    unfold nmT
    rw [if_pos (by decide)]
    have : Lib.itoa 1 = [49] := by unfold Lib.itoa; rw [if_neg (by decide)]; unfold Lib.decDigits; rw [dif_pos (by decide)]; rfl
    rw [this]
    rfl
  have n0 : nmT 0 = ⟨#[]⟩ := by unfold nmT; rw [if_neg (by decide)]
  have c3 := fun W (hW : Pow W) => name_any 1 W hW
  have c4 := fun W (hW : Pow W) => name_any 0 W hW
  rw [n1] at c3
  rw [n0] at c4
  have c1 := fun W => write_no 0 2 0 ⟨#[]⟩ W (by decide)
  rw [show wE 0 2 0 (⟨#[]⟩ : ByteArray).size = 51 by decide] at c1
  clear n1 n0
  go_enter Tryd.func5, Tryd.ntmps5
  go_wp2_with first
    | (go_at_call 10; refine (c1 _).mono ?_; rintro e w1 ⟨rfl, b1⟩; clear c1)
    | (go_at_call 12; refine (num_any _ _).mono ?_; rintro e w' ⟨rfl, rfl⟩)
    | (go_at_call 14; refine (c3 _ (hp.lat b1)).mono ?_; rintro e w4 ⟨rfl, b4⟩; have b5 := chain b1 b4 (Nat.le_refl _); clear c3)
    | (go_at_call 14; refine (c4 _ (hp.lat b5)).mono ?_; rintro e w6 ⟨rfl, b6⟩; have b7 := chain b5 b6 (Nat.le_refl _); clear c4)
  go_ret
  exact ⟨rfl, b7⟩
end Go.Proofs.YtbfgnfnihnmjbaaDoor
