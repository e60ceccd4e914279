/-
  DERIVED. The laws' own steps: play.
-/
import Derived.Test.YtjhdmfjbgkopbaaDDone
set_option linter.unusedVariables false
set_option linter.unusedSimpArgs false
set_option linter.unnecessarySimpa false
namespace Go.Proofs.Ytjhdmfjbgkopbaa
open Go.RowKit Go.Maps Go.Proofs.DiskMath
set_option maxHeartbeats 4000000 in
set_option maxRecDepth 100000 in
theorem play_any {p mb : Nat} {es : List Ent} {c : Ctl} (s : Stp) (ho : StpOk s) (w : World) (h : DK w p mb es c) (hcs : ∀ W, Stay (Foot p mb es) w W → CutsAt W s.ca s.cs) (R : Ending → World → Prop)
    (h7 : s.do_ = 7 → ∀ E w', Step w w' p mb es es c → R (.returned (.int .i64 E)) w')
    (h8 : s.do_ = 8 → ∀ w', Step w w' p mb es es (armC c s.n s.dn) → R (.returned (.int .i64 0)) w')
    (h9 : s.do_ = 9 → ∀ w' es', Step w w' p mb es es' (crashC c) → es'.map fl = ((es.map fl).map (cutF s.cs)).map (fun f => loseF f 0 0) → R (.returned (.int .i64 0)) w')
    (h1 : 1 ≤ s.do_ → s.do_ ≤ 6 → ∀ E w', E ≠ 0 → (E = 45 ↔ c.off = true) → Step w w' p mb es es c → R (.returned (.int .i64 E)) w')
    (h2 : 1 ≤ s.do_ → s.do_ ≤ 6 → ∀ w' es', c.off = false → effE s es c es' → Step w w' p mb es es' (tick c) → R (.returned (.int .i64 (okE c))) w')
    (h0 : ¬ (1 ≤ s.do_ ∧ s.do_ ≤ 9) → ∀ w', Step w w' p mb es es c → R (.returned (.int .i64 0)) w') :
    Calls Try.prog 13 #[Pt p, .agg (stpC s)] w R := by
  have hb1 : Below w.heap.size w (w.alloc (.cells (stpC s) 28)) := (Below.refl _ w).alloc (Nat.le_refl _) _
  have d1 := h.below hb1
  have lift : ∀ {w' es' c'}, Step (w.alloc (.cells (stpC s) 28)) w' p mb es es' c' → Step w w' p mb es es' c' := fun k => (step_alloc h hb1).trans k
  by_cases e7 : s.do_ = 7
  · have hop : Calls Try.prog 20 #[Pt p, .string s.nm, .int .i64 s.at_, .int .i64 s.n] (w.alloc (.cells (stpC s) 28)) (fun r w' => ∃ y x, r = .returned (.tuple #[.string y, .int .i64 x]) ∧ Hid (R (.returned (.int .i64 x)) w')) := read_any s.nm s.at_ s.n _ d1 ho.at_ ho.n _
      (fun hk => ⟨_, _, rfl, h7 e7 _ _ (lift (Step.refl d1))⟩) (fun e hf hk hn => ⟨_, _, rfl, h7 e7 _ _ (lift (Step.refl d1))⟩) (fun e hf hk a b cc => ⟨_, _, rfl, h7 e7 _ _ (lift (Step.refl d1))⟩)
    unfold stpC at *
    rw [e7] at hop ⊢
    clear h7 h8 h9 h1 h2 h0 lift hb1 d1 hcs
    go_enter Try.func13, Try.ntmps13
    go_wp2_with fail
    refine hop.mono ?_
    rintro r w' ⟨y, x, rfl, hr⟩
    go_wp2
    exact hr.out
  by_cases e8 : s.do_ = 8
  · have hop : Calls Try.prog 21 #[Pt p, .int .i64 s.n, .bool s.dn] (w.alloc (.cells (stpC s) 28)) (fun r w' => r = .returned (.tuple #[]) ∧ Hid (R (.returned (.int .i64 0)) w')) := arm_any s.n s.dn _ d1 ho.n.2 ho.n.1 _
      (fun w' st => ⟨rfl, h8 e8 _ (lift st)⟩)
    unfold stpC at *
    rw [e8] at hop ⊢
    clear h7 h8 h9 h1 h2 h0 lift hb1 d1 hcs e7
    go_enter Try.func13, Try.ntmps13
    go_wp2_with fail
    refine hop.mono ?_
    rintro r w' ⟨rfl, hr⟩
    go_wp2
    exact hr.out
  by_cases e9 : s.do_ = 9
  · have hop : Calls Try.prog 14 #[Pt p, .slice s.ca s.cs.length s.cc] (w.alloc (.cells (stpC s) 28)) (fun r w' => r = .returned (.tuple #[]) ∧ Hid (R (.returned (.int .i64 0)) w')) := crash_any s.ca s.cs s.cc _ d1 (fun W hW => hcs W ((Stay.below hb1).trans hW)) ho.len ho.cs _
      (fun w' es' st hf => ⟨rfl, h9 e9 _ _ (lift st) hf⟩)
    unfold stpC at *
    rw [e9] at hop ⊢
    clear h7 h8 h9 h1 h2 h0 lift hb1 d1 hcs e7 e8
    go_enter Try.func13, Try.ntmps13
    go_wp2_with fail
    refine hop.mono ?_
    rintro r w' ⟨rfl, hr⟩
    go_wp2
    exact hr.out
  by_cases e6 : 1 ≤ s.do_ ∧ s.do_ ≤ 6
  · have hop : Calls Try.prog 23 #[Pt p, .agg (stpC s)] (w.alloc (.cells (stpC s) 28)) (fun r w' => ∃ x, r = .returned (.int .i64 x) ∧ Hid (R r w')) := done_any s ho _ d1 _
      (fun E w' hE h45 st => ⟨_, rfl, h1 e6.1 e6.2 _ _ hE h45 (lift st)⟩) (fun w' es' hoff hef st => ⟨_, rfl, h2 e6.1 e6.2 _ _ hoff hef (lift st)⟩)
    unfold stpC at *
    clear h7 h8 h9 h1 h2 h0 lift hb1 d1 hcs e7 e8 e9
    have hd : s.do_ = 1 ∨ s.do_ = 2 ∨ s.do_ = 3 ∨ s.do_ = 4 ∨ s.do_ = 5 ∨ s.do_ = 6 := by omega
    rcases hd with hd | hd | hd | hd | hd | hd
    all_goals
      rw [hd] at hop ⊢
      go_enter Try.func13, Try.ntmps13
      go_wp2_with fail
      refine hop.mono ?_
      rintro r w' ⟨x, rfl, hr⟩
      go_wp2
      exact hr.out
  · have hR := Hid.mk (h0 (by omega) _ (lift (Step.refl d1)))
    unfold stpC at *
    have g1 : (s.do_ == 1) = false := by simp; omega
    have g2 : (s.do_ == 2) = false := by simp; omega
    have g3 : (s.do_ == 3) = false := by simp; omega
    have g4 : (s.do_ == 4) = false := by simp; omega
    have g5 : (s.do_ == 5) = false := by simp; omega
    have g6 : (s.do_ == 6) = false := by simp; omega
    have g7 : (s.do_ == 7) = false := by simp; omega
    have g8 : (s.do_ == 8) = false := by simp; omega
    have g9 : (s.do_ == 9) = false := by simp; omega
    clear h7 h8 h9 h1 h2 h0 lift hb1 d1 hcs
    go_enter Try.func13, Try.ntmps13
    go_wp2
    exact hR.out
end Go.Proofs.Ytjhdmfjbgkopbaa
