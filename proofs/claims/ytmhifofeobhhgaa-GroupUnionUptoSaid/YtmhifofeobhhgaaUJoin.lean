/-
  DERIVED. Two groups are made one.
-/
import Derived.Test.YtmhifofeobhhgaaUFirst
import Derived.Deep.RegionHeld
set_option linter.unusedVariables false
set_option linter.unusedSimpArgs false
namespace Go.Proofs.Ytmhifofeobhhgaa
open Go.RowKit Go.Proofs.UnionMath
/-- Two places' groups are one. -/
def jn (R : Nat → Nat) (i j : Nat) : Nat → Nat := joinR R (max (R i) (R j)) (min (R i) (R j))
theorem PU.joined {w : World} {p mb ag : Nat} {iv : Value} {S : List Int} {R : Nat → Nat} (h : PU w p mb ag iv S R) {x y : Nat} (hx : x < S.length) (hy : y < S.length) (rx : R x = x) (ry : R y = y) :
    ∃ c, w.cell? ⟨ag, max x y, none⟩ = some c ∧ w.frozen? ⟨ag, max x y, none⟩ = false ∧ PU (w.setCell ⟨ag, max x y, none⟩ (.int .i64 (min x y : Nat))) p mb ag iv S (joinR R (max x y) (min x y)) ∧ Stay (fun k => k = ag) w (w.setCell ⟨ag, max x y, none⟩ (.int .i64 (min x y : Nat))) := by
  obtain ⟨A, hr, hU⟩ := h.abv
  have hM : max x y < S.length := by omega
  obtain ⟨c1, f1⟩ := i_cell' hr (max x y) (by rw [aL_len]; exact hM)
  have s1 : Stay (fun k => k = ag) w (w.setCell ⟨ag, max x y, none⟩ (.int .i64 (min x y : Nat))) := Stay.setCell (F := fun k => k = ag) (p := ⟨ag, max x y, none⟩) (Stay.refl _ w) (fun _ => rfl) _
  have r1 := i_set hr (by rw [aL_len]) (max x y) (by rw [aL_len]; exact hM) (min x y : Nat)
  rw [aL_set] at r1
  refine ⟨_, c1, f1, h.abv' s1 r1 (hU.join hM (by omega) ?_ ?_), s1⟩
  · rcases Nat.le_total x y with g | g
    · rw [Nat.max_eq_right g]; exact ry
    · rw [Nat.max_eq_left g]; exact rx
  · rcases Nat.le_total x y with g | g
    · rw [Nat.min_eq_left g]; exact rx
    · rw [Nat.min_eq_right g]; exact ry
theorem PU.root {w : World} {p mb ag : Nat} {iv : Value} {S : List Int} {R : Nat → Nat} (h : PU w p mb ag iv S R) {i : Nat} (hi : i < S.length) : R i < S.length ∧ R (R i) = R i := by
  obtain ⟨A, hr, hU⟩ := h.abv
  exact ⟨Nat.lt_of_le_of_lt (hU.rle i hi) hi, hU.rid i hi⟩
theorem PU.looks {w : World} {p mb ag : Nat} {iv : Value} {S : List Int} {R : Nat → Nat} (h : PU w p mb ag iv S R) {i : Nat} (hi : i < S.length) : (Instr.lookup 41 (.map (some mb)) (.int .i64 S[i]) false).run Try.prog w = .ok (.int .i64 i) w := by
  obtain ⟨n, hm⟩ := h.map
  have := hm.look1 (h.ids.i64 (List.getElem_mem hi))
  rw [plc_some h.ids.up hi] at this
  exact this
set_option maxHeartbeats 4000000 in
set_option maxRecDepth 100000 in
theorem unite_any (p mb ag : Nat) (iv : Value) (S : List Int) (R : Nat → Nat) (i j : Nat) (hi : i < S.length) (hj : j < S.length) (w : World) (h : PU w p mb ag iv S R) :
    Calls Try.prog 19 #[Pt p, .int .i64 S[i], .int .i64 S[j]] w fun e w' => (∃ v, e = .returned v) ∧ PU w' p mb ag iv S (jn R i j) ∧ Stay (fun k => k = ag) w w' := by
  have c1 := fun W (k : PU W p mb ag iv S R) => first_any p mb ag iv S R i W k hi
  have c2 := fun W (k : PU W p mb ag iv S R) => first_any p mb ag iv S R j W k hj
  have rx := h.root hi
  have ry := h.root hj
  have HJ := Hid.mk (fun W (k : PU W p mb ag iv S R) => k.joined rx.1 ry.1 rx.2 ry.2)
  have hfew := h.ids.few
  obtain ⟨x, hx⟩ : ∃ x, R i = x := ⟨_, rfl⟩
  obtain ⟨y, hy⟩ : ∃ y, R j = y := ⟨_, rfl⟩
  have HE := Hid.mk (show jn R i j = joinR R (max x y) (min x y) from by unfold jn; rw [hx, hy])
  have l1 := rx.1
  have l2 := ry.1
  simp only [hx, hy] at c1 c2 HJ l1 l2
  clear rx ry hx hy
  have g1 := fun W (k : PU W p mb ag iv S R) => k.looks hi
  have g2 := fun W (k : PU W p mb ag iv S R) => k.looks hj
  obtain ⟨a, ha⟩ : ∃ a, S[i] = a := ⟨_, rfl⟩
  obtain ⟨b, hb⟩ : ∃ b, S[j] = b := ⟨_, rfl⟩
  obtain ⟨n, hn⟩ : ∃ n, S.length = n := ⟨_, rfl⟩
  simp only [ha, hb] at g1 g2 ⊢
  have HP := Hid.mk (And.intro h (Stay.refl (fun k => k = ag) w))
  have hpc := h.cells.2.1
  have gg1 := g1 w h
  have gg2 := g2 w h
  have HK := Hid.mk (fun W (k : PU W p mb ag iv S R ∧ Stay (fun k => k = ag) w W) => And.intro k.1.cells.2.1 (And.intro (g1 W k.1) (g2 W k.1)))
  have HC1 := Hid.mk c1
  have HC2 := Hid.mk c2
  have HL := Hid.mk (fun W (k : PU W p mb ag iv S R) => hn ▸ k.cells.2.2)
  rw [hn] at l1 l2 hi hj hfew
  clear h g1 g2 c1 c2 ha hb hn
  go_enter Try.func19, Try.ntmps19
  go_wp2
  go_region_held (fun W => W.cell? ⟨p, 1, none⟩ = some (.map (some mb)) ∧ (Instr.lookup 41 (.map (some mb)) (.int .i64 a) false).run Try.prog W = .ok (.int .i64 i) W ∧ (Instr.lookup 41 (.map (some mb)) (.int .i64 b) false).run Try.prog W = .ok (.int .i64 j) W)
    (first | exact HK.out _ HP.out | exact HK.out _ ⟨HP.out.1.drew, HP.out.2.drew⟩)
    (first
      | (go_at_call 25; refine (HC1.out _ (by first | exact HP.out.1 | exact HP.out.1.drew)).mono ?_; clear HC1; rintro e w1 ⟨rfl, k1, s1⟩; replace HP := Hid.mk (And.intro k1 (HP.out.2.trans (by first | exact s1 | exact s1.undrew))); clear k1 s1)
      | (go_at_call 25; refine (HC2.out _ (by first | exact HP.out.1 | exact HP.out.1.drew)).mono ?_; clear HC2; rintro e w1 ⟨rfl, k1, s1⟩; replace HP := Hid.mk (And.intro k1 (HP.out.2.trans (by first | exact s1 | exact s1.undrew))); clear k1 s1))
  all_goals
    obtain ⟨cc, k1, k2, k3, k4⟩ := HJ.out _ HP.out.1
    have k5 := HL.out _ HP.out.1
    rcases Nat.lt_trichotomy x y with hxy | hxy | hxy
    · have hxy' : (x : Int) < (y : Int) := by omega
      rw [Nat.max_eq_right (by omega)] at k1 k2
      have HF := Hid.mk (And.intro k3 k4)
      rw [Nat.max_eq_right (by omega), Nat.min_eq_left (by omega)] at HF HE
      clear k3 k4
      go_wp2
      all_goals first | (exfalso; omega) | skip
      go_ret
      refine ⟨⟨_, rfl⟩, ?_, HP.out.2.trans HF.out.2⟩
      rw [HE.out]
      exact HF.out.1
    · subst hxy
      rw [Nat.max_self] at k1 k2
      have HF := Hid.mk (And.intro k3 k4)
      rw [Nat.max_self, Nat.min_self] at HF HE
      clear k3 k4
      go_wp2
      all_goals first | (exfalso; omega) | skip
      go_ret
      refine ⟨⟨_, rfl⟩, ?_, HP.out.2.trans HF.out.2⟩
      rw [HE.out]
      exact HF.out.1
    · have hxy' : (y : Int) < (x : Int) := by omega
      have hxy2 : ¬ (x : Int) < (y : Int) := by omega
      rw [Nat.max_eq_left (by omega)] at k1 k2
      have HF := Hid.mk (And.intro k3 k4)
      rw [Nat.max_eq_left (by omega), Nat.min_eq_right (by omega)] at HF HE
      clear k3 k4
      go_wp2
      all_goals first | (exfalso; omega) | skip
      go_ret
      refine ⟨⟨_, rfl⟩, ?_, HP.out.2.trans HF.out.2⟩
      rw [HE.out]
      exact HF.out.1
end Go.Proofs.Ytmhifofeobhhgaa
