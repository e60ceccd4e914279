/-
  DERIVED. The first place of a group.
-/
import Derived.Test.YtmhifofeobhhgaaUBase
import Derived.BigRegion
set_option linter.unusedVariables false
set_option linter.unusedSimpArgs false
namespace Go.Proofs.Ytmhifofeobhhgaa
open Go.RowKit Go.Proofs.UnionMath
/-- What is kept while the way is gone. -/
def FI (w : World) (p mb ag : Nat) (iv : Value) (S : List Int) (R : Nat → Nat) (r : Nat) (u : Value) (wr : World) : Prop :=
  ∃ k : Nat, u = .int .i64 k ∧ k < S.length ∧ Hid (R k = r) ∧ PU wr p mb ag iv S R ∧ Stay (fun k => k = ag) w wr
theorem first_row {w : World} {p mb ag : Nat} {iv : Value} {S : List Int} {R : Nat → Nat} (h : PU w p mb ag iv S R) {k : Nat} (hk : k < S.length) :
    ∃ a b : Nat, a ≤ k ∧ b ≤ a ∧ (a = k ↔ R k = k) ∧ R a = R k ∧ w.cell? ⟨ag, k, none⟩ = some (.int .i64 a) ∧ w.frozen? ⟨ag, k, none⟩ = false ∧ w.cell? ⟨ag, a, none⟩ = some (.int .i64 b) ∧
      (a ≠ k → ∀ w', w' = w.setCell ⟨ag, k, none⟩ (.int .i64 b) → PU w' p mb ag iv S R ∧ Stay (fun k => k = ag) w w' ∧ R b = R k ∧ w'.cell? ⟨ag, k, none⟩ = some (.int .i64 b)) := by
  obtain ⟨A, hr, hU⟩ := h.abv
  have h1 := hU.le k hk
  have h2 := hU.le (A k) (by omega)
  obtain ⟨c1, f1⟩ := i_cell' hr k (by rw [aL_len]; exact hk)
  obtain ⟨c2, f2⟩ := i_cell' hr (A k) (by rw [aL_len]; omega)
  rw [aL_get] at c1 c2
  refine ⟨A k, A (A k), h1, h2, hU.top k hk, hU.rr k hk, c1, f1, c2, fun hne w' e => ?_⟩
  subst e
  have s1 : Stay (fun k => k = ag) w (w.setCell ⟨ag, k, none⟩ (.int .i64 (A (A k)))) := Stay.setCell (F := fun k => k = ag) (p := ⟨ag, k, none⟩) (Stay.refl _ w) (fun _ => rfl) _
  have r1 := i_set hr (by rw [aL_len]) k (by rw [aL_len]; exact hk) (A (A k) : Nat)
  rw [aL_set] at r1
  refine ⟨h.abv' s1 r1 (hU.halve hk hne), s1, ?_, ?_⟩
  · rw [hU.rr _ (by omega), hU.rr _ hk]
  · rw [World.cell?_setCell_same _ _ _ c1]
set_option maxHeartbeats 4000000 in
set_option maxRecDepth 100000 in
theorem first_any (p mb ag : Nat) (iv : Value) (S : List Int) (R : Nat → Nat) (i : Nat) (w : World) (h : PU w p mb ag iv S R) (hi : i < S.length) :
    Calls Try.prog 25 #[Pt p, .int .i64 i] w fun e w' => e = .returned (.int .i64 (R i)) ∧ PU w' p mb ag iv S R ∧ Stay (fun k => k = ag) w w' := by
  obtain ⟨r, hr⟩ : ∃ r, R i = r := ⟨_, rfl⟩
  rw [hr]
  have H0 := Hid.mk hr
  clear hr
  have hS := h.ids.few
  have HP := Hid.mk h
  obtain ⟨n, hn⟩ : ∃ n, n = S.length := ⟨_, rfl⟩
  go_enter Try.func25, Try.ntmps25
  go_wp2
  go_loopw [1] (fun u wr => FI w p mb ag iv S R r u wr) (fun u _ => (intOf u).toNat)
  case atStart => exact ⟨i, rfl, hi, H0, HP.out, .refl _ _⟩
  case round =>
    obtain ⟨k, rfl, hk, HR, hP, st⟩ := hrel
    obtain ⟨a, b, ha, hb, hab, hra, c1, f1, c2, hnx⟩ := first_row hP hk
    obtain ⟨-, -, p2⟩ := hP.cells
    have HN := Hid.mk hnx
    have HQ := Hid.mk hP
    have HI := Hid.mk (And.intro hab hra)
    have HH := Hid.mk hn.symm
    rw [← hn] at p2 hk
    clear hP hnx hab hra h hn
    by_cases hak : a = k
    · have e : R k = k := HI.out.1.1 hak
      have HK := Hid.mk (show k = r from e.symm.trans HR.out)
      clear c2 e HR HN HI
      subst hak
      go_wp2
      go_ret
      exact ⟨by rw [HK.out]; rfl, HQ.out, st⟩
    · have hak' : ¬ ((a : Int) = (k : Int)) := by omega
      obtain ⟨q1, q2, q3, q4⟩ := HN.out hak _ rfl
      have HQ1 := Hid.mk (And.intro q1 (And.intro q2 q3))
      clear q1 q2 q3
      obtain ⟨V, hV⟩ : ∃ V, V = wr.setCell ⟨ag, k, none⟩ (.int .i64 b) := ⟨_, rfl⟩
      rw [← hV] at q4 HQ1
      obtain ⟨-, -, p3⟩ := HQ1.out.1.cells
      rw [HH.out] at p3
      have hVd : (wr.setCell ⟨ag, k, none⟩ (.int .i64 b)).drew = V.drew := by rw [hV]
      have hne : ((a : Int) != (k : Int)) = true := by simpa using hak'
      go_wp2
      go_region
      have p4 : V.drew.cell? ⟨p, 2, none⟩ = some (.slice (some ⟨ag, 0, none⟩) n n) := p3
      have q5 : V.drew.cell? ⟨ag, k, none⟩ = some (.int .i64 b) := q4
      go_wp2
      go_roundw
      case rel =>
        refine ⟨b, rfl, by rw [HH.out]; omega, ?_, HQ1.out.1.drew, (st.andThen HQ1.out.2.1 (fun _ _ h => h)).drew⟩
        have := HQ1.out.2.2
        exact this.trans HR.out
      case measure => simp [intOf]; omega
end Go.Proofs.Ytmhifofeobhhgaa
