/-
  DERIVED. The law's look at two lists of groups.
-/
import Derived.Test.YtmhifofeobhhgaaUGrp2
set_option linter.unusedVariables false
set_option linter.unusedSimpArgs false
namespace Go.Proofs.Ytmhifofeobhhgaa
open Go.RowKit Go.Proofs.UnionMath
theorem GL.drew {B : Nat} {w w' : World} {v : Value} {ss : List Sl} {L : List (List Int)} (h : GL B w v ss L) (d : Drew w w') : GL B w' v ss L := h.below (d.below _)
/-- What a list of groups reads as at a place. -/
theorem GL.at_ {B : Nat} {w : World} {v : Value} {ss : List Sl} {L : List (List Int)} (h : GL B w v ss L) (i : Nat) (hi : i < L.length) (X : List Int) (hX : X = L[i]) : ∃ g c a cc, v = .slice (some ⟨g, 0, none⟩) L.length c ∧ w.cell? ⟨g, i, none⟩ = some (.slice a X.length cc) ∧ ∀ k (hk : k < X.length), ∃ b, a = some ⟨b, 0, none⟩ ∧ w.cell? ⟨b, k, none⟩ = some (.int .i64 X[k]) := by
  subst hX
  have hi' : i < ss.length := by rw [h.len]; exact hi
  obtain ⟨g, c, e, -⟩ := El.cells gOk h.row i hi'
  subst e
  have c0 := (g_cell h.row i hi').1
  have r := h.each i hi' hi
  obtain ⟨a, cc, e', -⟩ := El.Row.form r
  rw [e'] at c0 r
  refine ⟨g, c, a, cc, by rw [h.len], c0, fun k hk => ?_⟩
  obtain ⟨b, cap, e2, k0, -⟩ := i_cell r k hk
  injection e2 with e3
  exact ⟨b, e3, k0⟩
set_option maxHeartbeats 8000000 in
set_option maxRecDepth 100000 in
theorem same_groups (B1 B2 : Nat) (v1 v2 : Value) (s1 s2 : List Sl) (L : List (List Int)) (w : World) (h1 : GL B1 w v1 s1 L) (h2 : GL B2 w v2 s2 L) (hf : L.length ≤ 1048577) (hl : ∀ X ∈ L, X.length ≤ 1048577) :
    Calls Try.prog 7 #[v1, v2] w fun e w' => e = .returned (.bool true) ∧ Drew w w' := by
  obtain ⟨n, hn⟩ : ∃ n, L.length = n := ⟨_, rfl⟩
  obtain ⟨a1, c1, e1, -⟩ := h1.row.form
  obtain ⟨a2, c2, e2, -⟩ := h2.row.form
  rw [h1.len, hn] at e1
  rw [h2.len, hn] at e2
  rw [hn] at hf
  have HH := Hid.mk (And.intro h1 (And.intro h2 (And.intro hn hl)))
  clear h1 h2 hn hl
  subst e1 e2
  go_enter Try.func7, Try.ntmps7
  go_wp2
  go_loopw [5] (fun u wr => ∃ i : Nat, u = .int .i64 i ∧ i ≤ n ∧ Drew w wr) (fun u _ => n - (intOf u).toNat)
  case atStart => exact ⟨0, rfl, Nat.zero_le _, Drew.refl _⟩
  case round =>
    obtain ⟨i, rfl, hin, hd⟩ := hrel
    by_cases hlt : i < n
    · have hlt' : (i : Int) < (n : Int) := by omega
      have hil : i < L.length := by rw [HH.out.2.2.1]; exact hlt
      obtain ⟨X, hX⟩ : ∃ X, X = L[i] := ⟨_, rfl⟩
      obtain ⟨g1, c1', b1, d1, q1, x1, y1⟩ := (HH.out.1.drew hd).at_ i hil X hX
      obtain ⟨g2, c2', b2, d2, q2, x2, y2⟩ := (HH.out.2.1.drew hd).at_ i hil X hX
      injection q1 with q1
      injection q2 with q2
      subst q1 q2
      have hll := HH.out.2.2.2 L[i] (List.getElem_mem hil)
      rw [← hX] at hll
      obtain ⟨m, hm⟩ : ∃ m, m = X.length := ⟨_, rfl⟩
      rw [← hm] at x1 x2 hll
      have wi : IntKind.i64.wrap ((i : Int) + 1) = ((i + 1 : Nat) : Int) := i64_in _ (by omega) (by omega)
      have HY := Hid.mk (And.intro y1 (And.intro y2 (And.intro hm (And.intro x1 x2))))
      obtain ⟨wz, hwz⟩ : ∃ wz, wz = wr := ⟨_, rfl⟩
      subst hwz
      have HD := Hid.mk hd
      clear y1 y2 hX hil hm hlt hd
      go_wp2
      go_region
      go_wp2_with fail
      go_loopw [6] (fun u wr => ∃ k : Nat, u = .int .i64 k ∧ k ≤ m ∧ Drew wz wr) (fun u _ => m - (intOf u).toNat)
      case atStart => exact ⟨0, rfl, Nat.zero_le _, (by first | exact Drew.refl _ | exact ⟨1, rfl⟩)⟩
      case round =>
        obtain ⟨k, rfl, hkm, hd2⟩ := hrel
        clear x1 x2
        have x1 : wr.cell? ⟨g1, i, none⟩ = some (.slice b1 m d1) := cell_lat (hd2.below _) HY.out.2.2.2.1
        have x2 : wr.cell? ⟨g2, i, none⟩ = some (.slice b2 m d2) := cell_lat (hd2.below _) HY.out.2.2.2.2
        by_cases hkl : k < m
        · have hkl' : (k : Int) < (m : Int) := by omega
          have hkX : k < X.length := by have := HY.out.2.2.1; omega
          obtain ⟨o1, ho1, z1⟩ := HY.out.1 k hkX
          obtain ⟨o2, ho2, z2⟩ := HY.out.2.1 k hkX
          replace z1 := cell_lat (hd2.below _) z1
          replace z2 := cell_lat (hd2.below _) z2
          subst ho1 ho2
          obtain ⟨x, hx⟩ : ∃ x, x = X[k] := ⟨_, rfl⟩
          rw [← hx] at z1 z2
          have wk : IntKind.i64.wrap ((k : Int) + 1) = ((k + 1 : Nat) : Int) := i64_in _ (by omega) (by omega)
          have HD2 : Hid (Drew wz wr.drew) := Hid.mk hd2.drew
          clear hx hkX hkl hd2
          go_wp2
          go_region
          go_wp2
          go_roundw
          case rel => exact ⟨k + 1, by go_num, by omega, HD2.out⟩
          case measure => simp [intOf]; omega
        · have hkl' : ¬ (k : Int) < (m : Int) := by omega
          have HD2 : Hid (Drew w wr) := Hid.mk (HD.out.trans hd2)
          clear hkl hd2
          go_wp2
          go_roundw
          case rel => exact ⟨i + 1, by go_num, by omega, HD2.out⟩
          case measure => simp [intOf]; omega
    · have hlt' : ¬ (i : Int) < (n : Int) := by omega
      clear hlt
      go_wp2
      go_ret
      exact ⟨rfl, hd⟩
end Go.Proofs.Ytmhifofeobhhgaa
