/-
  DERIVED. The law's kept.
-/
import Derived.Test.YtbkbnhdeleoibaaLTwin
set_option linter.unusedVariables false
set_option linter.unusedSimpArgs false
namespace Go.Proofs.Ytbkbnhdeleoibaa
open Go.RowKit
/-- How far the lists' cells are looked at. -/
def RK (w : World) (n : Nat) (u : Value) (wr : World) : Prop := ∃ i : Nat, u = .int .i64 i ∧ i ≤ n ∧ Below w.heap.size w wr
set_option maxHeartbeats 4000000 in
set_option maxRecDepth 100000 in
theorem kept_any (B : Nat) (R : List (List En)) (hR : ∀ r ∈ R, r.length ≤ 1048576) (la : Option Addr) (ca : Nat) (g c : Nat) (ss : List Value) (w : World) (ha : LL w la R) (hl : R.length ≤ 1048576) (hc : R.length + 64 ≤ c) (hT : TB B w (.slice (some ⟨g, 0, none⟩) (R.length + 64) c) ss R 64) :
    Calls Try.prog 10 #[.slice (some ⟨g, 0, none⟩) R.length c, .slice la R.length ca] w fun e w' => e = .returned (.bool true) ∧ Below w.heap.size w w' := by
  obtain ⟨n, hn⟩ : ∃ n, n = R.length := ⟨_, rfl⟩
  have HA := Hid.mk (And.intro ha (And.intro hR (And.intro hn hT)))
  rw [← hn] at hl hc ⊢
  clear ha hR hn hT
  go_enter Try.func10, Try.ntmps10
  go_wp2
  go_loopw [5] (fun u wr => RK w n u wr) (fun u _ => n - (intOf u).toNat)
  case atStart => exact ⟨0, rfl, Nat.zero_le _, Below.refl _ _⟩
  case round =>
    obtain ⟨i, rfl, hi, hB⟩ := hrel
    have HB := Hid.mk hB
    clear hB
    obtain ⟨w1, rfl⟩ : ∃ w1, w1 = wr := ⟨_, rfl⟩
    have hss := HA.out.2.2.2.len
    have hnR := HA.out.2.2.1
    have hrow := HA.out.2.2.2.row
    rw [hss] at hrow
    by_cases hlt : i < n
    · have i1 : (i : Int) < (n : Int) := by omega
      have i2 : (0 : Int) ≤ (i : Int) := by omega
      have hiR : i < R.length := by omega
      obtain ⟨r, hr⟩ : ∃ r, r = R[i] := ⟨_, rfl⟩
      have hri : R[i]? = some r := by rw [hr]; exact List.getElem?_eq_getElem hiR
      have hrR : r ∈ R := by rw [hr]; exact List.getElem_mem hiR
      obtain ⟨lg, off, a, lc, e1, x0, hlcap, hLr, hrl⟩ := HA.out.1.at' i r hri
      clear hlcap hrl
      subst e1
      replace x0 := cell_lat HB.out x0
      obtain ⟨b, bc, s1, s2⟩ := HA.out.2.2.2.each i r hri
      have y0 : w.cell? ⟨g, i, none⟩ = some (.slice (some ⟨b, 0, none⟩) r.length bc) := by rw [World.ownsRow.cellAt hrow i (by omega), s1]
      replace y0 := cell_lat HB.out y0
      have hrow2 := HRow.below (row_pre (n := r.length) s2 (by simp) (by omega)) HB.out
      rw [List.take_left' rfl] at hrow2
      obtain ⟨_, hbc⟩ := HRow.some s2 (by omega)
      have hLt : LAt w1 (some ⟨b, 0, none⟩) r := by
        obtain ⟨a9, c9, e9, h9⟩ := HRow.lat hrow2
        simp only [Value.slice.injEq] at e9
        rw [e9.1]; exact h9
      have hwi : IntKind.i64.wrap ((i : Int) + 1) = ((i + 1 : Nat) : Int) := by rw [IntKind.wrap_i64]; omega
      obtain ⟨m, hm⟩ : ∃ m, m = r.length := ⟨_, rfl⟩
      have hml : m ≤ 1048576 := by have := HA.out.2.1 r hrR; omega
      have hsame := same_any r (some ⟨b, 0, none⟩) a bc lc
      rw [← hm] at hsame x0 y0
      have HS := Hid.mk (And.intro hLt (And.intro (hLr.below HB.out) (And.intro (HRow.below s2 HB.out) hm)))
      have Y0 := Hid.mk y0
      have hsame' : ∀ W, Below w1.heap.size w1 W → Calls Try.prog 9 #[.slice (some ⟨b, 0, none⟩) m bc, .slice a m lc] W fun e w' => e = .returned (.bool true) ∧ Below W.heap.size W w' := fun W hW => by
        have := hsame W (HS.out.1.below hW) (HS.out.2.1.below hW) (by omega)
        refine this.mono ?_
        rintro e w' ⟨rfl, d⟩
        exact ⟨rfl, d.below _⟩
      have hbcm : m + 64 ≤ bc := by omega
      clear hr hri hrR hLr hm s1 s2 hrow2 hLt hsame hrow hbc hss hnR
      go_wp2
      go_region_held (fun w' => Below w1.heap.size w1 w' ∧ w'.cell? ⟨g, i, none⟩ = some (.slice (some ⟨b, 0, none⟩) m bc) ∧ w'.cell? ⟨lg, off + i, none⟩ = some (.slice a m lc))
        ((refine (fun hb => ⟨hb, cell_lat hb y0, cell_lat hb x0⟩) ?_; first | exact bb | exact b_drew w1))
        ((go_at_call 9; refine (hsame' _ (b_drew w1)).mono ?_; clear hsame'; rintro e w4 ⟨rfl, t4⟩; have bb : Below w1.heap.size w1 w4 := below_d t4))
      all_goals
        clear t4
        replace x0 := cell_lat bb x0
        replace y0 := cell_lat bb y0
        go_wp2
        rw [show m + 64 - m = 64 by omega]
        clear x0 y0
        go_loopw [9] (fun u wr => RK w4 64 u wr) (fun u _ => 64 - (intOf u).toNat)
        case atStart => exact ⟨0, rfl, Nat.zero_le _, Below.refl _ _⟩
        case round =>
          obtain ⟨j, rfl, hj, hB⟩ := hrel
          by_cases hjl : j < 64
          · have j1 : (j : Int) < 64 := by omega
            have j2 : (0 : Int) ≤ (j : Int) := by omega
            have hrow := HRow.below (HRow.below HS.out.2.2.1 bb) hB
            have hmr := HS.out.2.2.2
            obtain ⟨b', c', e', v0, v1, v2, v3, v4, -⟩ := HRow.at' hrow (m + j) (by simp; omega)
            simp only [Value.slice.injEq, Option.some.injEq, Addr.mk.injEq] at e'
            obtain ⟨⟨rfl, -, -⟩, -, -⟩ := e'
            rw [List.getElem_append_right (by omega), List.getElem_replicate] at v0 v1 v2 v3 v4
            rw [show (m + j) * 5 = m * 5 + j * 5 from Nat.add_mul _ _ _] at v0 v1 v2 v3 v4
            simp only [mk1, mkE] at v0 v1 v2 v3 v4
            have hmc := fun W => mark_any (1000 + (i : Int)) (by omega) (by omega) W
            simp only [enC, mkE] at hmc
            have hw1000 : IntKind.i64.wrap (1000 + (i : Int)) = 1000 + (i : Int) := by rw [IntKind.wrap_i64]; omega
            have hwj : IntKind.i64.wrap ((j : Int) + 1) = ((j + 1 : Nat) : Int) := by rw [IntKind.wrap_i64]; omega
            have HN : Hid (∀ W, Below wr.heap.size wr W → RK w4 64 (.int .i64 ((j + 1 : Nat) : Int)) W) := fun W hW => ⟨j + 1, rfl, hjl, hB.trans (hW.mono hB.size)⟩
            clear hrow hmr HS HB hB bb
            go_wp2
            go_region_held (fun w' => Below wr.heap.size wr w' ∧ w'.cell? ⟨b, m * 5 + j * 5, none⟩ = some (.int .i64 (-(1000 + (i : Int)))) ∧ w'.cell? ⟨b, m * 5 + j * 5 + 1, none⟩ = some (.string ⟨#[109, 97, 114, 107]⟩) ∧ w'.cell? ⟨b, m * 5 + j * 5 + 2, none⟩ = some (.int .i64 (-(1000 + (i : Int)))) ∧ w'.cell? ⟨b, m * 5 + j * 5 + 3, none⟩ = some (.int .i64 (-(1000 + (i : Int)))) ∧ w'.cell? ⟨b, m * 5 + j * 5 + 4, none⟩ = some (.bool false))
              ((refine (fun hb => ⟨hb, cell_lat hb v0, cell_lat hb v1, cell_lat hb v2, cell_lat hb v3, cell_lat hb v4⟩) ?_; first | exact bc2 | exact b_drew wr))
              ((go_at_call 12; refine (hmc _).mono ?_; clear hmc; rintro _ w8 ⟨rfl, b8⟩; have bc2 : Below wr.heap.size wr w8 := below_d b8))
            all_goals
              have HN2 := Hid.mk (HN.out _ bc2)
              clear bc2 b8 HN
              go_wp2
              exact ⟨HN2.out, by simp only [intOf]; omega⟩
          · have j1 : ¬ (j : Int) < 64 := by omega
            have HN : Hid (RK w n (.int .i64 ((i + 1 : Nat) : Int)) wr) := ⟨i + 1, rfl, hlt, HB.out.trans ((bb.mono HB.out.size).trans (hB.mono (Nat.le_trans HB.out.size bb.size)))⟩
            clear HS HB hB bb
            go_wp2
            exact ⟨HN.out, by simp only [intOf]; omega⟩
    · have i1 : ¬ (i : Int) < (n : Int) := by omega
      obtain rfl : i = n := by omega
      have hcm : (i : Int) ≤ (c : Int) := by omega
      clear hrow hss hnR
      go_wp2
      go_loopw [11] (fun u wr => RK w1 64 u wr) (fun u _ => 64 - (intOf u).toNat)
      case atStart => exact ⟨0, rfl, Nat.zero_le _, Below.refl _ _⟩
      case round =>
        obtain ⟨j, rfl, hj, hB⟩ := hrel
        have b2 : Below w.heap.size w wr := HB.out.trans (hB.mono HB.out.size)
        by_cases hjl : j < 64
        · have j1 : (j : Int) < 64 := by omega
          have j2 : (0 : Int) ≤ (j : Int) := by omega
          have hss := HA.out.2.2.2.len
          have hrow := HA.out.2.2.2.row
          rw [hss] at hrow
          have hnR := HA.out.2.2.1
          obtain ⟨b, bc, s1, s2⟩ := HA.out.2.2.2.tail (i + j) (by omega) (by omega)
          have y0 : w.cell? ⟨g, i + j, none⟩ = some (.slice (some ⟨b, 0, none⟩) 1 bc) := by rw [World.ownsRow.cellAt hrow (i + j) (by omega), s1]
          replace y0 := cell_lat b2 y0
          obtain ⟨b', c', e', v0, v1, v2, v3, v4, -⟩ := HRow.at' (HRow.below s2 b2) 0 (by simp)
          simp only [Value.slice.injEq, Option.some.injEq, Addr.mk.injEq] at e'
          obtain ⟨⟨rfl, -, -⟩, -, -⟩ := e'
          simp only [List.getElem_cons_zero, mk9, mkE, Nat.zero_mul, Nat.zero_add] at v0 v1 v2 v3 v4
          have hmc := fun W => mark_any 999 (by omega) (by omega) W
          simp only [enC, mkE] at hmc
          have hwj : IntKind.i64.wrap ((j : Int) + 1) = ((j + 1 : Nat) : Int) := by rw [IntKind.wrap_i64]; omega
          have HN : Hid (∀ W, Below wr.heap.size wr W → RK w1 64 (.int .i64 ((j + 1 : Nat) : Int)) W) := fun W hW => ⟨j + 1, rfl, hjl, hB.trans (hW.mono hB.size)⟩
          clear hrow hss s1 s2 hB b2 hnR
          go_wp2
          go_region_held (fun w' => Below wr.heap.size wr w' ∧ w'.cell? ⟨g, i + j, none⟩ = some (.slice (some ⟨b, 0, none⟩) 1 bc) ∧ w'.cell? ⟨b, 0, none⟩ = some (.int .i64 (-999)) ∧ w'.cell? ⟨b, 1, none⟩ = some (.string ⟨#[109, 97, 114, 107]⟩) ∧ w'.cell? ⟨b, 2, none⟩ = some (.int .i64 (-999)) ∧ w'.cell? ⟨b, 3, none⟩ = some (.int .i64 (-999)) ∧ w'.cell? ⟨b, 4, none⟩ = some (.bool false))
            ((refine (fun hb => ⟨hb, cell_lat hb y0, cell_lat hb v0, cell_lat hb v1, cell_lat hb v2, cell_lat hb v3, cell_lat hb v4⟩) ?_; first | exact bc2 | exact b_drew wr))
            ((go_at_call 12; refine (hmc _).mono ?_; clear hmc; rintro _ w8 ⟨rfl, b8⟩; have bc2 : Below wr.heap.size wr w8 := below_d b8))
          all_goals
            have HN2 := Hid.mk (HN.out _ bc2)
            clear bc2 b8 HN
            go_wp2
            exact ⟨HN2.out, by simp only [intOf]; omega⟩
        · have j1 : ¬ (j : Int) < 64 := by omega
          have HE := Hid.mk b2
          clear hB b2 HB
          go_wp2
          go_ret
          exact ⟨rfl, HE.out⟩
end Go.Proofs.Ytbkbnhdeleoibaa
