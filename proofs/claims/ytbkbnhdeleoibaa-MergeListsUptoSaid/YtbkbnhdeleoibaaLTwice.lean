/-
  DERIVED. The document's own twice.
-/
import Derived.Test.YtbkbnhdeleoibaaMPure4
import Derived.Test.YtbkbnhdeleoibaaLRow
set_option linter.unusedVariables false
set_option linter.unusedSimpArgs false
namespace Go.Proofs.Ytbkbnhdeleoibaa
open Go.RowKit
/-- None so far, of those that were looked at. -/
def ND (R : List (List En)) (i j a b : Nat) : Prop := ∀ (i' j' a' b' : Nat) (ri rj : List En) (x y : En), R[i']? = some ri → R[j']? = some rj → ri[a']? = some x → rj[b']? = some y → j' < i' → (i' < i ∨ (i' = i ∧ (j' < j ∨ (j' = j ∧ (a' < a ∨ (a' = a ∧ b' < b)))))) → ¬ (x.s = y.s ∧ cpE x y = 0)
def Dup (R : List (List En)) : Prop := ∃ (i j : Nat) (ri rj : List En) (x y : En), j < i ∧ R[i]? = some ri ∧ R[j]? = some rj ∧ x ∈ ri ∧ y ∈ rj ∧ x.s = y.s ∧ cpE x y = 0
theorem ND.start (R : List (List En)) : ND R 0 0 0 0 := fun i' j' a' b' ri rj x y _ _ _ _ h1 h2 => by omega
theorem ND.nb {R : List (List En)} {i j a b : Nat} (h : ND R i j a b) {ri rj : List En} {x y : En} (hi : R[i]? = some ri) (hj : R[j]? = some rj) (ha : ri[a]? = some x) (hb : rj[b]? = some y) (hn : ¬ (x.s = y.s ∧ cpE x y = 0)) : ND R i j a (b + 1) := fun i' j' a' b' ri' rj' x' y' h1 h2 h3 h4 h5 h6 => by
  by_cases hc : i' = i ∧ j' = j ∧ a' = a ∧ b' = b
  · obtain ⟨rfl, rfl, rfl, rfl⟩ := hc
    rw [hi] at h1; cases h1
    rw [hj] at h2; cases h2
    rw [ha] at h3; cases h3
    rw [hb] at h4; cases h4
    exact hn
  · exact h i' j' a' b' ri' rj' x' y' h1 h2 h3 h4 h5 (by omega)
theorem ND.na {R : List (List En)} {i j a b : Nat} (h : ND R i j a b) {rj : List En} (hj : R[j]? = some rj) (hb : rj.length ≤ b) : ND R i j (a + 1) 0 := fun i' j' a' b' ri' rj' x' y' h1 h2 h3 h4 h5 h6 => by
  by_cases hc : j' = j
  · subst hc
    rw [hj] at h2; cases h2
    have := (List.getElem?_eq_some_iff.1 h4).1
    exact h i' j' a' b' ri' rj x' y' h1 hj h3 h4 h5 (by omega)
  · exact h i' j' a' b' ri' rj' x' y' h1 h2 h3 h4 h5 (by omega)
theorem ND.nj {R : List (List En)} {i j a : Nat} (h : ND R i j a 0) {ri : List En} (hi : R[i]? = some ri) (ha : ri.length ≤ a) : ND R i (j + 1) 0 0 := fun i' j' a' b' ri' rj' x' y' h1 h2 h3 h4 h5 h6 => by
  by_cases hc : i' = i
  · subst hc
    rw [hi] at h1; cases h1
    have := (List.getElem?_eq_some_iff.1 h3).1
    exact h i' j' a' b' ri rj' x' y' hi h2 h3 h4 h5 (by omega)
  · exact h i' j' a' b' ri' rj' x' y' h1 h2 h3 h4 h5 (by omega)
theorem ND.ni {R : List (List En)} {i j : Nat} (h : ND R i j 0 0) (hj : i ≤ j) : ND R (i + 1) 0 0 0 := fun i' j' a' b' ri' rj' x' y' h1 h2 h3 h4 h5 h6 => h i' j' a' b' ri' rj' x' y' h1 h2 h3 h4 h5 (by omega)
theorem ND.none {R : List (List En)} {i : Nat} (h : ND R i 0 0 0) (hi : R.length ≤ i) : ¬ Dup R := fun ⟨i', j', ri, rj, x, y, h1, h2, h3, h4, h5, h6, h7⟩ => by
  obtain ⟨a', ha⟩ := List.getElem?_of_mem h4
  obtain ⟨b', hb⟩ := List.getElem?_of_mem h5
  have := (List.getElem?_eq_some_iff.1 h2).1
  exact h i' j' a' b' ri rj x y h2 h3 ha hb h1 (by omega) ⟨h6, h7⟩
theorem rises_up : ∀ {l : List En}, rises l = true → l.Pairwise (fun a b => cpE a b < 0)
  | [], _ => List.Pairwise.nil
  | [a], _ => List.pairwise_singleton _ _
  | a :: b :: r, h => by
    rw [rises, Bool.and_eq_true, decide_eq_true_eq] at h
    have ih := rises_up (l := b :: r) h.2
    refine List.pairwise_cons.2 ⟨fun c hc => ?_, ih⟩
    rcases List.mem_cons.1 hc with rfl | hc
    · exact h.1
    · have h2 := (List.pairwise_cons.1 ih).1 c hc
      obtain ⟨k1, k2⟩ := cpE_tr a b c (by omega) (by omega)
      rcases Int.lt_or_eq_of_le k1 with k | k
      · exact k
      · have := (k2 k).1; omega
theorem dup_uniq {R : List (List En)} (hr : ∀ l ∈ R, rises l = true) : Dup R ↔ ¬ Uniq R.flatten := by
  constructor
  · rintro ⟨i, j, ri, rj, x, y, h1, h2, h3, h4, h5, h6, h7⟩ hu
    obtain ⟨hi, rfl⟩ := List.getElem?_eq_some_iff.1 h2
    obtain ⟨hj, rfl⟩ := List.getElem?_eq_some_iff.1 h3
    have h8 := (List.pairwise_flatten.1 hu).2
    have h9 := List.pairwise_iff_getElem.1 h8 j i hj hi h1 y h5 x h4 (by have := cpE_rev x y; omega)
    exact h9 h6.symm
  · intro hn
    refine Classical.byContradiction fun hd => hn (List.pairwise_flatten.2 ⟨fun l hl => (rises_up (hr l hl)).imp (fun {a b} hab hz => by omega), List.pairwise_iff_getElem.2 fun i j hi hj hij x hx y hy hz hs => ?_⟩)
    exact hd ⟨j, i, R[j], R[i], y, x, hij, List.getElem?_eq_getElem hj, List.getElem?_eq_getElem hi, hy, hx, hs.symm, by have := cpE_rev x y; omega⟩
def TwO (R : List (List En)) (w : World) (r : Ending) (w' : World) : Prop := ∃ b, r = .returned (.bool b) ∧ (b = true ↔ Dup R) ∧ Below w.heap.size w w'
def RQ1 (w : World) (R : List (List En)) (n : Nat) (u : Value) (wr : World) : Prop := ∃ i : Nat, u = .int .i64 i ∧ i ≤ n ∧ Hid (ND R i 0 0 0 ∧ Below w.heap.size w wr)
def RQ2 (w : World) (R : List (List En)) (i : Nat) (u : Value) (wr : World) : Prop := ∃ j : Nat, u = .int .i64 j ∧ j ≤ i ∧ Hid (ND R i j 0 0 ∧ Below w.heap.size w wr)
def RQ3 (w : World) (R : List (List En)) (i j m : Nat) (u : Value) (wr : World) : Prop := ∃ a : Nat, u = .int .i64 a ∧ a ≤ m ∧ Hid (ND R i j a 0 ∧ Below w.heap.size w wr)
def RQ4 (w : World) (R : List (List En)) (i j a m : Nat) (u : Value) (wr : World) : Prop := ∃ b : Nat, u = .int .i64 b ∧ b ≤ m ∧ Hid (ND R i j a b ∧ Below w.heap.size w wr)
set_option maxHeartbeats 4000000 in
set_option maxRecDepth 100000 in
theorem twice_any (R : List (List En)) (hR : ∀ r ∈ R, r.length ≤ 1048576) (la : Option Addr) (ca : Nat) (w : World) (ha : LL w la R) (hl : R.length ≤ 1048576) :
    Calls Try.prog 14 #[.slice la R.length ca] w (TwO R w) := by
  obtain ⟨n, hn⟩ : ∃ n, n = R.length := ⟨_, rfl⟩
  have HA := Hid.mk (And.intro ha (And.intro hR hn))
  rw [← hn] at hl ⊢
  clear ha hR hn
  go_enter Try.func14, Try.ntmps14
  go_wp2
  go_loopw [3] (fun u wr => RQ1 w R n u wr) (fun u _ => n - (intOf u).toNat)
  case atStart => exact ⟨0, rfl, Nat.zero_le _, ND.start R, Below.refl _ _⟩
  case round =>
    obtain ⟨i, rfl, hi, HI⟩ := hrel
    by_cases hlt : i < n
    · have i1 : (i : Int) < (n : Int) := by omega
      have i2 : (0 : Int) ≤ (i : Int) := by omega
      have hwi : IntKind.i64.wrap ((i : Int) + 1) = ((i + 1 : Nat) : Int) := by rw [IntKind.wrap_i64]; omega
      have hiR : i < R.length := by have := HA.out.2.2; omega
      obtain ⟨ri, hri⟩ : ∃ r, R[i]? = some r := ⟨_, List.getElem?_eq_getElem hiR⟩
      obtain ⟨g, off, ai, ci, e1, x0, -, hLi, -⟩ := HA.out.1.at' i ri hri
      subst e1
      obtain ⟨m, hm⟩ : ∃ m, m = ri.length := ⟨_, rfl⟩
      rw [← hm] at x0
      have hml : m ≤ 1048576 := by rw [hm]; exact HA.out.2.1 ri (List.mem_of_getElem? hri)
      have HX := Hid.mk (And.intro x0 (And.intro hLi (And.intro hm hri)))
      clear x0 hLi hm hri
      obtain ⟨w1, rfl⟩ : ∃ w1, w1 = wr := ⟨_, rfl⟩
      go_wp2
      go_loopw [4] (fun u wr => RQ2 w R i u wr) (fun u _ => i - (intOf u).toNat)
      case atStart => exact ⟨0, rfl, Nat.zero_le _, HI⟩
      case round =>
        clear HI
        obtain ⟨j, rfl, hj, HJ⟩ := hrel
        by_cases hjl : j < i
        · have j1 : (j : Int) < (i : Int) := by omega
          have j2 : (0 : Int) ≤ (j : Int) := by omega
          have j3 : (j : Int) < (n : Int) := by omega
          have hwj : IntKind.i64.wrap ((j : Int) + 1) = ((j + 1 : Nat) : Int) := by rw [IntKind.wrap_i64]; omega
          obtain ⟨rj, hrj⟩ : ∃ r, R[j]? = some r := ⟨_, List.getElem?_eq_getElem (by omega)⟩
          obtain ⟨g', off', aj, cj, e1, y0, -, hLj, -⟩ := HA.out.1.at' j rj hrj
          simp only [Option.some.injEq, Addr.mk.injEq] at e1
          obtain ⟨rfl, rfl, -⟩ := e1
          obtain ⟨m2, hm2⟩ : ∃ m, m = rj.length := ⟨_, rfl⟩
          rw [← hm2] at y0
          have hml2 : m2 ≤ 1048576 := by rw [hm2]; exact HA.out.2.1 rj (List.mem_of_getElem? hrj)
          have HY := Hid.mk (And.intro y0 (And.intro hLj (And.intro hm2 hrj)))
          clear y0 hLj hm2 hrj
          obtain ⟨w2, rfl⟩ : ∃ w2, w2 = wr := ⟨_, rfl⟩
          go_wp2
          go_loopw [5] (fun u wr => RQ3 w R i j m u wr) (fun u _ => m - (intOf u).toNat)
          case atStart => exact ⟨0, rfl, Nat.zero_le _, HJ⟩
          case round =>
            clear HJ
            obtain ⟨a, rfl, ha, HA2⟩ := hrel
            have x0 := cell_lat HA2.out.2 HX.out.1
            by_cases hal : a < m
            · have a1 : (a : Int) < (m : Int) := by omega
              have a2 : (0 : Int) ≤ (a : Int) := by omega
              have hwa : IntKind.i64.wrap ((a : Int) + 1) = ((a + 1 : Nat) : Int) := by rw [IntKind.wrap_i64]; omega
              have har : a < ri.length := by have := HX.out.2.2.1; omega
              obtain ⟨gi, oi, ei, z0, z1, z2, z3, z4⟩ := HX.out.2.1.hit (W := w) (fun _ _ => rfl) a har
              subst ei
              obtain ⟨f, hf⟩ : ∃ f, f = ri[a] := ⟨_, rfl⟩
              rw [← hf] at z0 z1 z2 z3 z4
              have HZ := Hid.mk (And.intro z0 (And.intro z1 (And.intro z2 (And.intro z3 (And.intro z4 (show ri[a]? = some f by rw [hf]; exact List.getElem?_eq_getElem har))))))
              clear z0 z1 z2 z3 z4 hf
              obtain ⟨w3, rfl⟩ : ∃ w3, w3 = wr := ⟨_, rfl⟩
              go_wp2
              clear x0
              go_loopw [6] (fun u wr => RQ4 w R i j a m2 u wr) (fun u _ => m2 - (intOf u).toNat)
              case atStart => exact ⟨0, rfl, Nat.zero_le _, HA2⟩
              case round =>
                clear HA2
                obtain ⟨b, rfl, hb, HB2⟩ := hrel
                have bw := HB2.out.2
                have x0 := cell_lat bw HX.out.1
                have y0 := cell_lat bw HY.out.1
                by_cases hbl : b < m2
                · have b1 : (b : Int) < (m2 : Int) := by omega
                  have b2 : (0 : Int) ≤ (b : Int) := by omega
                  have hwb : IntKind.i64.wrap ((b : Int) + 1) = ((b + 1 : Nat) : Int) := by rw [IntKind.wrap_i64]; omega
                  have hbr : b < rj.length := by have := HY.out.2.2.1; omega
                  obtain ⟨gj, oj, ej, v0, v1, v2, v3, v4⟩ := HY.out.2.1.hit (W := w) (fun _ _ => rfl) b hbr
                  subst ej
                  obtain ⟨f2, hf2⟩ : ∃ f, f = rj[b] := ⟨_, rfl⟩
                  rw [← hf2] at v0 v1 v2 v3 v4
                  have hfb : rj[b]? = some f2 := by rw [hf2]; exact List.getElem?_eq_getElem hbr
                  have z0 := cell_lat bw HZ.out.1
                  have z1 := cell_lat bw HZ.out.2.1
                  have z2 := cell_lat bw HZ.out.2.2.1
                  have z3 := cell_lat bw HZ.out.2.2.2.1
                  have z4 := cell_lat bw HZ.out.2.2.2.2.1
                  replace v0 := cell_lat bw v0
                  replace v1 := cell_lat bw v1
                  replace v2 := cell_lat bw v2
                  replace v3 := cell_lat bw v3
                  replace v4 := cell_lat bw v4
                  have hcmp := rcompare_any f f2
                  obtain ⟨z, hz⟩ : ∃ z, z = cpE f f2 := ⟨_, rfl⟩
                  rw [← hz] at hcmp
                  simp only [enC] at hcmp
                  have HB3 : Hid (¬ (f.s = f2.s ∧ z = 0) → ∀ W, Below wr.heap.size wr W → RQ4 w R i j a m2 (.int .i64 ((b + 1 : Nat) : Int)) W) := fun hno W hW => ⟨b + 1, rfl, hbl, HB2.out.1.nb HX.out.2.2.2 HY.out.2.2.2 HZ.out.2.2.2.2.2 hfb (by rw [← hz]; exact hno), bw.trans (hW.mono bw.size)⟩
                  have HB4 : Hid (f.s = f2.s → z = 0 → Dup R) := fun h1 h2 => ⟨i, j, ri, rj, f, f2, hjl, HX.out.2.2.2, HY.out.2.2.2, List.mem_of_getElem? HZ.out.2.2.2.2.2, List.mem_of_getElem? hfb, h1, by rw [← hz]; exact h2⟩
                  have HB5 := Hid.mk bw
                  clear hf2 hfb hz bw HB2
                  by_cases hs : f.s = f2.s
                  · have hs1 : (f.s == f2.s) = true := by simpa using hs
                    have HS := Hid.mk hs
                    clear hs
                    by_cases hz0 : z = 0
                    · have hz1 : (z == 0) = true := by simpa using hz0
                      have HD := Hid.mk (HB4.out HS.out hz0)
                      clear HB3 HB4 hz0
                      go_wp2
                      go_region_held (fun w' => Below wr.heap.size wr w' ∧ w'.cell? ⟨g, off + i, none⟩ = some (.slice (some ⟨gi, oi, none⟩) m ci) ∧ w'.cell? ⟨g, off + j, none⟩ = some (.slice (some ⟨gj, oj, none⟩) m2 cj) ∧ w'.cell? ⟨gi, oi + a * 5, none⟩ = some (.int .i64 f.v) ∧ w'.cell? ⟨gi, oi + a * 5 + 1, none⟩ = some (.string f.c) ∧ w'.cell? ⟨gi, oi + a * 5 + 2, none⟩ = some (.int .i64 f.i) ∧ w'.cell? ⟨gi, oi + a * 5 + 3, none⟩ = some (.int .i64 f.s) ∧ w'.cell? ⟨gi, oi + a * 5 + 4, none⟩ = some (.bool f.d) ∧ w'.cell? ⟨gj, oj + b * 5, none⟩ = some (.int .i64 f2.v) ∧ w'.cell? ⟨gj, oj + b * 5 + 1, none⟩ = some (.string f2.c) ∧ w'.cell? ⟨gj, oj + b * 5 + 2, none⟩ = some (.int .i64 f2.i) ∧ w'.cell? ⟨gj, oj + b * 5 + 3, none⟩ = some (.int .i64 f2.s) ∧ w'.cell? ⟨gj, oj + b * 5 + 4, none⟩ = some (.bool f2.d))
                        ((refine (fun hb => ⟨hb, cell_lat hb x0, cell_lat hb y0, cell_lat hb z0, cell_lat hb z1, cell_lat hb z2, cell_lat hb z3, cell_lat hb z4, cell_lat hb v0, cell_lat hb v1, cell_lat hb v2, cell_lat hb v3, cell_lat hb v4⟩) ?_; first | exact bb | exact b_drew wr))
                        ((go_at_call 20; refine (hcmp _).mono ?_; clear hcmp; rintro r w4 ⟨rfl, b4⟩; have bb : Below wr.heap.size wr w4 := below_d b4))
                      all_goals
                        have HE := Hid.mk (HB5.out.trans (bb.mono HB5.out.size))
                        clear bb b4
                        go_wp2
                        go_ret
                        exact ⟨true, rfl, ⟨fun _ => HD.out, fun _ => rfl⟩, HE.out⟩
                    · have hz1 : (z == 0) = false := by simpa using hz0
                      have HN0 := Hid.mk (HB3.out (fun h => hz0 h.2))
                      clear HB3 HB4 hz0
                      go_wp2
                      go_region_held (fun w' => Below wr.heap.size wr w' ∧ w'.cell? ⟨g, off + i, none⟩ = some (.slice (some ⟨gi, oi, none⟩) m ci) ∧ w'.cell? ⟨g, off + j, none⟩ = some (.slice (some ⟨gj, oj, none⟩) m2 cj) ∧ w'.cell? ⟨gi, oi + a * 5, none⟩ = some (.int .i64 f.v) ∧ w'.cell? ⟨gi, oi + a * 5 + 1, none⟩ = some (.string f.c) ∧ w'.cell? ⟨gi, oi + a * 5 + 2, none⟩ = some (.int .i64 f.i) ∧ w'.cell? ⟨gi, oi + a * 5 + 3, none⟩ = some (.int .i64 f.s) ∧ w'.cell? ⟨gi, oi + a * 5 + 4, none⟩ = some (.bool f.d) ∧ w'.cell? ⟨gj, oj + b * 5, none⟩ = some (.int .i64 f2.v) ∧ w'.cell? ⟨gj, oj + b * 5 + 1, none⟩ = some (.string f2.c) ∧ w'.cell? ⟨gj, oj + b * 5 + 2, none⟩ = some (.int .i64 f2.i) ∧ w'.cell? ⟨gj, oj + b * 5 + 3, none⟩ = some (.int .i64 f2.s) ∧ w'.cell? ⟨gj, oj + b * 5 + 4, none⟩ = some (.bool f2.d))
                        ((refine (fun hb => ⟨hb, cell_lat hb x0, cell_lat hb y0, cell_lat hb z0, cell_lat hb z1, cell_lat hb z2, cell_lat hb z3, cell_lat hb z4, cell_lat hb v0, cell_lat hb v1, cell_lat hb v2, cell_lat hb v3, cell_lat hb v4⟩) ?_; first | exact bb | exact b_drew wr))
                        ((go_at_call 20; refine (hcmp _).mono ?_; clear hcmp; rintro r w4 ⟨rfl, b4⟩; have bb : Below wr.heap.size wr w4 := below_d b4))
                      all_goals
                        have HN := Hid.mk (HN0.out _ bb)
                        clear bb b4
                        go_wp2
                        exact ⟨HN.out, by simp only [intOf]; omega⟩
                  · have hs1 : (f.s == f2.s) = false := by simpa using hs
                    have HN0 := Hid.mk (HB3.out (fun h => hs h.1))
                    clear hs HB3 HB4 hcmp
                    go_wp2
                    go_quiet (fail)
                    have b6 : Below wr.heap.size wr (wr.drewN nq) := Drew.below ⟨nq, rfl⟩ _
                    have HN := Hid.mk (HN0.out _ b6)
                    clear HN0 b6
                    go_wp2
                    exact ⟨HN.out, by simp only [intOf]; omega⟩
                · have b1 : ¬ (b : Int) < (m2 : Int) := by omega
                  have HN : Hid (RQ3 w R i j m (.int .i64 ((a + 1 : Nat) : Int)) wr) := ⟨a + 1, rfl, hal, HB2.out.1.na HY.out.2.2.2 (by have := HY.out.2.2.1; omega), HB2.out.2⟩
                  clear HB2 bw
                  go_wp2
                  exact ⟨HN.out, by simp only [intOf]; omega⟩
            · have a1 : ¬ (a : Int) < (m : Int) := by omega
              have HN : Hid (RQ2 w R i (.int .i64 ((j + 1 : Nat) : Int)) wr) := ⟨j + 1, rfl, hjl, HA2.out.1.nj HX.out.2.2.2 (by have := HX.out.2.2.1; omega), HA2.out.2⟩
              clear HA2
              go_wp2
              exact ⟨HN.out, by simp only [intOf]; omega⟩
        · have j1 : ¬ (j : Int) < (i : Int) := by omega
          have HN : Hid (RQ1 w R n (.int .i64 ((i + 1 : Nat) : Int)) wr) := ⟨i + 1, rfl, hlt, HJ.out.1.ni (by omega), HJ.out.2⟩
          clear HJ
          go_wp2
          exact ⟨HN.out, by simp only [intOf]; omega⟩
    · have i1 : ¬ (i : Int) < (n : Int) := by omega
      have HE := Hid.mk (And.intro (HI.out.1.none (by have := HA.out.2.2; omega)) HI.out.2)
      clear HI
      go_wp2
      go_ret
      exact ⟨false, rfl, ⟨fun h => (by cases h), fun h => absurd h HE.out.1⟩, HE.out.2⟩
end Go.Proofs.Ytbkbnhdeleoibaa
