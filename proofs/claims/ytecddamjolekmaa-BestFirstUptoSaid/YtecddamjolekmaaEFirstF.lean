/-
  DERIVED. First of several lists.
-/
import Derived.Test.YtecddamjolekmaaEParts0
import Derived.Test.YtecddamjolekmaaEHanded
set_option linter.unusedVariables false
set_option linter.unusedSimpArgs false
namespace Go.Proofs.Ytecddamjolekmaa
open Classical
open Go.RowKit
def RF1 (w : World) (t k kp : Nat) (R : List (List Ht)) (u : Value) (wr : World) : Prop := ∃ i : Nat, u = .int .i64 i ∧ i ≤ R.length ∧ Hid (Own w wr t k kp (topL k (R.take i).flatten))
def RF2 (w : World) (t k kp : Nat) (P r : List Ht) (u : Value) (wr : World) : Prop := ∃ j : Nat, u = .int .i64 j ∧ j ≤ r.length ∧ Hid (Own w wr t k kp (topL k (P ++ r.take j)))
theorem topL_one (k : Nat) (P r : List Ht) (j : Nat) (hj : j < r.length) : topL k (P ++ r.take (j + 1)) = putK k r[j] (topL k (P ++ r.take j)) := by
  rw [List.take_succ_eq_append_getElem hj, ← List.append_assoc, topL_snoc]; rfl
set_option maxHeartbeats 2000000 in
set_option maxRecDepth 100000 in
theorem firstF_any (k : Nat) (hk : k ≤ 4096) (R : List (List Ht)) (hR : ∀ r ∈ R, r.length < 4611686018427387904 ∧ ∀ x ∈ r, HtW x) (la : Option Addr) (ca : Nat) (w : World) (ha : LL w la R) (hl : R.length < 4611686018427387904) :
    Calls Try.prog 7 #[.int .i64 k, .slice la R.length ca] w fun e w' => ∃ v, e = .returned (.tuple #[v, .int .i64 0]) ∧ Told w w' v (topL k R.flatten) := by
  have hnew := newTop_any k hk w
  obtain ⟨n, hn⟩ : ∃ n, n = R.length := ⟨_, rfl⟩
  have HA := Hid.mk (And.intro ha (And.intro hR hn))
  rw [← hn] at hl ⊢
  clear ha hR hn
  go_enter Try.func7, Try.ntmps7
  go_wp2_with (go_at_call 14; refine hnew.mono ?_; clear hnew; rintro r w2 ⟨t, kp, rfl, T2, F2, t2⟩)
  have O2 : Hid (Own w w2 t k kp []) := ⟨T2, F2.1, t2, F2.2⟩
  clear T2 F2 t2
  go_loopw [22] (fun u wr => RF1 w t k kp R u wr) (fun u _ => n - (intOf u).toNat)
  case atStart => exact ⟨0, rfl, Nat.zero_le _, O2⟩
  case round =>
    clear O2
    obtain ⟨i, rfl, hi, HR⟩ := hrel
    obtain ⟨w1, rfl⟩ : ∃ w1, w1 = wr := ⟨_, rfl⟩
    by_cases hlt : i < n
    · have i1 : (i : Int) < (n : Int) := by omega
      have i2 : (0 : Int) ≤ (i : Int) := by omega
      have hiR : i < R.length := by have := HA.out.2.2; omega
      obtain ⟨r, hr⟩ : ∃ r, r = R[i] := ⟨_, rfl⟩
      have hri : R[i]? = some r := by rw [hr]; exact List.getElem?_eq_getElem hiR
      have hrR : r ∈ R := by rw [hr]; exact List.getElem_mem hiR
      obtain ⟨g, off, a, c, e1, x0, hLr⟩ := HA.out.1.at' i r hri
      subst e1
      replace x0 := cell_lat HR.out.below x0
      have hwi : IntKind.i64.wrap ((i : Int) + 1) = ((i + 1 : Nat) : Int) := by rw [IntKind.wrap_i64]; omega
      obtain ⟨m, hm⟩ : ∃ m, m = r.length := ⟨_, rfl⟩
      have hml : m < 4611686018427387904 := by rw [hm]; exact (HA.out.2.1 r hrR).1
      rw [← hm] at x0
      have hfl : (R.take (i + 1)).flatten = (R.take i).flatten ++ r := by rw [List.take_succ_eq_append_getElem hiR, ← hr]; simp
      have HH := Hid.mk (And.intro hLr (And.intro hm (And.intro (HA.out.2.1 r hrR).2 (And.intro hfl hiR))))
      clear hr hri hrR hLr hm hfl
      go_wp2
      clear x0
      go_loopw [28] (fun u wr => RF2 w t k kp (R.take i).flatten r u wr) (fun u _ => m - (intOf u).toNat)
      case atStart => exact ⟨0, rfl, Nat.zero_le _, by rw [List.take_zero, List.append_nil]; exact HR.out⟩
      case round =>
        obtain ⟨j, rfl, hj, HP⟩ := hrel
        by_cases hjl : j < m
        · have j1 : (j : Int) < (m : Int) := by omega
          have j2 : (0 : Int) ≤ (j : Int) := by omega
          have hjr : j < r.length := by have := HH.out.2.1; omega
          obtain ⟨g2, o2, e2, y0, y1, y2⟩ := HH.out.1.hit (W := wr) (fun q hq => HP.out.below.block q hq) j hjr
          subst e2
          obtain ⟨x, hx⟩ : ∃ x, x = r[j] := ⟨_, rfl⟩
          rw [← hx] at y0 y1 y2
          have bA : Below wr.heap.size wr (wr.alloc (.cells #[.int .i64 0, .int .i64 0, .string ⟨#[]⟩] 28)) := (Below.refl _ wr).alloc (Nat.le_refl _) _
          have hb1 := heap_alloc_last wr (.cells #[.int .i64 0, .int .i64 0, .string ⟨#[]⟩] 28)
          obtain ⟨W1, hW1⟩ : ∃ W1, W1 = wr.alloc (.cells #[.int .i64 0, .int .i64 0, .string ⟨#[]⟩] 28) := ⟨_, rfl⟩
          rw [← hW1] at bA hb1
          have z0 : W1.cell? ⟨wr.heap.size, 0, none⟩ = some (.int .i64 0) := by rw [cell_of_row _ _ 0 _ _ (0, 0) hb1]; rfl
          have z1 : W1.cell? ⟨wr.heap.size, 1, none⟩ = some (.int .i64 0) := by rw [cell_of_row _ _ 1 _ _ (0, 0) hb1]; rfl
          have z2 : W1.cell? ⟨wr.heap.size, 2, none⟩ = some (.string ⟨#[]⟩) := by rw [cell_of_row _ _ 2 _ _ (0, 0) hb1]; rfl
          have zf : ∀ j, W1.frozen? ⟨wr.heap.size, j, none⟩ = false := fun j => frozen_of_row _ _ _ _ _ hb1
          obtain ⟨W5, hW5, st5, hb5, o0, o1, o2'⟩ := fin3 hb1 rfl (.int .i64 x.d) (.int .i64 x.i) (.string x.c)
          have b5 : Below wr.heap.size wr W5 := bA.trans (st5.toBelow (B := wr.heap.size) (fun k hk h => by (have h' : k = wr.heap.size := h; omega)) bA.size)
          have hw' := hW1.symm
          have hadd := tadd_any t k kp (topL k ((R.take i).flatten ++ r.take j)) x W5 (HP.out.more b5).tt (by rw [hx]; exact HH.out.2.2.1 _ (List.getElem_mem hjr))
          rw [hx, ← topL_one k _ r j hjr, ← hx] at hadd
          simp only [hC] at hadd
          have HN : Hid (∀ W, TT W t k kp (topL k ((R.take i).flatten ++ r.take (j + 1))) → FrK kp W5 W → RF2 w t k kp (R.take i).flatten r (.int .i64 ((j + 1 : Nat) : Int)) W) := fun W hT hf => ⟨j + 1, rfl, hjr, (HP.out.more b5).frk hT hf⟩
          have hwj : IntKind.i64.wrap ((j : Int) + 1) = ((j + 1 : Nat) : Int) := by rw [IntKind.wrap_i64]; omega
          obtain ⟨bq, hbq⟩ : ∃ bq, bq = decide (x ∈ topL k ((R.take i).flatten ++ r.take (j + 1))) := ⟨_, rfl⟩
          rw [← hbq] at hadd
          clear hbq hx bA hb1 hW1 st5 hb5 b5 HP HR
          go_wp2_with (go_at_call 15; refine hadd.mono ?_; clear hadd; rintro e w4 ⟨rfl, T4, f4⟩)
          exact ⟨HN.out _ T4 f4, by simp only [intOf]; omega⟩
        · have j1 : ¬ (j : Int) < (m : Int) := by omega
          have HN : Hid (RF1 w t k kp R (.int .i64 ((i + 1 : Nat) : Int)) wr) := by
            refine ⟨i + 1, rfl, HH.out.2.2.2.2, ?_⟩
            have := HP.out
            rw [show r.take j = r from List.take_of_length_le (by have := HH.out.2.1; omega)] at this
            rw [HH.out.2.2.2.1]; exact this
          clear HP HR
          go_wp2
          exact ⟨HN.out, by simp only [intOf]; omega⟩
    · have i1 : ¬ (i : Int) < (n : Int) := by omega
      have hl := tlist_any t k kp (topL k R.flatten) w1 (by
        have := HR.out.tt
        rw [List.take_of_length_le (by have := HA.out.2.2; omega)] at this
        exact this)
      have HB := Hid.mk HR.out.below
      clear HR
      go_wp2_with (go_at_call 16; refine hl.mono ?_; clear hl; rintro e w5 ⟨v, rfl, t5⟩)
      have HE : Hid (Told w w5 v (topL k R.flatten)) := ⟨t5.1, fun j hj => Nat.le_trans HB.out.size (t5.2.1 j hj), HB.out.trans (t5.2.2.mono HB.out.size)⟩
      clear t5
      go_ret2
      exact ⟨_, rfl, HE.out⟩
end Go.Proofs.Ytecddamjolekmaa
