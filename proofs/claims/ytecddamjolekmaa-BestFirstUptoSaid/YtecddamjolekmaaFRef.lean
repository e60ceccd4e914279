/-
  DERIVED. The document's own First.
-/
import Derived.Test.YtecddamjolekmaaERef6
import Derived.Test.YtecddamjolekmaaEParts0
import Derived.Test.YtecddamjolekmaaEFirstF
set_option linter.unusedVariables false
set_option linter.unusedSimpArgs false
namespace Go.Proofs.Ytecddamjolekmaa
open Classical
open Go.RowKit
theorem srtL_snoc (L : List Ht) (h : Ht) : srtL (L ++ [h]) = ins h (srtL L) := by unfold srtL; rw [List.foldl_append]; rfl
theorem srtL_len (L : List Ht) : (srtL L).length ≤ L.length := pigeon (srtL_srt L).nodup (fun x hx => (srtL_mem L x).1 hx)
/-- The document's top, of this call's own. -/
structure ROw (w W : World) (t k : Nat) (X : List Ht) : Prop where
  tp : RTp 45 W t k X
  far : ∀ j, RFt W t j → w.heap.size ≤ j
  below : Below w.heap.size w W
theorem ROw.frr {w W W' : World} {t k : Nat} {X Y : List Ht} (h : ROw w W t k X) (hT : RTp 45 W' t k Y) (f : FrR t W W') : ROw w W' t k Y :=
  ⟨hT, fun j hj => (f.loc j hj).elim (h.far j) (fun h2 => Nat.le_trans h.below.size h2), h.below.trans (f.stay.toBelow (fun j hj hF => by have := h.far j hF; omega) h.below.size)⟩
theorem ROw.more {w W W' : World} {t k : Nat} {X : List Ht} (h : ROw w W t k X) (b : Below W.heap.size W W') : ROw w W' t k X :=
  ⟨(h.tp.below b).1, fun j hj => h.far j (((h.tp.below b).2 j).1 hj), h.below.trans (b.mono h.below.size)⟩
def RG1 (w : World) (t k : Nat) (R : List (List Ht)) (u : Value) (wr : World) : Prop := ∃ i : Nat, u = .int .i64 i ∧ i ≤ R.length ∧ Hid (ROw w wr t k (srtL (R.take i).flatten))
def RG2 (w : World) (t k : Nat) (P r : List Ht) (u : Value) (wr : World) : Prop := ∃ j : Nat, u = .int .i64 j ∧ j ≤ r.length ∧ Hid (ROw w wr t k (srtL (P ++ r.take j)))
theorem flat_lt {R : List (List Ht)} {i : Nat} {r : List Ht} (hr : R[i]? = some r) (j : Nat) : ((R.take i).flatten ++ r.take j).length ≤ R.flatten.length := by
  obtain ⟨hi, he⟩ := List.getElem?_eq_some_iff.1 hr
  have : R = R.take i ++ r :: R.drop (i + 1) := by rw [← he, List.getElem_cons_drop, List.take_append_drop]
  conv => rhs; rw [this]
  simp only [List.flatten_append, List.flatten_cons, List.length_append, List.length_take]
  omega
set_option maxHeartbeats 2000000 in
set_option maxRecDepth 100000 in
theorem rfirst_any (k : Nat) (hk : k ≤ 4096) (R : List (List Ht)) (hR : ∀ r ∈ R, ∀ x ∈ r, HtW x) (la : Option Addr) (ca : Nat) (w : World) (ha : LL w la R) (hl : R.length ≤ 1048576) (hf : R.flatten.length ≤ 1048576) :
    Calls Try.prog 6 #[.int .i64 k, .slice la R.length ca] w fun e w' => ∃ v, e = .returned (.tuple #[v, .int .i64 0]) ∧ Told w w' v (topL k R.flatten) := by
  have hnew := rnewTop_any k hk w
  obtain ⟨n, hn⟩ : ∃ n, n = R.length := ⟨_, rfl⟩
  have HA := Hid.mk (And.intro ha (And.intro hR (And.intro hf hn)))
  rw [← hn] at hl ⊢
  clear ha hR hf hn
  go_enter Try.func6, Try.ntmps6
  go_wp2_with (go_at_call 11; refine hnew.mono ?_; clear hnew; rintro r w2 ⟨t, rfl, T2, f2, b2⟩)
  have O2 : Hid (ROw w w2 t k []) := ⟨T2, f2, b2⟩
  clear T2 f2 b2
  go_loopw [8] (fun u wr => RG1 w t k R u wr) (fun u _ => n - (intOf u).toNat)
  case atStart => exact ⟨0, rfl, Nat.zero_le _, O2⟩
  case round =>
    clear O2
    obtain ⟨i, rfl, hi, HR⟩ := hrel
    obtain ⟨w1, rfl⟩ : ∃ w1, w1 = wr := ⟨_, rfl⟩
    by_cases hlt : i < n
    · have i1 : (i : Int) < (n : Int) := by omega
      have i2 : (0 : Int) ≤ (i : Int) := by omega
      have hiR : i < R.length := by have := HA.out.2.2.2; omega
      obtain ⟨r, hr⟩ : ∃ r, r = R[i] := ⟨_, rfl⟩
      have hri : R[i]? = some r := by rw [hr]; exact List.getElem?_eq_getElem hiR
      have hrR : r ∈ R := by rw [hr]; exact List.getElem_mem hiR
      obtain ⟨g, off, a, c, e1, x0, hLr⟩ := HA.out.1.at' i r hri
      subst e1
      have X0 := Hid.mk x0
      clear x0
      have hwi : IntKind.i64.wrap ((i : Int) + 1) = ((i + 1 : Nat) : Int) := by rw [IntKind.wrap_i64]; omega
      obtain ⟨m, hm⟩ : ∃ m, m = r.length := ⟨_, rfl⟩
      have hfr := fun j => flat_lt hri j
      have hml : m ≤ 1048576 := by
        have h1 := hfr r.length
        rw [List.take_of_length_le (Nat.le_refl _), List.length_append] at h1
        have := HA.out.2.2.1; omega
      rw [← hm] at X0
      have hfl : (R.take (i + 1)).flatten = (R.take i).flatten ++ r := by rw [List.take_succ_eq_append_getElem hiR, ← hr]; simp
      have HH := Hid.mk (And.intro hLr (And.intro hm (And.intro (HA.out.2.1 r hrR) (And.intro hfl (And.intro hiR hfr)))))
      clear hr hri hrR hLr hm hfl hfr
      go_wp2
      go_loopw [9] (fun u wr => RG2 w t k (R.take i).flatten r u wr) (fun u _ => m - (intOf u).toNat)
      case atStart => exact ⟨0, rfl, Nat.zero_le _, by rw [List.take_zero, List.append_nil]; exact HR.out⟩
      case round =>
        obtain ⟨j, rfl, hj, HP⟩ := hrel
        have x0 := cell_lat HP.out.below X0.out
        by_cases hjl : j < m
        · have j1 : (j : Int) < (m : Int) := by omega
          have j2 : (0 : Int) ≤ (j : Int) := by omega
          have hjr : j < r.length := by have := HH.out.2.1; omega
          obtain ⟨g2, o2, e2, y0, y1, y2⟩ := HH.out.1.hit (W := wr) (fun q hq => HP.out.below.block q hq) j hjr
          subst e2
          obtain ⟨x, hx⟩ : ∃ x, x = r[j] := ⟨_, rfl⟩
          rw [← hx] at y0 y1 y2
          have hadd := rtadd_any t k (srtL ((R.take i).flatten ++ r.take j)) x wr HP.out.tp (by rw [hx]; exact HH.out.2.2.1 _ (List.getElem_mem hjr)) (by
            have h1 := srtL_len ((R.take i).flatten ++ r.take j)
            have h2 := HH.out.2.2.2.2.2 j
            have := HA.out.2.2.1
            unfold LIM; omega) hk
          rw [← srtL_snoc, List.append_assoc, hx, show r.take j ++ [r[j]] = r.take (j + 1) from (List.take_succ_eq_append_getElem hjr).symm, ← hx] at hadd
          simp only [hC] at hadd
          have HN : Hid (∀ W, RTp 45 W t k (srtL ((R.take i).flatten ++ r.take (j + 1))) → FrR t wr W → RG2 w t k (R.take i).flatten r (.int .i64 ((j + 1 : Nat) : Int)) W) := fun W hT hf => ⟨j + 1, rfl, hjr, HP.out.frr hT hf⟩
          have hwj : IntKind.i64.wrap ((j : Int) + 1) = ((j + 1 : Nat) : Int) := by rw [IntKind.wrap_i64]; omega
          obtain ⟨bq, hbq⟩ : ∃ bq, bq = decide (x ∈ (srtL ((R.take i).flatten ++ r.take (j + 1))).take k) := ⟨_, rfl⟩
          rw [← hbq] at hadd
          clear hbq hx HP HR
          go_wp2_with (go_at_call 12; refine hadd.mono ?_; clear hadd; rintro e w4 ⟨rfl, T4, f4⟩)
          exact ⟨HN.out _ T4 f4, by simp only [intOf]; omega⟩
        · have j1 : ¬ (j : Int) < (m : Int) := by omega
          have HN : Hid (RG1 w t k R (.int .i64 ((i + 1 : Nat) : Int)) wr) := by
            refine ⟨i + 1, rfl, HH.out.2.2.2.2.1, ?_⟩
            have := HP.out
            rw [show r.take j = r from List.take_of_length_le (by have := HH.out.2.1; omega)] at this
            rw [HH.out.2.2.2.1]; exact this
          clear HP HR
          go_wp2
          exact ⟨HN.out, by simp only [intOf]; omega⟩
    · have i1 : ¬ (i : Int) < (n : Int) := by omega
      have hl := rtlist_any t k (srtL R.flatten) w1 (by
        have := HR.out.tp
        rw [List.take_of_length_le (by have := HA.out.2.2.2; omega)] at this
        exact this) (by have h1 := srtL_len R.flatten; have := HA.out.2.2.1; unfold LIM; omega)
      rw [← topL_eq] at hl
      have HB := Hid.mk HR.out.below
      clear HR
      go_wp2_with (go_at_call 13; refine hl.mono ?_; clear hl; rintro e w5 ⟨v, rfl, t5⟩)
      have HE : Hid (Told w w5 v (topL k R.flatten)) := ⟨t5.1, fun j hj => Nat.le_trans HB.out.size (t5.2.1 j hj), HB.out.trans (t5.2.2.mono HB.out.size)⟩
      clear t5
      go_ret2
      exact ⟨_, rfl, HE.out⟩
set_option maxRecDepth 100000 in
theorem firstF_bad (r : Int) (h : r < 0 ∨ 4096 < r) (v : Value) (w : World) : Calls Try.prog 7 #[.int .i64 r, v] w fun e w' => e = .returned (.tuple #[.slice none 0 0, .int .i64 100]) ∧ w' = w := by
  have hn : Calls Try.prog 14 #[.int .i64 r] w fun e w' => e = .returned (.tuple #[.pointer none, .int .i64 100]) ∧ w' = w := by
    by_cases h1 : r < 0
    · clear h
      go_enter Try.func14, Try.ntmps14
      go_wp2
      go_ret2
      exact ⟨rfl, rfl⟩
    · have h2 : (4096 : Int) < r := h.resolve_left h1
      clear h
      go_enter Try.func14, Try.ntmps14
      go_wp2
      go_ret2
      exact ⟨rfl, rfl⟩
  clear h
  go_enter Try.func7, Try.ntmps7
  go_wp2_with (go_at_call 14; refine hn.mono ?_; clear hn; rintro e w' ⟨rfl, rfl⟩)
  go_ret2
  exact ⟨rfl, rfl⟩
set_option maxRecDepth 100000 in
theorem rfirst_bad (r : Int) (h : r < 0 ∨ 4096 < r) (v : Value) (w : World) : Calls Try.prog 6 #[.int .i64 r, v] w fun e w' => e = .returned (.tuple #[.slice none 0 0, .int .i64 100]) ∧ w' = w := by
  have hn : Calls Try.prog 11 #[.int .i64 r] w fun e w' => e = .returned (.tuple #[.pointer none, .int .i64 100]) ∧ w' = w := by
    by_cases h1 : r < 0
    · clear h
      go_enter Try.func11, Try.ntmps11
      go_wp2
      go_ret2
      exact ⟨rfl, rfl⟩
    · have h2 : (4096 : Int) < r := h.resolve_left h1
      clear h
      go_enter Try.func11, Try.ntmps11
      go_wp2
      go_ret2
      exact ⟨rfl, rfl⟩
  clear h
  go_enter Try.func6, Try.ntmps6
  go_wp2_with (go_at_call 11; refine hn.mono ?_; clear hn; rintro e w' ⟨rfl, rfl⟩)
  go_ret2
  exact ⟨rfl, rfl⟩
/-- What First answers, for every k. -/
def fsE (k : Int) : Int := if 0 ≤ k ∧ k ≤ 4096 then 0 else 100
def fsL (k : Int) (R : List (List Ht)) : List Ht := if 0 ≤ k ∧ k ≤ 4096 then topL k.toNat R.flatten else []
theorem fsL_len (k : Int) (R : List (List Ht)) : (fsL k R).length ≤ 4096 := by
  unfold fsL
  split
  · next h => have := topL_len k.toNat R.flatten; omega
  · simp
theorem told_nil (w : World) : Told w w (.slice none 0 0) [] := ⟨⟨rfl, .inl ⟨rfl, rfl⟩⟩, (fun k hk => by cases hk), Below.refl _ _⟩
theorem first_all (k : Int) (R : List (List Ht)) (hR : ∀ r ∈ R, r.length ≤ 1048576 ∧ ∀ x ∈ r, HtW x) (la : Option Addr) (ca : Nat) (w : World) (ha : LL w la R) (hl : R.length ≤ 1048576) :
    Calls Try.prog 7 #[.int .i64 k, .slice la R.length ca] w fun e w' => ∃ v, e = .returned (.tuple #[v, .int .i64 (fsE k)]) ∧ Told w w' v (fsL k R) := by
  unfold fsE fsL
  by_cases h : 0 ≤ k ∧ k ≤ 4096
  · obtain ⟨n, rfl⟩ : ∃ n : Nat, k = n := ⟨k.toNat, by omega⟩
    rw [if_pos h, if_pos h]
    exact firstF_any n (by omega) R (fun r hr => ⟨by have := (hR r hr).1; omega, (hR r hr).2⟩) la ca w ha (by omega)
  · rw [if_neg h, if_neg h]
    refine (firstF_bad k (by omega) _ w).mono ?_
    rintro e w' ⟨rfl, rfl⟩
    exact ⟨_, rfl, told_nil _⟩
theorem rfirst_all (k : Int) (R : List (List Ht)) (hR : ∀ r ∈ R, ∀ x ∈ r, HtW x) (la : Option Addr) (ca : Nat) (w : World) (ha : LL w la R) (hl : R.length ≤ 1048576) (hf : R.flatten.length ≤ 1048576) :
    Calls Try.prog 6 #[.int .i64 k, .slice la R.length ca] w fun e w' => ∃ v, e = .returned (.tuple #[v, .int .i64 (fsE k)]) ∧ Told w w' v (fsL k R) := by
  unfold fsE fsL
  by_cases h : 0 ≤ k ∧ k ≤ 4096
  · obtain ⟨n, rfl⟩ : ∃ n : Nat, k = n := ⟨k.toNat, by omega⟩
    rw [if_pos h, if_pos h]
    exact rfirst_any n (by omega) R hR la ca w ha hl hf
  · rw [if_neg h, if_neg h]
    refine (rfirst_bad k (by omega) _ w).mono ?_
    rintro e w' ⟨rfl, rfl⟩
    exact ⟨_, rfl, told_nil _⟩
end Go.Proofs.Ytecddamjolekmaa
