/-
  DERIVED. A run's tables, its files' names: for all numbers and options.
-/
import Derived.Test.YtnmhpbgiljchkaaGreatDoorRBase
set_option linter.unusedVariables false
set_option linter.unusedSimpArgs false
namespace Go.Proofs.YtnmhpbgiljchkaaGreatDoor
open Go.RowKit Go.Proofs.BitMath
abbrev optV (W C M : Int) : Value := .agg #[.int .i64 W, .int .i64 C, .int .i64 M]
theorem chk_no {x : Int} (h : isW x = false) : chk x 0 = 10 := chk10 h
theorem chk_yes {x : Int} (h : isW x = true) : (chk x 0 == 10) = false := by
  have := isW_bd h
  unfold chk
  rw [if_pos h]
  split
  · rfl
  · rfl
theorem sz_emp : (⟨#[]⟩ : ByteArray).size = 0 := rfl
theorem oneZero (w : World) (g : Nat) (hg : g = w.heap.size) : EC.Row (w.alloc (.cells #[.int .i64 0, .int .i64 0] 38)) (.slice (some ⟨g, 0, none⟩) 1 1) [(0, 0)] := by
  subst hg
  exact
  ⟨rfl, .inr ⟨w.heap.size, 1, _, rfl, Nat.zero_le _, heap_alloc_last w _, Nat.le_refl _, by decide, rfl, rfl⟩⟩
set_option maxHeartbeats 1000000 in
set_option maxRecDepth 100000 in
theorem chunksOf_any (W C M : Int) (w : World) : Calls Tryz.prog 16 #[optV W C M] w fun e w' => ∃ v, e = .returned (.tuple #[v, .int .i64 (goE W C M)]) ∧ EC.Row w' v (goL W C M) ∧ (∀ k, v.ownBlock = some k → w.heap.size ≤ k) ∧ Below w.heap.size w w' := by
  cases hW : isW W
  · have h1 : goE W C M = 10 := by unfold goE; rw [hW]; rfl
    have h2 : goL W C M = [] := by unfold goL; rw [h1]; rfl
    rw [h1, h2]
    have hc := chk_no hW
    rw [← sz_emp] at hc
    have HC := Hid.mk hc
    clear hW h1 h2 hc
    go_enter Tryz.func16, Tryz.ntmps16
    go_wp2_with (go_at_call 33; refine (check_any _ _ _).mono ?_; rintro e w' ⟨rfl, rfl⟩; rw [HC.out])
    go_ret2
    exact ⟨_, rfl, El.Row.nil _ _, fun k hk => (by cases hk), (Below.refl _ _).alloc (Nat.le_refl _) _⟩
  · have hc := chk_yes hW
    rw [← sz_emp] at hc
    obtain ⟨y, hy⟩ : ∃ y, y = chk W (⟨#[]⟩ : ByteArray).size := ⟨_, rfl⟩
    rw [← hy] at hc
    by_cases hM : M = 1
    · subst hM
      have h1 : goE W C 1 = cc W C := by unfold goE; rw [hW]; rfl
      have h2 : goL W C 1 = chA W C := by
        unfold goL; rw [h1]
        unfold chA
        by_cases hh : cc W C = 0
        · rw [if_pos hh, if_pos hh]; rfl
        · rw [if_neg hh, if_neg hh]
      rw [h1, h2]
      have HY := Hid.mk hy
      clear hW h1 h2 hy
      go_enter Tryz.func16, Tryz.ntmps16
      go_wp2_with first
        | (go_at_call 33; refine (check_any _ _ _).mono ?_; rintro e w' ⟨rfl, rfl⟩; rw [← HY.out])
        | (go_at_call 34; refine (chunks_all _ _ _).mono ?_; rintro e w1 ⟨v, rfl, hr, hn, hb⟩)
      go_ret2
      exact ⟨_, rfl, hr, fun k hk => Nat.le_trans (by simp) (hn k hk), chain ((Below.refl _ _).alloc (Nat.le_refl _) _) hb (Nat.le_refl _)⟩
    · by_cases hM2 : M = 2
      · subst hM2
        by_cases hC : C = 0
        · subst hC
          have h1 : goE W 0 2 = 0 := by unfold goE; rw [hW]; rfl
          have h2 : goL W 0 2 = [(0, 0)] := by unfold goL; rw [h1]; rfl
          rw [h1, h2]
          have HY := Hid.mk hy
          clear hW h1 h2 hy
          go_enter Tryz.func16, Tryz.ntmps16
          go_wp2_with (go_at_call 33; refine (check_any _ _ _).mono ?_; rintro e w' ⟨rfl, rfl⟩; rw [← HY.out])
          go_ret2
          exact ⟨_, rfl, oneZero _ _ (by simp), fun k hk => by cases hk; exact Nat.le_succ _, ((Below.refl _ _).alloc (Nat.le_refl _) _).alloc (by simp) _⟩
        · have h1 : goE W C 2 = 12 := by unfold goE; rw [hW]; simp [hC]
          have h2 : goL W C 2 = [] := by unfold goL; rw [h1]; rfl
          rw [h1, h2]
          have hC2 : (C != 0) = true := by simpa using hC
          have HY := Hid.mk hy
          clear hW h1 h2 hy hC hM
          go_enter Tryz.func16, Tryz.ntmps16
          go_wp2_with (go_at_call 33; refine (check_any _ _ _).mono ?_; rintro e w' ⟨rfl, rfl⟩; rw [← HY.out])
          go_ret2
          exact ⟨_, rfl, El.Row.nil _ _, fun k hk => (by cases hk), (Below.refl _ _).alloc (Nat.le_refl _) _⟩
      · have h1 : goE W C M = 81 := by unfold goE; rw [hW]; simp [hM, hM2]
        have h2 : goL W C M = [] := by unfold goL; rw [h1]; rfl
        rw [h1, h2]
        have hM3 : (M == 1) = false := by simpa using hM
        have hM4 : (M != 2) = true := by simpa using hM2
        have HY := Hid.mk hy
        clear hW h1 h2 hy hM hM2
        go_enter Tryz.func16, Tryz.ntmps16
        go_wp2_with (go_at_call 33; refine (check_any _ _ _).mono ?_; rintro e w' ⟨rfl, rfl⟩; rw [← HY.out])
        go_ret2
        exact ⟨_, rfl, El.Row.nil _ _, fun k hk => (by cases hk), (Below.refl _ _).alloc (Nat.le_refl _) _⟩
/-- What tables answers. -/
def tbE (n W C M : Int) : Int := if isN n = true then goE W C M else 13
def tb (n : Int) (L : List (Int × Int)) (j : Nat) : Tb := ⟨nmR n j, j, (L.getD j (0, 0)).1, (L.getD j (0, 0)).2, max (L.getD j (0, 0)).2 1⟩
/-- The first j tables, then zeros. -/
def tbJ (n : Int) (L : List (Int × Int)) (j : Nat) : List Tb := (List.range L.length).map (fun i => if i < j then tb n L i else zTb)
theorem tbJ_len (n : Int) (L : List (Int × Int)) (j : Nat) : (tbJ n L j).length = L.length := by simp [tbJ]
theorem tbJ_zero (n : Int) (L : List (Int × Int)) : List.replicate L.length zTb = tbJ n L 0 := by
  apply List.ext_getElem
  · simp [tbJ]
  · intro i h1 h2; simp [tbJ]
theorem tbJ_set (n : Int) (L : List (Int × Int)) (j : Nat) (hj : j < L.length) : (tbJ n L j).set j (tb n L j) = tbJ n L (j + 1) := by
  apply List.ext_getElem
  · simp [tbJ]
  · intro i h1 h2
    rw [List.getElem_set]
    split
    · next e => subst e; simp [tbJ]
    · next e =>
      simp only [tbJ, List.getElem_map, List.getElem_range]
      by_cases hi : i < j
      · rw [if_pos hi, if_pos (by omega)]
      · rw [if_neg hi, if_neg (by omega)]
def tbL (n W C M : Int) : List Tb := if tbE n W C M = 0 then tbJ n (goL W C M) (goL W C M).length else []
/-- The names. -/
def nmJ (X : List Tb) (j : Nat) : List ByteArray := (List.range X.length).map (fun i => if i < j then (X.getD i zTb).nm else ⟨#[]⟩)
theorem nmJ_zero (X : List Tb) : List.replicate X.length (⟨#[]⟩ : ByteArray) = nmJ X 0 := by
  apply List.ext_getElem
  · simp [nmJ]
  · intro i h1 h2; simp [nmJ]
theorem nmJ_set (X : List Tb) (j : Nat) (hj : j < X.length) : (nmJ X j).set j (X.getD j zTb).nm = nmJ X (j + 1) := by
  apply List.ext_getElem
  · simp [nmJ]
  · intro i h1 h2
    rw [List.getElem_set]
    split
    · next e => subst e; simp [nmJ]
    · next e =>
      simp only [nmJ, List.getElem_map, List.getElem_range]
      by_cases hi : i < j
      · rw [if_pos hi, if_pos (by omega)]
      · rw [if_neg hi, if_neg (by omega)]
theorem nmJ_all (X : List Tb) : nmJ X X.length = X.map Tb.nm := by
  apply List.ext_getElem
  · simp [nmJ]
  · intro i h1 h2
    have : i < X.length := by simpa [nmJ] using h1
    simp [nmJ, this]
theorem nmJ_len (X : List Tb) (j : Nat) : (nmJ X j).length = X.length := by simp [nmJ]
end Go.Proofs.YtnmhpbgiljchkaaGreatDoor
