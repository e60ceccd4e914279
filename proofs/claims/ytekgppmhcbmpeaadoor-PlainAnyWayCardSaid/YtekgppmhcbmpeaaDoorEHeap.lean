/-
  DERIVED. Hits as a heap: how two are compared; the heap's Len, Less, Swap.
-/
import Derived.Test.YtekgppmhcbmpeaaDoorHPush
import Derived.Test.YtekgppmhcbmpeaaDoorEMath
import Derived.Test.YtekgppmhcbmpeaaDoorShelf
set_option linter.unusedVariables false
set_option linter.unusedSimpArgs false
namespace Go.Proofs.YtekgppmhcbmpeaaDoor
open Go.RowKit
abbrev HRow (W : World) (v : Value) (xs : List Ht) : Prop := W.ownsRow 0 36 3 v xs.length (xs.flatMap hC)
abbrev cmpF : Value := .func (.func 60) #[] #[]
set_option maxHeartbeats 1000000 in
set_option maxRecDepth 100000 in
theorem compare_any (a b : Ht) (w : World) :
    Calls Tryd.prog 60 #[.agg (hC a).toArray, .agg (hC b).toArray] w fun r w' => r = .returned (.int .i64 (cpH a b)) ∧ w' = (w.alloc (.cells (hC a).toArray 36)).alloc (.cells (hC b).toArray 36) := by
  obtain ⟨d, i, c⟩ := a
  obtain ⟨d', i', c'⟩ := b
  have k1 := fun W => Tryd.cmp_Compare_int d d' W
  have k2 := fun W => Tryd.cmp_Compare_int i i' W
  have k3 := fun W => Tryd.strings_Compare c c' W
  unfold cpH
  simp only [hC]
  by_cases h1 : d = d'
  · rw [if_pos h1]
    have h1' : (d != d') = false := by simp [h1]
    by_cases h2 : i = i'
    · rw [if_pos h2]
      have h2' : (i != i') = false := by simp [h2]
      clear h2 k1 k2 h1
      go_enter Tryd.func60, Tryd.ntmps60
      go_wp2_with (go_at_call 77; refine (k3 _).mono ?_; rintro e w' ⟨rfl, rfl⟩)
      go_ret
      exact ⟨rfl, rfl⟩
    · rw [if_neg h2]
      have h2' : (i != i') = true := by simpa using h2
      clear h2 k1 k3 h1
      go_enter Tryd.func60, Tryd.ntmps60
      go_wp2_with (go_at_call 42; refine (k2 _).mono ?_; rintro e w' ⟨rfl, rfl⟩)
      go_ret
      exact ⟨rfl, rfl⟩
  · rw [if_neg h1]
    have h1' : (d != d') = true := by simpa using h1
    clear h1 k2 k3
    go_enter Tryd.func60, Tryd.ntmps60
    go_wp2_with (go_at_call 42; refine (k1 _).mono ?_; rintro e w' ⟨rfl, rfl⟩)
    go_ret
    exact ⟨rfl, rfl⟩
theorem compare_below (a b : Ht) (w : World) : Calls Tryd.prog 60 #[.agg (hC a).toArray, .agg (hC b).toArray] w fun r w' => r = .returned (.int .i64 (cpH a b)) ∧ Below w.heap.size w w' :=
  (compare_any a b w).mono fun r w' ⟨e, e2⟩ => ⟨e, by subst e2; exact ((Below.refl _ w).alloc (Nat.le_refl _) _).alloc (by simp) _⟩
/-- What is kept, in its block. -/
def Kp (W : World) (kp : Nat) (v : Value) (mb : Nat) (g : Int) : Prop := W.heap[kp]? = some (.cells #[cmpF, v, .map (some mb), .int .i64 g] 97 (0, 0))
theorem Kp.cells {W : World} {kp mb : Nat} {v : Value} {g : Int} (h : Kp W kp v mb g) : W.cell? ⟨kp, 0, none⟩ = some cmpF ∧ W.cell? ⟨kp, 1, none⟩ = some v ∧ W.cell? ⟨kp, 2, none⟩ = some (.map (some mb)) ∧ W.cell? ⟨kp, 3, none⟩ = some (.int .i64 g) ∧ ∀ j, W.frozen? ⟨kp, j, none⟩ = false :=
  ⟨by rw [cell_of_row _ _ 0 _ _ (0, 0) h]; rfl, by rw [cell_of_row _ _ 1 _ _ (0, 0) h]; rfl, by rw [cell_of_row _ _ 2 _ _ (0, 0) h]; rfl, by rw [cell_of_row _ _ 3 _ _ (0, 0) h]; rfl, fun j => frozen_of_row _ _ _ _ _ h⟩
theorem Kp.lt {W : World} {kp mb : Nat} {v : Value} {g : Int} (h : Kp W kp v mb g) : kp < W.heap.size := (Array.getElem?_eq_some_iff.1 h).1
theorem HRow.at' {W : World} {v : Value} {xs : List Ht} (h : HRow W v xs) (i : Nat) (hi : i < xs.length) : ∃ b cap, v = .slice (some ⟨b, 0, none⟩) xs.length cap ∧ W.cell? ⟨b, i * 3, none⟩ = some (.int .i64 xs[i].d) ∧ W.cell? ⟨b, i * 3 + 1, none⟩ = some (.int .i64 xs[i].i) ∧ W.cell? ⟨b, i * 3 + 2, none⟩ = some (.string xs[i].c) ∧ ∀ j, W.frozen? ⟨b, j, none⟩ = false := by
  rcases h.2 with ⟨h0, hn⟩ | ⟨b, cap, cur, rfl, h1, h2, h3, h4, h5, h6⟩
  · omega
  · have hr : RowAt W b 0 (xs.flatMap hC) := fun j x hx => by
      have hj : j < xs.length * 3 := by rw [← flat_len3]; exact (List.getElem?_eq_some_iff.1 hx).1
      rw [Nat.zero_add, World.ownsRow.cellAt h j hj, hx]
    have := row_en hr rfl i hi
    simp only [Nat.zero_add] at this
    exact ⟨b, cap, rfl, this.1, this.2.1, this.2.2, fun j => World.ownsRow.frozenAt h j⟩
/-- The last one stands first. -/
def gtH (a b : Ht) : Bool := decide (0 < cpH a b)
set_option maxHeartbeats 1000000 in
set_option maxRecDepth 100000 in
theorem less_any (kp mb : Nat) (g : Int) (xs : List Ht) (v : Value) (i j : Nat) (w : World) (hk : Kp w kp v mb g) (h : HRow w v xs) (hi : i < xs.length) (hj : j < xs.length) :
    Calls Tryd.prog 118 #[.pointer (some ⟨kp, 0, none⟩), .int .i64 i, .int .i64 j] w fun r w' => r = .returned (.bool (gtH xs[i] xs[j])) ∧ Below w.heap.size w w' := by
  obtain ⟨b, cap, rfl, x0, x1, x2, -⟩ := HRow.at' h i hi
  obtain ⟨b', cap', hv, y0, y1, y2, -⟩ := HRow.at' h j hj
  simp only [Value.slice.injEq, Option.some.injEq, Addr.mk.injEq] at hv
  obtain ⟨⟨rfl, -, -⟩, -, rfl⟩ := hv
  obtain ⟨q0, q1, -, -, -⟩ := hk.cells
  have hcmp := compare_below xs[i] xs[j]
  obtain ⟨A, hAe⟩ : ∃ A, A = xs[i] := ⟨_, rfl⟩
  obtain ⟨B, hBe⟩ : ∃ B, B = xs[j] := ⟨_, rfl⟩
  rw [← hAe] at x0 x1 x2 hcmp ⊢
  rw [← hBe] at y0 y1 y2 hcmp ⊢
  obtain ⟨n, hn⟩ : ∃ n, n = xs.length := ⟨_, rfl⟩
  rw [← hn] at q1
  have i1 : (i : Int) < (n : Int) := by omega
  have j1 : (j : Int) < (n : Int) := by omega
  have i0 : (0 : Int) ≤ (i : Int) := by omega
  have j0 : (0 : Int) ≤ (j : Int) := by omega
  obtain ⟨q, hq⟩ : ∃ q, q = cpH A B := ⟨_, rfl⟩
  rw [← hq] at hcmp
  have HL : Hid (gtH A B = decide (0 < q)) := by show _ = _; unfold gtH; rw [hq]
  clear hAe hBe h hn hi hj hk hq
  simp only [hC] at hcmp
  go_enter Tryd.func118, Tryd.ntmps118
  go_wp2
  go_region_held (fun w' => Below w.heap.size w w' ∧ w'.cell? ⟨kp, 0, none⟩ = some cmpF ∧ w'.cell? ⟨kp, 1, none⟩ = some (.slice (some ⟨b, 0, none⟩) n cap) ∧ w'.cell? ⟨b, i * 3, none⟩ = some (.int .i64 A.d) ∧ w'.cell? ⟨b, i * 3 + 1, none⟩ = some (.int .i64 A.i) ∧ w'.cell? ⟨b, i * 3 + 2, none⟩ = some (.string A.c) ∧ w'.cell? ⟨b, j * 3, none⟩ = some (.int .i64 B.d) ∧ w'.cell? ⟨b, j * 3 + 1, none⟩ = some (.int .i64 B.i) ∧ w'.cell? ⟨b, j * 3 + 2, none⟩ = some (.string B.c))
    ((refine (fun hb => ⟨hb, cell_lat hb q0, cell_lat hb q1, cell_lat hb x0, cell_lat hb x1, cell_lat hb x2, cell_lat hb y0, cell_lat hb y1, cell_lat hb y2⟩) ?_; first | exact bb | exact b_drew w))
    ((go_at_call 60; refine (hcmp _).mono ?_; clear hcmp; rintro r w4 ⟨rfl, b4⟩; have bb : Below w.heap.size w w4 := below_d b4))
  all_goals
    go_wp2
    go_ret
    exact ⟨ret_bool HL.out.symm, bb⟩
end Go.Proofs.YtekgppmhcbmpeaaDoor
