/-
  DERIVED. The merger's heap of sources: its five methods.
-/
import Derived.Test.YtchikfabfhjkgaaHPush
import Derived.Test.YtchikfabfhjkgaaMSort
set_option linter.unusedVariables false
set_option linter.unusedSimpArgs false
namespace Go.Proofs.Ytchikfabfhjkgaa
open Go.RowKit
/-- Where a source stands. -/
structure St where
  a : Nat
  f : Value
  num : Nat
  e : En
  gv : Bool
def stC (s : St) : List Value := [s.f, .int .i64 s.num, .int .i64 s.e.v, .string s.e.c, .int .i64 s.e.i, .int .i64 s.e.s, .bool s.e.d, .bool s.gv]
abbrev Pp (s : St) : Value := .pointer (some ⟨s.a, 0, none⟩)
/-- A stand in its block. -/
def StAt (W : World) (s : St) : Prop := W.heap[s.a]? = some (.cells (stC s).toArray 96 (0, 0))
theorem StAt.cells {W : World} {s : St} (h : StAt W s) (j : Nat) (v : Value) (hv : (stC s)[j]? = some v) : W.cell? ⟨s.a, j, none⟩ = some v := by
  rw [cell_of_row _ _ j _ _ (0, 0) h]; simpa using hv
/-- Ahead of which one stands. -/
def ltS (a b : St) : Bool := if cpE a.e b.e = 0 then decide (a.e.s < b.e.s) else decide (cpE a.e b.e < 0)
/-- A row of stands. -/
structure SRow (W : World) (v : Value) (xs : List St) : Prop where
  own : W.ownsRow 0 94 1 v xs.length (xs.map Pp)
  st : ∀ s ∈ xs, StAt W s
theorem SRow.at' {W : World} {v : Value} {xs : List St} (h : SRow W v xs) (i : Nat) (hi : i < xs.length) : ∃ b cap, v = .slice (some ⟨b, 0, none⟩) xs.length cap ∧ W.cell? ⟨b, i, none⟩ = some (.pointer (some ⟨(xs[i]).a, 0, none⟩)) ∧ W.frozen? ⟨b, i, none⟩ = false := by
  rcases h.own.2 with ⟨h0, hn⟩ | ⟨b, cap, cur, rfl, h1, h2, h3, h4, h5, h6⟩
  · omega
  · refine ⟨b, cap, rfl, ?_, World.ownsRow.frozenAt h.own i⟩
    have := World.ownsRow.cellAt h.own i (by omega)
    rw [this, List.getElem?_map, List.getElem?_eq_getElem hi]; rfl
set_option maxHeartbeats 1000000 in
set_option maxRecDepth 100000 in
theorem less_any (xs : List St) (v : Value) (i j : Nat) (w : World) (h : SRow w v xs) (hi : i < xs.length) (hj : j < xs.length) (hl : xs.length < 4611686018427387904) :
    Calls Try.prog 101 #[v, .int .i64 i, .int .i64 j] w fun r w' => r = .returned (.bool (ltS xs[i] xs[j])) ∧ Below w.heap.size w w' := by
  obtain ⟨b, cap, rfl, p0, -⟩ := h.at' i hi
  obtain ⟨b', cap', hv, p1, -⟩ := h.at' j hj
  simp only [Value.slice.injEq, Option.some.injEq, Addr.mk.injEq] at hv
  obtain ⟨⟨rfl, -, -⟩, -, rfl⟩ := hv
  have hA := h.st xs[i] (List.getElem_mem hi)
  have hB := h.st xs[j] (List.getElem_mem hj)
  have hcmp := compare_any xs[i].e xs[j].e
  obtain ⟨A, hAe⟩ : ∃ A, A = xs[i] := ⟨_, rfl⟩
  obtain ⟨B, hBe⟩ : ∃ B, B = xs[j] := ⟨_, rfl⟩
  rw [← hAe] at p0 hA hcmp ⊢
  rw [← hBe] at p1 hB hcmp ⊢
  have x0 := hA.cells 2 _ rfl
  have x1 := hA.cells 3 _ rfl
  have x2 := hA.cells 4 _ rfl
  have x3 := hA.cells 5 _ rfl
  have x4 := hA.cells 6 _ rfl
  have y0 := hB.cells 2 _ rfl
  have y1 := hB.cells 3 _ rfl
  have y2 := hB.cells 4 _ rfl
  have y3 := hB.cells 5 _ rfl
  have y4 := hB.cells 6 _ rfl
  obtain ⟨n, hn⟩ : ∃ n, n = xs.length := ⟨_, rfl⟩
  rw [← hn]
  have i1 : (i : Int) < (n : Int) := by omega
  have j1 : (j : Int) < (n : Int) := by omega
  have i0 : (0 : Int) ≤ (i : Int) := by omega
  have j0 : (0 : Int) ≤ (j : Int) := by omega
  clear hA hB hAe hBe h hn hi hj hl
  simp only [enC] at hcmp
  go_enter Try.func101, Try.ntmps101
  go_wp2
  obtain ⟨q, hq⟩ : ∃ q, q = cpE A.e B.e := ⟨_, rfl⟩
  rw [← hq] at hcmp
  have HQ := Hid.mk hq
  clear hq
  by_cases h0 : q = 0
  · have hne : (q != 0) = false := by simp [h0]
    have HL : Hid (ltS A B = decide (A.e.s < B.e.s)) := by
      show _ = _
      unfold ltS; rw [if_pos (by rw [← HQ.out]; exact h0)]
    clear h0
    go_region_held (fun w' => Below w.heap.size w w' ∧ w'.cell? ⟨b, i, none⟩ = some (.pointer (some ⟨A.a, 0, none⟩)) ∧ w'.cell? ⟨b, j, none⟩ = some (.pointer (some ⟨B.a, 0, none⟩)) ∧ w'.cell? ⟨A.a, 2, none⟩ = some (.int .i64 A.e.v) ∧ w'.cell? ⟨A.a, 3, none⟩ = some (.string A.e.c) ∧ w'.cell? ⟨A.a, 4, none⟩ = some (.int .i64 A.e.i) ∧ w'.cell? ⟨A.a, 5, none⟩ = some (.int .i64 A.e.s) ∧ w'.cell? ⟨A.a, 6, none⟩ = some (.bool A.e.d) ∧ w'.cell? ⟨B.a, 2, none⟩ = some (.int .i64 B.e.v) ∧ w'.cell? ⟨B.a, 3, none⟩ = some (.string B.e.c) ∧ w'.cell? ⟨B.a, 4, none⟩ = some (.int .i64 B.e.i) ∧ w'.cell? ⟨B.a, 5, none⟩ = some (.int .i64 B.e.s) ∧ w'.cell? ⟨B.a, 6, none⟩ = some (.bool B.e.d))
      ((refine (fun hb => ⟨hb, cell_lat hb p0, cell_lat hb p1, cell_lat hb x0, cell_lat hb x1, cell_lat hb x2, cell_lat hb x3, cell_lat hb x4, cell_lat hb y0, cell_lat hb y1, cell_lat hb y2, cell_lat hb y3, cell_lat hb y4⟩) ?_; first | exact bb | exact b_drew w))
      ((go_at_call 9; refine (hcmp _).mono ?_; clear hcmp; rintro r w4 ⟨rfl, b4⟩; have bb : Below w.heap.size w w4 := below_d b4))
    all_goals
      rename_i hHeld
      have p0 := cell_lat bb p0
      have p1 := cell_lat bb p1
      have x3 := cell_lat bb x3
      have y3 := cell_lat bb y3
      go_wp2
      go_quiet (fail)
      go_wp2
      go_ret
      exact ⟨ret_bool HL.out.symm, bb.trans (Drew.below ⟨_, rfl⟩ _)⟩
  · have hne : (q != 0) = true := by simpa using h0
    have HL : Hid (ltS A B = decide (q < 0)) := by
      show _ = _
      unfold ltS; rw [if_neg (by rw [← HQ.out]; exact h0), ← HQ.out]
    clear h0
    go_region_held (fun w' => Below w.heap.size w w' ∧ w'.cell? ⟨b, i, none⟩ = some (.pointer (some ⟨A.a, 0, none⟩)) ∧ w'.cell? ⟨b, j, none⟩ = some (.pointer (some ⟨B.a, 0, none⟩)) ∧ w'.cell? ⟨A.a, 2, none⟩ = some (.int .i64 A.e.v) ∧ w'.cell? ⟨A.a, 3, none⟩ = some (.string A.e.c) ∧ w'.cell? ⟨A.a, 4, none⟩ = some (.int .i64 A.e.i) ∧ w'.cell? ⟨A.a, 5, none⟩ = some (.int .i64 A.e.s) ∧ w'.cell? ⟨A.a, 6, none⟩ = some (.bool A.e.d) ∧ w'.cell? ⟨B.a, 2, none⟩ = some (.int .i64 B.e.v) ∧ w'.cell? ⟨B.a, 3, none⟩ = some (.string B.e.c) ∧ w'.cell? ⟨B.a, 4, none⟩ = some (.int .i64 B.e.i) ∧ w'.cell? ⟨B.a, 5, none⟩ = some (.int .i64 B.e.s) ∧ w'.cell? ⟨B.a, 6, none⟩ = some (.bool B.e.d))
      ((refine (fun hb => ⟨hb, cell_lat hb p0, cell_lat hb p1, cell_lat hb x0, cell_lat hb x1, cell_lat hb x2, cell_lat hb x3, cell_lat hb x4, cell_lat hb y0, cell_lat hb y1, cell_lat hb y2, cell_lat hb y3, cell_lat hb y4⟩) ?_; first | exact bb | exact b_drew w))
      ((go_at_call 9; refine (hcmp _).mono ?_; clear hcmp; rintro r w4 ⟨rfl, b4⟩; have bb : Below w.heap.size w w4 := below_d b4))
    all_goals
      go_wp2
      go_ret
      exact ⟨ret_bool HL.out.symm, bb⟩
end Go.Proofs.Ytchikfabfhjkgaa
