/-
  DERIVED. Lists that rise, and lists that are one.
-/
import Derived.Test.YtchikfabfhjkgaaMCmp
set_option linter.unusedVariables false
set_option linter.unusedSimpArgs false
namespace Go.Proofs.Ytchikfabfhjkgaa
open Go.RowKit
set_option maxHeartbeats 1000000 in
set_option maxRecDepth 100000 in
theorem sorted_any (l : List En) (la : Option Addr) (cap : Nat) (w : World) (h : LAt w la l) (hl : l.length < 4611686018427387904) :
    Calls Try.prog 12 #[.slice la l.length cap] w fun r w' => r = .returned (.int .i64 (sE (rises l))) ∧ Below w.heap.size w w' := by
  have hst := fun j hj => rises_step l j hj
  have hend := fun j hj => rises_end l j hj
  have h0 : rises (l.drop 0) = rises l := by rw [List.drop_zero]
  obtain ⟨R, hR⟩ : ∃ R, R = rises l := ⟨_, rfl⟩
  rw [← hR] at h0 ⊢
  have HST := Hid.mk (And.intro hst (And.intro hend h0))
  have HL := Hid.mk h
  have HLn := Hid.mk hl
  clear hst hend h0 hR h hl
  go_enter Try.func12, Try.ntmps12
  go_wp2
  go_loopw [3] (fun u wr => ∃ j : Nat, u = .int .i64 ((j : Int) + 1) ∧ (j = 0 ∨ j < l.length) ∧ rises (l.drop j) = R ∧ Below w.heap.size w wr) (fun u _ => l.length - (intOf u).toNat)
  case atStart => exact ⟨0, rfl, .inl rfl, HST.out.2.2, Below.refl _ _⟩
  case round =>
    obtain ⟨j, rfl, hj0, hE, hb⟩ := hrel
    by_cases hlt : j + 1 < l.length
    · obtain ⟨g, off, hla, hra⟩ := (HL.out.below hb).at' (fun h => by rw [h] at hlt; simp at hlt)
      subst hla
      have hj1 : j < l.length := by omega
      obtain ⟨x0, x1, x2, x3, x4⟩ := row_en hra rfl (j + 1) hlt
      obtain ⟨z0, z1, z2, z3, z4⟩ := row_en hra rfl j hj1
      have hstep := HST.out.1 j hlt
      rw [hE] at hstep
      have hjA : 0 ≤ (j : Int) := by omega
      have hjB : (j : Int) < (l.length : Int) := by omega
      have i1 : (j : Int) + 1 < (l.length : Int) := by omega
      have hcmp := compare_any l[j] l[j + 1]
      obtain ⟨e, he⟩ : ∃ e, e = l[j + 1] := ⟨_, rfl⟩
      obtain ⟨f, hf⟩ : ∃ f, f = l[j] := ⟨_, rfl⟩
      rw [← he] at x0 x1 x2 x3 x4 hstep hcmp
      rw [← hf] at z0 z1 z2 z3 z4 hstep hcmp
      simp only [enC] at hcmp
      have hw3 : IntKind.i64.wrap (j : Int) = j := by have := HLn.out; rw [IntKind.wrap_i64]; omega
      obtain ⟨q, hqq⟩ : ∃ q, q = cpE f e := ⟨_, rfl⟩
      rw [← hqq] at hcmp hstep
      clear hqq he hf hE hj0
      have HS := Hid.mk hstep
      clear hstep
      go_wp2
      by_cases hneg : q < 0
      · go_region_held (fun w' => Below wr.heap.size wr w' ∧ w'.cell? ⟨g, off + j * 5, none⟩ = some (.int .i64 f.v) ∧ w'.cell? ⟨g, off + j * 5 + 1, none⟩ = some (.string f.c) ∧ w'.cell? ⟨g, off + j * 5 + 2, none⟩ = some (.int .i64 f.i) ∧ w'.cell? ⟨g, off + j * 5 + 3, none⟩ = some (.int .i64 f.s) ∧ w'.cell? ⟨g, off + j * 5 + 4, none⟩ = some (.bool f.d) ∧ w'.cell? ⟨g, off + (j + 1) * 5, none⟩ = some (.int .i64 e.v) ∧ w'.cell? ⟨g, off + (j + 1) * 5 + 1, none⟩ = some (.string e.c) ∧ w'.cell? ⟨g, off + (j + 1) * 5 + 2, none⟩ = some (.int .i64 e.i) ∧ w'.cell? ⟨g, off + (j + 1) * 5 + 3, none⟩ = some (.int .i64 e.s) ∧ w'.cell? ⟨g, off + (j + 1) * 5 + 4, none⟩ = some (.bool e.d))
          ((refine (fun hb => ⟨hb, cell_lat hb z0, cell_lat hb z1, cell_lat hb z2, cell_lat hb z3, cell_lat hb z4, cell_lat hb x0, cell_lat hb x1, cell_lat hb x2, cell_lat hb x3, cell_lat hb x4⟩) ?_; first | exact bb | exact b_drew wr))
          ((go_at_call 9; refine (hcmp _).mono ?_; rintro r w4 ⟨rfl, b4⟩; have bb : Below wr.heap.size wr w4 := below_d b4))
        all_goals
          clear hw3
          have hw4 : IntKind.i64.wrap ((j : Int) + 1 + 1) = (j : Int) + 1 + 1 := by have := HLn.out; rw [IntKind.wrap_i64]; omega
          go_wp2
          refine ⟨⟨j + 1, ival (by omega), .inr hlt, by rw [HS.out, decide_eq_true hneg]; rfl, chain hb bb (Nat.le_refl _)⟩, by simp only [intOf]; omega⟩
      · go_region_held (fun w' => Below wr.heap.size wr w' ∧ w'.cell? ⟨g, off + j * 5, none⟩ = some (.int .i64 f.v) ∧ w'.cell? ⟨g, off + j * 5 + 1, none⟩ = some (.string f.c) ∧ w'.cell? ⟨g, off + j * 5 + 2, none⟩ = some (.int .i64 f.i) ∧ w'.cell? ⟨g, off + j * 5 + 3, none⟩ = some (.int .i64 f.s) ∧ w'.cell? ⟨g, off + j * 5 + 4, none⟩ = some (.bool f.d) ∧ w'.cell? ⟨g, off + (j + 1) * 5, none⟩ = some (.int .i64 e.v) ∧ w'.cell? ⟨g, off + (j + 1) * 5 + 1, none⟩ = some (.string e.c) ∧ w'.cell? ⟨g, off + (j + 1) * 5 + 2, none⟩ = some (.int .i64 e.i) ∧ w'.cell? ⟨g, off + (j + 1) * 5 + 3, none⟩ = some (.int .i64 e.s) ∧ w'.cell? ⟨g, off + (j + 1) * 5 + 4, none⟩ = some (.bool e.d))
          ((refine (fun hb => ⟨hb, cell_lat hb z0, cell_lat hb z1, cell_lat hb z2, cell_lat hb z3, cell_lat hb z4, cell_lat hb x0, cell_lat hb x1, cell_lat hb x2, cell_lat hb x3, cell_lat hb x4⟩) ?_; first | exact bb | exact b_drew wr))
          ((go_at_call 9; refine (hcmp _).mono ?_; rintro r w4 ⟨rfl, b4⟩; have bb : Below wr.heap.size wr w4 := below_d b4))
        all_goals
          clear hw3
          go_wp2
          go_ret
          exact ⟨ret_int (by rw [HS.out, decide_eq_false (show ¬ q < 0 by omega)]; rfl), chain hb bb (Nat.le_refl _)⟩
    · have h1 := HST.out.2.1 j (by omega)
      rw [hE] at h1
      have H1 := Hid.mk h1
      have i1 : (l.length : Int) ≤ (j : Int) + 1 := by omega
      clear hE h1 hlt
      go_wp2
      go_ret
      exact ⟨ret_int (by rw [H1.out]; rfl), hb⟩
set_option maxHeartbeats 1000000 in
set_option maxRecDepth 100000 in
theorem rsorted_any (l : List En) (la : Option Addr) (cap : Nat) (w : World) (h : LAt w la l) (hl : l.length < 4611686018427387904) :
    Calls Try.prog 14 #[.slice la l.length cap] w fun r w' => r = .returned (.int .i64 (sE (rises l))) ∧ Below w.heap.size w w' := by
  have hst := fun j hj => rises_step l j hj
  have hend := fun j hj => rises_end l j hj
  have h0 : rises (l.drop 0) = rises l := by rw [List.drop_zero]
  obtain ⟨R, hR⟩ : ∃ R, R = rises l := ⟨_, rfl⟩
  rw [← hR] at h0 ⊢
  have HST := Hid.mk (And.intro hst (And.intro hend h0))
  have HL := Hid.mk h
  have HLn := Hid.mk hl
  clear hst hend h0 hR h hl
  go_enter Try.func14, Try.ntmps14
  go_wp2
  go_loopw [3] (fun u wr => ∃ j : Nat, u = .int .i64 ((j : Int) + 1) ∧ (j = 0 ∨ j < l.length) ∧ rises (l.drop j) = R ∧ Below w.heap.size w wr) (fun u _ => l.length - (intOf u).toNat)
  case atStart => exact ⟨0, rfl, .inl rfl, HST.out.2.2, Below.refl _ _⟩
  case round =>
    obtain ⟨j, rfl, hj0, hE, hb⟩ := hrel
    by_cases hlt : j + 1 < l.length
    · obtain ⟨g, off, hla, hra⟩ := (HL.out.below hb).at' (fun h => by rw [h] at hlt; simp at hlt)
      subst hla
      have hj1 : j < l.length := by omega
      obtain ⟨x0, x1, x2, x3, x4⟩ := row_en hra rfl (j + 1) hlt
      obtain ⟨z0, z1, z2, z3, z4⟩ := row_en hra rfl j hj1
      have hstep := HST.out.1 j hlt
      rw [hE] at hstep
      have hjA : 0 ≤ (j : Int) := by omega
      have hjB : (j : Int) < (l.length : Int) := by omega
      have i1 : (j : Int) + 1 < (l.length : Int) := by omega
      have hcmp := rcompare_any l[j] l[j + 1]
      obtain ⟨e, he⟩ : ∃ e, e = l[j + 1] := ⟨_, rfl⟩
      obtain ⟨f, hf⟩ : ∃ f, f = l[j] := ⟨_, rfl⟩
      rw [← he] at x0 x1 x2 x3 x4 hstep hcmp
      rw [← hf] at z0 z1 z2 z3 z4 hstep hcmp
      simp only [enC] at hcmp
      have hw3 : IntKind.i64.wrap (j : Int) = j := by have := HLn.out; rw [IntKind.wrap_i64]; omega
      obtain ⟨q, hqq⟩ : ∃ q, q = cpE f e := ⟨_, rfl⟩
      rw [← hqq] at hcmp hstep
      clear hqq he hf hE hj0
      have HS := Hid.mk hstep
      clear hstep
      go_wp2
      by_cases hneg : q < 0
      · go_region_held (fun w' => Below wr.heap.size wr w' ∧ w'.cell? ⟨g, off + j * 5, none⟩ = some (.int .i64 f.v) ∧ w'.cell? ⟨g, off + j * 5 + 1, none⟩ = some (.string f.c) ∧ w'.cell? ⟨g, off + j * 5 + 2, none⟩ = some (.int .i64 f.i) ∧ w'.cell? ⟨g, off + j * 5 + 3, none⟩ = some (.int .i64 f.s) ∧ w'.cell? ⟨g, off + j * 5 + 4, none⟩ = some (.bool f.d) ∧ w'.cell? ⟨g, off + (j + 1) * 5, none⟩ = some (.int .i64 e.v) ∧ w'.cell? ⟨g, off + (j + 1) * 5 + 1, none⟩ = some (.string e.c) ∧ w'.cell? ⟨g, off + (j + 1) * 5 + 2, none⟩ = some (.int .i64 e.i) ∧ w'.cell? ⟨g, off + (j + 1) * 5 + 3, none⟩ = some (.int .i64 e.s) ∧ w'.cell? ⟨g, off + (j + 1) * 5 + 4, none⟩ = some (.bool e.d))
          ((refine (fun hb => ⟨hb, cell_lat hb z0, cell_lat hb z1, cell_lat hb z2, cell_lat hb z3, cell_lat hb z4, cell_lat hb x0, cell_lat hb x1, cell_lat hb x2, cell_lat hb x3, cell_lat hb x4⟩) ?_; first | exact bb | exact b_drew wr))
          ((go_at_call 10; refine (hcmp _).mono ?_; rintro r w4 ⟨rfl, b4⟩; have bb : Below wr.heap.size wr w4 := below_d b4))
        all_goals
          clear hw3
          have hw4 : IntKind.i64.wrap ((j : Int) + 1 + 1) = (j : Int) + 1 + 1 := by have := HLn.out; rw [IntKind.wrap_i64]; omega
          go_wp2
          refine ⟨⟨j + 1, ival (by omega), .inr hlt, by rw [HS.out, decide_eq_true hneg]; rfl, chain hb bb (Nat.le_refl _)⟩, by simp only [intOf]; omega⟩
      · go_region_held (fun w' => Below wr.heap.size wr w' ∧ w'.cell? ⟨g, off + j * 5, none⟩ = some (.int .i64 f.v) ∧ w'.cell? ⟨g, off + j * 5 + 1, none⟩ = some (.string f.c) ∧ w'.cell? ⟨g, off + j * 5 + 2, none⟩ = some (.int .i64 f.i) ∧ w'.cell? ⟨g, off + j * 5 + 3, none⟩ = some (.int .i64 f.s) ∧ w'.cell? ⟨g, off + j * 5 + 4, none⟩ = some (.bool f.d) ∧ w'.cell? ⟨g, off + (j + 1) * 5, none⟩ = some (.int .i64 e.v) ∧ w'.cell? ⟨g, off + (j + 1) * 5 + 1, none⟩ = some (.string e.c) ∧ w'.cell? ⟨g, off + (j + 1) * 5 + 2, none⟩ = some (.int .i64 e.i) ∧ w'.cell? ⟨g, off + (j + 1) * 5 + 3, none⟩ = some (.int .i64 e.s) ∧ w'.cell? ⟨g, off + (j + 1) * 5 + 4, none⟩ = some (.bool e.d))
          ((refine (fun hb => ⟨hb, cell_lat hb z0, cell_lat hb z1, cell_lat hb z2, cell_lat hb z3, cell_lat hb z4, cell_lat hb x0, cell_lat hb x1, cell_lat hb x2, cell_lat hb x3, cell_lat hb x4⟩) ?_; first | exact bb | exact b_drew wr))
          ((go_at_call 10; refine (hcmp _).mono ?_; rintro r w4 ⟨rfl, b4⟩; have bb : Below wr.heap.size wr w4 := below_d b4))
        all_goals
          clear hw3
          go_wp2
          go_ret
          exact ⟨ret_int (by rw [HS.out, decide_eq_false (show ¬ q < 0 by omega)]; rfl), chain hb bb (Nat.le_refl _)⟩
    · have h1 := HST.out.2.1 j (by omega)
      rw [hE] at h1
      have H1 := Hid.mk h1
      have i1 : (l.length : Int) ≤ (j : Int) + 1 := by omega
      clear hE h1 hlt
      go_wp2
      go_ret
      exact ⟨ret_int (by rw [H1.out]; rfl), hb⟩
set_option maxRecDepth 100000 in
set_option maxHeartbeats 2000000 in
theorem same_any (l : List En) (la lb : Option Addr) (ca cb : Nat) (w : World) (ha : LAt w la l) (hb : LAt w lb l) (hl : l.length < 4611686018427387904) :
    Calls Try.prog 13 #[.slice la l.length ca, .slice lb l.length cb] w fun e w' => e = .returned (.bool true) ∧ Drew w w' := by
  obtain ⟨n, hn⟩ : ∃ n, n = l.length := ⟨_, rfl⟩
  have HA := Hid.mk (And.intro ha (And.intro hb hn))
  rw [← hn] at hl ⊢
  clear ha hb hn
  go_enter Try.func13, Try.ntmps13
  go_wp2
  go_loopw [5] (fun u wr => ∃ i : Nat, u = .int .i64 i ∧ i ≤ n ∧ Drew w wr) (fun u _ => n - (intOf u).toNat)
  case atStart => exact ⟨0, rfl, Nat.zero_le _, Drew.refl _⟩
  case round =>
    obtain ⟨i, rfl, hi, hd⟩ := hrel
    by_cases hlt : i < n
    · have hln : i < l.length := by have := HA.out.2.2; omega
      have hne : l ≠ [] := fun h => by rw [h] at hln; simp at hln
      obtain ⟨g1, o1, e1, r1⟩ := HA.out.1.at' hne
      obtain ⟨g2, o2, e2, r2⟩ := HA.out.2.1.at' hne
      subst e1
      subst e2
      have hh : ∀ k : Nat, wr.heap[k]? = w.heap[k]? := fun k => by obtain ⟨m, rfl⟩ := hd; rfl
      obtain ⟨x0, x1, x2, x3, x4⟩ := row_en r1 (hh g1) i hln
      obtain ⟨y0, y1, y2, y3, y4⟩ := row_en r2 (hh g2) i hln
      obtain ⟨e, he⟩ : ∃ e, e = l[i] := ⟨_, rfl⟩
      rw [← he] at x0 x1 x2 x3 x4 y0 y1 y2 y3 y4
      have i1 : (i : Int) < (n : Int) := by omega
      have i2 : 0 ≤ (i : Int) := by omega
      clear he hh r1 r2 hne hln
      go_wp2
      go_quiet (fail)
      go_wp2
      refine ⟨⟨i + 1, rfl, hlt, hd.more _⟩, by simp only [intOf]; omega⟩
    · go_wp2
      go_ret
      exact ⟨rfl, hd⟩
end Go.Proofs.Ytchikfabfhjkgaa
