/-
  DERIVED. The laws' own last.
-/
import Derived.Test.YtchikfabfhjkgaaMPut
set_option linter.unusedVariables false
set_option linter.unusedSimpArgs false
namespace Go.Proofs.Ytchikfabfhjkgaa
open Go.RowKit
/-- Is there no later word of x's place among the first j? -/
def noL (all : List En) (x : En) (j : Nat) : Bool := (all.take j).all (fun f => !(decide (cpE x f = 0) && decide (x.s < f.s)))
theorem noL_step {all : List En} {x f : En} {j : Nat} (hf : all[j]? = some f) : noL all x (j + 1) = (noL all x j && !(decide (cpE x f = 0) && decide (x.s < f.s))) := by
  obtain ⟨hj, rfl⟩ := List.getElem?_eq_some_iff.1 hf
  unfold noL
  rw [List.take_succ_eq_append_getElem hj, List.all_append]
  simp
theorem noL_top {all : List En} {x : En} (hx : x ∈ all) : noL all x all.length = true ↔ Top x all := by
  rw [← top_dec all x hx]
  unfold noL
  rw [List.take_length, List.all_eq_true]
  simp only [Bool.not_eq_true', Bool.and_eq_false_iff, decide_eq_false_iff_not, not_and]
  refine forall_congr' fun f => forall_congr' fun _ => ⟨fun h e => ?_, fun h => ?_⟩
  · rcases h with h | h
    · exact absurd e h
    · exact h
  · by_cases e : cpE x f = 0
    · exact .inr (h e)
    · exact .inl e
/-- What last answers. -/
def LastO (all : List En) (bottom : Bool) (w : World) (r : Ending) (w' : World) : Prop := Below w.heap.size w w' ∧ ∃ out v, LstI all bottom all.length out ∧ r = .returned v ∧ w'.ownsRow 0 23 5 v out.length (out.flatMap enC) ∧ ∀ g, v.ownBlock = some g → w.heap.size ≤ g
set_option maxHeartbeats 4000000 in
set_option maxRecDepth 100000 in
theorem last_any (all : List En) (la : Option Addr) (lc : Nat) (bottom : Bool) (w : World) (h : LAt w la all) (hl : all.length ≤ 60) (hu : Uniq all) :
    Calls Try.prog 25 #[.slice la all.length lc, .bool bottom] w (LastO all bottom w) := by
  obtain ⟨n, hn⟩ : ∃ n, n = all.length := ⟨_, rfl⟩
  have HA := Hid.mk (And.intro h (And.intro hl (And.intro hu hn)))
  rw [← hn] at hl ⊢
  clear h hn hu
  go_enter Try.func25, Try.ntmps25
  go_wp2
  go_loopw [5, 6] (fun lv iv wr => ∃ (i : Nat) (out : List En), iv = .int .i64 i ∧ i ≤ n ∧ LstI all bottom i out ∧ wr.ownsRow 0 23 5 lv out.length (out.flatMap enC) ∧ (∀ g, lv.ownBlock = some g → w.heap.size ≤ g) ∧ Below w.heap.size w wr) (fun _ iv _ => n - (intOf iv).toNat)
  case atStart => exact ⟨0, [], rfl, Nat.zero_le _, ⟨List.Pairwise.nil, fun x => by simp, Nat.le_refl _⟩, nil_own _, (fun g hg => by cases hg), Below.refl _ _⟩
  case round =>
    obtain ⟨i, out, rfl, hi, hI, ho, hg, hb⟩ := hrel
    obtain ⟨w1, rfl⟩ : ∃ w1, w1 = wr := ⟨_, rfl⟩
    obtain ⟨va, vc, hv, hvc⟩ := slice_form ho
    subst hv
    by_cases hlt : i < n
    · have hln : i < all.length := by have := HA.out.2.2.2; omega
      obtain ⟨g, off, hla, hra⟩ := (HA.out.1.below hb).at' (fun h => by rw [h] at hln; simp at hln)
      subst hla
      obtain ⟨x, hx⟩ : ∃ x, all[i]? = some x := ⟨_, List.getElem?_eq_getElem hln⟩
      obtain ⟨x0, x1, x2, x3, x4⟩ := row_en hra rfl i hln
      have hxe : all[i] = x := (List.getElem?_eq_some_iff.1 hx).2
      rw [hxe] at x0 x1 x2 x3 x4
      have HX := Hid.mk (And.intro hx (And.intro hI (And.intro ho (And.intro hg (And.intro hb hra)))))
      have i1 : (i : Int) < (n : Int) := by omega
      have i0 : 0 ≤ (i : Int) := by omega
      have hw3 : IntKind.i64.wrap ((i : Int) + 1) = (i : Int) + 1 := by rw [IntKind.wrap_i64]; omega
      clear hx hI ho hg hb hra hxe hi
      go_wp2
      go_loopw [7, 8] (fun cv jv w2 => ∃ j : Nat, jv = .int .i64 j ∧ j ≤ n ∧ cv = .bool (noL all x j) ∧ Below w1.heap.size w1 w2) (fun _ jv _ => n - (intOf jv).toNat)
      case atStart => exact ⟨0, rfl, Nat.zero_le _, rfl, Below.refl _ _⟩
      case round =>
        obtain ⟨j, rfl, hj, rfl, hb2⟩ := hrel
        obtain ⟨w2, rfl⟩ : ∃ w2, w2 = wr := ⟨_, rfl⟩
        by_cases hjt : j < n
        · have hjn : j < all.length := by have := HA.out.2.2.2; omega
          obtain ⟨y, hy⟩ : ∃ y, all[j]? = some y := ⟨_, List.getElem?_eq_getElem hjn⟩
          have hye : all[j] = y := (List.getElem?_eq_some_iff.1 hy).2
          obtain ⟨y0, y1, y2, y3, y4⟩ := row_en HX.out.2.2.2.2.2 rfl j hjn
          rw [hye] at y0 y1 y2 y3 y4
          replace x0 := cell_lat hb2 x0
          replace x1 := cell_lat hb2 x1
          replace x2 := cell_lat hb2 x2
          replace x3 := cell_lat hb2 x3
          replace x4 := cell_lat hb2 x4
          replace y0 := cell_lat hb2 y0
          replace y1 := cell_lat hb2 y1
          replace y2 := cell_lat hb2 y2
          replace y3 := cell_lat hb2 y3
          replace y4 := cell_lat hb2 y4
          have hat := at_any x y
          simp only [enC] at hat
          have HY := Hid.mk (And.intro hy hb2)
          have HST := Hid.mk (noL_step (x := x) hy)
          have j1 : (j : Int) < (n : Int) := by omega
          have j0 : 0 ≤ (j : Int) := by omega
          have hw4 : IntKind.i64.wrap ((j : Int) + 1) = (j : Int) + 1 := by rw [IntKind.wrap_i64]; omega
          clear hy hye hb2 hj
          generalize noL all x j = C at HST ⊢
          by_cases hz : cpE x y = 0
          · rw [decide_eq_true hz] at hat
            by_cases hs : x.s < y.s
            · go_wp2
              go_region_held (fun w' => Below w2.heap.size w2 w' ∧ w'.cell? ⟨g, off + i * 5, none⟩ = some (.int .i64 x.v) ∧ w'.cell? ⟨g, off + i * 5 + 1, none⟩ = some (.string x.c) ∧ w'.cell? ⟨g, off + i * 5 + 2, none⟩ = some (.int .i64 x.i) ∧ w'.cell? ⟨g, off + i * 5 + 3, none⟩ = some (.int .i64 x.s) ∧ w'.cell? ⟨g, off + i * 5 + 4, none⟩ = some (.bool x.d) ∧ w'.cell? ⟨g, off + j * 5, none⟩ = some (.int .i64 y.v) ∧ w'.cell? ⟨g, off + j * 5 + 1, none⟩ = some (.string y.c) ∧ w'.cell? ⟨g, off + j * 5 + 2, none⟩ = some (.int .i64 y.i) ∧ w'.cell? ⟨g, off + j * 5 + 3, none⟩ = some (.int .i64 y.s) ∧ w'.cell? ⟨g, off + j * 5 + 4, none⟩ = some (.bool y.d))
              ((refine (fun hb => ⟨hb, cell_lat hb x0, cell_lat hb x1, cell_lat hb x2, cell_lat hb x3, cell_lat hb x4, cell_lat hb y0, cell_lat hb y1, cell_lat hb y2, cell_lat hb y3, cell_lat hb y4⟩) ?_; first | exact bb | exact b_drew w2))
              ((go_at_call 44; refine (hat _).mono ?_; rintro r w4 ⟨rfl, b4⟩; have bb : Below w2.heap.size w2 w4 := below_d b4))
              all_goals
                go_wp2
                refine ⟨⟨j + 1, ival (by omega), by omega, congrArg Value.bool (by rw [HST.out, decide_eq_true hz, decide_eq_true hs] <;> cases C <;> rfl), chain HY.out.2 bb (Nat.le_refl _)⟩, by simp only [intOf]; omega⟩
            · go_wp2
              go_region_held (fun w' => Below w2.heap.size w2 w' ∧ w'.cell? ⟨g, off + i * 5, none⟩ = some (.int .i64 x.v) ∧ w'.cell? ⟨g, off + i * 5 + 1, none⟩ = some (.string x.c) ∧ w'.cell? ⟨g, off + i * 5 + 2, none⟩ = some (.int .i64 x.i) ∧ w'.cell? ⟨g, off + i * 5 + 3, none⟩ = some (.int .i64 x.s) ∧ w'.cell? ⟨g, off + i * 5 + 4, none⟩ = some (.bool x.d) ∧ w'.cell? ⟨g, off + j * 5, none⟩ = some (.int .i64 y.v) ∧ w'.cell? ⟨g, off + j * 5 + 1, none⟩ = some (.string y.c) ∧ w'.cell? ⟨g, off + j * 5 + 2, none⟩ = some (.int .i64 y.i) ∧ w'.cell? ⟨g, off + j * 5 + 3, none⟩ = some (.int .i64 y.s) ∧ w'.cell? ⟨g, off + j * 5 + 4, none⟩ = some (.bool y.d))
              ((refine (fun hb => ⟨hb, cell_lat hb x0, cell_lat hb x1, cell_lat hb x2, cell_lat hb x3, cell_lat hb x4, cell_lat hb y0, cell_lat hb y1, cell_lat hb y2, cell_lat hb y3, cell_lat hb y4⟩) ?_; first | exact bb | exact b_drew w2))
              ((go_at_call 44; refine (hat _).mono ?_; rintro r w4 ⟨rfl, b4⟩; have bb : Below w2.heap.size w2 w4 := below_d b4))
              all_goals
                go_wp2
                refine ⟨⟨j + 1, ival (by omega), by omega, congrArg Value.bool (by rw [HST.out, decide_eq_true hz, decide_eq_false (show ¬ x.s < y.s by omega)] <;> cases C <;> rfl), chain HY.out.2 bb (Nat.le_refl _)⟩, by simp only [intOf]; omega⟩
          · rw [decide_eq_false hz] at hat
            go_wp2
            refine wp_region_held_drew (S := (fun w' => Below w2.heap.size w2 w' ∧ w'.cell? ⟨g, off + i * 5, none⟩ = some (.int .i64 x.v) ∧ w'.cell? ⟨g, off + i * 5 + 1, none⟩ = some (.string x.c) ∧ w'.cell? ⟨g, off + i * 5 + 2, none⟩ = some (.int .i64 x.i) ∧ w'.cell? ⟨g, off + i * 5 + 3, none⟩ = some (.int .i64 x.s) ∧ w'.cell? ⟨g, off + i * 5 + 4, none⟩ = some (.bool x.d) ∧ w'.cell? ⟨g, off + j * 5, none⟩ = some (.int .i64 y.v) ∧ w'.cell? ⟨g, off + j * 5 + 1, none⟩ = some (.string y.c) ∧ w'.cell? ⟨g, off + j * 5 + 2, none⟩ = some (.int .i64 y.i) ∧ w'.cell? ⟨g, off + j * 5 + 3, none⟩ = some (.int .i64 y.s) ∧ w'.cell? ⟨g, off + j * 5 + 4, none⟩ = some (.bool y.d))) (by kernel_rfl) ?_ (fun hHeld => ?_)
            · (refine (fun hb => ⟨hb, cell_lat hb x0, cell_lat hb x1, cell_lat hb x2, cell_lat hb x3, cell_lat hb x4, cell_lat hb y0, cell_lat hb y1, cell_lat hb y2, cell_lat hb y3, cell_lat hb y4⟩) ?_; first | exact bb | exact b_drew w2)
            refine wpAnyH_take (i := 0) (oi := { dst := some 23, op := Op.move (Operand.tmp 0), type := 24, pos := "plain.go:89", after := #[], guard := none }) (v := ?v0) rfl (by kernel_rfl) (by kernel_rfl) (by kernel_rfl) (fun _ _ _ h => h) (Or.inl ⟨by rfl, ?h0⟩) (by assumption) ?r0
            case h0 => (intro w0 hSw; (try dsimp only at hSw); go_simp; try (with_reducible rfl))
            simp only [Act.put, List.setIfInBounds_toArray, List.set_cons_zero, List.set_cons_succ]
            refine wpAnyH_take (i := 1) (oi := { dst := some 24, op := Op.move (Operand.tmp 6), type := 3, pos := "plain.go:89", after := #[], guard := none }) (v := ?v1) rfl (by kernel_rfl) (by kernel_rfl) (by kernel_rfl) (fun _ _ _ h => h) (Or.inl ⟨by rfl, ?h1⟩) (by assumption) ?r1
            case h1 => (intro w0 hSw; (try dsimp only at hSw); go_simp; try (with_reducible rfl))
            simp only [Act.put, List.setIfInBounds_toArray, List.set_cons_zero, List.set_cons_succ]
            refine wpAnyH_take (i := 2) (oi := { dst := some 25, op := Op.indexAddr 24 (Operand.tmp 23) (Operand.tmp 24), type := 0, pos := "plain.go:89", after := #[{ on := 0, ground := Ground.data }, { on := 1, ground := Ground.data }], guard := none }) (v := ?v2) rfl (by kernel_rfl) (by kernel_rfl) (by kernel_rfl) (fun _ _ _ h => h) (Or.inl ⟨by rfl, ?h2⟩) (by assumption) ?r2
            case h2 => (intro w0 hSw; (try dsimp only at hSw); go_simp; try (with_reducible rfl))
            simp only [Act.put, List.setIfInBounds_toArray, List.set_cons_zero, List.set_cons_succ]
            refine wpAnyH_take (i := 3) (oi := { dst := some 26, op := Op.load 23 (Operand.tmp 25), type := 23, pos := "plain.go:89", after := #[{ on := 2, ground := Ground.data }], guard := none }) (v := ?v3) rfl (by kernel_rfl) (by kernel_rfl) (by kernel_rfl) (fun _ _ _ h => h) (Or.inl ⟨by rfl, ?h3⟩) (by assumption) ?r3
            case h3 => (intro w0 hSw; (try dsimp only at hSw); go_simp; try (with_reducible rfl))
            simp only [Act.put, List.setIfInBounds_toArray, List.set_cons_zero, List.set_cons_succ]
            refine wpAnyH_take (i := 4) (oi := { dst := some 27, op := Op.move (Operand.tmp 0), type := 24, pos := "plain.go:89", after := #[], guard := none }) (v := ?v4) rfl (by kernel_rfl) (by kernel_rfl) (by kernel_rfl) (fun _ _ _ h => h) (Or.inl ⟨by rfl, ?h4⟩) (by assumption) ?r4
            case h4 => (intro w0 hSw; (try dsimp only at hSw); go_simp; try (with_reducible rfl))
            simp only [Act.put, List.setIfInBounds_toArray, List.set_cons_zero, List.set_cons_succ]
            refine wpAnyH_take (i := 5) (oi := { dst := some 28, op := Op.move (Operand.tmp 8), type := 3, pos := "plain.go:89", after := #[], guard := none }) (v := ?v5) rfl (by kernel_rfl) (by kernel_rfl) (by kernel_rfl) (fun _ _ _ h => h) (Or.inl ⟨by rfl, ?h5⟩) (by assumption) ?r5
            case h5 => (intro w0 hSw; (try dsimp only at hSw); go_simp; try (with_reducible rfl))
            simp only [Act.put, List.setIfInBounds_toArray, List.set_cons_zero, List.set_cons_succ]
            refine wpAnyH_take (i := 6) (oi := { dst := some 29, op := Op.indexAddr 24 (Operand.tmp 27) (Operand.tmp 28), type := 0, pos := "plain.go:89", after := #[{ on := 4, ground := Ground.data }, { on := 5, ground := Ground.data }], guard := none }) (v := ?v6) rfl (by kernel_rfl) (by kernel_rfl) (by kernel_rfl) (fun _ _ _ h => h) (Or.inl ⟨by rfl, ?h6⟩) (by assumption) ?r6
            case h6 => (intro w0 hSw; (try dsimp only at hSw); go_simp; try (with_reducible rfl))
            simp only [Act.put, List.setIfInBounds_toArray, List.set_cons_zero, List.set_cons_succ]
            refine wpAnyH_take (i := 7) (oi := { dst := some 30, op := Op.load 23 (Operand.tmp 29), type := 23, pos := "plain.go:89", after := #[{ on := 6, ground := Ground.data }], guard := none }) (v := ?v7) rfl (by kernel_rfl) (by kernel_rfl) (by kernel_rfl) (fun _ _ _ h => h) (Or.inl ⟨by rfl, ?h7⟩) (by assumption) ?r7
            case h7 => (intro w0 hSw; (try dsimp only at hSw); go_simp; try (with_reducible rfl))
            simp only [Act.put, List.setIfInBounds_toArray, List.set_cons_zero, List.set_cons_succ]
            refine wpAnyH_ready (rs := [8]) (by kernel_rfl) (by simp) ?_
            refine AllReadyH.cons rfl (fun K hK => ?_) AllReadyH.nil
            go_simp
            go_wp2_with (go_at_call 44; refine (hat _).mono ?_; rintro r w4 ⟨rfl, b4⟩; have bb : Below w2.heap.size w2 w4 := below_d b4)
            refine hK.out _ _ ?_ (fun hHeld => ?_)
            · (refine (fun hb => ⟨hb, cell_lat hb x0, cell_lat hb x1, cell_lat hb x2, cell_lat hb x3, cell_lat hb x4, cell_lat hb y0, cell_lat hb y1, cell_lat hb y2, cell_lat hb y3, cell_lat hb y4⟩) ?_; first | exact bb | exact b_drew w2)
            clear hK K
            refine wpAnyH_take (i := 9) (oi := { dst := some 32, op := Op.move (Operand.tmp 31), type := 4, pos := "plain.go:89", after := #[{ on := 8, ground := Ground.data }, { on := 8, ground := Ground.chain }], guard := none }) (v := ?v9) rfl (by kernel_rfl) (by kernel_rfl) (by kernel_rfl) (fun _ _ _ h => h) (Or.inl ⟨by rfl, ?h9⟩) (by assumption) ?r9
            case h9 => (intro w0 hSw; (try dsimp only at hSw); go_simp; try (with_reducible rfl))
            simp only [Act.put, List.setIfInBounds_toArray, List.set_cons_zero, List.set_cons_succ]
            refine wpAnyH_take (i := 10) (oi := { dst := some 33, op := Op.move (Operand.tmp 0), type := 24, pos := "plain.go:89", after := #[{ on := 9, ground := Ground.guard }], guard := some (9, true) }) rfl (by kernel_rfl) (by kernel_rfl) (by kernel_rfl) (fun _ _ _ h => h) (Or.inr ⟨by rfl, rfl⟩) (by assumption) ?_
            simp only [Act.put, List.setIfInBounds_toArray, List.set_cons_zero, List.set_cons_succ]
            refine wpAnyH_take (i := 11) (oi := { dst := some 34, op := Op.move (Operand.tmp 8), type := 3, pos := "plain.go:89", after := #[{ on := 9, ground := Ground.guard }], guard := some (9, true) }) rfl (by kernel_rfl) (by kernel_rfl) (by kernel_rfl) (fun _ _ _ h => h) (Or.inr ⟨by rfl, rfl⟩) (by assumption) ?_
            simp only [Act.put, List.setIfInBounds_toArray, List.set_cons_zero, List.set_cons_succ]
            refine wpAnyH_take (i := 12) (oi := { dst := some 35, op := Op.indexAddr 24 (Operand.tmp 33) (Operand.tmp 34), type := 0, pos := "plain.go:89", after := #[{ on := 10, ground := Ground.data }, { on := 11, ground := Ground.data }, { on := 9, ground := Ground.guard }], guard := some (9, true) }) rfl (by kernel_rfl) (by kernel_rfl) (by kernel_rfl) (fun _ _ _ h => h) (Or.inr ⟨by rfl, rfl⟩) (by assumption) ?_
            simp only [Act.put, List.setIfInBounds_toArray, List.set_cons_zero, List.set_cons_succ]
            refine wpAnyH_take (i := 13) (oi := { dst := some 36, op := Op.fieldAddr 23 (Operand.tmp 35) 3, type := 0, pos := "plain.go:89", after := #[{ on := 12, ground := Ground.data }, { on := 9, ground := Ground.guard }], guard := some (9, true) }) rfl (by kernel_rfl) (by kernel_rfl) (by kernel_rfl) (fun _ _ _ h => h) (Or.inr ⟨by rfl, rfl⟩) (by assumption) ?_
            simp only [Act.put, List.setIfInBounds_toArray, List.set_cons_zero, List.set_cons_succ]
            refine wpAnyH_take (i := 14) (oi := { dst := some 37, op := Op.load 3 (Operand.tmp 36), type := 3, pos := "plain.go:89", after := #[{ on := 13, ground := Ground.data }, { on := 9, ground := Ground.guard }], guard := some (9, true) }) rfl (by kernel_rfl) (by kernel_rfl) (by kernel_rfl) (fun _ _ _ h => h) (Or.inr ⟨by rfl, rfl⟩) (by assumption) ?_
            simp only [Act.put, List.setIfInBounds_toArray, List.set_cons_zero, List.set_cons_succ]
            refine wpAnyH_take (i := 15) (oi := { dst := some 38, op := Op.move (Operand.tmp 0), type := 24, pos := "plain.go:89", after := #[{ on := 9, ground := Ground.guard }], guard := some (9, true) }) rfl (by kernel_rfl) (by kernel_rfl) (by kernel_rfl) (fun _ _ _ h => h) (Or.inr ⟨by rfl, rfl⟩) (by assumption) ?_
            simp only [Act.put, List.setIfInBounds_toArray, List.set_cons_zero, List.set_cons_succ]
            refine wpAnyH_take (i := 16) (oi := { dst := some 39, op := Op.move (Operand.tmp 6), type := 3, pos := "plain.go:89", after := #[{ on := 9, ground := Ground.guard }], guard := some (9, true) }) rfl (by kernel_rfl) (by kernel_rfl) (by kernel_rfl) (fun _ _ _ h => h) (Or.inr ⟨by rfl, rfl⟩) (by assumption) ?_
            simp only [Act.put, List.setIfInBounds_toArray, List.set_cons_zero, List.set_cons_succ]
            refine wpAnyH_take (i := 17) (oi := { dst := some 40, op := Op.indexAddr 24 (Operand.tmp 38) (Operand.tmp 39), type := 0, pos := "plain.go:89", after := #[{ on := 15, ground := Ground.data }, { on := 16, ground := Ground.data }, { on := 9, ground := Ground.guard }], guard := some (9, true) }) rfl (by kernel_rfl) (by kernel_rfl) (by kernel_rfl) (fun _ _ _ h => h) (Or.inr ⟨by rfl, rfl⟩) (by assumption) ?_
            simp only [Act.put, List.setIfInBounds_toArray, List.set_cons_zero, List.set_cons_succ]
            refine wpAnyH_take (i := 18) (oi := { dst := some 41, op := Op.fieldAddr 23 (Operand.tmp 40) 3, type := 0, pos := "plain.go:89", after := #[{ on := 17, ground := Ground.data }, { on := 9, ground := Ground.guard }], guard := some (9, true) }) rfl (by kernel_rfl) (by kernel_rfl) (by kernel_rfl) (fun _ _ _ h => h) (Or.inr ⟨by rfl, rfl⟩) (by assumption) ?_
            simp only [Act.put, List.setIfInBounds_toArray, List.set_cons_zero, List.set_cons_succ]
            refine wpAnyH_take (i := 19) (oi := { dst := some 42, op := Op.load 3 (Operand.tmp 41), type := 3, pos := "plain.go:89", after := #[{ on := 18, ground := Ground.data }, { on := 9, ground := Ground.guard }], guard := some (9, true) }) rfl (by kernel_rfl) (by kernel_rfl) (by kernel_rfl) (fun _ _ _ h => h) (Or.inr ⟨by rfl, rfl⟩) (by assumption) ?_
            simp only [Act.put, List.setIfInBounds_toArray, List.set_cons_zero, List.set_cons_succ]
            refine wpAnyH_take (i := 20) (oi := { dst := some 43, op := Op.binOp BinOp.gtr 3 (Operand.tmp 37) (Operand.tmp 42) 3, type := 4, pos := "plain.go:89", after := #[{ on := 14, ground := Ground.data }, { on := 19, ground := Ground.data }, { on := 9, ground := Ground.guard }], guard := some (9, true) }) rfl (by kernel_rfl) (by kernel_rfl) (by kernel_rfl) (fun _ _ _ h => h) (Or.inr ⟨by rfl, rfl⟩) (by assumption) ?_
            simp only [Act.put, List.setIfInBounds_toArray, List.set_cons_zero, List.set_cons_succ]
            refine wpAnyH_take (i := 21) (oi := { dst := some 44, op := Op.pick (Operand.tmp 32) (Operand.tmp 43) (Operand.const (Value.bool false)), type := 4, pos := "plain.go:89", after := #[{ on := 9, ground := Ground.data }, { on := 20, ground := Ground.data }], guard := none }) (v := ?v21) rfl (by kernel_rfl) (by kernel_rfl) (by kernel_rfl) (fun _ _ _ h => h) (Or.inl ⟨by rfl, ?h21⟩) (by assumption) ?r21
            case h21 => (intro w0 hSw; (try dsimp only at hSw); go_simp; try (with_reducible rfl))
            simp only [Act.put, List.setIfInBounds_toArray, List.set_cons_zero, List.set_cons_succ]
            refine wpAnyH_done (by kernel_rfl) ?_ _
            go_wp2
            refine ⟨⟨j + 1, ival (by omega), by omega, congrArg Value.bool (by rw [HST.out, decide_eq_false hz]; cases C <;> rfl), chain HY.out.2 bb (Nat.le_refl _)⟩, by simp only [intOf]; omega⟩
        · have hjn : j = n := by omega
          have hC := noL_top (List.mem_of_getElem? HX.out.1)
          rw [← HA.out.2.2.2, ← hjn] at hC
          have HC := Hid.mk hC
          have j1 : (n : Int) ≤ (j : Int) := by omega
          have HB2 := Hid.mk hb2
          replace x0 := cell_lat hb2 x0
          replace x1 := cell_lat hb2 x1
          replace x2 := cell_lat hb2 x2
          replace x3 := cell_lat hb2 x3
          replace x4 := cell_lat hb2 x4
          obtain ⟨xd, hxd⟩ : ∃ d, x.d = d := ⟨_, rfl⟩
          rw [hxd] at x4
          have HD := Hid.mk hxd
          clear hC hjn hxd hb2 hj
          generalize noL all x j = C at HC ⊢
          have hL2 : LAt w2 va out := by
            obtain ⟨a', c', e1, -, hla⟩ := own_lat HX.out.2.2.1
            cases e1
            exact hla.below HB2.out
          have hput := put_any out va vc x w2 hL2 hvc (by have := HX.out.2.1.len; omega)
          simp only [enC] at hput
          have skip : ¬ (Top x all ∧ (x.d && bottom) = false) → ∃ (i' : Nat) (out' : List En), Value.int .i64 ((i : Int) + 1) = .int .i64 i' ∧ i' ≤ n ∧ LstI all bottom i' out' ∧ w2.ownsRow 0 23 5 (.slice va out.length vc) out'.length (out'.flatMap enC) ∧ (∀ g, (Value.slice va out.length vc).ownBlock = some g → w.heap.size ≤ g) ∧ Below w.heap.size w w2 := fun hn =>
            ⟨i + 1, out, ival (by omega), hlt, HX.out.2.1.skip HX.out.1 hn, row_kept HX.out.2.2.1 (F := fun _ => False) (.below HB2.out) (fun _ _ h => h), HX.out.2.2.2.1, chain HX.out.2.2.2.2.1 HB2.out (Nat.le_refl _)⟩
          have SK := Hid.mk skip
          rw [HD.out] at hput
          clear skip hL2
          cases C
          · clear hput
            go_wp2
            exact ⟨SK.out (fun h => by have := HC.out.2 h.1; cases this), by simp only [intOf]; omega⟩
          · have tp1 := HC.out.1 rfl
            cases bottom
            · have tp := Hid.mk (And.intro tp1 (show (x.d && false) = false by simp))
              clear tp1
              go_wp2_with fail
              refine hput.mono ?_
              clear hput
              rintro r w5 ⟨b5, k, pk, ⟨⟨hk, hz⟩, -⟩ | ⟨hn, v, rfl, ho5, hg5⟩⟩
              · exact absurd hz ((LstI.put HA.out.2.2.1 HX.out.2.1 HX.out.1 tp.out.1 tp.out.2 pk).1 hk)
              · have FN := Hid.mk (And.intro b5 (And.intro pk (And.intro ho5 hg5)))
                obtain ⟨xa, xc, rfl, -⟩ := slice_form ho5
                clear b5 pk ho5 hg5 hn
                go_wp2
                have b6 := chain HX.out.2.2.2.2.1 HB2.out (Nat.le_refl _)
                refine ⟨⟨i + 1, insP out x k, ival (by omega), hlt, (LstI.put HA.out.2.2.1 HX.out.2.1 HX.out.1 tp.out.1 tp.out.2 FN.out.2.1).2, FN.out.2.2.1, fun g hg => Nat.le_trans b6.size (FN.out.2.2.2 g hg), chain b6 FN.out.1 (Nat.le_refl _)⟩, by simp only [intOf]; omega⟩
            · cases xd
              · have tp := Hid.mk (And.intro tp1 (show (x.d && true) = false by rw [HD.out]; rfl))
                clear tp1
                go_wp2_with fail
                refine hput.mono ?_
                clear hput
                rintro r w5 ⟨b5, k, pk, ⟨⟨hk, hz⟩, -⟩ | ⟨hn, v, rfl, ho5, hg5⟩⟩
                · exact absurd hz ((LstI.put HA.out.2.2.1 HX.out.2.1 HX.out.1 tp.out.1 tp.out.2 pk).1 hk)
                · have FN := Hid.mk (And.intro b5 (And.intro pk (And.intro ho5 hg5)))
                  obtain ⟨xa, xc, rfl, -⟩ := slice_form ho5
                  clear b5 pk ho5 hg5 hn
                  go_wp2
                  have b6 := chain HX.out.2.2.2.2.1 HB2.out (Nat.le_refl _)
                  refine ⟨⟨i + 1, insP out x k, ival (by omega), hlt, (LstI.put HA.out.2.2.1 HX.out.2.1 HX.out.1 tp.out.1 tp.out.2 FN.out.2.1).2, FN.out.2.2.1, fun g hg => Nat.le_trans b6.size (FN.out.2.2.2 g hg), chain b6 FN.out.1 (Nat.le_refl _)⟩, by simp only [intOf]; omega⟩
              · clear hput
                go_wp2
                exact ⟨SK.out (fun h => by have h2 := h.2; rw [HD.out] at h2; cases h2), by simp only [intOf]; omega⟩
    · have i1 : (n : Int) ≤ (i : Int) := by omega
      have hin : i = n := by omega
      have FN := Hid.mk (And.intro hb (And.intro hI (And.intro ho (And.intro hg hin))))
      clear hb hI ho hg hin hlt
      go_wp2
      go_ret
      obtain ⟨f1, f2, f3, f4, f5⟩ := FN.out
      rw [f5, HA.out.2.2.2] at f2
      exact ⟨f1, out, _, f2, rfl, f3, f4⟩
end Go.Proofs.Ytchikfabfhjkgaa
