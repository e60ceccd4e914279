/-
  DERIVED. A feed: a list's entries one by one, counted.
-/
import Derived.Test.YtchikfabfhjkgaaMAsk
import Derived.BigRegion
import Derived.BigQuiet
import Derived.Deep.Cut
import Derived.Laws.IdiomCopy
set_option linter.unusedVariables false
set_option linter.unusedSimpArgs false
namespace Go.Proofs.Ytchikfabfhjkgaa.Fd
open Go.RowKit
/-- A feed's list, and how often it was asked. -/
structure FdAt (w0 : World) (B : Nat) (W : World) (bx : Nat) (X : List En) (u : Nat) : Prop where
  ex : ∃ la cap, W.heap[bx]? = some (.cells #[.slice la X.length cap, .int .i64 0, .bool false, .int .i64 0, .bool false, .int .i64 u] 48 (0, 0)) ∧ (X ≠ [] → ∃ g off, la = some ⟨g, off, none⟩ ∧ g < B ∧ RowAt w0 g off (X.flatMap enC)) ∧ X.length < 4611686018427387904
  hi : B ≤ bx
theorem FdAt.lt {w0 : World} {B : Nat} {W : World} {bx : Nat} {X : List En} {u : Nat} (h : FdAt w0 B W bx X u) : bx < W.heap.size := by
  obtain ⟨la, cap, h1, -⟩ := h.ex
  exact (Array.getElem?_eq_some_iff.1 h1).1
theorem FdAt.same {w0 : World} {B : Nat} {W W' : World} {bx : Nat} {X : List En} {u : Nat} (h : FdAt w0 B W bx X u) (b : W'.heap[bx]? = W.heap[bx]?) : FdAt w0 B W' bx X u := by
  obtain ⟨la, cap, h1, h3, h4⟩ := h.ex
  exact ⟨⟨la, cap, b.trans h1, h3, h4⟩, h.hi⟩
theorem FdAt.below {w0 : World} {B : Nat} {W W' : World} {bx : Nat} {X : List En} {u : Nat} (h : FdAt w0 B W bx X u) (b : Below W.heap.size W W') : FdAt w0 B W' bx X u := h.same (b.block bx h.lt)
theorem FdAt.up {w0 : World} {B : Nat} {W : World} {bx : Nat} {X : List En} {u : Nat} (h : FdAt w0 B W bx X u) : FdAt w0 B (W.setCell ⟨bx, 5, none⟩ (.int .i64 (u + 1 : Nat))) bx X (u + 1) := by
  obtain ⟨la, cap, h1, h3, h4⟩ := h.ex
  refine ⟨⟨la, cap, ?_, h3, h4⟩, h.hi⟩
  rw [heap_setCell_same W bx 5 _ _ _ h1]; rfl
/-- An entry is written into a block. -/
def set5 (W : World) (a : Nat) (e : En) : World := ((((W.setCell ⟨a, 0, none⟩ (.int .i64 e.v)).setCell ⟨a, 1, none⟩ (.string e.c)).setCell ⟨a, 2, none⟩ (.int .i64 e.i)).setCell ⟨a, 3, none⟩ (.int .i64 e.s)).setCell ⟨a, 4, none⟩ (.bool e.d)
theorem set5_stay (W : World) (a : Nat) (e : En) : Stay (fun k => k = a) W (set5 W a e) :=
  stay_one _ _ _ _ _ (stay_one _ _ _ _ _ (stay_one _ _ _ _ _ (stay_one _ _ _ _ _ (stay_one _ _ _ _ _ (.refl _ _)))))
theorem set5_at {W : World} {a : Nat} {e e' : En} (h : W.heap[a]? = some (.cells (enC e').toArray 23 (0, 0))) : (set5 W a e).heap[a]? = some (.cells (enC e).toArray 23 (0, 0)) := by
  have h1 := heap_setCell_same W a 0 _ _ (.int .i64 e.v) h
  have h2 := heap_setCell_same _ a 1 _ _ (.string e.c) h1
  have h3 := heap_setCell_same _ a 2 _ _ (.int .i64 e.i) h2
  have h4 := heap_setCell_same _ a 3 _ _ (.int .i64 e.s) h3
  exact heap_setCell_same _ a 4 _ _ (.bool e.d) h4
theorem set5_cells (W : World) (a : Nat) (e : En) : W.setCells a 0 (enC e) = set5 W a e := rfl
theorem run_set5 {W : World} {q : Nat} {e' : En} (h : W.heap[q]? = some (.cells (enC e').toArray 23 (0, 0))) (e : En) : (Instr.storeAt 23 (.pointer (some ⟨q, 0, none⟩)) (.agg (enC e).toArray)).run Try.prog W = .ok () (set5 W q e) := by
  have hst := run_storeCells_cells (P := Try.prog) q 0 (enC e) 0 W (fun j hj => by
    have hj' : j < 5 := hj
    rw [cell_of_row _ _ _ _ _ (0, 0) h]
    have : j = 0 ∨ j = 1 ∨ j = 2 ∨ j = 3 ∨ j = 4 := by omega
    rcases this with rfl | rfl | rfl | rfl | rfl <;> rfl) (fun j hj => frozen_of_row _ _ _ _ _ h) (fun v hv => by
    simp [enC] at hv
    rcases hv with rfl | rfl | rfl | rfl | rfl <;> rfl)
  rw [Nat.add_zero, set5_cells] at hst
  simp [Instr.storeAt, Instr.sureAddr, storeVar, Try.isAgg23]
  exact (if_pos rfl).trans hst
theorem oper_store_eq {P : Program} {w : World} {o : Oper} {a : Act} {K : Act → World → Prop} {Q : Exit → Act → World → Prop} (t : TypeId) (p x : Operand) (ho : o.op = .store t p x) (pv xv : Value) (w' : World) (hp : a.eval p = pv) (hx : a.eval x = xv) (hr : (Instr.storeAt t pv xv).run P w = .ok () w')
    (h : K (a.put o.dst undef) w') : Oper.wp P o a w K Q := by
  unfold Oper.wp
  simp [execOp, ho, hp, hx, hr, Result.andThen]
  exact h
/-- What a feed answers. -/
def fdA (X : List En) (u : Nat) : Value := match X[u]? with
  | some e => .tuple #[.agg (enC e).toArray, .bool true, .int .i64 0]
  | none => .tuple #[zeroE, .bool false, .int .i64 0]
set_option maxHeartbeats 4000000 in
set_option maxRecDepth 100000 in
theorem fnext_any {w0 : World} {B : Nat} (bx : Nat) (X : List En) (u : Nat) (w : World) (h : FdAt w0 B w bx X u) (hB : Below B w0 w) (hu : u < 4611686018427387904) :
    Calls Try.prog 36 #[.pointer (some ⟨bx, 0, none⟩)] w fun r w' => r = .returned (fdA X u) ∧ FdAt w0 B w' bx X (u + 1) ∧ Stay (fun k => k = bx) w w' := by
  obtain ⟨la, cap, h1, h3, h4⟩ := h.ex
  have bA : Below w.heap.size w (w.alloc (.cells #[.int .i64 0, .string ⟨#[]⟩, .int .i64 0, .int .i64 0, .bool false] 23)) := (Below.refl _ w).alloc (Nat.le_refl _) _
  obtain ⟨wA, hwA⟩ : ∃ wA, wA = w.alloc (.cells #[.int .i64 0, .string ⟨#[]⟩, .int .i64 0, .int .i64 0, .bool false] 23) := ⟨_, rfl⟩
  rw [← hwA] at bA
  have hA := h.below bA
  have hbx := (bA.block bx (Array.getElem?_eq_some_iff.1 h1).1).trans h1
  have hres : wA.heap[w.heap.size]? = some (.cells #[.int .i64 0, .string ⟨#[]⟩, .int .i64 0, .int .i64 0, .bool false] 23 (0, 0)) := by rw [hwA]; exact heap_alloc_last w _
  have hlt := h.lt
  have c0 : wA.cell? ⟨bx, 0, none⟩ = some (.slice la X.length cap) := by rw [cell_of_row _ _ 0 _ _ (0, 0) hbx]; rfl
  have c1 : wA.cell? ⟨bx, 1, none⟩ = some (.int .i64 0) := by rw [cell_of_row _ _ 1 _ _ (0, 0) hbx]; rfl
  have c5 : wA.cell? ⟨bx, 5, none⟩ = some (.int .i64 u) := by rw [cell_of_row _ _ 5 _ _ (0, 0) hbx]; rfl
  have f5 : wA.frozen? ⟨bx, 5, none⟩ = false := frozen_of_row _ _ _ _ _ hbx
  have wu : IntKind.i64.wrap ((u : Int) + 1) = ((u + 1 : Nat) : Int) := i64_in _ (by omega) (by omega)
  have HH := Hid.mk (And.intro hA (And.intro bA (And.intro hres (And.intro h3 (And.intro hB (And.intro h4 hwA))))))
  clear h h1 h3 hA bA hbx hres hB hwA h4
  go_enter Try.func36, Try.ntmps36
  go_upto_region 1 with fail
  rw [← HH.out.2.2.2.2.2.2]
  go_upto_region 2 with fail
  obtain ⟨wB, hwB⟩ : ∃ wB, wB = wA.setCell ⟨bx, 5, none⟩ (.int .i64 ((u : Int) + 1)) := ⟨_, rfl⟩
  rw [← hwB]
  have sB : Stay (fun k => k = bx) wA wB := by rw [hwB]; exact stay_one _ _ _ _ _ (.refl _ _)
  have hB2 : FdAt w0 B wB bx X (u + 1) := by rw [hwB]; exact HH.out.1.up
  have hresB : wB.heap[w.heap.size]? = some (.cells #[.int .i64 0, .string ⟨#[]⟩, .int .i64 0, .int .i64 0, .bool false] 23 (0, 0)) := (sB.block _ (Array.getElem?_eq_some_iff.1 HH.out.2.2.1).1 (by omega)).trans HH.out.2.2.1
  obtain ⟨la2, cap2, hbx2, -⟩ := hB2.ex
  have d0' : wB.cell? ⟨bx, 0, none⟩ = wA.cell? ⟨bx, 0, none⟩ := by rw [hwB]; exact World.cell?_setCell_other _ _ _ _ (by simp)
  have d1' : wB.cell? ⟨bx, 1, none⟩ = wA.cell? ⟨bx, 1, none⟩ := by rw [hwB]; exact World.cell?_setCell_other _ _ _ _ (by simp)
  have d0 := d0'.trans c0
  have d1 := d1'.trans c1
  have d5 : wB.cell? ⟨bx, 5, none⟩ = some (.int .i64 ((u : Int) + 1)) := by rw [cell_of_row _ _ 5 _ _ (0, 0) hbx2]; rfl
  have HB2 := Hid.mk (And.intro hB2 (And.intro hresB sB))
  clear d0' d1' c0 c1 c5 f5 hwB hB2 hresB sB hbx2
  go_quiet (fail)
  rename_i nq
  obtain ⟨wC, hwC⟩ : ∃ wC, wC = wB.drewN nq := ⟨_, rfl⟩
  have c0C : wC.cell? ⟨bx, 0, none⟩ = some (.slice la X.length cap) := by rw [hwC]; exact d0
  have e1 : wC.cell? ⟨bx, 1, none⟩ = some (.int .i64 0) := by rw [hwC]; exact d1
  have e5 : wC.cell? ⟨bx, 5, none⟩ = some (.int .i64 ((u : Int) + 1)) := by rw [hwC]; exact d5
  have HC2 : Hid (FdAt w0 B wC bx X (u + 1) ∧ wC.heap[w.heap.size]? = some (.cells #[.int .i64 0, .string ⟨#[]⟩, .int .i64 0, .int .i64 0, .bool false] 23 (0, 0)) ∧ Stay (fun k => k = bx) wA wC) := by
    rw [hwC]
    exact ⟨HB2.out.1.same rfl, HB2.out.2.1, ⟨HB2.out.2.2.os, HB2.out.2.2.tape, HB2.out.2.2.output, HB2.out.2.2.size, HB2.out.2.2.block⟩⟩
  rw [← hwC]
  clear hwC d0 d1 d5 HB2
  by_cases hul : u < X.length
  · have hc : ¬ (X.length : Int) < (u : Int) + 1 := by omega
    obtain ⟨g, off, hla, hg, hrow⟩ := HH.out.2.2.2.1 (fun e => by rw [e] at hul; simp at hul)
    subst hla
    have hCw : Below B w0 wC := by
      have b2 := HH.out.2.2.2.2.1
      have hBl : B ≤ w.heap.size := by have := HH.out.1.hi; omega
      exact (b2.trans (HH.out.2.1.mono hBl)).trans (HC2.out.2.2.toBelow (fun k hk e => by have := HH.out.1.hi; omega) (Nat.le_trans hBl HH.out.2.1.size))
    have hra : RowAt wC g off (X.flatMap enC) := fun j x hx => (hCw.cell (p := ⟨g, off + j, none⟩) hg).trans (hrow j x hx)
    obtain ⟨x0, x1, x2, x3, x4⟩ := row_en hra rfl u hul
    have HA : Hid (fdA X u = .tuple #[.agg (enC X[u]).toArray, .bool true, .int .i64 0]) := Hid.mk (by unfold fdA; rw [List.getElem?_eq_getElem hul])
    obtain ⟨e, he⟩ : ∃ e, e = X[u] := ⟨_, rfl⟩
    rw [← he] at x0 x1 x2 x3 x4 HA
    have hgr : g ≠ w.heap.size := by have := HH.out.1.hi; omega
    have hgb : g ≠ bx := by have := HH.out.1.hi; omega
    have hrb : w.heap.size ≠ bx := by omega
    have hul' : (u : Int) < (X.length : Int) := by omega
    have u0 : 0 ≤ (u : Int) := by omega
    have a1 : IntKind.i64.wrap (u : Int) = (u : Int) := i64_in _ (by omega) (by omega)
    clear hra hrow he hCw
    obtain ⟨ev, ec, ei, es, ed⟩ := e
    simp only at x0 x1 x2 x3 x4
    go_upto_region 4 with fail
    obtain ⟨wD, hwD⟩ : ∃ wD, wD = wC.drew := ⟨_, rfl⟩
    have hD : wD.heap[w.heap.size]? = some (.cells (enC e0).toArray 23 (0, 0)) := by rw [hwD]; exact HC2.out.2.1
    have hrun := run_set5 hD ⟨ev, ec, ei, es, ed⟩
    have HS := Hid.mk (And.intro (set5_at (e := ⟨ev, ec, ei, es, ed⟩) hD) (set5_stay wD w.heap.size ⟨ev, ec, ei, es, ed⟩))
    have k9 : ∀ (p : Addr) (v : Value), p.block ≠ w.heap.size → wC.cell? p = some v → (set5 wD w.heap.size ⟨ev, ec, ei, es, ed⟩).cell? p = some v := fun p v hp hv => by
      have hv' : wD.cell? p = some v := by rw [hwD]; exact hv
      exact (World.cell?_of_block ((set5_stay wD w.heap.size ⟨ev, ec, ei, es, ed⟩).block p.block (World.block_lt_of_cell? _ _ hv') hp)).trans hv'
    have s9 := And.intro (k9 ⟨bx, 0, none⟩ _ (fun e => hrb e.symm) c0C) (And.intro (k9 ⟨bx, 5, none⟩ _ (fun e => hrb e.symm) e5) (And.intro (k9 ⟨g, off + u * 5, none⟩ _ hgr x0) (And.intro (k9 ⟨g, off + u * 5 + 1, none⟩ _ hgr x1) (And.intro (k9 ⟨g, off + u * 5 + 2, none⟩ _ hgr x2) (And.intro (k9 ⟨g, off + u * 5 + 3, none⟩ _ hgr x3) (k9 ⟨g, off + u * 5 + 4, none⟩ _ hgr x4))))))
    obtain ⟨w9, hw9⟩ : ∃ w9, w9 = set5 wD w.heap.size ⟨ev, ec, ei, es, ed⟩ := ⟨_, rfl⟩
    rw [← hw9] at hrun HS s9
    have HR := Hid.mk hrun
    have H9 := Hid.mk s9
    have HWD := Hid.mk hwD
    clear hrun s9 k9 hw9 hD hwD
    refine wp_region_held_drew (S := fun w' => w'.cell? ⟨bx, 0, none⟩ = some (.slice (some ⟨g, off, none⟩) X.length cap) ∧ w'.cell? ⟨bx, 5, none⟩ = some (.int .i64 ((u : Int) + 1)) ∧ w'.cell? ⟨g, off + u * 5, none⟩ = some (.int .i64 ev) ∧ w'.cell? ⟨g, off + u * 5 + 1, none⟩ = some (.string ec) ∧ w'.cell? ⟨g, off + u * 5 + 2, none⟩ = some (.int .i64 ei) ∧ w'.cell? ⟨g, off + u * 5 + 3, none⟩ = some (.int .i64 es) ∧ w'.cell? ⟨g, off + u * 5 + 4, none⟩ = some (.bool ed)) (by kernel_rfl) ?_ (fun hHeld => ?_)
    · exact ⟨c0C, e5, x0, x1, x2, x3, x4⟩
    rw [← HWD.out] at hHeld ⊢
    refine wpAnyH_take (i := 0) (oi := { dst := some 29, op := Op.move (Operand.tmp 0), type := 49, pos := "law.go:190", after := #[], guard := none }) (v := ?vb0) rfl (by kernel_rfl) (by kernel_rfl) (by kernel_rfl) (fun _ _ _ h => h) (Or.inl ⟨by rfl, ?hb0⟩) (by assumption) ?rb0
    case hb0 => (intro w0 hSw; (try dsimp only at hSw); go_simp; try (with_reducible rfl))
    simp only [Act.put, List.setIfInBounds_toArray, List.set_cons_zero, List.set_cons_succ]
    refine wpAnyH_take (i := 1) (oi := { dst := some 30, op := Op.nilCheck (Operand.tmp 29), type := 0, pos := "law.go:190", after := #[{ on := 0, ground := Ground.data }], guard := none }) (v := ?vb1) rfl (by kernel_rfl) (by kernel_rfl) (by kernel_rfl) (fun _ _ _ h => h) (Or.inl ⟨by rfl, ?hb1⟩) (by assumption) ?rb1
    case hb1 => (intro w0 hSw; (try dsimp only at hSw); go_simp; try (with_reducible rfl))
    simp only [Act.put, List.setIfInBounds_toArray, List.set_cons_zero, List.set_cons_succ]
    refine wpAnyH_take (i := 2) (oi := { dst := some 31, op := Op.fieldAddr 48 (Operand.tmp 30) 0, type := 0, pos := "law.go:190", after := #[{ on := 1, ground := Ground.data }], guard := none }) (v := ?vb2) rfl (by kernel_rfl) (by kernel_rfl) (by kernel_rfl) (fun _ _ _ h => h) (Or.inl ⟨by rfl, ?hb2⟩) (by assumption) ?rb2
    case hb2 => (intro w0 hSw; (try dsimp only at hSw); go_simp; try (with_reducible rfl))
    simp only [Act.put, List.setIfInBounds_toArray, List.set_cons_zero, List.set_cons_succ]
    refine wpAnyH_take (i := 3) (oi := { dst := some 32, op := Op.fieldAddr 34 (Operand.tmp 31) 0, type := 0, pos := "law.go:190", after := #[{ on := 2, ground := Ground.data }], guard := none }) (v := ?vb3) rfl (by kernel_rfl) (by kernel_rfl) (by kernel_rfl) (fun _ _ _ h => h) (Or.inl ⟨by rfl, ?hb3⟩) (by assumption) ?rb3
    case hb3 => (intro w0 hSw; (try dsimp only at hSw); go_simp; try (with_reducible rfl))
    simp only [Act.put, List.setIfInBounds_toArray, List.set_cons_zero, List.set_cons_succ]
    refine wpAnyH_take (i := 4) (oi := { dst := some 33, op := Op.load 24 (Operand.tmp 32), type := 24, pos := "law.go:190", after := #[{ on := 3, ground := Ground.data }], guard := none }) (v := ?vb4) rfl (by kernel_rfl) (by kernel_rfl) (by kernel_rfl) (fun _ _ _ h => h) (Or.inl ⟨by rfl, ?hb4⟩) (by assumption) ?rb4
    case hb4 => (intro w0 hSw; (try dsimp only at hSw); go_simp; try (with_reducible rfl))
    simp only [Act.put, List.setIfInBounds_toArray, List.set_cons_zero, List.set_cons_succ]
    refine wpAnyH_take (i := 5) (oi := { dst := some 34, op := Op.move (Operand.tmp 0), type := 49, pos := "law.go:190", after := #[], guard := none }) (v := ?vb5) rfl (by kernel_rfl) (by kernel_rfl) (by kernel_rfl) (fun _ _ _ h => h) (Or.inl ⟨by rfl, ?hb5⟩) (by assumption) ?rb5
    case hb5 => (intro w0 hSw; (try dsimp only at hSw); go_simp; try (with_reducible rfl))
    simp only [Act.put, List.setIfInBounds_toArray, List.set_cons_zero, List.set_cons_succ]
    refine wpAnyH_take (i := 6) (oi := { dst := some 35, op := Op.nilCheck (Operand.tmp 34), type := 0, pos := "law.go:190", after := #[{ on := 5, ground := Ground.data }], guard := none }) (v := ?vb6) rfl (by kernel_rfl) (by kernel_rfl) (by kernel_rfl) (fun _ _ _ h => h) (Or.inl ⟨by rfl, ?hb6⟩) (by assumption) ?rb6
    case hb6 => (intro w0 hSw; (try dsimp only at hSw); go_simp; try (with_reducible rfl))
    simp only [Act.put, List.setIfInBounds_toArray, List.set_cons_zero, List.set_cons_succ]
    refine wpAnyH_take (i := 7) (oi := { dst := some 36, op := Op.fieldAddr 48 (Operand.tmp 35) 1, type := 0, pos := "law.go:190", after := #[{ on := 6, ground := Ground.data }], guard := none }) (v := ?vb7) rfl (by kernel_rfl) (by kernel_rfl) (by kernel_rfl) (fun _ _ _ h => h) (Or.inl ⟨by rfl, ?hb7⟩) (by assumption) ?rb7
    case hb7 => (intro w0 hSw; (try dsimp only at hSw); go_simp; try (with_reducible rfl))
    simp only [Act.put, List.setIfInBounds_toArray, List.set_cons_zero, List.set_cons_succ]
    refine wpAnyH_take (i := 8) (oi := { dst := some 37, op := Op.load 3 (Operand.tmp 36), type := 3, pos := "law.go:190", after := #[{ on := 7, ground := Ground.data }], guard := none }) (v := ?vb8) rfl (by kernel_rfl) (by kernel_rfl) (by kernel_rfl) (fun _ _ _ h => h) (Or.inl ⟨by rfl, ?hb8⟩) (by assumption) ?rb8
    case hb8 => (intro w0 hSw; (try dsimp only at hSw); go_simp; try (with_reducible rfl))
    simp only [Act.put, List.setIfInBounds_toArray, List.set_cons_zero, List.set_cons_succ]
    refine wpAnyH_take (i := 9) (oi := { dst := some 38, op := Op.binOp BinOp.sub 3 (Operand.tmp 37) (Operand.const (Value.int IntKind.i64 1)) 3, type := 3, pos := "law.go:190", after := #[{ on := 8, ground := Ground.data }], guard := none }) (v := ?vb9) rfl (by kernel_rfl) (by kernel_rfl) (by kernel_rfl) (fun _ _ _ h => h) (Or.inl ⟨by rfl, ?hb9⟩) (by assumption) ?rb9
    case hb9 => (intro w0 hSw; (try dsimp only at hSw); go_simp; try (with_reducible rfl))
    simp only [Act.put, List.setIfInBounds_toArray, List.set_cons_zero, List.set_cons_succ]
    refine wpAnyH_take (i := 10) (oi := { dst := some 39, op := Op.indexAddr 24 (Operand.tmp 33) (Operand.tmp 38), type := 0, pos := "law.go:190", after := #[{ on := 4, ground := Ground.data }, { on := 9, ground := Ground.data }], guard := none }) (v := ?vb10) rfl (by kernel_rfl) (by kernel_rfl) (by kernel_rfl) (fun _ _ _ h => h) (Or.inl ⟨by rfl, ?hb10⟩) (by assumption) ?rb10
    case hb10 => (intro w0 hSw; (try dsimp only at hSw); go_simp; try (with_reducible rfl))
    simp only [Act.put, List.setIfInBounds_toArray, List.set_cons_zero, List.set_cons_succ]
    refine wpAnyH_take (i := 11) (oi := { dst := some 40, op := Op.load 23 (Operand.tmp 39), type := 23, pos := "law.go:190", after := #[{ on := 10, ground := Ground.data }], guard := none }) (v := ?vb11) rfl (by kernel_rfl) (by kernel_rfl) (by kernel_rfl) (fun _ _ _ h => h) (Or.inl ⟨by rfl, ?hb11⟩) (by assumption) ?rb11
    case hb11 => (intro w0 hSw; (try dsimp only at hSw); go_simp; try (with_reducible rfl))
    simp only [Act.put, List.setIfInBounds_toArray, List.set_cons_zero, List.set_cons_succ]
    refine wpAnyH_ready (rs := [12]) (by kernel_rfl) (by simp) ?_
    refine AllReadyH.cons rfl (fun K hK => ?_) AllReadyH.nil
    rw [if_pos (by rfl)]
    refine oper_store_eq _ _ _ rfl _ _ _ rfl rfl HR.out ?_
    go_simp
    refine hK.out _ _ ?_ (fun hHeld => ?_)
    · exact H9.out
    clear hK K
    refine wpAnyH_take (i := 13) (oi := { dst := some 3, op := Op.assign (Operand.const (Value.bool true)), type := 4, pos := "law.go:190", after := #[{ on := 12, ground := Ground.chain }, { on := 0, ground := Ground.phase }, { on := 1, ground := Ground.phase }, { on := 2, ground := Ground.phase }, { on := 3, ground := Ground.phase }, { on := 4, ground := Ground.phase }, { on := 5, ground := Ground.phase }, { on := 6, ground := Ground.phase }, { on := 7, ground := Ground.phase }, { on := 8, ground := Ground.phase }, { on := 9, ground := Ground.phase }, { on := 10, ground := Ground.phase }, { on := 11, ground := Ground.phase }, { on := 12, ground := Ground.phase }], guard := none }) (v := ?vb13) rfl (by kernel_rfl) (by kernel_rfl) (by kernel_rfl) (fun _ _ _ h => h) (Or.inl ⟨by rfl, ?hb13⟩) (by assumption) ?rb13
    case hb13 => (intro w0 hSw; (try dsimp only at hSw); go_simp; try (with_reducible rfl))
    simp only [Act.put, List.setIfInBounds_toArray, List.set_cons_zero, List.set_cons_succ]
    refine wpAnyH_take (i := 14) (oi := { dst := some 4, op := Op.assign (Operand.const (Value.int IntKind.i64 0)), type := 27, pos := "law.go:190", after := #[{ on := 13, ground := Ground.chain }, { on := 0, ground := Ground.phase }, { on := 1, ground := Ground.phase }, { on := 2, ground := Ground.phase }, { on := 3, ground := Ground.phase }, { on := 4, ground := Ground.phase }, { on := 5, ground := Ground.phase }, { on := 6, ground := Ground.phase }, { on := 7, ground := Ground.phase }, { on := 8, ground := Ground.phase }, { on := 9, ground := Ground.phase }, { on := 10, ground := Ground.phase }, { on := 11, ground := Ground.phase }, { on := 12, ground := Ground.phase }, { on := 13, ground := Ground.phase }], guard := none }) (v := ?vb14) rfl (by kernel_rfl) (by kernel_rfl) (by kernel_rfl) (fun _ _ _ h => h) (Or.inl ⟨by rfl, ?hb14⟩) (by assumption) ?rb14
    case hb14 => (intro w0 hSw; (try dsimp only at hSw); go_simp; try (with_reducible rfl))
    simp only [Act.put, List.setIfInBounds_toArray, List.set_cons_zero, List.set_cons_succ]
    refine wpAnyH_done (by kernel_rfl) ?_ _
    go_wp2
    have v0 : w9.cell? ⟨w.heap.size, 0, none⟩ = some (.int .i64 ev) := by rw [cell_of_row _ _ 0 _ _ (0, 0) HS.out.1]; rfl
    have v1 : w9.cell? ⟨w.heap.size, 1, none⟩ = some (.string ec) := by rw [cell_of_row _ _ 1 _ _ (0, 0) HS.out.1]; rfl
    have v2 : w9.cell? ⟨w.heap.size, 2, none⟩ = some (.int .i64 ei) := by rw [cell_of_row _ _ 2 _ _ (0, 0) HS.out.1]; rfl
    have v3 : w9.cell? ⟨w.heap.size, 3, none⟩ = some (.int .i64 es) := by rw [cell_of_row _ _ 3 _ _ (0, 0) HS.out.1]; rfl
    have v4 : w9.cell? ⟨w.heap.size, 4, none⟩ = some (.bool ed) := by rw [cell_of_row _ _ 4 _ _ (0, 0) HS.out.1]; rfl
    refine bodyPost_ret (v := .tuple #[.agg #[.int .i64 ev, .string ec, .int .i64 ei, .int .i64 es, .bool ed], .bool true, .int .i64 0]) (by simp [results, Try.results36, go_sem, v0, v1, v2, v3, v4]; try rfl) rfl ?_
    have st9 : Stay (fun k => k = w.heap.size) wC w9 := by have := HS.out.2; rw [HWD.out] at this; exact ⟨this.os, this.tape, this.output, this.size, this.block⟩
    exact ⟨by rw [HA.out]; rfl, HC2.out.1.same (st9.block bx HC2.out.1.lt (fun e => hrb e.symm)), ((Stay.below HH.out.2.1).trans HC2.out.2.2).andThen st9 (fun k hk e => by omega)⟩
  · have hc : (X.length : Int) < (u : Int) + 1 := by omega
    have HA : Hid (fdA X u = .tuple #[zeroE, .bool false, .int .i64 0]) := Hid.mk (by unfold fdA; rw [List.getElem?_eq_none (by omega)])
    have hrb : w.heap.size ≠ bx := by omega
    go_upto_region 3 with fail
    obtain ⟨wD, hwD⟩ : ∃ wD, wD = wC.drew := ⟨_, rfl⟩
    have hD : wD.heap[w.heap.size]? = some (.cells (enC e0).toArray 23 (0, 0)) := by rw [hwD]; exact HC2.out.2.1
    have hrun := run_set5 hD e0
    have HS := Hid.mk (And.intro (set5_at (e := e0) hD) (set5_stay wD w.heap.size e0))
    have k9 : ∀ (p : Addr) (v : Value), p.block ≠ w.heap.size → wC.cell? p = some v → (set5 wD w.heap.size e0).cell? p = some v := fun p v hp hv => by
      have hv' : wD.cell? p = some v := by rw [hwD]; exact hv
      exact (World.cell?_of_block ((set5_stay wD w.heap.size e0).block p.block (World.block_lt_of_cell? _ _ hv') hp)).trans hv'
    have s9 := k9 ⟨bx, 1, none⟩ _ (fun e => hrb e.symm) e1
    obtain ⟨w9, hw9⟩ : ∃ w9, w9 = set5 wD w.heap.size e0 := ⟨_, rfl⟩
    rw [← hw9] at hrun HS s9
    have HR := Hid.mk hrun
    have H9 := Hid.mk s9
    have HWD := Hid.mk hwD
    clear hrun s9 k9 hw9 hD hwD
    refine wp_region_held_drew (S := fun w' => w'.cell? ⟨bx, 1, none⟩ = some (.int .i64 0)) (by kernel_rfl) ?_ (fun hHeld => ?_)
    · exact e1
    rw [← HWD.out] at hHeld ⊢
    refine wpAnyH_take (i := 0) (oi := { dst := some 23, op := Op.build 23 #[], type := 23, pos := "law.go:188", after := #[], guard := none }) (v := ?va0) rfl (by kernel_rfl) (by kernel_rfl) (by kernel_rfl) (fun _ _ _ h => h) (Or.inl ⟨by rfl, ?ha0⟩) (by assumption) ?ra0
    case ha0 => (intro w0 hSw; (try dsimp only at hSw); go_simp; try (with_reducible rfl))
    simp only [Act.put, List.setIfInBounds_toArray, List.set_cons_zero, List.set_cons_succ]
    refine wpAnyH_take (i := 1) (oi := { dst := some 24, op := Op.move (Operand.tmp 0), type := 49, pos := "law.go:188", after := #[{ on := 7, ground := Ground.gcOnly Departure.lateStores }], guard := none }) (v := ?va1) rfl (by kernel_rfl) (by kernel_rfl) (by kernel_rfl) (fun _ _ _ h => h) (Or.inl ⟨by rfl, ?ha1⟩) (by assumption) ?ra1
    case ha1 => (intro w0 hSw; (try dsimp only at hSw); go_simp; try (with_reducible rfl))
    simp only [Act.put, List.setIfInBounds_toArray, List.set_cons_zero, List.set_cons_succ]
    refine wpAnyH_take (i := 2) (oi := { dst := some 25, op := Op.nilCheck (Operand.tmp 24), type := 0, pos := "law.go:188", after := #[{ on := 1, ground := Ground.data }, { on := 7, ground := Ground.gcOnly Departure.lateStores }], guard := none }) (v := ?va2) rfl (by kernel_rfl) (by kernel_rfl) (by kernel_rfl) (fun _ _ _ h => h) (Or.inl ⟨by rfl, ?ha2⟩) (by assumption) ?ra2
    case ha2 => (intro w0 hSw; (try dsimp only at hSw); go_simp; try (with_reducible rfl))
    simp only [Act.put, List.setIfInBounds_toArray, List.set_cons_zero, List.set_cons_succ]
    refine wpAnyH_take (i := 3) (oi := { dst := some 26, op := Op.fieldAddr 48 (Operand.tmp 25) 0, type := 0, pos := "law.go:188", after := #[{ on := 2, ground := Ground.data }, { on := 7, ground := Ground.gcOnly Departure.lateStores }], guard := none }) (v := ?va3) rfl (by kernel_rfl) (by kernel_rfl) (by kernel_rfl) (fun _ _ _ h => h) (Or.inl ⟨by rfl, ?ha3⟩) (by assumption) ?ra3
    case ha3 => (intro w0 hSw; (try dsimp only at hSw); go_simp; try (with_reducible rfl))
    simp only [Act.put, List.setIfInBounds_toArray, List.set_cons_zero, List.set_cons_succ]
    refine wpAnyH_take (i := 4) (oi := { dst := some 27, op := Op.fieldAddr 34 (Operand.tmp 26) 1, type := 0, pos := "law.go:188", after := #[{ on := 3, ground := Ground.data }, { on := 7, ground := Ground.gcOnly Departure.lateStores }], guard := none }) (v := ?va4) rfl (by kernel_rfl) (by kernel_rfl) (by kernel_rfl) (fun _ _ _ h => h) (Or.inl ⟨by rfl, ?ha4⟩) (by assumption) ?ra4
    case ha4 => (intro w0 hSw; (try dsimp only at hSw); go_simp; try (with_reducible rfl))
    simp only [Act.put, List.setIfInBounds_toArray, List.set_cons_zero, List.set_cons_succ]
    refine wpAnyH_take (i := 5) (oi := { dst := some 28, op := Op.load 3 (Operand.tmp 27), type := 3, pos := "law.go:188", after := #[{ on := 4, ground := Ground.data }, { on := 7, ground := Ground.gcOnly Departure.lateStores }], guard := none }) (v := ?va5) rfl (by kernel_rfl) (by kernel_rfl) (by kernel_rfl) (fun _ _ _ h => h) (Or.inl ⟨by rfl, ?ha5⟩) (by assumption) ?ra5
    case ha5 => (intro w0 hSw; (try dsimp only at hSw); go_simp; try (with_reducible rfl))
    simp only [Act.put, List.setIfInBounds_toArray, List.set_cons_zero, List.set_cons_succ]
    refine wpAnyH_ready (rs := [6]) (by kernel_rfl) (by simp) ?_
    refine AllReadyH.cons rfl (fun K hK => ?_) AllReadyH.nil
    rw [if_pos (by rfl)]
    refine oper_store_eq _ _ _ rfl _ _ _ rfl rfl HR.out ?_
    go_simp
    refine hK.out _ _ ?_ (fun hHeld => ?_)
    · exact H9.out
    clear hK K
    refine wpAnyH_take (i := 7) (oi := { dst := some 3, op := Op.assign (Operand.const (Value.bool false)), type := 4, pos := "law.go:188", after := #[{ on := 6, ground := Ground.chain }, { on := 0, ground := Ground.phase }, { on := 1, ground := Ground.textOnly Departure.lateStores }, { on := 2, ground := Ground.textOnly Departure.lateStores }, { on := 3, ground := Ground.textOnly Departure.lateStores }, { on := 4, ground := Ground.textOnly Departure.lateStores }, { on := 5, ground := Ground.textOnly Departure.lateStores }, { on := 6, ground := Ground.phase }], guard := none }) (v := ?va7) rfl (by kernel_rfl) (by kernel_rfl) (by kernel_rfl) (fun _ _ _ h => h) (Or.inl ⟨by rfl, ?ha7⟩) (by assumption) ?ra7
    case ha7 => (intro w0 hSw; (try dsimp only at hSw); go_simp; try (with_reducible rfl))
    simp only [Act.put, List.setIfInBounds_toArray, List.set_cons_zero, List.set_cons_succ]
    refine wpAnyH_take (i := 8) (oi := { dst := some 4, op := Op.assign (Operand.tmp 28), type := 27, pos := "law.go:188", after := #[{ on := 5, ground := Ground.data }, { on := 7, ground := Ground.chain }, { on := 0, ground := Ground.phase }, { on := 1, ground := Ground.phase }, { on := 2, ground := Ground.phase }, { on := 3, ground := Ground.phase }, { on := 4, ground := Ground.phase }, { on := 5, ground := Ground.phase }, { on := 6, ground := Ground.phase }, { on := 7, ground := Ground.phase }], guard := none }) (v := ?va8) rfl (by kernel_rfl) (by kernel_rfl) (by kernel_rfl) (fun _ _ _ h => h) (Or.inl ⟨by rfl, ?ha8⟩) (by assumption) ?ra8
    case ha8 => (intro w0 hSw; (try dsimp only at hSw); go_simp; try (with_reducible rfl))
    simp only [Act.put, List.setIfInBounds_toArray, List.set_cons_zero, List.set_cons_succ]
    refine wpAnyH_done (by kernel_rfl) ?_ _
    go_wp2
    have v0 : w9.cell? ⟨w.heap.size, 0, none⟩ = some (.int .i64 0) := by rw [cell_of_row _ _ 0 _ _ (0, 0) HS.out.1]; rfl
    have v1 : w9.cell? ⟨w.heap.size, 1, none⟩ = some (.string ⟨#[]⟩) := by rw [cell_of_row _ _ 1 _ _ (0, 0) HS.out.1]; rfl
    have v2 : w9.cell? ⟨w.heap.size, 2, none⟩ = some (.int .i64 0) := by rw [cell_of_row _ _ 2 _ _ (0, 0) HS.out.1]; rfl
    have v3 : w9.cell? ⟨w.heap.size, 3, none⟩ = some (.int .i64 0) := by rw [cell_of_row _ _ 3 _ _ (0, 0) HS.out.1]; rfl
    have v4 : w9.cell? ⟨w.heap.size, 4, none⟩ = some (.bool false) := by rw [cell_of_row _ _ 4 _ _ (0, 0) HS.out.1]; rfl
    refine bodyPost_ret (v := .tuple #[zeroE, .bool false, .int .i64 0]) (by simp [results, Try.results36, go_sem, v0, v1, v2, v3, v4]; try rfl) rfl ?_
    have st9 : Stay (fun k => k = w.heap.size) wC w9 := by have := HS.out.2; rw [HWD.out] at this; exact ⟨this.os, this.tape, this.output, this.size, this.block⟩
    exact ⟨by rw [HA.out], HC2.out.1.same (st9.block bx HC2.out.1.lt (fun e => hrb e.symm)), ((Stay.below HH.out.2.1).trans HC2.out.2.2).andThen st9 (fun k hk e => by omega)⟩
end Go.Proofs.Ytchikfabfhjkgaa.Fd
