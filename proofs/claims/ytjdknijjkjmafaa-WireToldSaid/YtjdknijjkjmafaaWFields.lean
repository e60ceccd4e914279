/-
  DERIVED. What an operation names, handed to any handler.
-/
import Derived.Test.YtjdknijjkjmafaaBStay
import Derived.Deep.RegionHeld
import Derived.Shelf.Abstract
set_option linter.unusedVariables false
set_option linter.unusedSimpArgs false
namespace Go.Proofs.Ytjdknijjkjmafaa
open Go.RowKit
abbrev Pc (g o : Nat) : Value := .pointer (some ⟨g, o, none⟩)
abbrev Fv (F : Nat) (A : Array Value) : Value := .func (.func F) A #[]
/-- A handler's three functions: their numbers, and what is bound. -/
structure Hn where
  n : Nat
  t : Nat
  h : Nat
  A : Array Value
abbrev Hn.v (H : Hn) : Value := .agg #[Fv H.n H.A, Fv H.t H.A, Fv H.h H.A]
abbrev Hn.box (H : Hn) : Obj := .cells #[Fv H.n H.A, Fv H.t H.A, Fv H.h H.A] 73 (0, 0)
def Ent (f : Nat) : Prop := ∀ args W, (callFunc f args).run Try.prog W = .ok (.enter f args) W
theorem box_cell {w : World} {g : Nat} {H : Hn} (h : w.heap[g]? = some H.box) : w.cell? ⟨g, 0, none⟩ = some (Fv H.n H.A) ∧ w.cell? ⟨g, 1, none⟩ = some (Fv H.t H.A) ∧ w.cell? ⟨g, 2, none⟩ = some (Fv H.h H.A) := by
  refine ⟨?_, ?_, ?_⟩ <;> simp [World.cell?, h, Hn.box]
abbrev Un : Ending := .returned (.tuple #[])
set_option maxHeartbeats 4000000 in
set_option maxRecDepth 100000 in
theorem id_g (H : Hn) (q : Nat) (w : World) (R : Ending → World → Prop) (e_n : Ent H.n)
    (h1 : Calls Try.prog H.n (H.A ++ #[Pc q 1]) (w.alloc H.box).drew fun e w1 => e = Un ∧ w1.heap[w.heap.size]? = some H.box ∧ R Un w1) :
    Calls Try.prog 69 #[Pt q, H.v] w R := by
  have hb := heap_alloc_last w H.box
  obtain ⟨c0, c1, c2⟩ := box_cell hb
  obtain ⟨F1, F2, F3, A⟩ := H
  obtain ⟨g, hg⟩ : ∃ g, g = w.heap.size := ⟨_, rfl⟩
  have entn := e_n
  unfold Ent at entn
  have H0 := Hid.mk h1
  clear e_n hb h1
  go_enter Try.func69, Try.ntmps69
  go_wp2
  obtain ⟨W0, hW0⟩ : ∃ W0, W0 = w.alloc (Hn.box ⟨F1, F2, F3, A⟩) := ⟨_, rfl⟩
  have hW1 : w.alloc (.cells #[Fv F1 A, Fv F2 A, Fv F3 A] 73) = W0 := hW0.symm
  rw [hW1]
  rw [← hW0] at c0 c1 c2 H0
  rw [← hg] at c0 c1 c2 H0
  simp only [← hg]
  clear hW0 hW1 hg
  refine wp_region_held_drew (S := fun w' => w'.cell? ⟨g, 0, none⟩ = some (Fv F1 A)) (by kernel_rfl) ?_ (fun hHeld => ?_)
  · exact c0
  refine wpAnyH_take (i := 0) (oi := { dst := some 4, op := Op.fieldAddr 73 (Operand.tmp 3) 0, type := 0, pos := "operations.go:36", after := #[], guard := none }) (v := ?vr00) rfl (by kernel_rfl) (by kernel_rfl) (by kernel_rfl) (fun _ _ _ h => h) (Or.inl ⟨by rfl, ?hr00⟩) (by assumption) ?rr00
  case hr00 => (intro w0 hSw; (try dsimp only at hSw); go_simp; try (with_reducible rfl))
  simp only [Act.put, List.setIfInBounds_toArray, List.set_cons_zero, List.set_cons_succ]
  refine wpAnyH_take (i := 1) (oi := { dst := some 5, op := Op.load 69 (Operand.tmp 4), type := 69, pos := "operations.go:36", after := #[{ on := 0, ground := Ground.data }], guard := none }) (v := ?vr01) rfl (by kernel_rfl) (by kernel_rfl) (by kernel_rfl) (fun _ _ _ h => h) (Or.inl ⟨by rfl, ?hr01⟩) (by assumption) ?rr01
  case hr01 => (intro w0 hSw; (try dsimp only at hSw); go_simp; try (with_reducible rfl))
  simp only [Act.put, List.setIfInBounds_toArray, List.set_cons_zero, List.set_cons_succ]
  refine wpAnyH_take (i := 2) (oi := { dst := some 6, op := Op.move (Operand.tmp 0), type := 87, pos := "operations.go:36", after := #[], guard := none }) (v := ?vr02) rfl (by kernel_rfl) (by kernel_rfl) (by kernel_rfl) (fun _ _ _ h => h) (Or.inl ⟨by rfl, ?hr02⟩) (by assumption) ?rr02
  case hr02 => (intro w0 hSw; (try dsimp only at hSw); go_simp; try (with_reducible rfl))
  simp only [Act.put, List.setIfInBounds_toArray, List.set_cons_zero, List.set_cons_succ]
  refine wpAnyH_take (i := 3) (oi := { dst := some 7, op := Op.nilCheck (Operand.tmp 6), type := 0, pos := "operations.go:36", after := #[{ on := 2, ground := Ground.data }], guard := none }) (v := ?vr03) rfl (by kernel_rfl) (by kernel_rfl) (by kernel_rfl) (fun _ _ _ h => h) (Or.inl ⟨by rfl, ?hr03⟩) (by assumption) ?rr03
  case hr03 => (intro w0 hSw; (try dsimp only at hSw); go_simp; try (with_reducible rfl))
  simp only [Act.put, List.setIfInBounds_toArray, List.set_cons_zero, List.set_cons_succ]
  refine wpAnyH_take (i := 4) (oi := { dst := some 8, op := Op.fieldAddr 40 (Operand.tmp 7) 1, type := 0, pos := "operations.go:36", after := #[{ on := 3, ground := Ground.data }], guard := none }) (v := ?vr04) rfl (by kernel_rfl) (by kernel_rfl) (by kernel_rfl) (fun _ _ _ h => h) (Or.inl ⟨by rfl, ?hr04⟩) (by assumption) ?rr04
  case hr04 => (intro w0 hSw; (try dsimp only at hSw); go_simp; try (with_reducible rfl))
  simp only [Act.put, List.setIfInBounds_toArray, List.set_cons_zero, List.set_cons_succ]
  refine wpAnyH_ready (rs := [5]) (by kernel_rfl) (by simp) ?_
  refine AllReadyH.cons rfl (fun K hK => ?_) AllReadyH.nil
  go_simp
  go_wp2_with (go_at_fn F1; refine H0.out.mono ?_; rintro e w1 ⟨rfl, k1, H1⟩; have H1 := Hid.mk H1; clear c0 c1 c2; obtain ⟨c0, c1, c2⟩ := box_cell k1; clear k1 H0)
  refine hK.out _ _ ?_ (fun hHeld => ?_)
  · exact c0
  clear hK K
  refine wpAnyH_done (by kernel_rfl) ?_ _
  go_wp2
  go_end0
  exact H1.out
set_option maxHeartbeats 4000000 in
set_option maxRecDepth 100000 in
theorem idAndCode_g (H : Hn) (q : Nat) (w : World) (R : Ending → World → Prop) (e_n : Ent H.n) (e_t : Ent H.t)
    (h1 : Calls Try.prog H.n (H.A ++ #[Pc q 1]) (w.alloc H.box).drew fun e w1 => e = Un ∧ w1.heap[w.heap.size]? = some H.box ∧ Calls Try.prog H.t (H.A ++ #[Pc q 2]) w1.drew fun e w2 => e = Un ∧ w2.heap[w.heap.size]? = some H.box ∧ R Un w2) :
    Calls Try.prog 67 #[Pt q, H.v] w R := by
  have hb := heap_alloc_last w H.box
  obtain ⟨c0, c1, c2⟩ := box_cell hb
  obtain ⟨F1, F2, F3, A⟩ := H
  obtain ⟨g, hg⟩ : ∃ g, g = w.heap.size := ⟨_, rfl⟩
  have entn := e_n
  unfold Ent at entn
  have entt := e_t
  unfold Ent at entt
  have H0 := Hid.mk h1
  clear e_n e_t hb h1
  go_enter Try.func67, Try.ntmps67
  go_wp2
  obtain ⟨W0, hW0⟩ : ∃ W0, W0 = w.alloc (Hn.box ⟨F1, F2, F3, A⟩) := ⟨_, rfl⟩
  have hW1 : w.alloc (.cells #[Fv F1 A, Fv F2 A, Fv F3 A] 73) = W0 := hW0.symm
  rw [hW1]
  rw [← hW0] at c0 c1 c2 H0
  rw [← hg] at c0 c1 c2 H0
  simp only [← hg]
  clear hW0 hW1 hg
  refine wp_region_held_drew (S := fun w' => w'.cell? ⟨g, 0, none⟩ = some (Fv F1 A)) (by kernel_rfl) ?_ (fun hHeld => ?_)
  · exact c0
  refine wpAnyH_take (i := 0) (oi := { dst := some 4, op := Op.fieldAddr 73 (Operand.tmp 3) 0, type := 0, pos := "operations.go:39", after := #[], guard := none }) (v := ?vr00) rfl (by kernel_rfl) (by kernel_rfl) (by kernel_rfl) (fun _ _ _ h => h) (Or.inl ⟨by rfl, ?hr00⟩) (by assumption) ?rr00
  case hr00 => (intro w0 hSw; (try dsimp only at hSw); go_simp; try (with_reducible rfl))
  simp only [Act.put, List.setIfInBounds_toArray, List.set_cons_zero, List.set_cons_succ]
  refine wpAnyH_take (i := 1) (oi := { dst := some 5, op := Op.load 69 (Operand.tmp 4), type := 69, pos := "operations.go:39", after := #[{ on := 0, ground := Ground.data }], guard := none }) (v := ?vr01) rfl (by kernel_rfl) (by kernel_rfl) (by kernel_rfl) (fun _ _ _ h => h) (Or.inl ⟨by rfl, ?hr01⟩) (by assumption) ?rr01
  case hr01 => (intro w0 hSw; (try dsimp only at hSw); go_simp; try (with_reducible rfl))
  simp only [Act.put, List.setIfInBounds_toArray, List.set_cons_zero, List.set_cons_succ]
  refine wpAnyH_take (i := 2) (oi := { dst := some 6, op := Op.move (Operand.tmp 0), type := 87, pos := "operations.go:39", after := #[], guard := none }) (v := ?vr02) rfl (by kernel_rfl) (by kernel_rfl) (by kernel_rfl) (fun _ _ _ h => h) (Or.inl ⟨by rfl, ?hr02⟩) (by assumption) ?rr02
  case hr02 => (intro w0 hSw; (try dsimp only at hSw); go_simp; try (with_reducible rfl))
  simp only [Act.put, List.setIfInBounds_toArray, List.set_cons_zero, List.set_cons_succ]
  refine wpAnyH_take (i := 3) (oi := { dst := some 7, op := Op.nilCheck (Operand.tmp 6), type := 0, pos := "operations.go:39", after := #[{ on := 2, ground := Ground.data }], guard := none }) (v := ?vr03) rfl (by kernel_rfl) (by kernel_rfl) (by kernel_rfl) (fun _ _ _ h => h) (Or.inl ⟨by rfl, ?hr03⟩) (by assumption) ?rr03
  case hr03 => (intro w0 hSw; (try dsimp only at hSw); go_simp; try (with_reducible rfl))
  simp only [Act.put, List.setIfInBounds_toArray, List.set_cons_zero, List.set_cons_succ]
  refine wpAnyH_take (i := 4) (oi := { dst := some 8, op := Op.fieldAddr 40 (Operand.tmp 7) 1, type := 0, pos := "operations.go:39", after := #[{ on := 3, ground := Ground.data }], guard := none }) (v := ?vr04) rfl (by kernel_rfl) (by kernel_rfl) (by kernel_rfl) (fun _ _ _ h => h) (Or.inl ⟨by rfl, ?hr04⟩) (by assumption) ?rr04
  case hr04 => (intro w0 hSw; (try dsimp only at hSw); go_simp; try (with_reducible rfl))
  simp only [Act.put, List.setIfInBounds_toArray, List.set_cons_zero, List.set_cons_succ]
  refine wpAnyH_ready (rs := [5]) (by kernel_rfl) (by simp) ?_
  refine AllReadyH.cons rfl (fun K hK => ?_) AllReadyH.nil
  go_simp
  go_wp2_with (go_at_fn F1; refine H0.out.mono ?_; rintro e w1 ⟨rfl, k1, H1⟩; have H1 := Hid.mk H1; clear c0 c1 c2; obtain ⟨c0, c1, c2⟩ := box_cell k1; clear k1 H0)
  refine hK.out _ _ ?_ (fun hHeld => ?_)
  · exact c0
  clear hK K
  refine wpAnyH_done (by kernel_rfl) ?_ _
  go_wp2_with fail
  refine wp_region_held_drew (S := fun w' => w'.cell? ⟨g, 1, none⟩ = some (Fv F2 A)) (by kernel_rfl) ?_ (fun hHeld => ?_)
  · exact c1
  refine wpAnyH_take (i := 0) (oi := { dst := some 10, op := Op.fieldAddr 73 (Operand.tmp 3) 1, type := 0, pos := "operations.go:40", after := #[], guard := none }) (v := ?vr10) rfl (by kernel_rfl) (by kernel_rfl) (by kernel_rfl) (fun _ _ _ h => h) (Or.inl ⟨by rfl, ?hr10⟩) (by assumption) ?rr10
  case hr10 => (intro w0 hSw; (try dsimp only at hSw); go_simp; try (with_reducible rfl))
  simp only [Act.put, List.setIfInBounds_toArray, List.set_cons_zero, List.set_cons_succ]
  refine wpAnyH_take (i := 1) (oi := { dst := some 11, op := Op.load 70 (Operand.tmp 10), type := 70, pos := "operations.go:40", after := #[{ on := 0, ground := Ground.data }], guard := none }) (v := ?vr11) rfl (by kernel_rfl) (by kernel_rfl) (by kernel_rfl) (fun _ _ _ h => h) (Or.inl ⟨by rfl, ?hr11⟩) (by assumption) ?rr11
  case hr11 => (intro w0 hSw; (try dsimp only at hSw); go_simp; try (with_reducible rfl))
  simp only [Act.put, List.setIfInBounds_toArray, List.set_cons_zero, List.set_cons_succ]
  refine wpAnyH_take (i := 2) (oi := { dst := some 12, op := Op.move (Operand.tmp 0), type := 87, pos := "operations.go:40", after := #[], guard := none }) (v := ?vr12) rfl (by kernel_rfl) (by kernel_rfl) (by kernel_rfl) (fun _ _ _ h => h) (Or.inl ⟨by rfl, ?hr12⟩) (by assumption) ?rr12
  case hr12 => (intro w0 hSw; (try dsimp only at hSw); go_simp; try (with_reducible rfl))
  simp only [Act.put, List.setIfInBounds_toArray, List.set_cons_zero, List.set_cons_succ]
  refine wpAnyH_take (i := 3) (oi := { dst := some 13, op := Op.nilCheck (Operand.tmp 12), type := 0, pos := "operations.go:40", after := #[{ on := 2, ground := Ground.data }], guard := none }) (v := ?vr13) rfl (by kernel_rfl) (by kernel_rfl) (by kernel_rfl) (fun _ _ _ h => h) (Or.inl ⟨by rfl, ?hr13⟩) (by assumption) ?rr13
  case hr13 => (intro w0 hSw; (try dsimp only at hSw); go_simp; try (with_reducible rfl))
  simp only [Act.put, List.setIfInBounds_toArray, List.set_cons_zero, List.set_cons_succ]
  refine wpAnyH_take (i := 4) (oi := { dst := some 14, op := Op.fieldAddr 40 (Operand.tmp 13) 2, type := 0, pos := "operations.go:40", after := #[{ on := 3, ground := Ground.data }], guard := none }) (v := ?vr14) rfl (by kernel_rfl) (by kernel_rfl) (by kernel_rfl) (fun _ _ _ h => h) (Or.inl ⟨by rfl, ?hr14⟩) (by assumption) ?rr14
  case hr14 => (intro w0 hSw; (try dsimp only at hSw); go_simp; try (with_reducible rfl))
  simp only [Act.put, List.setIfInBounds_toArray, List.set_cons_zero, List.set_cons_succ]
  refine wpAnyH_ready (rs := [5]) (by kernel_rfl) (by simp) ?_
  refine AllReadyH.cons rfl (fun K hK => ?_) AllReadyH.nil
  go_simp
  go_wp2_with (go_at_fn F2; refine H1.out.mono ?_; rintro e w2 ⟨rfl, k2, H2⟩; have H2 := Hid.mk H2; clear c0 c1 c2; obtain ⟨c0, c1, c2⟩ := box_cell k2; clear k2 H1)
  refine hK.out _ _ ?_ (fun hHeld => ?_)
  · exact c1
  clear hK K
  refine wpAnyH_done (by kernel_rfl) ?_ _
  go_wp2
  go_end0
  exact H2.out
set_option maxHeartbeats 4000000 in
set_option maxRecDepth 100000 in
theorem codeAndK_g (H : Hn) (q : Nat) (w : World) (R : Ending → World → Prop) (e_n : Ent H.n) (e_t : Ent H.t)
    (h1 : Calls Try.prog H.t (H.A ++ #[Pc q 2]) (w.alloc H.box).drew fun e w1 => e = Un ∧ w1.heap[w.heap.size]? = some H.box ∧ Calls Try.prog H.n (H.A ++ #[Pc q 3]) w1.drew fun e w2 => e = Un ∧ w2.heap[w.heap.size]? = some H.box ∧ R Un w2) :
    Calls Try.prog 71 #[Pt q, H.v] w R := by
  have hb := heap_alloc_last w H.box
  obtain ⟨c0, c1, c2⟩ := box_cell hb
  obtain ⟨F1, F2, F3, A⟩ := H
  obtain ⟨g, hg⟩ : ∃ g, g = w.heap.size := ⟨_, rfl⟩
  have entn := e_n
  unfold Ent at entn
  have entt := e_t
  unfold Ent at entt
  have H0 := Hid.mk h1
  clear e_n e_t hb h1
  go_enter Try.func71, Try.ntmps71
  go_wp2
  obtain ⟨W0, hW0⟩ : ∃ W0, W0 = w.alloc (Hn.box ⟨F1, F2, F3, A⟩) := ⟨_, rfl⟩
  have hW1 : w.alloc (.cells #[Fv F1 A, Fv F2 A, Fv F3 A] 73) = W0 := hW0.symm
  rw [hW1]
  rw [← hW0] at c0 c1 c2 H0
  rw [← hg] at c0 c1 c2 H0
  simp only [← hg]
  clear hW0 hW1 hg
  refine wp_region_held_drew (S := fun w' => w'.cell? ⟨g, 1, none⟩ = some (Fv F2 A)) (by kernel_rfl) ?_ (fun hHeld => ?_)
  · exact c1
  refine wpAnyH_take (i := 0) (oi := { dst := some 4, op := Op.fieldAddr 73 (Operand.tmp 3) 1, type := 0, pos := "operations.go:44", after := #[], guard := none }) (v := ?vr00) rfl (by kernel_rfl) (by kernel_rfl) (by kernel_rfl) (fun _ _ _ h => h) (Or.inl ⟨by rfl, ?hr00⟩) (by assumption) ?rr00
  case hr00 => (intro w0 hSw; (try dsimp only at hSw); go_simp; try (with_reducible rfl))
  simp only [Act.put, List.setIfInBounds_toArray, List.set_cons_zero, List.set_cons_succ]
  refine wpAnyH_take (i := 1) (oi := { dst := some 5, op := Op.load 70 (Operand.tmp 4), type := 70, pos := "operations.go:44", after := #[{ on := 0, ground := Ground.data }], guard := none }) (v := ?vr01) rfl (by kernel_rfl) (by kernel_rfl) (by kernel_rfl) (fun _ _ _ h => h) (Or.inl ⟨by rfl, ?hr01⟩) (by assumption) ?rr01
  case hr01 => (intro w0 hSw; (try dsimp only at hSw); go_simp; try (with_reducible rfl))
  simp only [Act.put, List.setIfInBounds_toArray, List.set_cons_zero, List.set_cons_succ]
  refine wpAnyH_take (i := 2) (oi := { dst := some 6, op := Op.move (Operand.tmp 0), type := 87, pos := "operations.go:44", after := #[], guard := none }) (v := ?vr02) rfl (by kernel_rfl) (by kernel_rfl) (by kernel_rfl) (fun _ _ _ h => h) (Or.inl ⟨by rfl, ?hr02⟩) (by assumption) ?rr02
  case hr02 => (intro w0 hSw; (try dsimp only at hSw); go_simp; try (with_reducible rfl))
  simp only [Act.put, List.setIfInBounds_toArray, List.set_cons_zero, List.set_cons_succ]
  refine wpAnyH_take (i := 3) (oi := { dst := some 7, op := Op.nilCheck (Operand.tmp 6), type := 0, pos := "operations.go:44", after := #[{ on := 2, ground := Ground.data }], guard := none }) (v := ?vr03) rfl (by kernel_rfl) (by kernel_rfl) (by kernel_rfl) (fun _ _ _ h => h) (Or.inl ⟨by rfl, ?hr03⟩) (by assumption) ?rr03
  case hr03 => (intro w0 hSw; (try dsimp only at hSw); go_simp; try (with_reducible rfl))
  simp only [Act.put, List.setIfInBounds_toArray, List.set_cons_zero, List.set_cons_succ]
  refine wpAnyH_take (i := 4) (oi := { dst := some 8, op := Op.fieldAddr 40 (Operand.tmp 7) 2, type := 0, pos := "operations.go:44", after := #[{ on := 3, ground := Ground.data }], guard := none }) (v := ?vr04) rfl (by kernel_rfl) (by kernel_rfl) (by kernel_rfl) (fun _ _ _ h => h) (Or.inl ⟨by rfl, ?hr04⟩) (by assumption) ?rr04
  case hr04 => (intro w0 hSw; (try dsimp only at hSw); go_simp; try (with_reducible rfl))
  simp only [Act.put, List.setIfInBounds_toArray, List.set_cons_zero, List.set_cons_succ]
  refine wpAnyH_ready (rs := [5]) (by kernel_rfl) (by simp) ?_
  refine AllReadyH.cons rfl (fun K hK => ?_) AllReadyH.nil
  go_simp
  go_wp2_with (go_at_fn F2; refine H0.out.mono ?_; rintro e w1 ⟨rfl, k1, H1⟩; have H1 := Hid.mk H1; clear c0 c1 c2; obtain ⟨c0, c1, c2⟩ := box_cell k1; clear k1 H0)
  refine hK.out _ _ ?_ (fun hHeld => ?_)
  · exact c1
  clear hK K
  refine wpAnyH_done (by kernel_rfl) ?_ _
  go_wp2_with fail
  refine wp_region_held_drew (S := fun w' => w'.cell? ⟨g, 0, none⟩ = some (Fv F1 A)) (by kernel_rfl) ?_ (fun hHeld => ?_)
  · exact c0
  refine wpAnyH_take (i := 0) (oi := { dst := some 10, op := Op.fieldAddr 73 (Operand.tmp 3) 0, type := 0, pos := "operations.go:45", after := #[], guard := none }) (v := ?vr10) rfl (by kernel_rfl) (by kernel_rfl) (by kernel_rfl) (fun _ _ _ h => h) (Or.inl ⟨by rfl, ?hr10⟩) (by assumption) ?rr10
  case hr10 => (intro w0 hSw; (try dsimp only at hSw); go_simp; try (with_reducible rfl))
  simp only [Act.put, List.setIfInBounds_toArray, List.set_cons_zero, List.set_cons_succ]
  refine wpAnyH_take (i := 1) (oi := { dst := some 11, op := Op.load 69 (Operand.tmp 10), type := 69, pos := "operations.go:45", after := #[{ on := 0, ground := Ground.data }], guard := none }) (v := ?vr11) rfl (by kernel_rfl) (by kernel_rfl) (by kernel_rfl) (fun _ _ _ h => h) (Or.inl ⟨by rfl, ?hr11⟩) (by assumption) ?rr11
  case hr11 => (intro w0 hSw; (try dsimp only at hSw); go_simp; try (with_reducible rfl))
  simp only [Act.put, List.setIfInBounds_toArray, List.set_cons_zero, List.set_cons_succ]
  refine wpAnyH_take (i := 2) (oi := { dst := some 12, op := Op.move (Operand.tmp 0), type := 87, pos := "operations.go:45", after := #[], guard := none }) (v := ?vr12) rfl (by kernel_rfl) (by kernel_rfl) (by kernel_rfl) (fun _ _ _ h => h) (Or.inl ⟨by rfl, ?hr12⟩) (by assumption) ?rr12
  case hr12 => (intro w0 hSw; (try dsimp only at hSw); go_simp; try (with_reducible rfl))
  simp only [Act.put, List.setIfInBounds_toArray, List.set_cons_zero, List.set_cons_succ]
  refine wpAnyH_take (i := 3) (oi := { dst := some 13, op := Op.nilCheck (Operand.tmp 12), type := 0, pos := "operations.go:45", after := #[{ on := 2, ground := Ground.data }], guard := none }) (v := ?vr13) rfl (by kernel_rfl) (by kernel_rfl) (by kernel_rfl) (fun _ _ _ h => h) (Or.inl ⟨by rfl, ?hr13⟩) (by assumption) ?rr13
  case hr13 => (intro w0 hSw; (try dsimp only at hSw); go_simp; try (with_reducible rfl))
  simp only [Act.put, List.setIfInBounds_toArray, List.set_cons_zero, List.set_cons_succ]
  refine wpAnyH_take (i := 4) (oi := { dst := some 14, op := Op.fieldAddr 40 (Operand.tmp 13) 3, type := 0, pos := "operations.go:45", after := #[{ on := 3, ground := Ground.data }], guard := none }) (v := ?vr14) rfl (by kernel_rfl) (by kernel_rfl) (by kernel_rfl) (fun _ _ _ h => h) (Or.inl ⟨by rfl, ?hr14⟩) (by assumption) ?rr14
  case hr14 => (intro w0 hSw; (try dsimp only at hSw); go_simp; try (with_reducible rfl))
  simp only [Act.put, List.setIfInBounds_toArray, List.set_cons_zero, List.set_cons_succ]
  refine wpAnyH_ready (rs := [5]) (by kernel_rfl) (by simp) ?_
  refine AllReadyH.cons rfl (fun K hK => ?_) AllReadyH.nil
  go_simp
  go_wp2_with (go_at_fn F1; refine H1.out.mono ?_; rintro e w2 ⟨rfl, k2, H2⟩; have H2 := Hid.mk H2; clear c0 c1 c2; obtain ⟨c0, c1, c2⟩ := box_cell k2; clear k2 H1)
  refine hK.out _ _ ?_ (fun hHeld => ?_)
  · exact c0
  clear hK K
  refine wpAnyH_done (by kernel_rfl) ?_ _
  go_wp2
  go_end0
  exact H2.out
set_option maxHeartbeats 4000000 in
set_option maxRecDepth 100000 in
theorem codeAndR_g (H : Hn) (q : Nat) (w : World) (R : Ending → World → Prop) (e_n : Ent H.n) (e_t : Ent H.t)
    (h1 : Calls Try.prog H.t (H.A ++ #[Pc q 2]) (w.alloc H.box).drew fun e w1 => e = Un ∧ w1.heap[w.heap.size]? = some H.box ∧ Calls Try.prog H.n (H.A ++ #[Pc q 4]) w1.drew fun e w2 => e = Un ∧ w2.heap[w.heap.size]? = some H.box ∧ R Un w2) :
    Calls Try.prog 73 #[Pt q, H.v] w R := by
  have hb := heap_alloc_last w H.box
  obtain ⟨c0, c1, c2⟩ := box_cell hb
  obtain ⟨F1, F2, F3, A⟩ := H
  obtain ⟨g, hg⟩ : ∃ g, g = w.heap.size := ⟨_, rfl⟩
  have entn := e_n
  unfold Ent at entn
  have entt := e_t
  unfold Ent at entt
  have H0 := Hid.mk h1
  clear e_n e_t hb h1
  go_enter Try.func73, Try.ntmps73
  go_wp2
  obtain ⟨W0, hW0⟩ : ∃ W0, W0 = w.alloc (Hn.box ⟨F1, F2, F3, A⟩) := ⟨_, rfl⟩
  have hW1 : w.alloc (.cells #[Fv F1 A, Fv F2 A, Fv F3 A] 73) = W0 := hW0.symm
  rw [hW1]
  rw [← hW0] at c0 c1 c2 H0
  rw [← hg] at c0 c1 c2 H0
  simp only [← hg]
  clear hW0 hW1 hg
  refine wp_region_held_drew (S := fun w' => w'.cell? ⟨g, 1, none⟩ = some (Fv F2 A)) (by kernel_rfl) ?_ (fun hHeld => ?_)
  · exact c1
  refine wpAnyH_take (i := 0) (oi := { dst := some 4, op := Op.fieldAddr 73 (Operand.tmp 3) 1, type := 0, pos := "operations.go:49", after := #[], guard := none }) (v := ?vr00) rfl (by kernel_rfl) (by kernel_rfl) (by kernel_rfl) (fun _ _ _ h => h) (Or.inl ⟨by rfl, ?hr00⟩) (by assumption) ?rr00
  case hr00 => (intro w0 hSw; (try dsimp only at hSw); go_simp; try (with_reducible rfl))
  simp only [Act.put, List.setIfInBounds_toArray, List.set_cons_zero, List.set_cons_succ]
  refine wpAnyH_take (i := 1) (oi := { dst := some 5, op := Op.load 70 (Operand.tmp 4), type := 70, pos := "operations.go:49", after := #[{ on := 0, ground := Ground.data }], guard := none }) (v := ?vr01) rfl (by kernel_rfl) (by kernel_rfl) (by kernel_rfl) (fun _ _ _ h => h) (Or.inl ⟨by rfl, ?hr01⟩) (by assumption) ?rr01
  case hr01 => (intro w0 hSw; (try dsimp only at hSw); go_simp; try (with_reducible rfl))
  simp only [Act.put, List.setIfInBounds_toArray, List.set_cons_zero, List.set_cons_succ]
  refine wpAnyH_take (i := 2) (oi := { dst := some 6, op := Op.move (Operand.tmp 0), type := 87, pos := "operations.go:49", after := #[], guard := none }) (v := ?vr02) rfl (by kernel_rfl) (by kernel_rfl) (by kernel_rfl) (fun _ _ _ h => h) (Or.inl ⟨by rfl, ?hr02⟩) (by assumption) ?rr02
  case hr02 => (intro w0 hSw; (try dsimp only at hSw); go_simp; try (with_reducible rfl))
  simp only [Act.put, List.setIfInBounds_toArray, List.set_cons_zero, List.set_cons_succ]
  refine wpAnyH_take (i := 3) (oi := { dst := some 7, op := Op.nilCheck (Operand.tmp 6), type := 0, pos := "operations.go:49", after := #[{ on := 2, ground := Ground.data }], guard := none }) (v := ?vr03) rfl (by kernel_rfl) (by kernel_rfl) (by kernel_rfl) (fun _ _ _ h => h) (Or.inl ⟨by rfl, ?hr03⟩) (by assumption) ?rr03
  case hr03 => (intro w0 hSw; (try dsimp only at hSw); go_simp; try (with_reducible rfl))
  simp only [Act.put, List.setIfInBounds_toArray, List.set_cons_zero, List.set_cons_succ]
  refine wpAnyH_take (i := 4) (oi := { dst := some 8, op := Op.fieldAddr 40 (Operand.tmp 7) 2, type := 0, pos := "operations.go:49", after := #[{ on := 3, ground := Ground.data }], guard := none }) (v := ?vr04) rfl (by kernel_rfl) (by kernel_rfl) (by kernel_rfl) (fun _ _ _ h => h) (Or.inl ⟨by rfl, ?hr04⟩) (by assumption) ?rr04
  case hr04 => (intro w0 hSw; (try dsimp only at hSw); go_simp; try (with_reducible rfl))
  simp only [Act.put, List.setIfInBounds_toArray, List.set_cons_zero, List.set_cons_succ]
  refine wpAnyH_ready (rs := [5]) (by kernel_rfl) (by simp) ?_
  refine AllReadyH.cons rfl (fun K hK => ?_) AllReadyH.nil
  go_simp
  go_wp2_with (go_at_fn F2; refine H0.out.mono ?_; rintro e w1 ⟨rfl, k1, H1⟩; have H1 := Hid.mk H1; clear c0 c1 c2; obtain ⟨c0, c1, c2⟩ := box_cell k1; clear k1 H0)
  refine hK.out _ _ ?_ (fun hHeld => ?_)
  · exact c1
  clear hK K
  refine wpAnyH_done (by kernel_rfl) ?_ _
  go_wp2_with fail
  refine wp_region_held_drew (S := fun w' => w'.cell? ⟨g, 0, none⟩ = some (Fv F1 A)) (by kernel_rfl) ?_ (fun hHeld => ?_)
  · exact c0
  refine wpAnyH_take (i := 0) (oi := { dst := some 10, op := Op.fieldAddr 73 (Operand.tmp 3) 0, type := 0, pos := "operations.go:50", after := #[], guard := none }) (v := ?vr10) rfl (by kernel_rfl) (by kernel_rfl) (by kernel_rfl) (fun _ _ _ h => h) (Or.inl ⟨by rfl, ?hr10⟩) (by assumption) ?rr10
  case hr10 => (intro w0 hSw; (try dsimp only at hSw); go_simp; try (with_reducible rfl))
  simp only [Act.put, List.setIfInBounds_toArray, List.set_cons_zero, List.set_cons_succ]
  refine wpAnyH_take (i := 1) (oi := { dst := some 11, op := Op.load 69 (Operand.tmp 10), type := 69, pos := "operations.go:50", after := #[{ on := 0, ground := Ground.data }], guard := none }) (v := ?vr11) rfl (by kernel_rfl) (by kernel_rfl) (by kernel_rfl) (fun _ _ _ h => h) (Or.inl ⟨by rfl, ?hr11⟩) (by assumption) ?rr11
  case hr11 => (intro w0 hSw; (try dsimp only at hSw); go_simp; try (with_reducible rfl))
  simp only [Act.put, List.setIfInBounds_toArray, List.set_cons_zero, List.set_cons_succ]
  refine wpAnyH_take (i := 2) (oi := { dst := some 12, op := Op.move (Operand.tmp 0), type := 87, pos := "operations.go:50", after := #[], guard := none }) (v := ?vr12) rfl (by kernel_rfl) (by kernel_rfl) (by kernel_rfl) (fun _ _ _ h => h) (Or.inl ⟨by rfl, ?hr12⟩) (by assumption) ?rr12
  case hr12 => (intro w0 hSw; (try dsimp only at hSw); go_simp; try (with_reducible rfl))
  simp only [Act.put, List.setIfInBounds_toArray, List.set_cons_zero, List.set_cons_succ]
  refine wpAnyH_take (i := 3) (oi := { dst := some 13, op := Op.nilCheck (Operand.tmp 12), type := 0, pos := "operations.go:50", after := #[{ on := 2, ground := Ground.data }], guard := none }) (v := ?vr13) rfl (by kernel_rfl) (by kernel_rfl) (by kernel_rfl) (fun _ _ _ h => h) (Or.inl ⟨by rfl, ?hr13⟩) (by assumption) ?rr13
  case hr13 => (intro w0 hSw; (try dsimp only at hSw); go_simp; try (with_reducible rfl))
  simp only [Act.put, List.setIfInBounds_toArray, List.set_cons_zero, List.set_cons_succ]
  refine wpAnyH_take (i := 4) (oi := { dst := some 14, op := Op.fieldAddr 40 (Operand.tmp 13) 4, type := 0, pos := "operations.go:50", after := #[{ on := 3, ground := Ground.data }], guard := none }) (v := ?vr14) rfl (by kernel_rfl) (by kernel_rfl) (by kernel_rfl) (fun _ _ _ h => h) (Or.inl ⟨by rfl, ?hr14⟩) (by assumption) ?rr14
  case hr14 => (intro w0 hSw; (try dsimp only at hSw); go_simp; try (with_reducible rfl))
  simp only [Act.put, List.setIfInBounds_toArray, List.set_cons_zero, List.set_cons_succ]
  refine wpAnyH_ready (rs := [5]) (by kernel_rfl) (by simp) ?_
  refine AllReadyH.cons rfl (fun K hK => ?_) AllReadyH.nil
  go_simp
  go_wp2_with (go_at_fn F1; refine H1.out.mono ?_; rintro e w2 ⟨rfl, k2, H2⟩; have H2 := Hid.mk H2; clear c0 c1 c2; obtain ⟨c0, c1, c2⟩ := box_cell k2; clear k2 H1)
  refine hK.out _ _ ?_ (fun hHeld => ?_)
  · exact c0
  clear hK K
  refine wpAnyH_done (by kernel_rfl) ?_ _
  go_wp2
  go_end0
  exact H2.out
set_option maxHeartbeats 4000000 in
set_option maxRecDepth 100000 in
theorem text_g (H : Hn) (q : Nat) (w : World) (R : Ending → World → Prop) (e_t : Ent H.t)
    (h1 : Calls Try.prog H.t (H.A ++ #[Pc q 2]) (w.alloc H.box).drew fun e w1 => e = Un ∧ w1.heap[w.heap.size]? = some H.box ∧ R Un w1) :
    Calls Try.prog 70 #[Pt q, H.v] w R := by
  have hb := heap_alloc_last w H.box
  obtain ⟨c0, c1, c2⟩ := box_cell hb
  obtain ⟨F1, F2, F3, A⟩ := H
  obtain ⟨g, hg⟩ : ∃ g, g = w.heap.size := ⟨_, rfl⟩
  have entt := e_t
  unfold Ent at entt
  have H0 := Hid.mk h1
  clear e_t hb h1
  go_enter Try.func70, Try.ntmps70
  go_wp2
  obtain ⟨W0, hW0⟩ : ∃ W0, W0 = w.alloc (Hn.box ⟨F1, F2, F3, A⟩) := ⟨_, rfl⟩
  have hW1 : w.alloc (.cells #[Fv F1 A, Fv F2 A, Fv F3 A] 73) = W0 := hW0.symm
  rw [hW1]
  rw [← hW0] at c0 c1 c2 H0
  rw [← hg] at c0 c1 c2 H0
  simp only [← hg]
  clear hW0 hW1 hg
  refine wp_region_held_drew (S := fun w' => w'.cell? ⟨g, 1, none⟩ = some (Fv F2 A)) (by kernel_rfl) ?_ (fun hHeld => ?_)
  · exact c1
  refine wpAnyH_take (i := 0) (oi := { dst := some 4, op := Op.fieldAddr 73 (Operand.tmp 3) 1, type := 0, pos := "operations.go:55", after := #[], guard := none }) (v := ?vr00) rfl (by kernel_rfl) (by kernel_rfl) (by kernel_rfl) (fun _ _ _ h => h) (Or.inl ⟨by rfl, ?hr00⟩) (by assumption) ?rr00
  case hr00 => (intro w0 hSw; (try dsimp only at hSw); go_simp; try (with_reducible rfl))
  simp only [Act.put, List.setIfInBounds_toArray, List.set_cons_zero, List.set_cons_succ]
  refine wpAnyH_take (i := 1) (oi := { dst := some 5, op := Op.load 70 (Operand.tmp 4), type := 70, pos := "operations.go:55", after := #[{ on := 0, ground := Ground.data }], guard := none }) (v := ?vr01) rfl (by kernel_rfl) (by kernel_rfl) (by kernel_rfl) (fun _ _ _ h => h) (Or.inl ⟨by rfl, ?hr01⟩) (by assumption) ?rr01
  case hr01 => (intro w0 hSw; (try dsimp only at hSw); go_simp; try (with_reducible rfl))
  simp only [Act.put, List.setIfInBounds_toArray, List.set_cons_zero, List.set_cons_succ]
  refine wpAnyH_take (i := 2) (oi := { dst := some 6, op := Op.move (Operand.tmp 0), type := 68, pos := "operations.go:55", after := #[], guard := none }) (v := ?vr02) rfl (by kernel_rfl) (by kernel_rfl) (by kernel_rfl) (fun _ _ _ h => h) (Or.inl ⟨by rfl, ?hr02⟩) (by assumption) ?rr02
  case hr02 => (intro w0 hSw; (try dsimp only at hSw); go_simp; try (with_reducible rfl))
  simp only [Act.put, List.setIfInBounds_toArray, List.set_cons_zero, List.set_cons_succ]
  refine wpAnyH_take (i := 3) (oi := { dst := some 7, op := Op.nilCheck (Operand.tmp 6), type := 0, pos := "operations.go:55", after := #[{ on := 2, ground := Ground.data }], guard := none }) (v := ?vr03) rfl (by kernel_rfl) (by kernel_rfl) (by kernel_rfl) (fun _ _ _ h => h) (Or.inl ⟨by rfl, ?hr03⟩) (by assumption) ?rr03
  case hr03 => (intro w0 hSw; (try dsimp only at hSw); go_simp; try (with_reducible rfl))
  simp only [Act.put, List.setIfInBounds_toArray, List.set_cons_zero, List.set_cons_succ]
  refine wpAnyH_take (i := 4) (oi := { dst := some 8, op := Op.fieldAddr 29 (Operand.tmp 7) 2, type := 0, pos := "operations.go:55", after := #[{ on := 3, ground := Ground.data }], guard := none }) (v := ?vr04) rfl (by kernel_rfl) (by kernel_rfl) (by kernel_rfl) (fun _ _ _ h => h) (Or.inl ⟨by rfl, ?hr04⟩) (by assumption) ?rr04
  case hr04 => (intro w0 hSw; (try dsimp only at hSw); go_simp; try (with_reducible rfl))
  simp only [Act.put, List.setIfInBounds_toArray, List.set_cons_zero, List.set_cons_succ]
  refine wpAnyH_ready (rs := [5]) (by kernel_rfl) (by simp) ?_
  refine AllReadyH.cons rfl (fun K hK => ?_) AllReadyH.nil
  go_simp
  go_wp2_with (go_at_fn F2; refine H0.out.mono ?_; rintro e w1 ⟨rfl, k1, H1⟩; have H1 := Hid.mk H1; clear c0 c1 c2; obtain ⟨c0, c1, c2⟩ := box_cell k1; clear k1 H0)
  refine hK.out _ _ ?_ (fun hHeld => ?_)
  · exact c1
  clear hK K
  refine wpAnyH_done (by kernel_rfl) ?_ _
  go_wp2
  go_end0
  exact H1.out
set_option maxHeartbeats 4000000 in
set_option maxRecDepth 100000 in
theorem number_g (H : Hn) (q : Nat) (w : World) (R : Ending → World → Prop) (e_n : Ent H.n)
    (h1 : Calls Try.prog H.n (H.A ++ #[Pc q 1]) (w.alloc H.box).drew fun e w1 => e = Un ∧ w1.heap[w.heap.size]? = some H.box ∧ R Un w1) :
    Calls Try.prog 75 #[Pt q, H.v] w R := by
  have hb := heap_alloc_last w H.box
  obtain ⟨c0, c1, c2⟩ := box_cell hb
  obtain ⟨F1, F2, F3, A⟩ := H
  obtain ⟨g, hg⟩ : ∃ g, g = w.heap.size := ⟨_, rfl⟩
  have entn := e_n
  unfold Ent at entn
  have H0 := Hid.mk h1
  clear e_n hb h1
  go_enter Try.func75, Try.ntmps75
  go_wp2
  obtain ⟨W0, hW0⟩ : ∃ W0, W0 = w.alloc (Hn.box ⟨F1, F2, F3, A⟩) := ⟨_, rfl⟩
  have hW1 : w.alloc (.cells #[Fv F1 A, Fv F2 A, Fv F3 A] 73) = W0 := hW0.symm
  rw [hW1]
  rw [← hW0] at c0 c1 c2 H0
  rw [← hg] at c0 c1 c2 H0
  simp only [← hg]
  clear hW0 hW1 hg
  refine wp_region_held_drew (S := fun w' => w'.cell? ⟨g, 0, none⟩ = some (Fv F1 A)) (by kernel_rfl) ?_ (fun hHeld => ?_)
  · exact c0
  refine wpAnyH_take (i := 0) (oi := { dst := some 4, op := Op.fieldAddr 73 (Operand.tmp 3) 0, type := 0, pos := "operations.go:57", after := #[], guard := none }) (v := ?vr00) rfl (by kernel_rfl) (by kernel_rfl) (by kernel_rfl) (fun _ _ _ h => h) (Or.inl ⟨by rfl, ?hr00⟩) (by assumption) ?rr00
  case hr00 => (intro w0 hSw; (try dsimp only at hSw); go_simp; try (with_reducible rfl))
  simp only [Act.put, List.setIfInBounds_toArray, List.set_cons_zero, List.set_cons_succ]
  refine wpAnyH_take (i := 1) (oi := { dst := some 5, op := Op.load 69 (Operand.tmp 4), type := 69, pos := "operations.go:57", after := #[{ on := 0, ground := Ground.data }], guard := none }) (v := ?vr01) rfl (by kernel_rfl) (by kernel_rfl) (by kernel_rfl) (fun _ _ _ h => h) (Or.inl ⟨by rfl, ?hr01⟩) (by assumption) ?rr01
  case hr01 => (intro w0 hSw; (try dsimp only at hSw); go_simp; try (with_reducible rfl))
  simp only [Act.put, List.setIfInBounds_toArray, List.set_cons_zero, List.set_cons_succ]
  refine wpAnyH_take (i := 2) (oi := { dst := some 6, op := Op.move (Operand.tmp 0), type := 68, pos := "operations.go:57", after := #[], guard := none }) (v := ?vr02) rfl (by kernel_rfl) (by kernel_rfl) (by kernel_rfl) (fun _ _ _ h => h) (Or.inl ⟨by rfl, ?hr02⟩) (by assumption) ?rr02
  case hr02 => (intro w0 hSw; (try dsimp only at hSw); go_simp; try (with_reducible rfl))
  simp only [Act.put, List.setIfInBounds_toArray, List.set_cons_zero, List.set_cons_succ]
  refine wpAnyH_take (i := 3) (oi := { dst := some 7, op := Op.nilCheck (Operand.tmp 6), type := 0, pos := "operations.go:57", after := #[{ on := 2, ground := Ground.data }], guard := none }) (v := ?vr03) rfl (by kernel_rfl) (by kernel_rfl) (by kernel_rfl) (fun _ _ _ h => h) (Or.inl ⟨by rfl, ?hr03⟩) (by assumption) ?rr03
  case hr03 => (intro w0 hSw; (try dsimp only at hSw); go_simp; try (with_reducible rfl))
  simp only [Act.put, List.setIfInBounds_toArray, List.set_cons_zero, List.set_cons_succ]
  refine wpAnyH_take (i := 4) (oi := { dst := some 8, op := Op.fieldAddr 29 (Operand.tmp 7) 1, type := 0, pos := "operations.go:57", after := #[{ on := 3, ground := Ground.data }], guard := none }) (v := ?vr04) rfl (by kernel_rfl) (by kernel_rfl) (by kernel_rfl) (fun _ _ _ h => h) (Or.inl ⟨by rfl, ?hr04⟩) (by assumption) ?rr04
  case hr04 => (intro w0 hSw; (try dsimp only at hSw); go_simp; try (with_reducible rfl))
  simp only [Act.put, List.setIfInBounds_toArray, List.set_cons_zero, List.set_cons_succ]
  refine wpAnyH_ready (rs := [5]) (by kernel_rfl) (by simp) ?_
  refine AllReadyH.cons rfl (fun K hK => ?_) AllReadyH.nil
  go_simp
  go_wp2_with (go_at_fn F1; refine H0.out.mono ?_; rintro e w1 ⟨rfl, k1, H1⟩; have H1 := Hid.mk H1; clear c0 c1 c2; obtain ⟨c0, c1, c2⟩ := box_cell k1; clear k1 H0)
  refine hK.out _ _ ?_ (fun hHeld => ?_)
  · exact c0
  clear hK K
  refine wpAnyH_done (by kernel_rfl) ?_ _
  go_wp2
  go_end0
  exact H1.out
set_option maxHeartbeats 4000000 in
set_option maxRecDepth 100000 in
theorem hits_g (H : Hn) (q : Nat) (w : World) (R : Ending → World → Prop) (e_h : Ent H.h)
    (h1 : Calls Try.prog H.h (H.A ++ #[Pc q 3]) (w.alloc H.box).drew fun e w1 => e = Un ∧ w1.heap[w.heap.size]? = some H.box ∧ R Un w1) :
    Calls Try.prog 72 #[Pt q, H.v] w R := by
  have hb := heap_alloc_last w H.box
  obtain ⟨c0, c1, c2⟩ := box_cell hb
  obtain ⟨F1, F2, F3, A⟩ := H
  obtain ⟨g, hg⟩ : ∃ g, g = w.heap.size := ⟨_, rfl⟩
  have enth := e_h
  unfold Ent at enth
  have H0 := Hid.mk h1
  clear e_h hb h1
  go_enter Try.func72, Try.ntmps72
  go_wp2
  obtain ⟨W0, hW0⟩ : ∃ W0, W0 = w.alloc (Hn.box ⟨F1, F2, F3, A⟩) := ⟨_, rfl⟩
  have hW1 : w.alloc (.cells #[Fv F1 A, Fv F2 A, Fv F3 A] 73) = W0 := hW0.symm
  rw [hW1]
  rw [← hW0] at c0 c1 c2 H0
  rw [← hg] at c0 c1 c2 H0
  simp only [← hg]
  clear hW0 hW1 hg
  refine wp_region_held_drew (S := fun w' => w'.cell? ⟨g, 2, none⟩ = some (Fv F3 A)) (by kernel_rfl) ?_ (fun hHeld => ?_)
  · exact c2
  refine wpAnyH_take (i := 0) (oi := { dst := some 4, op := Op.fieldAddr 73 (Operand.tmp 3) 2, type := 0, pos := "operations.go:59", after := #[], guard := none }) (v := ?vr00) rfl (by kernel_rfl) (by kernel_rfl) (by kernel_rfl) (fun _ _ _ h => h) (Or.inl ⟨by rfl, ?hr00⟩) (by assumption) ?rr00
  case hr00 => (intro w0 hSw; (try dsimp only at hSw); go_simp; try (with_reducible rfl))
  simp only [Act.put, List.setIfInBounds_toArray, List.set_cons_zero, List.set_cons_succ]
  refine wpAnyH_take (i := 1) (oi := { dst := some 5, op := Op.load 71 (Operand.tmp 4), type := 71, pos := "operations.go:59", after := #[{ on := 0, ground := Ground.data }], guard := none }) (v := ?vr01) rfl (by kernel_rfl) (by kernel_rfl) (by kernel_rfl) (fun _ _ _ h => h) (Or.inl ⟨by rfl, ?hr01⟩) (by assumption) ?rr01
  case hr01 => (intro w0 hSw; (try dsimp only at hSw); go_simp; try (with_reducible rfl))
  simp only [Act.put, List.setIfInBounds_toArray, List.set_cons_zero, List.set_cons_succ]
  refine wpAnyH_take (i := 2) (oi := { dst := some 6, op := Op.move (Operand.tmp 0), type := 68, pos := "operations.go:59", after := #[], guard := none }) (v := ?vr02) rfl (by kernel_rfl) (by kernel_rfl) (by kernel_rfl) (fun _ _ _ h => h) (Or.inl ⟨by rfl, ?hr02⟩) (by assumption) ?rr02
  case hr02 => (intro w0 hSw; (try dsimp only at hSw); go_simp; try (with_reducible rfl))
  simp only [Act.put, List.setIfInBounds_toArray, List.set_cons_zero, List.set_cons_succ]
  refine wpAnyH_take (i := 3) (oi := { dst := some 7, op := Op.nilCheck (Operand.tmp 6), type := 0, pos := "operations.go:59", after := #[{ on := 2, ground := Ground.data }], guard := none }) (v := ?vr03) rfl (by kernel_rfl) (by kernel_rfl) (by kernel_rfl) (fun _ _ _ h => h) (Or.inl ⟨by rfl, ?hr03⟩) (by assumption) ?rr03
  case hr03 => (intro w0 hSw; (try dsimp only at hSw); go_simp; try (with_reducible rfl))
  simp only [Act.put, List.setIfInBounds_toArray, List.set_cons_zero, List.set_cons_succ]
  refine wpAnyH_take (i := 4) (oi := { dst := some 8, op := Op.fieldAddr 29 (Operand.tmp 7) 3, type := 0, pos := "operations.go:59", after := #[{ on := 3, ground := Ground.data }], guard := none }) (v := ?vr04) rfl (by kernel_rfl) (by kernel_rfl) (by kernel_rfl) (fun _ _ _ h => h) (Or.inl ⟨by rfl, ?hr04⟩) (by assumption) ?rr04
  case hr04 => (intro w0 hSw; (try dsimp only at hSw); go_simp; try (with_reducible rfl))
  simp only [Act.put, List.setIfInBounds_toArray, List.set_cons_zero, List.set_cons_succ]
  refine wpAnyH_ready (rs := [5]) (by kernel_rfl) (by simp) ?_
  refine AllReadyH.cons rfl (fun K hK => ?_) AllReadyH.nil
  go_simp
  go_wp2_with (go_at_fn F3; refine H0.out.mono ?_; rintro e w1 ⟨rfl, k1, H1⟩; have H1 := Hid.mk H1; clear c0 c1 c2; obtain ⟨c0, c1, c2⟩ := box_cell k1; clear k1 H0)
  refine hK.out _ _ ?_ (fun hHeld => ?_)
  · exact c2
  clear hK K
  refine wpAnyH_done (by kernel_rfl) ?_ _
  go_wp2
  go_end0
  exact H1.out
set_option maxHeartbeats 4000000 in
set_option maxRecDepth 100000 in
theorem hit_g (H : Hn) (q o : Nat) (w : World) (R : Ending → World → Prop) (e_n : Ent H.n) (e_t : Ent H.t)
    (h1 : Calls Try.prog H.n (H.A ++ #[Pc q o]) (w.alloc H.box).drew fun e w1 => e = Un ∧ w1.heap[w.heap.size]? = some H.box ∧ Calls Try.prog H.n (H.A ++ #[Pc q (o + 1)]) w1.drew fun e w2 => e = Un ∧ w2.heap[w.heap.size]? = some H.box ∧ Calls Try.prog H.t (H.A ++ #[Pc q (o + 2)]) w2.drew fun e w3 => e = Un ∧ w3.heap[w.heap.size]? = some H.box ∧ R Un w3) :
    Calls Try.prog 65 #[Pc q o, H.v] w R := by
  have hb := heap_alloc_last w H.box
  obtain ⟨c0, c1, c2⟩ := box_cell hb
  obtain ⟨F1, F2, F3, A⟩ := H
  obtain ⟨g, hg⟩ : ∃ g, g = w.heap.size := ⟨_, rfl⟩
  have entn := e_n
  unfold Ent at entn
  have entt := e_t
  unfold Ent at entt
  have H0 := Hid.mk h1
  clear e_n e_t hb h1
  go_enter Try.func65, Try.ntmps65
  go_wp2
  obtain ⟨W0, hW0⟩ : ∃ W0, W0 = w.alloc (Hn.box ⟨F1, F2, F3, A⟩) := ⟨_, rfl⟩
  have hW1 : w.alloc (.cells #[Fv F1 A, Fv F2 A, Fv F3 A] 73) = W0 := hW0.symm
  rw [hW1]
  rw [← hW0] at c0 c1 c2 H0
  rw [← hg] at c0 c1 c2 H0
  simp only [← hg]
  clear hW0 hW1 hg
  refine wp_region_held_drew (S := fun w' => w'.cell? ⟨g, 0, none⟩ = some (Fv F1 A)) (by kernel_rfl) ?_ (fun hHeld => ?_)
  · exact c0
  refine wpAnyH_take (i := 0) (oi := { dst := some 4, op := Op.fieldAddr 73 (Operand.tmp 3) 0, type := 0, pos := "operations.go:63", after := #[], guard := none }) (v := ?vr00) rfl (by kernel_rfl) (by kernel_rfl) (by kernel_rfl) (fun _ _ _ h => h) (Or.inl ⟨by rfl, ?hr00⟩) (by assumption) ?rr00
  case hr00 => (intro w0 hSw; (try dsimp only at hSw); go_simp; try (with_reducible rfl))
  simp only [Act.put, List.setIfInBounds_toArray, List.set_cons_zero, List.set_cons_succ]
  refine wpAnyH_take (i := 1) (oi := { dst := some 5, op := Op.load 69 (Operand.tmp 4), type := 69, pos := "operations.go:63", after := #[{ on := 0, ground := Ground.data }], guard := none }) (v := ?vr01) rfl (by kernel_rfl) (by kernel_rfl) (by kernel_rfl) (fun _ _ _ h => h) (Or.inl ⟨by rfl, ?hr01⟩) (by assumption) ?rr01
  case hr01 => (intro w0 hSw; (try dsimp only at hSw); go_simp; try (with_reducible rfl))
  simp only [Act.put, List.setIfInBounds_toArray, List.set_cons_zero, List.set_cons_succ]
  refine wpAnyH_take (i := 2) (oi := { dst := some 6, op := Op.move (Operand.tmp 0), type := 121, pos := "operations.go:63", after := #[], guard := none }) (v := ?vr02) rfl (by kernel_rfl) (by kernel_rfl) (by kernel_rfl) (fun _ _ _ h => h) (Or.inl ⟨by rfl, ?hr02⟩) (by assumption) ?rr02
  case hr02 => (intro w0 hSw; (try dsimp only at hSw); go_simp; try (with_reducible rfl))
  simp only [Act.put, List.setIfInBounds_toArray, List.set_cons_zero, List.set_cons_succ]
  refine wpAnyH_take (i := 3) (oi := { dst := some 7, op := Op.nilCheck (Operand.tmp 6), type := 0, pos := "operations.go:63", after := #[{ on := 2, ground := Ground.data }], guard := none }) (v := ?vr03) rfl (by kernel_rfl) (by kernel_rfl) (by kernel_rfl) (fun _ _ _ h => h) (Or.inl ⟨by rfl, ?hr03⟩) (by assumption) ?rr03
  case hr03 => (intro w0 hSw; (try dsimp only at hSw); go_simp; try (with_reducible rfl))
  simp only [Act.put, List.setIfInBounds_toArray, List.set_cons_zero, List.set_cons_succ]
  refine wpAnyH_take (i := 4) (oi := { dst := some 8, op := Op.fieldAddr 25 (Operand.tmp 7) 0, type := 0, pos := "operations.go:63", after := #[{ on := 3, ground := Ground.data }], guard := none }) (v := ?vr04) rfl (by kernel_rfl) (by kernel_rfl) (by kernel_rfl) (fun _ _ _ h => h) (Or.inl ⟨by rfl, ?hr04⟩) (by assumption) ?rr04
  case hr04 => (intro w0 hSw; (try dsimp only at hSw); go_simp; try (with_reducible rfl))
  simp only [Act.put, List.setIfInBounds_toArray, List.set_cons_zero, List.set_cons_succ]
  refine wpAnyH_ready (rs := [5]) (by kernel_rfl) (by simp) ?_
  refine AllReadyH.cons rfl (fun K hK => ?_) AllReadyH.nil
  go_simp
  go_wp2_with (go_at_fn F1; refine H0.out.mono ?_; rintro e w1 ⟨rfl, k1, H1⟩; have H1 := Hid.mk H1; clear c0 c1 c2; obtain ⟨c0, c1, c2⟩ := box_cell k1; clear k1 H0)
  refine hK.out _ _ ?_ (fun hHeld => ?_)
  · exact c0
  clear hK K
  refine wpAnyH_done (by kernel_rfl) ?_ _
  go_wp2_with fail
  refine wp_region_held_drew (S := fun w' => w'.cell? ⟨g, 0, none⟩ = some (Fv F1 A)) (by kernel_rfl) ?_ (fun hHeld => ?_)
  · exact c0
  refine wpAnyH_take (i := 0) (oi := { dst := some 10, op := Op.fieldAddr 73 (Operand.tmp 3) 0, type := 0, pos := "operations.go:64", after := #[], guard := none }) (v := ?vr10) rfl (by kernel_rfl) (by kernel_rfl) (by kernel_rfl) (fun _ _ _ h => h) (Or.inl ⟨by rfl, ?hr10⟩) (by assumption) ?rr10
  case hr10 => (intro w0 hSw; (try dsimp only at hSw); go_simp; try (with_reducible rfl))
  simp only [Act.put, List.setIfInBounds_toArray, List.set_cons_zero, List.set_cons_succ]
  refine wpAnyH_take (i := 1) (oi := { dst := some 11, op := Op.load 69 (Operand.tmp 10), type := 69, pos := "operations.go:64", after := #[{ on := 0, ground := Ground.data }], guard := none }) (v := ?vr11) rfl (by kernel_rfl) (by kernel_rfl) (by kernel_rfl) (fun _ _ _ h => h) (Or.inl ⟨by rfl, ?hr11⟩) (by assumption) ?rr11
  case hr11 => (intro w0 hSw; (try dsimp only at hSw); go_simp; try (with_reducible rfl))
  simp only [Act.put, List.setIfInBounds_toArray, List.set_cons_zero, List.set_cons_succ]
  refine wpAnyH_take (i := 2) (oi := { dst := some 12, op := Op.move (Operand.tmp 0), type := 121, pos := "operations.go:64", after := #[], guard := none }) (v := ?vr12) rfl (by kernel_rfl) (by kernel_rfl) (by kernel_rfl) (fun _ _ _ h => h) (Or.inl ⟨by rfl, ?hr12⟩) (by assumption) ?rr12
  case hr12 => (intro w0 hSw; (try dsimp only at hSw); go_simp; try (with_reducible rfl))
  simp only [Act.put, List.setIfInBounds_toArray, List.set_cons_zero, List.set_cons_succ]
  refine wpAnyH_take (i := 3) (oi := { dst := some 13, op := Op.nilCheck (Operand.tmp 12), type := 0, pos := "operations.go:64", after := #[{ on := 2, ground := Ground.data }], guard := none }) (v := ?vr13) rfl (by kernel_rfl) (by kernel_rfl) (by kernel_rfl) (fun _ _ _ h => h) (Or.inl ⟨by rfl, ?hr13⟩) (by assumption) ?rr13
  case hr13 => (intro w0 hSw; (try dsimp only at hSw); go_simp; try (with_reducible rfl))
  simp only [Act.put, List.setIfInBounds_toArray, List.set_cons_zero, List.set_cons_succ]
  refine wpAnyH_take (i := 4) (oi := { dst := some 14, op := Op.fieldAddr 25 (Operand.tmp 13) 1, type := 0, pos := "operations.go:64", after := #[{ on := 3, ground := Ground.data }], guard := none }) (v := ?vr14) rfl (by kernel_rfl) (by kernel_rfl) (by kernel_rfl) (fun _ _ _ h => h) (Or.inl ⟨by rfl, ?hr14⟩) (by assumption) ?rr14
  case hr14 => (intro w0 hSw; (try dsimp only at hSw); go_simp; try (with_reducible rfl))
  simp only [Act.put, List.setIfInBounds_toArray, List.set_cons_zero, List.set_cons_succ]
  refine wpAnyH_ready (rs := [5]) (by kernel_rfl) (by simp) ?_
  refine AllReadyH.cons rfl (fun K hK => ?_) AllReadyH.nil
  go_simp
  go_wp2_with (go_at_fn F1; refine H1.out.mono ?_; rintro e w2 ⟨rfl, k2, H2⟩; have H2 := Hid.mk H2; clear c0 c1 c2; obtain ⟨c0, c1, c2⟩ := box_cell k2; clear k2 H1)
  refine hK.out _ _ ?_ (fun hHeld => ?_)
  · exact c0
  clear hK K
  refine wpAnyH_done (by kernel_rfl) ?_ _
  go_wp2_with fail
  refine wp_region_held_drew (S := fun w' => w'.cell? ⟨g, 1, none⟩ = some (Fv F2 A)) (by kernel_rfl) ?_ (fun hHeld => ?_)
  · exact c1
  refine wpAnyH_take (i := 0) (oi := { dst := some 16, op := Op.fieldAddr 73 (Operand.tmp 3) 1, type := 0, pos := "operations.go:65", after := #[], guard := none }) (v := ?vr20) rfl (by kernel_rfl) (by kernel_rfl) (by kernel_rfl) (fun _ _ _ h => h) (Or.inl ⟨by rfl, ?hr20⟩) (by assumption) ?rr20
  case hr20 => (intro w0 hSw; (try dsimp only at hSw); go_simp; try (with_reducible rfl))
  simp only [Act.put, List.setIfInBounds_toArray, List.set_cons_zero, List.set_cons_succ]
  refine wpAnyH_take (i := 1) (oi := { dst := some 17, op := Op.load 70 (Operand.tmp 16), type := 70, pos := "operations.go:65", after := #[{ on := 0, ground := Ground.data }], guard := none }) (v := ?vr21) rfl (by kernel_rfl) (by kernel_rfl) (by kernel_rfl) (fun _ _ _ h => h) (Or.inl ⟨by rfl, ?hr21⟩) (by assumption) ?rr21
  case hr21 => (intro w0 hSw; (try dsimp only at hSw); go_simp; try (with_reducible rfl))
  simp only [Act.put, List.setIfInBounds_toArray, List.set_cons_zero, List.set_cons_succ]
  refine wpAnyH_take (i := 2) (oi := { dst := some 18, op := Op.move (Operand.tmp 0), type := 121, pos := "operations.go:65", after := #[], guard := none }) (v := ?vr22) rfl (by kernel_rfl) (by kernel_rfl) (by kernel_rfl) (fun _ _ _ h => h) (Or.inl ⟨by rfl, ?hr22⟩) (by assumption) ?rr22
  case hr22 => (intro w0 hSw; (try dsimp only at hSw); go_simp; try (with_reducible rfl))
  simp only [Act.put, List.setIfInBounds_toArray, List.set_cons_zero, List.set_cons_succ]
  refine wpAnyH_take (i := 3) (oi := { dst := some 19, op := Op.nilCheck (Operand.tmp 18), type := 0, pos := "operations.go:65", after := #[{ on := 2, ground := Ground.data }], guard := none }) (v := ?vr23) rfl (by kernel_rfl) (by kernel_rfl) (by kernel_rfl) (fun _ _ _ h => h) (Or.inl ⟨by rfl, ?hr23⟩) (by assumption) ?rr23
  case hr23 => (intro w0 hSw; (try dsimp only at hSw); go_simp; try (with_reducible rfl))
  simp only [Act.put, List.setIfInBounds_toArray, List.set_cons_zero, List.set_cons_succ]
  refine wpAnyH_take (i := 4) (oi := { dst := some 20, op := Op.fieldAddr 25 (Operand.tmp 19) 2, type := 0, pos := "operations.go:65", after := #[{ on := 3, ground := Ground.data }], guard := none }) (v := ?vr24) rfl (by kernel_rfl) (by kernel_rfl) (by kernel_rfl) (fun _ _ _ h => h) (Or.inl ⟨by rfl, ?hr24⟩) (by assumption) ?rr24
  case hr24 => (intro w0 hSw; (try dsimp only at hSw); go_simp; try (with_reducible rfl))
  simp only [Act.put, List.setIfInBounds_toArray, List.set_cons_zero, List.set_cons_succ]
  refine wpAnyH_ready (rs := [5]) (by kernel_rfl) (by simp) ?_
  refine AllReadyH.cons rfl (fun K hK => ?_) AllReadyH.nil
  go_simp
  go_wp2_with (go_at_fn F2; refine H2.out.mono ?_; rintro e w3 ⟨rfl, k3, H3⟩; have H3 := Hid.mk H3; clear c0 c1 c2; obtain ⟨c0, c1, c2⟩ := box_cell k3; clear k3 H2)
  refine hK.out _ _ ?_ (fun hHeld => ?_)
  · exact c1
  clear hK K
  refine wpAnyH_done (by kernel_rfl) ?_ _
  go_wp2
  go_end0
  exact H3.out
theorem nothingAsked_g (H : Hn) (q : Nat) (w : World) (R : Ending → World → Prop) (h : R Un (w.alloc H.box)) : Calls Try.prog 74 #[Pt q, H.v] w R := by
  obtain ⟨F1, F2, F3, A⟩ := H
  have HH := Hid.mk h
  clear h
  go_enter Try.func74, Try.ntmps74
  go_wp2
  go_end0
  exact HH.out
theorem nothingTold_g (H : Hn) (q : Nat) (w : World) (R : Ending → World → Prop) (h : R Un (w.alloc H.box)) : Calls Try.prog 68 #[Pt q, H.v] w R := by
  obtain ⟨F1, F2, F3, A⟩ := H
  have HH := Hid.mk h
  clear h
  go_enter Try.func68, Try.ntmps68
  go_wp2
  go_end0
  exact HH.out
end Go.Proofs.Ytjdknijjkjmafaa
