/-
  DERIVED. The law of Of.
-/
import Derived.Test.YtecodnilbojodaaYOf
import Derived.Deep.RegionHeld
import Derived.Deep.Cut
set_option linter.unusedVariables false
set_option linter.unusedSimpArgs false
namespace Go.Proofs.Ytecodnilbojodaa
open Go.RowKit
def sndC : Code → Code
  | .seq _ b => b
  | c => c
def dropC : Nat → Code → Code
  | 0, c => c
  | n + 1, c => dropC n (sndC c)
theorem LAt.pre {w : World} {la : Option Addr} {X Y : List Ht} (h : LAt w la (X ++ Y)) : LAt w la X := ⟨fun hn => by
  obtain ⟨g, off, e, hr⟩ := h.at' (by simp [hn])
  exact ⟨g, off, e, fun j x hx => hr j x (by rw [List.flatMap_append, List.getElem?_append_left (List.getElem?_eq_some_iff.1 hx).1]; exact hx)⟩⟩
theorem HRow.lat {w : World} {a : Option Addr} {n c : Nat} {X : List Ht} (h : HRow w (.slice a n c) X) : LAt w a X := by
  obtain ⟨a', c', e, -, h2⟩ := own_lat h
  simp only [Value.slice.injEq] at e
  rw [e.1]; exact h2
theorem HRow.cap {w : World} {a : Option Addr} {n c : Nat} {X : List Ht} (h : HRow w (.slice a n c) X) : n ≤ c := by
  obtain ⟨a', c', e, h1⟩ := slice_form h
  simp only [Value.slice.injEq] at e
  rw [e.2.1, e.2.2]; exact h1
theorem flat_set1 : ∀ (X : List Ht) (i : Nat) (hi : i < X.length) (z : Int), (X.flatMap hC).set (i * 3 + 1) (.int .i64 z) = (X.set i ⟨X[i].d, z, X[i].c⟩).flatMap hC
  | [], i, h, z => by simp at h
  | x :: X, 0, _, z => by simp [hC]
  | x :: X, i + 1, h, z => by
    have ih := flat_set1 X i (by simpa using h) z
    rw [List.flatMap_cons, List.set_append_right _ _ (by rw [enC_len]; omega), enC_len, show (i + 1) * 3 + 1 - 3 = i * 3 + 1 by omega, ih, List.set_cons_succ, List.flatMap_cons]
    rfl
/-- A number of one hit is written. -/
theorem HRow.setI {W : World} {g c n : Nat} {X : List Ht} (h : HRow W (.slice (some ⟨g, 0, none⟩) (n + 1) c) (X ++ [mk9])) (hn : X.length = n) (i : Nat) (hi : i < X.length) (z : Int) :
    HRow (W.setCell ⟨g, i * 3 + 1, none⟩ (.int .i64 z)) (.slice (some ⟨g, 0, none⟩) (n + 1) c) (X.set i ⟨X[i].d, z, X[i].c⟩ ++ [mk9]) := by
  have e : X.set i ⟨X[i].d, z, X[i].c⟩ ++ [mk9] = (X ++ [mk9]).set i ⟨X[i].d, z, X[i].c⟩ := by rw [List.set_append_left _ _ hi]
  have e2 : (X ++ [mk9])[i]'(by simp; omega) = X[i] := List.getElem_append_left hi
  have h3 := flat_set1 (X ++ [mk9]) i (by simp; omega) z
  rw [e2] at h3
  have hl : (X ++ [mk9]).length = n + 1 := by simp [hn]
  have h' : W.ownsRow 0 29 3 (.slice (some ⟨g, 0, none⟩) (n + 1) c) (n + 1) ((X ++ [mk9]).flatMap hC) := by
    have h1 : W.ownsRow 0 29 3 (.slice (some ⟨g, 0, none⟩) (n + 1) c) (X ++ [mk9]).length ((X ++ [mk9]).flatMap hC) := h
    rwa [hl] at h1
  rw [e]
  show World.ownsRow _ 0 29 3 _ ((X ++ [mk9]).set i _).length _
  rw [List.length_set, ← h3, hl]
  exact (World.ownsRow.stored h' (i * 3 + 1) (.int .i64 z)).1
theorem IdW.set {X : List Ht} (h : IdW X) (i : Nat) (x : Ht) (hx : I64 x.i) : IdW (X.set i x) := fun y hy => by
  rcases List.mem_or_eq_of_mem_set hy with k | rfl
  · exact h y k
  · exact hx
set_option maxHeartbeats 4000000 in
set_option maxRecDepth 100000 in
theorem tailC {t0 t1 t2 t3 t4 t9 t10 t11 t12 t13 t14 t15 t16 t17 t18 t19 t20 t21 t22 t23 t24 t25 t26 t27 t28 t29 t30 t31 t32 t33 t34 t35 t36 t37 t38 t39 t40 t41 t42 t43 t44 t45 t46 t47 t48 t49 t50 t51 t52 t53 t54 t55 t56 t57 t58 t59 t60 t61 t62 t63 t64 t65 t66 t67 t68 t69 t70 t71 t72 t73 t74 t75 t76 t77 t78 t79 t80 t81 t82 t83 t84 t85 t86 t87 t88 t89 t90 t91 t92 t93 t94 t95 : Value} (w W : World) (n m ga ca gb cb : Nat) (X Y : List Ht) (hn : X.length = n) (hm : Y.length = m) (n1 : n ≤ 4398046511000) (m1 : m ≤ 4398046511000) (wX : IdW X) (wY : IdW Y)
    (hA : HRow W (.slice (some ⟨ga, 0, none⟩) (n + 1) ca) (X ++ [mk9])) (hB : HRow W (.slice (some ⟨gb, 0, none⟩) (m + 1) cb) (Y ++ [mk9])) (b : Below w.heap.size w W) :
    Code.wp Try.prog (dropC 11 (Try.f3.body.getD .skip)) (bodyPost Try.prog Try.f3 fun e w' => e = .returned (.bool true) ∧ Below w.heap.size w w') { tmps := #[t0, t1, t2, t3, t4, .slice (some ⟨ga, 0, none⟩) (n + 1) ca, .slice (some ⟨gb, 0, none⟩) (m + 1) cb, .int .i64 (n : Int), .int .i64 (m : Int), t9, t10, t11, t12, t13, t14, t15, t16, t17, t18, t19, t20, t21, t22, t23, t24, t25, t26, t27, t28, t29, t30, t31, t32, t33, t34, t35, t36, t37, t38, t39, t40, t41, t42, t43, t44, t45, t46, t47, t48, t49, t50, t51, t52, t53, t54, t55, t56, t57, t58, t59, t60, t61, t62, t63, t64, t65, t66, t67, t68, t69, t70, t71, t72, t73, t74, t75, t76, t77, t78, t79, t80, t81, t82, t83, t84, t85, t86, t87, t88, t89, t90, t91, t92, t93, t94, t95], defers := [] } W := by
  have lA := hA.lat.pre
  have lB := hB.lat.pre
  have c1 := hA.cap
  have c2 := hB.cap
  have i1 : (n : Int) ≤ (ca : Int) := by omega
  have i2 : (m : Int) ≤ (cb : Int) := by omega
  have i1' : n ≤ ca := by omega
  have i2' : m ≤ cb := by omega
  have hx := twin_any X (by omega) (some ⟨ga, 0, none⟩) ca W lA
  have hy := fun V (bV : Below W.heap.size W V) => twin_any Y (by omega) (some ⟨gb, 0, none⟩) cb V (lB.below bV)
  have ho := fun V (bV : Below W.heap.size W V) => of_any X Y (by omega) (by omega) wX wY (some ⟨ga, 0, none⟩) (some ⟨gb, 0, none⟩) ca cb V (lA.below bV) (lB.below bV)
  have hr := fun lx ly cx cy V (ax : LAt V lx X) (ay : LAt V ly Y) => rof_any X Y (by omega) (by omega) lx ly cx cy V ax ay
  rw [hn] at hx
  simp only [hm] at hy
  simp only [hn, hm] at ho hr
  obtain ⟨q, hq⟩ : ∃ q, q = cnF X Y := ⟨_, rfl⟩
  rw [← hq] at ho hr
  have HY := Hid.mk hy
  have HO := Hid.mk ho
  have HR := Hid.mk hr
  have HB := Hid.mk b
  clear hn hm hA hB lA lB c1 c2 wX wY hq b hy ho hr
  simp only [dropC, sndC, Try.f3, Option.getD_some]
  go_wp2_with (go_at_call 4; refine hx.mono ?_; clear hx; rintro e w1 ⟨gx, cx, rfl, c3, -, hX, b1⟩)
  refine (HY.out w1 b1).mono ?_
  rintro e w2 ⟨gy, cy, rfl, c4, -, hY, b2⟩
  have b12 : Below W.heap.size W w2 := b1.trans (b2.mono b1.size)
  have lX := (hX.lat.pre).below b2
  have lY := hY.lat.pre
  have co := fun V (bV : Below w2.heap.size w2 V) => HO.out V (b12.trans (bV.mono b12.size))
  have cr := fun V (bV : Below w2.heap.size w2 V) => HR.out (some ⟨gx, 0, none⟩) (some ⟨gy, 0, none⟩) cx cy V (lX.below bV) (lY.below bV)
  have BF := Hid.mk (HB.out.trans (b12.mono HB.out.size))
  have i3 : (n : Int) ≤ (cx : Int) := by omega
  have i4 : (m : Int) ≤ (cy : Int) := by omega
  have i3' : n ≤ cx := by omega
  have i4' : m ≤ cy := by omega
  clear hX hY lX lY b12 b1 b2 HY HO HR HB c3 c4
  go_wp2
  go_region_held (fun w' => Below w2.heap.size w2 w')
    ((first | exact bb | exact b_drew w2))
    (first
      | (go_at_call 5; refine (co _ (by first | exact bb | exact b_drew _ | exact bb.drew | assumption)).mono ?_; rintro e w3 ⟨rfl, b3⟩; clear co; have bb : Below w2.heap.size w2 w3 := (by first | exact chain bb b3 (Nat.le_refl _) | exact below_d b3))
      | (go_at_call 7; refine (cr _ (by first | exact bb | exact b_drew _ | exact bb.drew | assumption)).mono ?_; rintro e w3 ⟨rfl, b3⟩; clear cr; have bb : Below w2.heap.size w2 w3 := (by first | exact chain bb b3 (Nat.le_refl _) | exact below_d b3)))
  all_goals
    go_wp2
    go_ret
    exact ⟨rfl, BF.out.trans (bb.mono BF.out.size)⟩
/-- What stands while a list's numbers are written over. -/
def RW (w : World) (n m ga ca gb cb k : Nat) (u : Value) (wr : World) : Prop := ∃ (i : Nat) (X Y : List Ht), u = .int .i64 i ∧ i ≤ k ∧ X.length = n ∧ Y.length = m ∧ Hid (IdW X ∧ IdW Y ∧ HRow wr (.slice (some ⟨ga, 0, none⟩) (n + 1) ca) (X ++ [mk9]) ∧ HRow wr (.slice (some ⟨gb, 0, none⟩) (m + 1) cb) (Y ++ [mk9]) ∧ Below w.heap.size w wr)
theorem rem3 (i : Nat) : (i : Int).tmod 3 = ((i % 3 : Nat) : Int) := by
  rw [Int.tmod_eq_emod_of_nonneg (by omega)]; rfl
theorem HRow.free {w : World} {g n c : Nat} {X : List Ht} (h : HRow w (.slice (some ⟨g, 0, none⟩) n c) X) (j : Nat) : w.frozen? ⟨g, j, none⟩ = false := by
  obtain ⟨cur, hc⟩ := row_block h rfl
  simp [World.frozen?, hc]
theorem LAt.row1 {w : World} {g : Nat} {X : List Ht} {x : Ht} (h : LAt w (some ⟨g, 0, none⟩) (X ++ [x])) : RowAt w g 0 ((X ++ [x]).flatMap hC) := by
  obtain ⟨g', o', e, hr⟩ := h.at' (by simp)
  simp only [Option.some.injEq, Addr.mk.injEq] at e
  obtain ⟨rfl, rfl, -⟩ := e
  exact hr
set_option maxHeartbeats 8000000 in
set_option maxRecDepth 100000 in
theorem tailB {t2 t3 t4 t10 t11 t12 t13 t14 t15 t16 t17 t18 t19 t20 t21 t22 t23 t24 t25 t26 t27 t28 t29 t30 t31 t32 t33 t34 t35 t36 t37 t38 t39 t40 t41 t42 t43 t44 t45 t46 t47 t48 t49 t50 t51 t52 t53 t54 t55 t56 t57 t58 t59 t60 t61 t62 t63 t64 t65 t66 t67 t68 t69 t70 t71 t72 t73 t74 t75 t76 t77 t78 t79 t80 t81 t82 t83 t84 t85 t86 t87 t88 t89 t90 t91 t92 t93 t94 t95 : Value} (w W : World) (n m ga ca gb cb p cf cm : Nat) (lf lm : Option Addr) (F M : List Ht) (hn : F.length = n) (hm : M.length = m) (n1 : n ≤ 4398046511000) (m1 : m ≤ 4398046511000) (wF : IdW F) (wM : IdW M)
    (af : LAt W lf F) (am : LAt W lm M) (hA : HRow W (.slice (some ⟨ga, 0, none⟩) (n + 1) ca) (F ++ [mk9])) (hB : HRow W (.slice (some ⟨gb, 0, none⟩) (m + 1) cb) (M ++ [mk9])) (hp : W.heap[p]? = some (.cells #[.int .i64 (cnF F M), .int .i64 (m : Int)] 25 (0, 0))) (hne : ga ≠ gb) (h1 : w.heap.size ≤ ga) (h2 : w.heap.size ≤ gb) (b : Below w.heap.size w W) :
    Code.wp Try.prog (dropC 6 (Try.f3.body.getD .skip)) (bodyPost Try.prog Try.f3 fun e w' => e = .returned (.bool true) ∧ Below w.heap.size w w') { tmps := #[.slice lf n cf, .slice lm m cm, t2, t3, t4, .slice (some ⟨ga, 0, none⟩) (n + 1) ca, .slice (some ⟨gb, 0, none⟩) (m + 1) cb, .int .i64 (n : Int), .int .i64 (m : Int), Pt p, t10, t11, t12, t13, t14, t15, t16, t17, t18, t19, t20, t21, t22, t23, t24, t25, t26, t27, t28, t29, t30, t31, t32, t33, t34, t35, t36, t37, t38, t39, t40, t41, t42, t43, t44, t45, t46, t47, t48, t49, t50, t51, t52, t53, t54, t55, t56, t57, t58, t59, t60, t61, t62, t63, t64, t65, t66, t67, t68, t69, t70, t71, t72, t73, t74, t75, t76, t77, t78, t79, t80, t81, t82, t83, t84, t85, t86, t87, t88, t89, t90, t91, t92, t93, t94, t95], defers := [] } W := by
  have wa := fun V (bV : Below W.heap.size W V) => whole_any F (some ⟨ga, 0, none⟩) lf ca cf V (hA.lat.below bV) (af.below bV) (by omega)
  have wb := fun V (bV : Below W.heap.size W V) => whole_any M (some ⟨gb, 0, none⟩) lm cb cm V (hB.lat.below bV) (am.below bV) (by omega)
  have cr := fun V (bV : Below W.heap.size W V) => rof_any F M (by omega) (by omega) lf lm cf cm V (af.below bV) (am.below bV)
  simp only [hn] at wa
  simp only [hm] at wb
  simp only [hn, hm] at cr
  obtain ⟨q, hq⟩ : ∃ q, q = cnF F M := ⟨_, rfl⟩
  rw [← hq] at hp cr
  have c1 := hA.cap
  have c2 := hB.cap
  have q0 : W.cell? ⟨p, 0, none⟩ = some (.int .i64 (q : Int)) := cell_of_row _ _ 0 _ _ _ hp
  have q1 : W.cell? ⟨p, 1, none⟩ = some (.int .i64 (m : Int)) := cell_of_row _ _ 1 _ _ _ hp
  have WA := Hid.mk (wa W (Below.refl _ W))
  have WB := Hid.mk wb
  have CR := Hid.mk cr
  have HF := Hid.mk (And.intro hn (And.intro hm (And.intro wF (And.intro wM (And.intro hA (And.intro hB b))))))
  have HG := Hid.mk (And.intro hne (And.intro h1 h2))
  clear hn hm wF wM af am hA hB hp hq wa wb cr b hne h1 h2
  simp only [dropC, sndC, Try.f3, Option.getD_some]
  go_wp2_with fail
  refine WA.out.mono ?_
  rintro e w1 ⟨rfl, k1, rfl⟩
  clear WA
  go_wp2_with fail
  have bd : Below W.heap.size W (W.drewN k1) := Drew.below ⟨k1, rfl⟩ _
  refine (WB.out _ bd).mono ?_
  rintro e w1 ⟨rfl, k2, rfl⟩
  have bd2 : Below W.heap.size W ((W.drewN k1).drewN k2) := bd.trans (Drew.below (a := W.drewN k1) ⟨k2, rfl⟩ _)
  obtain ⟨w2, hw2⟩ : ∃ w2, w2 = (W.drewN k1).drewN k2 := ⟨_, rfl⟩
  rw [← hw2] at bd2 ⊢
  have q0 := cell_lat bd2 q0
  have q1 := cell_lat bd2 q1
  have cr := fun V (bV : Below w2.heap.size w2 V) => CR.out V (bd2.trans (bV.mono bd2.size))
  have B2 := Hid.mk bd2
  clear bd bd2 hw2 WB CR
  go_wp2
  refine wp_region_held_drew (S := (fun w' => Below w2.heap.size w2 w' ∧ w'.cell? ⟨p, 0, none⟩ = some (.int .i64 (q : Int)) ∧ w'.cell? ⟨p, 1, none⟩ = some (.int .i64 (m : Int)))) (by kernel_rfl) ?_ (fun hHeld => ?_)
  · (refine (fun hb => ⟨hb, cell_lat hb q0, cell_lat hb q1⟩) ?_; first | exact bb | exact b_drew w2)
  refine wpAnyH_take (i := 0) (oi := { dst := some 37, op := Op.move (Operand.tmp 10), type := 4, pos := "law.go:41", after := #[], guard := none }) (v := ?v0) rfl (by kernel_rfl) (by kernel_rfl) (by kernel_rfl) (fun _ _ _ h => h) (Or.inl ⟨by rfl, ?h0⟩) (by assumption) ?r0
  case h0 => (intro w0 hSw; (try dsimp only at hSw); go_simp; try (with_reducible rfl))
  simp only [Act.put, List.setIfInBounds_toArray, List.set_cons_zero, List.set_cons_succ]
  refine wpAnyH_take (i := 1) (oi := { dst := some 38, op := Op.unOp UnOp.not 4 (Operand.tmp 37), type := 4, pos := "law.go:41", after := #[{ on := 0, ground := Ground.data }], guard := none }) (v := ?v1) rfl (by kernel_rfl) (by kernel_rfl) (by kernel_rfl) (fun _ _ _ h => h) (Or.inl ⟨by rfl, ?h1⟩) (by assumption) ?r1
  case h1 => (intro w0 hSw; (try dsimp only at hSw); go_simp; try (with_reducible rfl))
  simp only [Act.put, List.setIfInBounds_toArray, List.set_cons_zero, List.set_cons_succ]
  refine wpAnyH_take (i := 2) (oi := { dst := some 39, op := Op.move (Operand.tmp 38), type := 4, pos := "law.go:41", after := #[{ on := 1, ground := Ground.data }], guard := none }) (v := ?v2) rfl (by kernel_rfl) (by kernel_rfl) (by kernel_rfl) (fun _ _ _ h => h) (Or.inl ⟨by rfl, ?h2⟩) (by assumption) ?r2
  case h2 => (intro w0 hSw; (try dsimp only at hSw); go_simp; try (with_reducible rfl))
  simp only [Act.put, List.setIfInBounds_toArray, List.set_cons_zero, List.set_cons_succ]
  refine wpAnyH_take (i := 3) (oi := { dst := some 40, op := Op.move (Operand.tmp 11), type := 4, pos := "law.go:41", after := #[{ on := 2, ground := Ground.guard }], guard := some (2, false) }) (v := ?v3) rfl (by kernel_rfl) (by kernel_rfl) (by kernel_rfl) (fun _ _ _ h => h) (Or.inl ⟨by rfl, ?h3⟩) (by assumption) ?r3
  case h3 => (intro w0 hSw; (try dsimp only at hSw); go_simp; try (with_reducible rfl))
  simp only [Act.put, List.setIfInBounds_toArray, List.set_cons_zero, List.set_cons_succ]
  refine wpAnyH_take (i := 4) (oi := { dst := some 41, op := Op.unOp UnOp.not 4 (Operand.tmp 40), type := 4, pos := "law.go:41", after := #[{ on := 3, ground := Ground.data }, { on := 2, ground := Ground.guard }], guard := some (2, false) }) (v := ?v4) rfl (by kernel_rfl) (by kernel_rfl) (by kernel_rfl) (fun _ _ _ h => h) (Or.inl ⟨by rfl, ?h4⟩) (by assumption) ?r4
  case h4 => (intro w0 hSw; (try dsimp only at hSw); go_simp; try (with_reducible rfl))
  simp only [Act.put, List.setIfInBounds_toArray, List.set_cons_zero, List.set_cons_succ]
  refine wpAnyH_take (i := 5) (oi := { dst := some 42, op := Op.pick (Operand.tmp 39) (Operand.const (Value.bool true)) (Operand.tmp 41), type := 4, pos := "law.go:41", after := #[{ on := 2, ground := Ground.data }, { on := 4, ground := Ground.data }], guard := none }) (v := ?v5) rfl (by kernel_rfl) (by kernel_rfl) (by kernel_rfl) (fun _ _ _ h => h) (Or.inl ⟨by rfl, ?h5⟩) (by assumption) ?r5
  case h5 => (intro w0 hSw; (try dsimp only at hSw); go_simp; try (with_reducible rfl))
  simp only [Act.put, List.setIfInBounds_toArray, List.set_cons_zero, List.set_cons_succ]
  refine wpAnyH_take (i := 6) (oi := { dst := some 43, op := Op.move (Operand.tmp 42), type := 4, pos := "law.go:41", after := #[{ on := 5, ground := Ground.data }, { on := 2, ground := Ground.chain }], guard := none }) (v := ?v6) rfl (by kernel_rfl) (by kernel_rfl) (by kernel_rfl) (fun _ _ _ h => h) (Or.inl ⟨by rfl, ?h6⟩) (by assumption) ?r6
  case h6 => (intro w0 hSw; (try dsimp only at hSw); go_simp; try (with_reducible rfl))
  simp only [Act.put, List.setIfInBounds_toArray, List.set_cons_zero, List.set_cons_succ]
  refine wpAnyH_take (i := 7) (oi := { dst := some 44, op := Op.load 25 (Operand.tmp 9), type := 25, pos := "law.go:41", after := #[{ on := 6, ground := Ground.guard }], guard := some (6, false) }) (v := ?v7) rfl (by kernel_rfl) (by kernel_rfl) (by kernel_rfl) (fun _ _ _ h => h) (Or.inl ⟨by rfl, ?h7⟩) (by assumption) ?r7
  case h7 => (intro w0 hSw; (try dsimp only at hSw); go_simp; try (with_reducible rfl))
  simp only [Act.put, List.setIfInBounds_toArray, List.set_cons_zero, List.set_cons_succ]
  refine wpAnyH_take (i := 8) (oi := { dst := some 45, op := Op.move (Operand.tmp 0), type := 22, pos := "law.go:41", after := #[{ on := 6, ground := Ground.guard }], guard := some (6, false) }) (v := ?v8) rfl (by kernel_rfl) (by kernel_rfl) (by kernel_rfl) (fun _ _ _ h => h) (Or.inl ⟨by rfl, ?h8⟩) (by assumption) ?r8
  case h8 => (intro w0 hSw; (try dsimp only at hSw); go_simp; try (with_reducible rfl))
  simp only [Act.put, List.setIfInBounds_toArray, List.set_cons_zero, List.set_cons_succ]
  refine wpAnyH_take (i := 9) (oi := { dst := some 46, op := Op.move (Operand.tmp 1), type := 22, pos := "law.go:41", after := #[{ on := 6, ground := Ground.guard }], guard := some (6, false) }) (v := ?v9) rfl (by kernel_rfl) (by kernel_rfl) (by kernel_rfl) (fun _ _ _ h => h) (Or.inl ⟨by rfl, ?h9⟩) (by assumption) ?r9
  case h9 => (intro w0 hSw; (try dsimp only at hSw); go_simp; try (with_reducible rfl))
  simp only [Act.put, List.setIfInBounds_toArray, List.set_cons_zero, List.set_cons_succ]
  refine wpAnyH_ready (rs := [10]) (by kernel_rfl) (by simp) ?_
  refine AllReadyH.cons rfl (fun K hK => ?_) AllReadyH.nil
  go_simp
  go_wp2_with (go_at_call 7; refine (cr _ (by first | exact bb | exact b_drew _)).mono ?_; rintro r w4 ⟨rfl, b4⟩; have bb : Below w2.heap.size w2 w4 := below_d b4)
  refine hK.out _ _ ?_ (fun hHeld => ?_)
  · (refine (fun hb => ⟨hb, cell_lat hb q0, cell_lat hb q1⟩) ?_; first | exact bb | exact b_drew w2)
  clear hK K
  refine wpAnyH_take (i := 11) (oi := { dst := some 48, op := Op.binOp BinOp.neq 25 (Operand.tmp 44) (Operand.tmp 47) 25, type := 4, pos := "law.go:41", after := #[{ on := 7, ground := Ground.data }, { on := 10, ground := Ground.data }, { on := 6, ground := Ground.guard }], guard := some (6, false) }) (v := ?v11) rfl (by kernel_rfl) (by kernel_rfl) (by kernel_rfl) (fun _ _ _ h => h) (Or.inl ⟨by rfl, ?h11⟩) (by assumption) ?r11
  case h11 => (intro w0 hSw; (try dsimp only at hSw); go_simp; try (with_reducible rfl))
  simp only [Act.put, List.setIfInBounds_toArray, List.set_cons_zero, List.set_cons_succ]
  refine wpAnyH_take (i := 12) (oi := { dst := some 49, op := Op.pick (Operand.tmp 43) (Operand.const (Value.bool true)) (Operand.tmp 48), type := 4, pos := "law.go:41", after := #[{ on := 6, ground := Ground.data }, { on := 11, ground := Ground.data }], guard := none }) (v := ?v12) rfl (by kernel_rfl) (by kernel_rfl) (by kernel_rfl) (fun _ _ _ h => h) (Or.inl ⟨by rfl, ?h12⟩) (by assumption) ?r12
  case h12 => (intro w0 hSw; (try dsimp only at hSw); go_simp; try (with_reducible rfl))
  simp only [Act.put, List.setIfInBounds_toArray, List.set_cons_zero, List.set_cons_succ]
  refine wpAnyH_done (by kernel_rfl) ?_ _
  have B4 : Below W.heap.size W w4 := B2.out.trans (bb.mono B2.out.size)
  have R0 : Hid (RW w n m ga ca gb cb n (.int .i64 ((0 : Nat) : Int)) w4) := ⟨0, F, M, rfl, Nat.zero_le _, HF.out.1, HF.out.2.1, HF.out.2.2.1, HF.out.2.2.2.1, row_kept HF.out.2.2.2.2.1 (Stay.below (F := fun _ => False) B4) (fun _ _ e => e), row_kept HF.out.2.2.2.2.2.1 (Stay.below (F := fun _ => False) B4) (fun _ _ e => e), HF.out.2.2.2.2.2.2.trans (B4.mono HF.out.2.2.2.2.2.2.size)⟩
  clear B4 B2 HF b4 bb q0 q1 cr
  go_wp2
  go_loopw [12] (fun u wr => RW w n m ga ca gb cb n u wr) (fun u _ => n - (intOf u).toNat)
  case atStart => exact R0.out
  case round =>
    clear R0
    obtain ⟨i, X, Y, rfl, hi, hX, hY, HR⟩ := hrel
    by_cases hlt : i < n
    · have hl : i < X.length := by omega
      have hz : I64 (((i % 3 : Nat) : Int)) := by unfold I64; omega
      obtain ⟨x0, x1, x2⟩ := row_en (HR.out.2.2.1.lat.row1) rfl i (by simp; omega)
      simp only [Nat.zero_add] at x1
      have f1 : wr.frozen? ⟨ga, i * 3 + 1, none⟩ = false := HRow.free HR.out.2.2.1 _
      have k1 : (i : Int) < (n : Int) := by omega
      have k2 : (i : Int) < (n : Int) + 1 := by omega
      have k3 : (0 : Int) ≤ (i : Int) := by omega
      have k4 : IntKind.i64.wrap ((i : Int) + 1) = ((i + 1 : Nat) : Int) := by rw [IntKind.wrap_i64]; omega
      have r3 := rem3 i
      have HN : Hid (RW w n m ga ca gb cb n (.int .i64 ((i + 1 : Nat) : Int)) (wr.setCell ⟨ga, i * 3 + 1, none⟩ (.int .i64 ((i % 3 : Nat) : Int)))) := ⟨i + 1, X.set i ⟨X[i].d, ((i % 3 : Nat) : Int), X[i].c⟩, Y, rfl, hlt, by rw [List.length_set]; exact hX, hY, HR.out.1.set i _ hz, HR.out.2.1, HR.out.2.2.1.setI hX i hl _, row_kept HR.out.2.2.2.1 ((Stay.refl (fun k => k = ga) wr).setCell (fun _ => rfl) _) (fun k hk e => by cases hk; exact HG.out.1 e.symm), HR.out.2.2.2.2.setCell HG.out.2.1 _⟩
      clear HR hz hl x0 x2
      go_wp2
      exact ⟨HN.out, by simp only [intOf]; omega⟩
    · obtain rfl : i = n := by omega
      have R1 : Hid (RW w i m ga ca gb cb m (.int .i64 ((0 : Nat) : Int)) wr) := ⟨0, X, Y, rfl, Nat.zero_le _, hX, hY, HR.out⟩
      clear HR hX hY hi hlt
      go_wp2
      obtain ⟨wo, rfl⟩ : ∃ wo : World, wo = wr := ⟨_, rfl⟩
      rename_i K2 a2 K3 a3
      have HC := Hid.mk a3
      clear a3
      go_loopw [13] (fun u wr => RW w i m ga ca gb cb m u wr) (fun u _ => m - (intOf u).toNat)
      case atStart => exact R1.out
      case round =>
        clear R1
        obtain ⟨j, X, Y, rfl, hj, hX, hY, HR⟩ := hrel
        by_cases hlt : j < m
        · have hl : j < Y.length := by omega
          have hz : I64 (((1 + j % 3 : Nat) : Int)) := by unfold I64; omega
          obtain ⟨x0, x1, x2⟩ := row_en (HR.out.2.2.2.1.lat.row1) rfl j (by simp; omega)
          simp only [Nat.zero_add] at x1
          have f1 : wr.frozen? ⟨gb, j * 3 + 1, none⟩ = false := HRow.free HR.out.2.2.2.1 _
          have k1 : (j : Int) < (m : Int) := by omega
          have k2 : (j : Int) < (m : Int) + 1 := by omega
          have k3 : (0 : Int) ≤ (j : Int) := by omega
          have k4 : IntKind.i64.wrap ((j : Int) + 1) = ((j + 1 : Nat) : Int) := by rw [IntKind.wrap_i64]; omega
          have k5 : IntKind.i64.wrap (1 + ((j % 3 : Nat) : Int)) = ((1 + j % 3 : Nat) : Int) := by rw [IntKind.wrap_i64]; omega
          have r3 := rem3 j
          have HN : Hid (RW w i m ga ca gb cb m (.int .i64 ((j + 1 : Nat) : Int)) (wr.setCell ⟨gb, j * 3 + 1, none⟩ (.int .i64 ((1 + j % 3 : Nat) : Int)))) := ⟨j + 1, X, Y.set j ⟨Y[j].d, ((1 + j % 3 : Nat) : Int), Y[j].c⟩, rfl, hlt, hX, by rw [List.length_set]; exact hY, HR.out.1, HR.out.2.1.set j _ hz, row_kept HR.out.2.2.1 ((Stay.refl (fun k => k = gb) wr).setCell (fun _ => rfl) _) (fun k hk e => by cases hk; exact HG.out.1 e), HR.out.2.2.2.1.setI hY j hl _, HR.out.2.2.2.2.setCell HG.out.2.2 _⟩
          clear HR hz hl x0 x2
          go_wp2
          exact ⟨HN.out, by simp only [intOf]; omega⟩
        · obtain rfl : j = m := by omega
          go_wp2
          have T := HR.out
          exact HC.out _ _ (tailC w wr i j ga ca gb cb X Y hX hY n1 m1 T.1 T.2.1 T.2.2.1 T.2.2.2.1 T.2.2.2.2)
end Go.Proofs.Ytecodnilbojodaa
