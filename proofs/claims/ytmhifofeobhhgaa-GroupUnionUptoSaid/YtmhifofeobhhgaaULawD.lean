/-
  DERIVED. The law from its steps on.
-/
import Derived.Test.YtmhifofeobhhgaaULaw5
import Derived.BigQuiet
set_option linter.unusedVariables false
set_option linter.unusedSimpArgs false
namespace Go.Proofs.Ytmhifofeobhhgaa
open Go.RowKit Go.Proofs.UnionMath
/-- What stands from step to step. -/
structure DS (w wr : World) (lo hi ub rp : Nat) (S : List Int) (R : Nat → Nat) (lv : Value) (L : List Sp) : Prop where
  mu : MU lo hi wr ub rp S R
  row : sE.Row wr lv L
  own : ∀ k, lv.ownBlock = some k → hi ≤ k
  bl : Below w.heap.size w wr
  hh : hi ≤ wr.heap.size
def two : List Sp := [⟨0, 0, true, 0⟩, ⟨0, 0, true, 2⟩]
theorem new_at (W : World) (L : List Sp) : sE.At (W.alloc (.cells (L.flatMap sE.f).toArray 36)) (some ⟨W.heap.size, 0, none⟩) L := ⟨fun _ => ⟨W.heap.size, 0, rfl, fun j x hx => by
  have := cells_new W (L.flatMap sE.f) 36 j x hx
  have e : (⟨W.heap.size, 0, none⟩ : Addr).add j = ⟨W.heap.size, 0 + j, none⟩ := by unfold Addr.add; split <;> simp_all
  rw [e] at this; exact this⟩⟩
set_option maxHeartbeats 8000000 in
set_option maxRecDepth 100000 in
theorem law_d {t0 t2 t3 t4 t5 t7 t9 t10 t11 t12 t13 t14 t15 t16 t17 t18 t19 t20 t21 t22 t23 t24 t25 t26 t27 t28 t29 t30 t31 t32 t33 t34 t35 t36 t37 t38 t39 t40 t41 t42 t43 t44 t45 t46 t47 t48 t49 t50 t51 t52 t53 t54 t55 t56 t57 t58 t59 t60 t61 t62 t63 t64 t65 t66 t67 t68 t69 t70 t71 t72 t73 t74 t75 t76 t77 t78 t79 t80 t81 t82 t83 t84 t85 t86 t87 t88 t89 t90 t91 t92 t93 t94 t95 t96 t97 t98 t99 t100 t101 t102 t103 t104 t105 t106 t107 t108 t109 t110 t111 t112 t113 t114 t115 t116 t117 t118 t119 t120 t121 t122 t123 t124 t125 t126 t127 t128 t129 t130 t131 t132 t133 t134 t135 t136 t137 t138 t139 t140 t141 t142 t143 t144 t145 t146 t147 t148 t149 t150 t151 t152 t153 t154 t155 t156 t157 t158 t159 t160 t161 t162 t163 t164 t165 t166 t167 t168 t169 t170 t171 t172 t173 t174 t175 t176 t177 t178 t179 t180 t181 t182 t183 t184 t185 : Value} (w W : World) (sa : Option Addr) (sc lo hi ub rp m : Nat) (S : List Int) (L : List Sp) (hM : MU lo hi W ub rp S (fun k => k)) (hb : Below w.heap.size w W) (hlo : w.heap.size ≤ lo) (hhi : hi ≤ W.heap.size) (hL : sE.At w sa L) (hm : L.length = m) (hml : m ≤ 1048576) (hI : ∀ s ∈ L, I64 s.a ∧ I64 s.b) :
    Code.wp Try.prog (dropC 13 (Try.f3.body.getD .skip)) (bodyPost Try.prog Try.f3 fun e w' => e = .returned (.bool true) ∧ Below w.heap.size w w') { tmps := #[t0, .slice sa m sc, t2, t3, t4, t5, Pt ub, t7, Pt rp, t9, t10, t11, t12, t13, t14, t15, t16, t17, t18, t19, t20, t21, t22, t23, t24, t25, t26, t27, t28, t29, t30, t31, t32, t33, t34, t35, t36, t37, t38, t39, t40, t41, t42, t43, t44, t45, t46, t47, t48, t49, t50, t51, t52, t53, t54, t55, t56, t57, t58, t59, t60, t61, t62, t63, t64, t65, t66, t67, t68, t69, t70, t71, t72, t73, t74, t75, t76, t77, t78, t79, t80, t81, t82, t83, t84, t85, t86, t87, t88, t89, t90, t91, t92, t93, t94, t95, t96, t97, t98, t99, t100, t101, t102, t103, t104, t105, t106, t107, t108, t109, t110, t111, t112, t113, t114, t115, t116, t117, t118, t119, t120, t121, t122, t123, t124, t125, t126, t127, t128, t129, t130, t131, t132, t133, t134, t135, t136, t137, t138, t139, t140, t141, t142, t143, t144, t145, t146, t147, t148, t149, t150, t151, t152, t153, t154, t155, t156, t157, t158, t159, t160, t161, t162, t163, t164, t165, t166, t167, t168, t169, t170, t171, t172, t173, t174, t175, t176, t177, t178, t179, t180, t181, t182, t183, t184, t185], defers := [] } W := by
  obtain ⟨v1, w1, hap1, r1, s1, o1⟩ := El.appL sOk W [] L (.slice none 0 0) (El.Row.nil sE _) sa sc (hL.below hb) (by rw [hm]; simp [sE]; omega) (by rw [hm]; simp; omega)
  rw [List.nil_append] at r1
  rw [hm] at hap1
  have b1 : Below W.heap.size W w1 := s1.toBelow (fun _ _ h => by cases h) (Nat.le_refl _)
  have hv1 : ∀ b, v1.ownBlock = some b → W.heap.size ≤ b := fun b hb => by
    rcases o1 b hb with q | q
    · cases q
    · exact q
  have bA : Below w1.heap.size w1 (w1.alloc (.cells (two.flatMap sE.f).toArray 36)) := (Below.refl _ w1).alloc (Nat.le_refl _) _
  obtain ⟨v2, w2, hap2, r2, s2, o2⟩ := El.appL sOk (w1.alloc (.cells (two.flatMap sE.f).toArray 36)) L two v1 (El.Row.below r1 bA) (some ⟨w1.heap.size, 0, none⟩) 2 (new_at w1 two) (by rw [hm]; simp [sE, two]; omega) (by rw [hm]; simp [two]; omega)
  have b2 : Below W.heap.size W w2 := (chain b1 bA (Nat.le_refl _)).trans (s2.toBelow (fun b hb q => by have := hv1 b q; omega) (chain b1 bA (Nat.le_refl _)).size)
  have hv2 : ∀ b, v2.ownBlock = some b → W.heap.size ≤ b := fun b hb => by
    rcases o2 b hb with q | q
    · exact hv1 b q
    · exact Nat.le_trans (chain b1 bA (Nat.le_refl _)).size q
  have HD : Hid (DS w w2 lo hi ub rp S (fun k => k) v2 (L ++ two)) := ⟨hM.below b2, r2, fun k hk => Nat.le_trans hhi (hv2 k hk), chain hb b2 (Nat.le_refl _), Nat.le_trans hhi b2.size⟩
  have HL : Hid (∀ s ∈ L ++ two, I64 s.a ∧ I64 s.b) := Hid.mk (fun s hs => by
    rcases List.mem_append.1 hs with q | q
    · exact hI s q
    · simp [two] at q
      rcases q with rfl | rfl <;> exact ⟨⟨by decide, by decide⟩, ⟨by decide, by decide⟩⟩)
  obtain ⟨LL, hLL⟩ : ∃ LL, LL = L ++ two := ⟨_, rfl⟩
  have hlen : LL.length = m + 2 := by rw [hLL, List.length_append, hm]; rfl
  rw [← hLL] at HD HL r2
  have hap2 : (Builtin.append_ #[23, 23] 23 #[v1, .slice (some ⟨w1.heap.size, 0, none⟩) 2 2]).run Try.prog (w1.alloc (.cells #[.int .i64 0, .int .i64 0, .bool true, .int .i64 0, .int .i64 0, .int .i64 0, .bool true, .int .i64 2] 36)) = .ok v2 w2 := hap2
  obtain ⟨av, cv, hv, -⟩ := r2.form
  rw [hlen] at hv
  subst hv
  have HH := Hid.mk (And.intro hlo hlen)
  clear hM hb hhi hL hm hI r1 s1 o1 b1 hv1 bA r2 s2 o2 b2 hv2 hLL hlo hlen
  simp only [dropC, sndC, Try.f3, Option.getD_some]
  go_wp2_with (first
    | (at_builtin; refine wpList_append_eq rfl _ _ 23 23 rfl _ _ _ _ rfl rfl hap1 ?_; clear hap1)
    | (at_builtin; refine wpList_append_eq rfl _ _ 23 23 rfl _ _ _ _ rfl rfl hap2 ?_; clear hap2)
    | fail)
  obtain ⟨N, hN⟩ : ∃ N, N = m + 2 := ⟨_, rfl⟩
  have hN2 : N ≤ 1048578 := by omega
  rw [← hN] at HD HH ⊢
  clear hN hml
  go_loopw [18] (fun u wr => ∃ (k : Nat) (R : Nat → Nat), u = .int .i64 k ∧ k ≤ N ∧ Hid (DS w wr lo hi ub rp S R (.slice av N cv) LL)) (fun u _ => N - (intOf u).toNat)
  case atStart => exact ⟨0, _, rfl, Nat.zero_le _, HD⟩
  case round =>
    obtain ⟨k, R, rfl, hkN, HI⟩ := hrel
    clear HD
    by_cases hlt : k < N
    · have hlt' : (k : Int) < (N : Int) := by omega
      have hkl : k < LL.length := by rw [HH.out.2]; exact hlt
      obtain ⟨lg, lc, e, hc, hf⟩ := El.cells sOk HI.out.row k hkl
      injection e with e1 e2 e3
      subst e1
      have hIs := HL.out LL[k] (List.getElem_mem hkl)
      obtain ⟨s, hs⟩ : ∃ s, s = LL[k] := ⟨_, rfl⟩
      rw [← hs] at hc hIs
      have z0 : wr.cell? ⟨lg, k * 4, none⟩ = some (.int .i64 s.a) := hc 0 _ rfl
      have z1 : wr.cell? ⟨lg, k * 4 + 1, none⟩ = some (.int .i64 s.b) := hc 1 _ rfl
      have z2 : wr.cell? ⟨lg, k * 4 + 2, none⟩ = some (.bool s.t) := hc 2 _ rfl
      have z3 : wr.cell? ⟨lg, k * 4 + 3, none⟩ = some (.int .i64 s.l) := hc 3 _ rfl
      have wk : IntKind.i64.wrap ((k : Int) + 1) = ((k + 1 : Nat) : Int) := i64_in _ (by omega) (by omega)
      have HIS := Hid.mk hIs
      clear hc hf hIs hkl hs e2 e3 hlt
      go_upto_region 32 with fail
      obtain ⟨wA, hwA⟩ : ∃ wA, wA = wr.alloc (.cells #[.int .i64 s.a, .int .i64 s.b, .bool s.t, .int .i64 s.l] 36) := ⟨_, rfl⟩
      rw [← hwA]
      have bA : Below wr.heap.size wr wA := by rw [hwA]; exact (Below.refl _ wr).alloc (Nat.le_refl _) _
      have hbx : wA.heap[wr.heap.size]? = some (.cells #[.int .i64 s.a, .int .i64 s.b, .bool s.t, .int .i64 s.l] 36 (0, 0)) := by rw [hwA]; exact heap_alloc_last wr _
      have hB : hi ≤ wr.heap.size := HI.out.hh
      obtain ⟨B, hBB⟩ : ∃ B, B = wr.heap.size := ⟨_, rfl⟩
      rw [← hBB] at hbx hB ⊢
      have y0 : wA.cell? ⟨B, 0, none⟩ = some (.int .i64 s.a) := by simp [World.cell?, hbx]
      have y1 : wA.cell? ⟨B, 1, none⟩ = some (.int .i64 s.b) := by simp [World.cell?, hbx]
      obtain ⟨p, hcp, hJ⟩ := (HI.out.mu.below bA).join s.a s.b HIS.out.1 HIS.out.2
      have HW := Hid.mk (And.intro hbx (And.intro bA (And.intro hB hBB)))
      clear hwA bA hbx hB hBB z0 z1 z2 z3
      go_upto_region 33 with (go_at_call 10; refine hJ.mono ?_; clear hJ; rintro e W3 ⟨rfl, hMJ, st3⟩)
      have bx3 := (st3.block B (Array.getElem?_eq_some_iff.1 HW.out.1).1 (by have := HW.out.2.2.1; omega)).trans HW.out.1
      have H3 : Hid (MJ lo hi W3 ub rp S R (jR S R s.a s.b) ∧ sE.Row W3 (.slice (some ⟨lg, 0, none⟩) N cv) LL ∧ Below w.heap.size w W3 ∧ hi ≤ W3.heap.size) := by
        have hr := row_kept (El.Row.below HI.out.row HW.out.2.1) st3 (fun k hk q => by have := HI.out.own k hk; omega)
        exact ⟨hMJ, hr, (chain HI.out.bl HW.out.2.1 (Nat.le_refl _)).trans (st3.toBelow (fun k hk q => by have := HH.out.1; omega) (chain HI.out.bl HW.out.2.1 (Nat.le_refl _)).size), Nat.le_trans (Nat.le_trans HI.out.hh HW.out.2.1.size) st3.size⟩
      clear hMJ st3 y0 y1 hcp
      obtain ⟨wz, hwz⟩ : ∃ wz, wz = W3.drew := ⟨_, rfl⟩
      have hJ2 := MJ.join s.a s.b (H3.out.1.below (b_drew W3))
      rw [← hwz] at hJ2
      have hbz : wz.heap[B]? = some (.cells #[.int .i64 s.a, .int .i64 s.b, .bool s.t, .int .i64 s.l] 36 (0, 0)) := by rw [hwz]; exact bx3
      have y0 : wz.cell? ⟨B, 0, none⟩ = some (.int .i64 s.a) ∧ wz.cell? ⟨B, 1, none⟩ = some (.int .i64 s.b) := ⟨by simp [World.cell?, hbz], by simp [World.cell?, hbz]⟩
      have HWZ := Hid.mk hwz
      obtain ⟨c, hcc⟩ : ∃ c, c = jC S s.a s.b := ⟨_, rfl⟩
      rw [← hcc] at hJ2 ⊢
      clear hwz hcc bx3
      refine wp_region_held_drew (S := fun w' => w'.cell? ⟨B, 0, none⟩ = some (.int .i64 s.a) ∧ w'.cell? ⟨B, 1, none⟩ = some (.int .i64 s.b)) (by kernel_rfl) ?_ (fun hHeld => ?_)
      · rw [HWZ.out] at y0; exact y0
      rw [← HWZ.out]
      refine wpAnyH_take (i := 0) (oi := { dst := some 162, op := Op.move (Operand.tmp 20), type := 25, pos := "law.go:112", after := #[], guard := none }) (v := ?va0) rfl (by kernel_rfl) (by kernel_rfl) (by kernel_rfl) (fun _ _ _ h => h) (Or.inl ⟨by rfl, ?ha0⟩) (by assumption) ?ra0
      case ha0 => (intro w0 hSw; (try dsimp only at hSw); go_simp; try (with_reducible rfl))
      simp only [Act.put, List.setIfInBounds_toArray, List.set_cons_zero, List.set_cons_succ]
      refine wpAnyH_take (i := 2) (oi := { dst := some 164, op := Op.move (Operand.tmp 8), type := 28, pos := "law.go:112", after := #[], guard := none }) (v := ?va2) rfl (by kernel_rfl) (by kernel_rfl) (by kernel_rfl) (fun _ _ _ h => h) (Or.inl ⟨by rfl, ?ha2⟩) (by assumption) ?ra2
      case ha2 => (intro w0 hSw; (try dsimp only at hSw); go_simp; try (with_reducible rfl))
      simp only [Act.put, List.setIfInBounds_toArray, List.set_cons_zero, List.set_cons_succ]
      refine wpAnyH_take (i := 3) (oi := { dst := some 165, op := Op.fieldAddr 36 (Operand.tmp 19) 0, type := 0, pos := "law.go:112", after := #[], guard := none }) (v := ?va3) rfl (by kernel_rfl) (by kernel_rfl) (by kernel_rfl) (fun _ _ _ h => h) (Or.inl ⟨by rfl, ?ha3⟩) (by assumption) ?ra3
      case ha3 => (intro w0 hSw; (try dsimp only at hSw); go_simp; try (with_reducible rfl))
      simp only [Act.put, List.setIfInBounds_toArray, List.set_cons_zero, List.set_cons_succ]
      refine wpAnyH_take (i := 4) (oi := { dst := some 166, op := Op.load 3 (Operand.tmp 165), type := 3, pos := "law.go:112", after := #[{ on := 3, ground := Ground.data }], guard := none }) (v := ?va4) rfl (by kernel_rfl) (by kernel_rfl) (by kernel_rfl) (fun _ _ _ h => h) (Or.inl ⟨by rfl, ?ha4⟩) (by assumption) ?ra4
      case ha4 => (intro w0 hSw; (try dsimp only at hSw); go_simp; try (with_reducible rfl))
      simp only [Act.put, List.setIfInBounds_toArray, List.set_cons_zero, List.set_cons_succ]
      refine wpAnyH_take (i := 5) (oi := { dst := some 167, op := Op.fieldAddr 36 (Operand.tmp 19) 1, type := 0, pos := "law.go:112", after := #[], guard := none }) (v := ?va5) rfl (by kernel_rfl) (by kernel_rfl) (by kernel_rfl) (fun _ _ _ h => h) (Or.inl ⟨by rfl, ?ha5⟩) (by assumption) ?ra5
      case ha5 => (intro w0 hSw; (try dsimp only at hSw); go_simp; try (with_reducible rfl))
      simp only [Act.put, List.setIfInBounds_toArray, List.set_cons_zero, List.set_cons_succ]
      refine wpAnyH_take (i := 6) (oi := { dst := some 168, op := Op.load 3 (Operand.tmp 167), type := 3, pos := "law.go:112", after := #[{ on := 5, ground := Ground.data }], guard := none }) (v := ?va6) rfl (by kernel_rfl) (by kernel_rfl) (by kernel_rfl) (fun _ _ _ h => h) (Or.inl ⟨by rfl, ?ha6⟩) (by assumption) ?ra6
      case ha6 => (intro w0 hSw; (try dsimp only at hSw); go_simp; try (with_reducible rfl))
      simp only [Act.put, List.setIfInBounds_toArray, List.set_cons_zero, List.set_cons_succ]
      refine wpAnyH_ready (rs := [1]) (by kernel_rfl) (by simp) ?_
      refine AllReadyH.cons rfl (fun K hK => ?_) AllReadyH.nil
      go_simp
      go_at_call 6
      refine (num_any c wz).mono ?_
      rintro e wn ⟨rfl, hwn⟩
      replace hwn := hwn.symm
      subst hwn
      refine hK.out _ _ ?_ (fun hHeld => ?_)
      · exact y0
      clear hK K
      refine wpAnyH_ready (rs := [7]) (by kernel_rfl) (by simp) ?_
      refine AllReadyH.cons rfl (fun K hK => ?_) AllReadyH.nil
      go_simp
      go_at_call 11
      refine hJ2.mono ?_
      rintro e W4 ⟨rfl, hMU, st4⟩
      have bx4 := (st4.block B (Array.getElem?_eq_some_iff.1 hbz).1 (by have := HW.out.2.2.1; omega)).trans hbz
      refine hK.out _ _ ?_ (fun hHeld => ?_)
      · exact ⟨by simp [World.cell?, bx4], by simp [World.cell?, bx4]⟩
      clear hK K
      clear hJ2
      refine wpAnyH_take (i := 8) (oi := { dst := some 170, op := Op.binOp BinOp.neq 3 (Operand.tmp 163) (Operand.tmp 169) 3, type := 4, pos := "law.go:112", after := #[{ on := 1, ground := Ground.data }, { on := 7, ground := Ground.data }], guard := none }) (v := ?va8) rfl (by kernel_rfl) (by kernel_rfl) (by kernel_rfl) (fun _ _ _ h => h) (Or.inl ⟨by rfl, ?ha8⟩) (by assumption) ?ra8
      case ha8 => (intro w0 hSw; (try dsimp only at hSw); go_simp; try (with_reducible rfl))
      simp only [Act.put, List.setIfInBounds_toArray, List.set_cons_zero, List.set_cons_succ]
      refine wpAnyH_done (by kernel_rfl) ?_ _
      have H4 : Hid (DS w W4 lo hi ub rp S (jR S R s.a s.b) (.slice (some ⟨lg, 0, none⟩) N cv) LL ∧ W4.cell? ⟨B, 2, none⟩ = some (.bool s.t) ∧ W4.cell? ⟨B, 3, none⟩ = some (.int .i64 s.l)) := by
        have h3 := H3.out
        have e3 : Stay (fun k => lo ≤ k ∧ k < hi) W3 W4 := by rw [HWZ.out] at st4; exact ⟨st4.os, st4.tape, st4.output, st4.size, st4.block⟩
        have hr := row_kept h3.2.1 e3 (fun k hk q => by have := HI.out.own k hk; omega)
        exact ⟨⟨hMU, hr, HI.out.own, h3.2.2.1.trans (e3.toBelow (fun k hk q => by have := HH.out.1; omega) h3.2.2.1.size), Nat.le_trans h3.2.2.2 e3.size⟩, by simp [World.cell?, bx4], by simp [World.cell?, bx4]⟩
      obtain ⟨-, x2, x3⟩ := H4.out
      clear hMU st4 bx4 hbz y0 H3 HW HWZ HI hHeld
      cases ht : s.t with
      | false =>
        rw [ht] at x2
        go_wp2
        go_roundw
        case rel => exact ⟨k + 1, _, by go_num, by omega, H4.out.1⟩
        case measure => simp [intOf]; omega
      | true =>
        rw [ht] at x2
        go_upto_region 36 with fail
        obtain ⟨wy, hwy⟩ : ∃ wy, wy = W4.drew := ⟨_, rfl⟩
        have HY : Hid (MU lo hi wy ub rp S (jR S R s.a s.b)) := by rw [hwy]; exact H4.out.1.mu.below (b_drew W4)
        have hG1 := HY.out.groups s.l
        have x3 : wy.cell? ⟨B, 3, none⟩ = some (.int .i64 s.l) := by rw [hwy]; exact x3
        have HWY := Hid.mk hwy
        have hmf : ∀ (fn : Fn) (first cap : Array Value) (w : World), (Instr.makeFunc fn first cap).run Try.prog w = .ok (.func fn first cap) w := fun _ _ _ _ => rfl
        clear hwy
        refine wp_region_held_drew (S := fun w' => w'.cell? ⟨B, 3, none⟩ = some (.int .i64 s.l)) (by kernel_rfl) ?_ (fun hHeld => ?_)
        · rw [HWY.out] at x3; exact x3
        rw [← HWY.out]
        refine wpAnyH_take (i := 0) (oi := { dst := some 174, op := Op.makeFunc (Fn.func 13) #[] #[Operand.tmp 6], type := 34, pos := "law.go:118", after := #[], guard := none }) (v := ?vb0) rfl (by kernel_rfl) (by kernel_rfl) (by kernel_rfl) (fun _ _ _ h => h) (Or.inl ⟨by rfl, ?hb0⟩) (by assumption) ?rb0
        case hb0 => (intro w0 hSw; (try dsimp only at hSw); go_simp; try (with_reducible rfl))
        simp only [Act.put, List.setIfInBounds_toArray, List.set_cons_zero, List.set_cons_succ]
        refine wpAnyH_take (i := 1) (oi := { dst := some 175, op := Op.move (Operand.tmp 8), type := 28, pos := "law.go:118", after := #[], guard := none }) (v := ?vb1) rfl (by kernel_rfl) (by kernel_rfl) (by kernel_rfl) (fun _ _ _ h => h) (Or.inl ⟨by rfl, ?hb1⟩) (by assumption) ?rb1
        case hb1 => (intro w0 hSw; (try dsimp only at hSw); go_simp; try (with_reducible rfl))
        simp only [Act.put, List.setIfInBounds_toArray, List.set_cons_zero, List.set_cons_succ]
        refine wpAnyH_take (i := 2) (oi := { dst := some 176, op := Op.fieldAddr 36 (Operand.tmp 19) 3, type := 0, pos := "law.go:118", after := #[], guard := none }) (v := ?vb2) rfl (by kernel_rfl) (by kernel_rfl) (by kernel_rfl) (fun _ _ _ h => h) (Or.inl ⟨by rfl, ?hb2⟩) (by assumption) ?rb2
        case hb2 => (intro w0 hSw; (try dsimp only at hSw); go_simp; try (with_reducible rfl))
        simp only [Act.put, List.setIfInBounds_toArray, List.set_cons_zero, List.set_cons_succ]
        refine wpAnyH_take (i := 3) (oi := { dst := some 177, op := Op.load 3 (Operand.tmp 176), type := 3, pos := "law.go:118", after := #[{ on := 2, ground := Ground.data }], guard := none }) (v := ?vb3) rfl (by kernel_rfl) (by kernel_rfl) (by kernel_rfl) (fun _ _ _ h => h) (Or.inl ⟨by rfl, ?hb3⟩) (by assumption) ?rb3
        case hb3 => (intro w0 hSw; (try dsimp only at hSw); go_simp; try (with_reducible rfl))
        simp only [Act.put, List.setIfInBounds_toArray, List.set_cons_zero, List.set_cons_succ]
        refine wpAnyH_take (i := 5) (oi := { dst := some 179, op := Op.move (Operand.tmp 8), type := 28, pos := "law.go:118", after := #[], guard := none }) (v := ?vb5) rfl (by kernel_rfl) (by kernel_rfl) (by kernel_rfl) (fun _ _ _ h => h) (Or.inl ⟨by rfl, ?hb5⟩) (by assumption) ?rb5
        case hb5 => (intro w0 hSw; (try dsimp only at hSw); go_simp; try (with_reducible rfl))
        simp only [Act.put, List.setIfInBounds_toArray, List.set_cons_zero, List.set_cons_succ]
        refine wpAnyH_take (i := 7) (oi := { dst := some 181, op := Op.fieldAddr 36 (Operand.tmp 19) 3, type := 0, pos := "law.go:118", after := #[], guard := none }) (v := ?vb7) rfl (by kernel_rfl) (by kernel_rfl) (by kernel_rfl) (fun _ _ _ h => h) (Or.inl ⟨by rfl, ?hb7⟩) (by assumption) ?rb7
        case hb7 => (intro w0 hSw; (try dsimp only at hSw); go_simp; try (with_reducible rfl))
        simp only [Act.put, List.setIfInBounds_toArray, List.set_cons_zero, List.set_cons_succ]
        refine wpAnyH_take (i := 8) (oi := { dst := some 182, op := Op.load 3 (Operand.tmp 181), type := 3, pos := "law.go:118", after := #[{ on := 7, ground := Ground.data }], guard := none }) (v := ?vb8) rfl (by kernel_rfl) (by kernel_rfl) (by kernel_rfl) (fun _ _ _ h => h) (Or.inl ⟨by rfl, ?hb8⟩) (by assumption) ?rb8
        case hb8 => (intro w0 hSw; (try dsimp only at hSw); go_simp; try (with_reducible rfl))
        simp only [Act.put, List.setIfInBounds_toArray, List.set_cons_zero, List.set_cons_succ]
        refine wpAnyH_ready (rs := [4]) (by kernel_rfl) (by simp) ?_
        refine AllReadyH.cons rfl (fun K hK => ?_) AllReadyH.nil
        go_simp
        go_at_call 9
        refine hG1.mono ?_
        rintro e W5 hO1
        unfold GrO at hO1
        obtain ⟨v5, ss5, rfl, g5, b5⟩ := hO1
        refine hK.out _ _ ?_ (fun hHeld => ?_)
        · exact cell_lat b5 x3
        clear hK K
        clear hG1
        refine wpAnyH_ready (rs := [6]) (by kernel_rfl) (by simp) ?_
        refine AllReadyH.cons rfl (fun K hK => ?_) AllReadyH.nil
        have hG2 := (HY.out.below b5).groups 1
        go_simp
        go_at_call 9
        refine hG2.mono ?_
        rintro e W6 hO2
        unfold GrO at hO2
        obtain ⟨v6, ss6, rfl, g6, b6⟩ := hO2
        refine hK.out _ _ ?_ (fun hHeld => ?_)
        · exact cell_lat b6 (cell_lat b5 x3)
        clear hK K
        clear hG2
        refine wpAnyH_ready (rs := [9]) (by kernel_rfl) (by simp) ?_
        refine AllReadyH.cons rfl (fun K hK => ?_) AllReadyH.nil
        have hP := parted_any ub S _ v5 v6 s.l W6 (((HY.out.below b5).below b6).parted (g5.below b6) g6)
        go_simp
        go_at_call 12
        refine hP.mono ?_
        rintro e W7 ⟨rfl, b7⟩
        refine hK.out _ _ ?_ (fun hHeld => ?_)
        · exact cell_lat b7 (cell_lat b6 (cell_lat b5 x3))
        clear hK K
        clear hP
        refine wpAnyH_take (i := 10) (oi := { dst := some 21, op := Op.assign (Operand.tmp 183), type := 4, pos := "law.go:118", after := #[{ on := 9, ground := Ground.data }, { on := 9, ground := Ground.chain }, { on := 0, ground := Ground.phase }, { on := 1, ground := Ground.phase }, { on := 2, ground := Ground.phase }, { on := 3, ground := Ground.phase }, { on := 4, ground := Ground.phase }, { on := 5, ground := Ground.phase }, { on := 6, ground := Ground.phase }, { on := 7, ground := Ground.phase }, { on := 8, ground := Ground.phase }, { on := 9, ground := Ground.phase }], guard := none }) (v := ?vb10) rfl (by kernel_rfl) (by kernel_rfl) (by kernel_rfl) (fun _ _ _ h => h) (Or.inl ⟨by rfl, ?hb10⟩) (by assumption) ?rb10
        case hb10 => (intro w0 hSw; (try dsimp only at hSw); go_simp; try (with_reducible rfl))
        simp only [Act.put, List.setIfInBounds_toArray, List.set_cons_zero, List.set_cons_succ]
        refine wpAnyH_done (by kernel_rfl) ?_ _
        have H7 : Hid (DS w W7 lo hi ub rp S (jR S R s.a s.b) (.slice (some ⟨lg, 0, none⟩) N cv) LL) := by
          have h4 := H4.out.1
          have b4 : Below W4.heap.size W4 wy := by rw [HWY.out]; exact b_drew W4
          have bb : Below W4.heap.size W4 W7 := chain (chain (chain b4 b5 (Nat.le_refl _)) b6 (Nat.le_refl _)) b7 (Nat.le_refl _)
          exact ⟨h4.mu.below bb, El.Row.below h4.row bb, h4.own, chain h4.bl bb (Nat.le_refl _), Nat.le_trans h4.hh bb.size⟩
        clear b5 b6 b7 g5 g6 HY HWY hHeld hmf x3 x2 H4
        go_wp2
        go_roundw
        case rel => exact ⟨k + 1, _, by go_num, by omega, H7⟩
        case measure => simp [intOf]; omega
    · have hlt' : ¬ (k : Int) < (N : Int) := by omega
      go_wp2
      go_ret
      exact ⟨rfl, HI.out.bl⟩
end Go.Proofs.Ytmhifofeobhhgaa
