/-
  DERIVED. The law from the third loop on.
-/
import Derived.Test.YtmhifofeobhhgaaULawC0
import Derived.BigQuiet
set_option linter.unusedVariables false
set_option linter.unusedSimpArgs false
namespace Go.Proofs.Ytmhifofeobhhgaa
open Go.RowKit Go.Proofs.UnionMath
set_option maxHeartbeats 8000000 in
set_option maxRecDepth 100000 in
theorem law_c2 {t2 t3 t4 t7 t9 t10 t11 t16 t17 t18 t19 t20 t21 t22 t23 t24 t25 t26 t27 t28 t29 t30 t31 t32 t33 t34 t35 t36 t37 t38 t39 t40 t41 t42 t43 t44 t45 t46 t47 t48 t49 t50 t51 t52 t53 t54 t55 t56 t57 t58 t59 t60 t61 t62 t63 t64 t65 t66 t67 t68 t69 t70 t71 t72 t73 t74 t75 t76 t77 t78 t79 t80 t81 t82 t83 t84 t85 t86 t87 t88 t89 t90 t91 t92 t93 t94 t95 t96 t97 t98 t99 t100 t101 t102 t103 t104 t105 t106 t107 t108 t109 t110 t111 t112 t113 t114 t115 t116 t117 t118 t119 t120 t121 t122 t123 t124 t125 t126 t127 t128 t129 t130 t131 t132 t133 t134 t135 t136 t137 t138 t139 t140 t141 t142 t143 t144 t145 t146 t147 t148 t149 t150 t151 t152 t153 t154 t155 t156 t157 t158 t159 t160 t161 t162 t163 t164 t165 t166 t167 t168 t169 t170 t171 t172 t173 t174 t175 t176 t177 t178 t179 t180 t181 t182 t183 t184 t185 : Value} (w W : World) (la sa : Option Addr) (cap sc n m fg fc lo hi ub rp : Nat) (S X : List Int) (L : List Sp) (vv yv : Value) (c : Int) (hC : CS w W fg fc n lo hi ub rp S X) (hV : VV (fg + 1) W vv yv) (hnl : n ≤ 1048576) (hL : sE.At w sa L) (hm : L.length = m) (hml : m ≤ 1048576) (hI : ∀ s ∈ L, I64 s.a ∧ I64 s.b) :
    Code.wp Try.prog (dropC 11 (Try.f3.body.getD .skip)) (bodyPost Try.prog Try.f3 fun e w' => e = .returned (.bool true) ∧ Below w.heap.size w w') { tmps := #[.slice la n cap, .slice sa m sc, t2, t3, t4, .slice (some ⟨fg, 0, none⟩) (n + 1) fc, Pt ub, t7, Pt rp, t9, t10, t11, yv, .int .i64 c, vv, .int .i64 c, t16, t17, t18, t19, t20, t21, t22, t23, t24, t25, t26, t27, t28, t29, t30, t31, t32, t33, t34, t35, t36, t37, t38, t39, t40, t41, t42, t43, t44, t45, t46, t47, t48, t49, t50, t51, t52, t53, t54, t55, t56, t57, t58, t59, t60, t61, t62, t63, t64, t65, t66, t67, t68, t69, t70, t71, t72, t73, t74, t75, t76, t77, t78, t79, t80, t81, t82, t83, t84, t85, t86, t87, t88, t89, t90, t91, t92, t93, t94, t95, t96, t97, t98, t99, t100, t101, t102, t103, t104, t105, t106, t107, t108, t109, t110, t111, t112, t113, t114, t115, t116, t117, t118, t119, t120, t121, t122, t123, t124, t125, t126, t127, t128, t129, t130, t131, t132, t133, t134, t135, t136, t137, t138, t139, t140, t141, t142, t143, t144, t145, t146, t147, t148, t149, t150, t151, t152, t153, t154, t155, t156, t157, t158, t159, t160, t161, t162, t163, t164, t165, t166, t167, t168, t169, t170, t171, t172, t173, t174, t175, t176, t177, t178, t179, t180, t181, t182, t183, t184, t185], defers := [] } W := by
  have HL := Hid.mk (And.intro hL (And.intro hm (And.intro hml hI)))
  have H0 : Hid (∃ X, CS w W fg fc n lo hi ub rp S X ∧ VV (fg + 1) W vv yv) := ⟨X, hC, hV⟩
  clear hL hm hml hI hC hV
  simp only [dropC, sndC, Try.f3, Option.getD_some]
  go_wp2
  go_loopw [16] (fun u wr => ∃ (k : Nat), u = .int .i64 k ∧ k ≤ n ∧ Hid (∃ X, CS w wr fg fc n lo hi ub rp S X ∧ VV (fg + 1) wr vv yv)) (fun u _ => n - (intOf u).toNat)
  case atStart => exact ⟨0, rfl, Nat.zero_le _, H0⟩
  case round =>
    obtain ⟨k, rfl, hkn, HI⟩ := hrel
    clear H0
    by_cases hlt : k < n
    · have hlt' : (k : Int) < (n : Int) := by omega
      have hlt2 : (k : Int) < ((n : Int) + 1) := by omega
      obtain ⟨X, hC, hV⟩ := HI.out
      have hkX : k < X.length := by rw [hC.len]; omega
      obtain ⟨q1, q2⟩ := hC.cell k hkX
      have HN : Hid (∃ X, CS w (wr.setCell ⟨fg, k, none⟩ (.int .i64 (-5))) fg fc n lo hi ub rp S X ∧ VV (fg + 1) (wr.setCell ⟨fg, k, none⟩ (.int .i64 (-5))) vv yv) := ⟨_, hC.set k hkX (-5), hV.kept (stay_fg wr fg k _) (fun j a e => by omega)⟩
      have wk : IntKind.i64.wrap ((k : Int) + 1) = ((k + 1 : Nat) : Int) := i64_in _ (by omega) (by omega)
      obtain ⟨z, hz⟩ : ∃ z, z = X[k] := ⟨_, rfl⟩
      rw [← hz] at q1
      clear hz hkX hC hV HI hlt
      go_wp2
      go_roundw
      case rel => exact ⟨k + 1, by go_num, by omega, HN⟩
      case measure => simp [intOf]; omega
    · have hlt' : ¬ (k : Int) < (n : Int) := by omega
      clear hlt
      go_upto_region 24 with fail
      rename_i K2 a2 K3 a3
      have HC := Hid.mk a2
      clear a2
      obtain ⟨X, hC, hV⟩ := HI.out
      rcases hV with ⟨rfl, rfl⟩ | ⟨T, vp, yp, hi2, rfl, rfl, hP, hR⟩
      · have HX := Hid.mk hC
        clear hC HI
        go_wp2_with (first | (go_at_call 6; refine (num_any _ _).mono ?_; rintro e w2 ⟨rfl, hw2⟩; replace hw2 := hw2.symm; subst hw2))
        exact HC.out _ _ (law_d w _ sa sc lo hi ub rp m S L HX.out.mu HX.out.bl (by have := HX.out.f0; have := HX.out.f1; omega) HX.out.hh HL.out.1 HL.out.2.1 HL.out.2.2.1 HL.out.2.2.2)
      · have hG1 := hP.groups 1
        have HX := Hid.mk (And.intro hC hR)
        clear hC HI hP hR
        go_wp2_with (first
          | (go_at_call 6; refine (num_any _ _).mono ?_; rintro e w2 ⟨rfl, hw2⟩; replace hw2 := hw2.symm; subst hw2)
          | (go_at_call 8; refine hG1.mono ?_; clear hG1; intro e w5 hO; unfold GrO at hO; obtain ⟨v5, ss5, rfl, g5, b5⟩ := hO; have H5 := Hid.mk (And.intro g5 b5); clear g5 b5; have hG2 := (HX.out.2.below H5.out.2).groups 1)
          | (go_at_call 9; refine hG2.mono ?_; clear hG2; intro e w6 hO; unfold GrO at hO; obtain ⟨v6, ss6, rfl, g6, b6⟩ := hO; have H6 := Hid.mk (And.intro g6 b6); clear g6 b6; have hS := same_groups _ _ v5 v6 ss5 ss6 (gA T (fun k => k) 1) w6 (H5.out.1.below H6.out.2) H6.out.1 (gA_len T (fun k => k) 1 HX.out.2.few) (gA_each T (fun k => k) 1 HX.out.2.few))
          | (go_at_call 7; refine hS.mono ?_; clear hS; rintro e w7 ⟨rfl, d7⟩; have H7 := Hid.mk d7; clear d7)
          | fail)
        have hX := ((HX.out.1.below H5.out.2).below H6.out.2).below (H7.out.below _)
        exact HC.out _ _ (law_d w _ sa sc lo hi ub rp m S L hX.mu hX.bl (by have := hX.f0; have := hX.f1; omega) hX.hh HL.out.1 HL.out.2.1 HL.out.2.2.1 HL.out.2.2.2)
end Go.Proofs.Ytmhifofeobhhgaa
