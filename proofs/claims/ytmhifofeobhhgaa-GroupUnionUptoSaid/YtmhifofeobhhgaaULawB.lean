/-
  DERIVED. The law from its first loop on.
-/
import Derived.Test.YtmhifofeobhhgaaULawC1
set_option linter.unusedVariables false
set_option linter.unusedSimpArgs false
namespace Go.Proofs.Ytmhifofeobhhgaa
open Go.RowKit Go.Proofs.UnionMath
set_option maxHeartbeats 8000000 in
set_option maxRecDepth 100000 in
theorem law_b {t2 t3 t4 t7 t9 t10 t11 t12 t13 t14 t15 t16 t17 t18 t19 t20 t21 t22 t23 t24 t25 t26 t27 t28 t29 t30 t31 t32 t33 t34 t35 t36 t37 t38 t39 t40 t41 t42 t43 t44 t45 t46 t47 t48 t49 t50 t51 t52 t53 t54 t55 t56 t57 t58 t59 t60 t61 t62 t63 t64 t65 t66 t67 t68 t69 t70 t71 t72 t73 t74 t75 t76 t77 t78 t79 t80 t81 t82 t83 t84 t85 t86 t87 t88 t89 t90 t91 t92 t93 t94 t95 t96 t97 t98 t99 t100 t101 t102 t103 t104 t105 t106 t107 t108 t109 t110 t111 t112 t113 t114 t115 t116 t117 t118 t119 t120 t121 t122 t123 t124 t125 t126 t127 t128 t129 t130 t131 t132 t133 t134 t135 t136 t137 t138 t139 t140 t141 t142 t143 t144 t145 t146 t147 t148 t149 t150 t151 t152 t153 t154 t155 t156 t157 t158 t159 t160 t161 t162 t163 t164 t165 t166 t167 t168 t169 t170 t171 t172 t173 t174 t175 t176 t177 t178 t179 t180 t181 t182 t183 t184 t185 : Value} (w W : World) (la sa ra : Option Addr) (cap sc n m fg fc ub : Nat) (ids : List Int) (L : List Sp) (hF : iE.Row W (.slice (some ⟨fg, 0, none⟩) (n + 1) fc) (ids ++ [-7])) (hb : Below w.heap.size w W)
    (hR : ra = none ∨ ∃ rp lo hi S, ra = some ⟨rp, 0, none⟩ ∧ CS w W fg fc n lo hi ub rp S (ids ++ [-7]) ∧ ∀ z ∈ ids, 0 ≤ z ∧ z ≤ 281474976710656)
    (hA : iE.At w la ids) (hn : ids.length = n) (hnl : n ≤ 1048576) (hL : sE.At w sa L) (hm : L.length = m) (hml : m ≤ 1048576) (hI : ∀ s ∈ L, I64 s.a ∧ I64 s.b) :
    Code.wp Try.prog (dropC 6 (Try.f3.body.getD .skip)) (bodyPost Try.prog Try.f3 fun e w' => e = .returned (.bool true) ∧ Below w.heap.size w w') { tmps := #[.slice la n cap, .slice sa m sc, t2, t3, t4, .slice (some ⟨fg, 0, none⟩) (n + 1) fc, Pt ub, t7, .pointer ra, t9, t10, t11, t12, t13, t14, t15, t16, t17, t18, t19, t20, t21, t22, t23, t24, t25, t26, t27, t28, t29, t30, t31, t32, t33, t34, t35, t36, t37, t38, t39, t40, t41, t42, t43, t44, t45, t46, t47, t48, t49, t50, t51, t52, t53, t54, t55, t56, t57, t58, t59, t60, t61, t62, t63, t64, t65, t66, t67, t68, t69, t70, t71, t72, t73, t74, t75, t76, t77, t78, t79, t80, t81, t82, t83, t84, t85, t86, t87, t88, t89, t90, t91, t92, t93, t94, t95, t96, t97, t98, t99, t100, t101, t102, t103, t104, t105, t106, t107, t108, t109, t110, t111, t112, t113, t114, t115, t116, t117, t118, t119, t120, t121, t122, t123, t124, t125, t126, t127, t128, t129, t130, t131, t132, t133, t134, t135, t136, t137, t138, t139, t140, t141, t142, t143, t144, t145, t146, t147, t148, t149, t150, t151, t152, t153, t154, t155, t156, t157, t158, t159, t160, t161, t162, t163, t164, t165, t166, t167, t168, t169, t170, t171, t172, t173, t174, t175, t176, t177, t178, t179, t180, t181, t182, t183, t184, t185], defers := [] } W := by
  have HL := Hid.mk (And.intro hL (And.intro hm (And.intro hml hI)))
  have HA := Hid.mk (And.intro hA (And.intro hn (And.intro hF (And.intro hb hR))))
  clear hL hm hml hI hA hn hF hb hR
  simp only [dropC, sndC, Try.f3, Option.getD_some]
  go_wp2
  go_loopw [10] (fun u wr => ∃ (k : Nat), u = .int .i64 k ∧ k ≤ n ∧ Hid (Drew W wr)) (fun u _ => n - (intOf u).toNat)
  case atStart => exact ⟨0, rfl, Nat.zero_le _, Drew.refl _⟩
  case round =>
    obtain ⟨k, rfl, hkn, HI⟩ := hrel
    by_cases hlt : k < n
    · have hlt' : (k : Int) < (n : Int) := by omega
      have hlt2 : (k : Int) < ((n : Int) + 1) := by omega
      have hki : k < ids.length := by rw [HA.out.2.1]; exact hlt
      obtain ⟨g, off, hla, hr⟩ := HA.out.1.at' (fun e => by rw [e] at hki; simp at hki)
      subst hla
      have bb := chain HA.out.2.2.2.1 (HI.out.below _) (Nat.le_refl _)
      have k0 : wr.cell? ⟨g, off + k, none⟩ = some (.int .i64 ids[k]) := cell_lat bb (hr k _ (by rw [iCells, List.getElem?_map, List.getElem?_eq_getElem hki]; rfl))
      have k1 := (i_cell' HA.out.2.2.1 k (by simp; omega)).1
      rw [List.getElem_append_left hki] at k1
      replace k1 := cell_lat (HI.out.below _) k1
      obtain ⟨x, hx⟩ : ∃ x, x = ids[k] := ⟨_, rfl⟩
      rw [← hx] at k0 k1
      have HN : ∀ nq, Hid (Drew W (wr.drewN nq)) := fun nq => HI.out.more nq
      have wk : IntKind.i64.wrap ((k : Int) + 1) = ((k + 1 : Nat) : Int) := i64_in _ (by omega) (by omega)
      clear hx hki hr HI hlt bb
      go_wp2_with fail
      go_quiet (fail)
      go_wp2
      go_roundw
      case rel => exact ⟨k + 1, by go_num, by omega, HN _⟩
      case measure => simp [intOf]; omega
    · have hlt' : ¬ (k : Int) < (n : Int) := by omega
      clear hlt
      go_upto_region 12 with fail
      rename_i K2 a2 K3 a3
      have HC := Hid.mk a2
      clear a2
      rcases HA.out.2.2.2.2 with hra | ⟨rp, lo, hi, S, hra, hCS, hbd⟩
      · subst hra
        go_wp2
        go_ret
        exact ⟨rfl, chain HA.out.2.2.2.1 (HI.out.below _) (Nat.le_refl _)⟩
      · subst hra
        have HX := Hid.mk (And.intro (hCS.below (HI.out.below _)) hbd)
        clear hCS hbd HI
        go_wp2
        exact HC.out _ _ (law_c1 w _ la sa cap sc n m fg fc lo hi ub rp S ids L HX.out.1 HA.out.1 HA.out.2.1 HX.out.2 hnl HL.out.1 HL.out.2.1 HL.out.2.2.1 HL.out.2.2.2)
end Go.Proofs.Ytmhifofeobhhgaa
