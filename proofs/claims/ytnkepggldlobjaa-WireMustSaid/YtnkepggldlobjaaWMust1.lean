/-
  DERIVED. WireMust behind Ask, an operation each.
-/
import Derived.Test.YtnkepggldlobjaaWMust0
import Derived.Test.YtnkepggldlobjaaWDrop
set_option linter.unusedVariables false
set_option linter.unusedSimpArgs false
namespace Go.Proofs.Ytnkepggldlobjaa
open Go.RowKit Go.Proofs.SealMath
set_option maxHeartbeats 8000000 in
set_option maxRecDepth 100000 in
theorem tail_0 {t0 t1 t2 t3 t4 t9 t10 t11 t12 t13 t14 t15 t16 t17 t18 t21 t25 t26 t27 t28 t29 t30 t31 t32 t33 t34 t35 t36 t37 t38 t39 t40 t41 t42 t43 t44 t45 t46 t47 t48 t49 t50 t51 t52 t53 t54 t55 t56 t57 t58 t59 t60 t61 t62 t63 t64 t65 t66 t67 t68 t69 t70 t71 t72 t73 t74 t75 t76 t77 t78 t79 t80 t81 t82 t83 t84 t85 t86 t87 t88 t89 t90 t91 t92 t93 t94 t95 t96 t97 t98 t99 t100 t101 t102 t103 t104 t105 t106 t107 t108 t109 t110 t111 t112 t113 t114 t115 t116 t117 t118 t119 t120 t121 t122 t123 t124 t125 t126 t127 t128 t129 t130 t131 t132 t133 t134 t135 t136 t137 t138 t139 t140 t141 t142 t143 t144 t145 t146 t147 t148 t149 t150 t151 t152 t153 t154 t155 t156 t157 t158 t159 t160 t161 t162 t163 t164 : Value} (w W : World) (n errno : Int) (text s : ByteArray) (a : Option Addr) (L : List Ht) (cap rb nl : Nat) (hn : n ≤ 9223372036854775807) (ht : text.size < 4611686018427387904) (hb : Below w.heap.size w W) (hrb : w.heap.size ≤ rb) (hr : HC W rb #[.int .i64 0, .int .i64 0, .string ⟨#[]⟩, .slice none 0 0] 37) (hs : (2 : Int) ≤ (s.size : Int)) (hL : HsAt w a L) (hl : nl < 4611686018427387904) (hnl : nl = L.length) :
    Code.wp Try.prog (dropC 10 (Try.f8.body.getD .skip)) (bodyPost Try.prog Try.f8 fun e w' => e = .returned (.bool true) ∧ Below w.heap.size w w') { tmps := #[t0, t1, t2, t3, t4, .int .i64 n, .string text, .int .i64 errno, .slice a nl cap, t9, t10, t11, t12, t13, t14, t15, t16, t17, t18, .bool true, .int .i64 1, t21, Pt rb, .string s, .int .i64 0, t25, t26, t27, t28, t29, t30, t31, t32, t33, t34, t35, t36, t37, t38, t39, t40, t41, t42, t43, t44, t45, t46, t47, t48, t49, t50, t51, t52, t53, t54, t55, t56, t57, t58, t59, t60, t61, t62, t63, t64, t65, t66, t67, t68, t69, t70, t71, t72, t73, t74, t75, t76, t77, t78, t79, t80, t81, t82, t83, t84, t85, t86, t87, t88, t89, t90, t91, t92, t93, t94, t95, t96, t97, t98, t99, t100, t101, t102, t103, t104, t105, t106, t107, t108, t109, t110, t111, t112, t113, t114, t115, t116, t117, t118, t119, t120, t121, t122, t123, t124, t125, t126, t127, t128, t129, t130, t131, t132, t133, t134, t135, t136, t137, t138, t139, t140, t141, t142, t143, t144, t145, t146, t147, t148, t149, t150, t151, t152, t153, t154, t155, t156, t157, t158, t159, t160, t161, t162, t163, t164], defers := [] } W := by
  have c0 := hr.cell (o := 0) rfl
  have c1 := hr.cell (o := 1) rfl
  have c2 := hr.cell (o := 2) rfl
  have c3 := hr.cell (o := 3) rfl
  have f0 := hr.free 0
  have f1 := hr.free 1
  have f2 := hr.free 2
  have f3 := hr.free 3
  have HR := Hid.mk hr
  have HLL := Hid.mk hL
  have HNL := Hid.mk hnl
  clear hr hL hnl
  by_cases he : 0 < errno ∧ errno < 1000
  · obtain ⟨e1, e2⟩ := he
    simp only [dropC, sndC, Try.f8, Option.getD_some]
    obtain ⟨T, hT3, hTA⟩ := must_tell 0 (by decide) ⟨errno, 0, eB⟩ [] ⟨by simp only; omega, by simp only; omega⟩ (by simp [stP, lfN, lfT, lfS, eB]) (by unfold ckR; rw [if_neg (by simp only; omega)])
    rw [show ((0 + 1 : Nat) : Int) = 1 from rfl] at hTA
    have hT := fun W => tell_any 1 ⟨errno, 0, eB⟩ [] none 0 (by first | decide | (simp only; omega)) (fun x hx => by simp at hx) (by decide) W (.inl rfl)
    rw [hTA] at hT
    simp only [rpC, List.length_nil] at hT
    obtain ⟨Tb, hTb⟩ : ∃ Tb : ByteArray, Tb = ⟨T.toArray⟩ := ⟨_, rfl⟩
    have hTs : (3 : Int) ≤ (Tb.size : Int) := by rw [hTb]; have : (⟨T.toArray⟩ : ByteArray).size = T.length := List.size_toArray; omega
    simp only [← hTb] at hT
    clear hTb hTA hT3
    go_wp2_with (first | (go_at_call 13; refine (hT _).mono ?_; clear hT; rintro e w2 ⟨rfl, b2⟩; have H2 := Hid.mk b2; clear b2))
    go_ret
    exact ⟨rfl, chain (hb.setCell (p := ⟨rb, 0, none⟩) hrb _) H2.out (Nat.le_refl _)⟩
  · have hnn : errno ≤ 0 ∨ (¬ errno ≤ 0 ∧ 1000 ≤ errno) := by omega
    clear he
    rcases hnn with e1 | ⟨e1, e2⟩
    · have e1' : ¬ 0 < errno := by omega
      simp only [dropC, sndC, Try.f8, Option.getD_some]
      obtain ⟨T, hT3, hTA⟩ := must_tell 0 (by decide) ⟨0, 0, eB⟩ [] ⟨by decide, by decide⟩ (by decide +kernel) (by decide +kernel)
      rw [show ((0 + 1 : Nat) : Int) = 1 from rfl] at hTA
      have hT := fun W => tell_any 1 ⟨0, 0, eB⟩ [] none 0 (by first | decide | (simp only; omega)) (fun x hx => by simp at hx) (by decide) W (.inl rfl)
      rw [hTA] at hT
      simp only [rpC, List.length_nil] at hT
      obtain ⟨Tb, hTb⟩ : ∃ Tb : ByteArray, Tb = ⟨T.toArray⟩ := ⟨_, rfl⟩
      have hTs : (3 : Int) ≤ (Tb.size : Int) := by rw [hTb]; have : (⟨T.toArray⟩ : ByteArray).size = T.length := List.size_toArray; omega
      simp only [← hTb] at hT
      clear hTb hTA hT3
      go_wp2_with (first | (go_at_call 13; refine (hT _).mono ?_; clear hT; rintro e w2 ⟨rfl, b2⟩; have H2 := Hid.mk b2; clear b2))
      go_ret
      exact ⟨rfl, chain (hb) H2.out (Nat.le_refl _)⟩
    · have e1' : 0 < errno := by omega
      have e2' : ¬ errno < 1000 := by omega
      simp only [dropC, sndC, Try.f8, Option.getD_some]
      obtain ⟨T, hT3, hTA⟩ := must_tell 0 (by decide) ⟨0, 0, eB⟩ [] ⟨by decide, by decide⟩ (by decide +kernel) (by decide +kernel)
      rw [show ((0 + 1 : Nat) : Int) = 1 from rfl] at hTA
      have hT := fun W => tell_any 1 ⟨0, 0, eB⟩ [] none 0 (by first | decide | (simp only; omega)) (fun x hx => by simp at hx) (by decide) W (.inl rfl)
      rw [hTA] at hT
      simp only [rpC, List.length_nil] at hT
      obtain ⟨Tb, hTb⟩ : ∃ Tb : ByteArray, Tb = ⟨T.toArray⟩ := ⟨_, rfl⟩
      have hTs : (3 : Int) ≤ (Tb.size : Int) := by rw [hTb]; have : (⟨T.toArray⟩ : ByteArray).size = T.length := List.size_toArray; omega
      simp only [← hTb] at hT
      clear hTb hTA hT3
      go_wp2_with (first | (go_at_call 13; refine (hT _).mono ?_; clear hT; rintro e w2 ⟨rfl, b2⟩; have H2 := Hid.mk b2; clear b2))
      go_ret
      exact ⟨rfl, chain (hb) H2.out (Nat.le_refl _)⟩
set_option maxHeartbeats 8000000 in
set_option maxRecDepth 100000 in
theorem tail_1 {t0 t1 t2 t3 t4 t9 t10 t11 t12 t13 t14 t15 t16 t17 t18 t21 t25 t26 t27 t28 t29 t30 t31 t32 t33 t34 t35 t36 t37 t38 t39 t40 t41 t42 t43 t44 t45 t46 t47 t48 t49 t50 t51 t52 t53 t54 t55 t56 t57 t58 t59 t60 t61 t62 t63 t64 t65 t66 t67 t68 t69 t70 t71 t72 t73 t74 t75 t76 t77 t78 t79 t80 t81 t82 t83 t84 t85 t86 t87 t88 t89 t90 t91 t92 t93 t94 t95 t96 t97 t98 t99 t100 t101 t102 t103 t104 t105 t106 t107 t108 t109 t110 t111 t112 t113 t114 t115 t116 t117 t118 t119 t120 t121 t122 t123 t124 t125 t126 t127 t128 t129 t130 t131 t132 t133 t134 t135 t136 t137 t138 t139 t140 t141 t142 t143 t144 t145 t146 t147 t148 t149 t150 t151 t152 t153 t154 t155 t156 t157 t158 t159 t160 t161 t162 t163 t164 : Value} (w W : World) (n errno : Int) (text s : ByteArray) (a : Option Addr) (L : List Ht) (cap rb nl : Nat) (hn : n ≤ 9223372036854775807) (ht : text.size < 4611686018427387904) (hb : Below w.heap.size w W) (hrb : w.heap.size ≤ rb) (hr : HC W rb #[.int .i64 0, .int .i64 0, .string ⟨#[]⟩, .slice none 0 0] 37) (hs : (2 : Int) ≤ (s.size : Int)) (hL : HsAt w a L) (hl : nl < 4611686018427387904) (hnl : nl = L.length) :
    Code.wp Try.prog (dropC 10 (Try.f8.body.getD .skip)) (bodyPost Try.prog Try.f8 fun e w' => e = .returned (.bool true) ∧ Below w.heap.size w w') { tmps := #[t0, t1, t2, t3, t4, .int .i64 n, .string text, .int .i64 errno, .slice a nl cap, t9, t10, t11, t12, t13, t14, t15, t16, t17, t18, .bool true, .int .i64 2, t21, Pt rb, .string s, .int .i64 0, t25, t26, t27, t28, t29, t30, t31, t32, t33, t34, t35, t36, t37, t38, t39, t40, t41, t42, t43, t44, t45, t46, t47, t48, t49, t50, t51, t52, t53, t54, t55, t56, t57, t58, t59, t60, t61, t62, t63, t64, t65, t66, t67, t68, t69, t70, t71, t72, t73, t74, t75, t76, t77, t78, t79, t80, t81, t82, t83, t84, t85, t86, t87, t88, t89, t90, t91, t92, t93, t94, t95, t96, t97, t98, t99, t100, t101, t102, t103, t104, t105, t106, t107, t108, t109, t110, t111, t112, t113, t114, t115, t116, t117, t118, t119, t120, t121, t122, t123, t124, t125, t126, t127, t128, t129, t130, t131, t132, t133, t134, t135, t136, t137, t138, t139, t140, t141, t142, t143, t144, t145, t146, t147, t148, t149, t150, t151, t152, t153, t154, t155, t156, t157, t158, t159, t160, t161, t162, t163, t164], defers := [] } W := by
  have c0 := hr.cell (o := 0) rfl
  have c1 := hr.cell (o := 1) rfl
  have c2 := hr.cell (o := 2) rfl
  have c3 := hr.cell (o := 3) rfl
  have f0 := hr.free 0
  have f1 := hr.free 1
  have f2 := hr.free 2
  have f3 := hr.free 3
  have HR := Hid.mk hr
  have HLL := Hid.mk hL
  have HNL := Hid.mk hnl
  clear hr hL hnl
  by_cases he : 0 < errno ∧ errno < 1000
  · obtain ⟨e1, e2⟩ := he
    simp only [dropC, sndC, Try.f8, Option.getD_some]
    obtain ⟨T, hT3, hTA⟩ := must_tell 1 (by decide) ⟨errno, 0, eB⟩ [] ⟨by simp only; omega, by simp only; omega⟩ (by simp [stP, lfN, lfT, lfS, eB]) (by unfold ckR; rw [if_neg (by simp only; omega)])
    rw [show ((1 + 1 : Nat) : Int) = 2 from rfl] at hTA
    have hT := fun W => tell_any 2 ⟨errno, 0, eB⟩ [] none 0 (by first | decide | (simp only; omega)) (fun x hx => by simp at hx) (by decide) W (.inl rfl)
    rw [hTA] at hT
    simp only [rpC, List.length_nil] at hT
    obtain ⟨Tb, hTb⟩ : ∃ Tb : ByteArray, Tb = ⟨T.toArray⟩ := ⟨_, rfl⟩
    have hTs : (3 : Int) ≤ (Tb.size : Int) := by rw [hTb]; have : (⟨T.toArray⟩ : ByteArray).size = T.length := List.size_toArray; omega
    simp only [← hTb] at hT
    clear hTb hTA hT3
    go_wp2_with (first | (go_at_call 13; refine (hT _).mono ?_; clear hT; rintro e w2 ⟨rfl, b2⟩; have H2 := Hid.mk b2; clear b2))
    go_ret
    exact ⟨rfl, chain (hb.setCell (p := ⟨rb, 0, none⟩) hrb _) H2.out (Nat.le_refl _)⟩
  · have hnn : errno ≤ 0 ∨ (¬ errno ≤ 0 ∧ 1000 ≤ errno) := by omega
    clear he
    rcases hnn with e1 | ⟨e1, e2⟩
    · have e1' : ¬ 0 < errno := by omega
      simp only [dropC, sndC, Try.f8, Option.getD_some]
      obtain ⟨T, hT3, hTA⟩ := must_tell 1 (by decide) ⟨0, 0, eB⟩ [] ⟨by decide, by decide⟩ (by decide +kernel) (by decide +kernel)
      rw [show ((1 + 1 : Nat) : Int) = 2 from rfl] at hTA
      have hT := fun W => tell_any 2 ⟨0, 0, eB⟩ [] none 0 (by first | decide | (simp only; omega)) (fun x hx => by simp at hx) (by decide) W (.inl rfl)
      rw [hTA] at hT
      simp only [rpC, List.length_nil] at hT
      obtain ⟨Tb, hTb⟩ : ∃ Tb : ByteArray, Tb = ⟨T.toArray⟩ := ⟨_, rfl⟩
      have hTs : (3 : Int) ≤ (Tb.size : Int) := by rw [hTb]; have : (⟨T.toArray⟩ : ByteArray).size = T.length := List.size_toArray; omega
      simp only [← hTb] at hT
      clear hTb hTA hT3
      go_wp2_with (first | (go_at_call 13; refine (hT _).mono ?_; clear hT; rintro e w2 ⟨rfl, b2⟩; have H2 := Hid.mk b2; clear b2))
      go_ret
      exact ⟨rfl, chain (hb) H2.out (Nat.le_refl _)⟩
    · have e1' : 0 < errno := by omega
      have e2' : ¬ errno < 1000 := by omega
      simp only [dropC, sndC, Try.f8, Option.getD_some]
      obtain ⟨T, hT3, hTA⟩ := must_tell 1 (by decide) ⟨0, 0, eB⟩ [] ⟨by decide, by decide⟩ (by decide +kernel) (by decide +kernel)
      rw [show ((1 + 1 : Nat) : Int) = 2 from rfl] at hTA
      have hT := fun W => tell_any 2 ⟨0, 0, eB⟩ [] none 0 (by first | decide | (simp only; omega)) (fun x hx => by simp at hx) (by decide) W (.inl rfl)
      rw [hTA] at hT
      simp only [rpC, List.length_nil] at hT
      obtain ⟨Tb, hTb⟩ : ∃ Tb : ByteArray, Tb = ⟨T.toArray⟩ := ⟨_, rfl⟩
      have hTs : (3 : Int) ≤ (Tb.size : Int) := by rw [hTb]; have : (⟨T.toArray⟩ : ByteArray).size = T.length := List.size_toArray; omega
      simp only [← hTb] at hT
      clear hTb hTA hT3
      go_wp2_with (first | (go_at_call 13; refine (hT _).mono ?_; clear hT; rintro e w2 ⟨rfl, b2⟩; have H2 := Hid.mk b2; clear b2))
      go_ret
      exact ⟨rfl, chain (hb) H2.out (Nat.le_refl _)⟩
set_option maxHeartbeats 8000000 in
set_option maxRecDepth 100000 in
theorem tail_6 {t0 t1 t2 t3 t4 t9 t10 t11 t12 t13 t14 t15 t16 t17 t18 t21 t25 t26 t27 t28 t29 t30 t31 t32 t33 t34 t35 t36 t37 t38 t39 t40 t41 t42 t43 t44 t45 t46 t47 t48 t49 t50 t51 t52 t53 t54 t55 t56 t57 t58 t59 t60 t61 t62 t63 t64 t65 t66 t67 t68 t69 t70 t71 t72 t73 t74 t75 t76 t77 t78 t79 t80 t81 t82 t83 t84 t85 t86 t87 t88 t89 t90 t91 t92 t93 t94 t95 t96 t97 t98 t99 t100 t101 t102 t103 t104 t105 t106 t107 t108 t109 t110 t111 t112 t113 t114 t115 t116 t117 t118 t119 t120 t121 t122 t123 t124 t125 t126 t127 t128 t129 t130 t131 t132 t133 t134 t135 t136 t137 t138 t139 t140 t141 t142 t143 t144 t145 t146 t147 t148 t149 t150 t151 t152 t153 t154 t155 t156 t157 t158 t159 t160 t161 t162 t163 t164 : Value} (w W : World) (n errno : Int) (text s : ByteArray) (a : Option Addr) (L : List Ht) (cap rb nl : Nat) (hn : n ≤ 9223372036854775807) (ht : text.size < 4611686018427387904) (hb : Below w.heap.size w W) (hrb : w.heap.size ≤ rb) (hr : HC W rb #[.int .i64 0, .int .i64 0, .string ⟨#[]⟩, .slice none 0 0] 37) (hs : (2 : Int) ≤ (s.size : Int)) (hL : HsAt w a L) (hl : nl < 4611686018427387904) (hnl : nl = L.length) :
    Code.wp Try.prog (dropC 10 (Try.f8.body.getD .skip)) (bodyPost Try.prog Try.f8 fun e w' => e = .returned (.bool true) ∧ Below w.heap.size w w') { tmps := #[t0, t1, t2, t3, t4, .int .i64 n, .string text, .int .i64 errno, .slice a nl cap, t9, t10, t11, t12, t13, t14, t15, t16, t17, t18, .bool true, .int .i64 7, t21, Pt rb, .string s, .int .i64 0, t25, t26, t27, t28, t29, t30, t31, t32, t33, t34, t35, t36, t37, t38, t39, t40, t41, t42, t43, t44, t45, t46, t47, t48, t49, t50, t51, t52, t53, t54, t55, t56, t57, t58, t59, t60, t61, t62, t63, t64, t65, t66, t67, t68, t69, t70, t71, t72, t73, t74, t75, t76, t77, t78, t79, t80, t81, t82, t83, t84, t85, t86, t87, t88, t89, t90, t91, t92, t93, t94, t95, t96, t97, t98, t99, t100, t101, t102, t103, t104, t105, t106, t107, t108, t109, t110, t111, t112, t113, t114, t115, t116, t117, t118, t119, t120, t121, t122, t123, t124, t125, t126, t127, t128, t129, t130, t131, t132, t133, t134, t135, t136, t137, t138, t139, t140, t141, t142, t143, t144, t145, t146, t147, t148, t149, t150, t151, t152, t153, t154, t155, t156, t157, t158, t159, t160, t161, t162, t163, t164], defers := [] } W := by
  have c0 := hr.cell (o := 0) rfl
  have c1 := hr.cell (o := 1) rfl
  have c2 := hr.cell (o := 2) rfl
  have c3 := hr.cell (o := 3) rfl
  have f0 := hr.free 0
  have f1 := hr.free 1
  have f2 := hr.free 2
  have f3 := hr.free 3
  have HR := Hid.mk hr
  have HLL := Hid.mk hL
  have HNL := Hid.mk hnl
  clear hr hL hnl
  by_cases he : 0 < errno ∧ errno < 1000
  · obtain ⟨e1, e2⟩ := he
    simp only [dropC, sndC, Try.f8, Option.getD_some]
    obtain ⟨T, hT3, hTA⟩ := must_tell 6 (by decide) ⟨errno, 0, eB⟩ [] ⟨by simp only; omega, by simp only; omega⟩ (by simp [stP, lfN, lfT, lfS, eB]) (by unfold ckR; rw [if_neg (by simp only; omega)])
    rw [show ((6 + 1 : Nat) : Int) = 7 from rfl] at hTA
    have hT := fun W => tell_any 7 ⟨errno, 0, eB⟩ [] none 0 (by first | decide | (simp only; omega)) (fun x hx => by simp at hx) (by decide) W (.inl rfl)
    rw [hTA] at hT
    simp only [rpC, List.length_nil] at hT
    obtain ⟨Tb, hTb⟩ : ∃ Tb : ByteArray, Tb = ⟨T.toArray⟩ := ⟨_, rfl⟩
    have hTs : (3 : Int) ≤ (Tb.size : Int) := by rw [hTb]; have : (⟨T.toArray⟩ : ByteArray).size = T.length := List.size_toArray; omega
    simp only [← hTb] at hT
    clear hTb hTA hT3
    go_wp2_with (first | (go_at_call 13; refine (hT _).mono ?_; clear hT; rintro e w2 ⟨rfl, b2⟩; have H2 := Hid.mk b2; clear b2))
    go_ret
    exact ⟨rfl, chain (hb.setCell (p := ⟨rb, 0, none⟩) hrb _) H2.out (Nat.le_refl _)⟩
  · have hnn : errno ≤ 0 ∨ (¬ errno ≤ 0 ∧ 1000 ≤ errno) := by omega
    clear he
    rcases hnn with e1 | ⟨e1, e2⟩
    · have e1' : ¬ 0 < errno := by omega
      simp only [dropC, sndC, Try.f8, Option.getD_some]
      obtain ⟨T, hT3, hTA⟩ := must_tell 6 (by decide) ⟨0, 0, eB⟩ [] ⟨by decide, by decide⟩ (by decide +kernel) (by decide +kernel)
      rw [show ((6 + 1 : Nat) : Int) = 7 from rfl] at hTA
      have hT := fun W => tell_any 7 ⟨0, 0, eB⟩ [] none 0 (by first | decide | (simp only; omega)) (fun x hx => by simp at hx) (by decide) W (.inl rfl)
      rw [hTA] at hT
      simp only [rpC, List.length_nil] at hT
      obtain ⟨Tb, hTb⟩ : ∃ Tb : ByteArray, Tb = ⟨T.toArray⟩ := ⟨_, rfl⟩
      have hTs : (3 : Int) ≤ (Tb.size : Int) := by rw [hTb]; have : (⟨T.toArray⟩ : ByteArray).size = T.length := List.size_toArray; omega
      simp only [← hTb] at hT
      clear hTb hTA hT3
      go_wp2_with (first | (go_at_call 13; refine (hT _).mono ?_; clear hT; rintro e w2 ⟨rfl, b2⟩; have H2 := Hid.mk b2; clear b2))
      go_ret
      exact ⟨rfl, chain (hb) H2.out (Nat.le_refl _)⟩
    · have e1' : 0 < errno := by omega
      have e2' : ¬ errno < 1000 := by omega
      simp only [dropC, sndC, Try.f8, Option.getD_some]
      obtain ⟨T, hT3, hTA⟩ := must_tell 6 (by decide) ⟨0, 0, eB⟩ [] ⟨by decide, by decide⟩ (by decide +kernel) (by decide +kernel)
      rw [show ((6 + 1 : Nat) : Int) = 7 from rfl] at hTA
      have hT := fun W => tell_any 7 ⟨0, 0, eB⟩ [] none 0 (by first | decide | (simp only; omega)) (fun x hx => by simp at hx) (by decide) W (.inl rfl)
      rw [hTA] at hT
      simp only [rpC, List.length_nil] at hT
      obtain ⟨Tb, hTb⟩ : ∃ Tb : ByteArray, Tb = ⟨T.toArray⟩ := ⟨_, rfl⟩
      have hTs : (3 : Int) ≤ (Tb.size : Int) := by rw [hTb]; have : (⟨T.toArray⟩ : ByteArray).size = T.length := List.size_toArray; omega
      simp only [← hTb] at hT
      clear hTb hTA hT3
      go_wp2_with (first | (go_at_call 13; refine (hT _).mono ?_; clear hT; rintro e w2 ⟨rfl, b2⟩; have H2 := Hid.mk b2; clear b2))
      go_ret
      exact ⟨rfl, chain (hb) H2.out (Nat.le_refl _)⟩
set_option maxHeartbeats 8000000 in
set_option maxRecDepth 100000 in
theorem tail_8 {t0 t1 t2 t3 t4 t9 t10 t11 t12 t13 t14 t15 t16 t17 t18 t21 t25 t26 t27 t28 t29 t30 t31 t32 t33 t34 t35 t36 t37 t38 t39 t40 t41 t42 t43 t44 t45 t46 t47 t48 t49 t50 t51 t52 t53 t54 t55 t56 t57 t58 t59 t60 t61 t62 t63 t64 t65 t66 t67 t68 t69 t70 t71 t72 t73 t74 t75 t76 t77 t78 t79 t80 t81 t82 t83 t84 t85 t86 t87 t88 t89 t90 t91 t92 t93 t94 t95 t96 t97 t98 t99 t100 t101 t102 t103 t104 t105 t106 t107 t108 t109 t110 t111 t112 t113 t114 t115 t116 t117 t118 t119 t120 t121 t122 t123 t124 t125 t126 t127 t128 t129 t130 t131 t132 t133 t134 t135 t136 t137 t138 t139 t140 t141 t142 t143 t144 t145 t146 t147 t148 t149 t150 t151 t152 t153 t154 t155 t156 t157 t158 t159 t160 t161 t162 t163 t164 : Value} (w W : World) (n errno : Int) (text s : ByteArray) (a : Option Addr) (L : List Ht) (cap rb nl : Nat) (hn : n ≤ 9223372036854775807) (ht : text.size < 4611686018427387904) (hb : Below w.heap.size w W) (hrb : w.heap.size ≤ rb) (hr : HC W rb #[.int .i64 0, .int .i64 0, .string ⟨#[]⟩, .slice none 0 0] 37) (hs : (2 : Int) ≤ (s.size : Int)) (hL : HsAt w a L) (hl : nl < 4611686018427387904) (hnl : nl = L.length) :
    Code.wp Try.prog (dropC 10 (Try.f8.body.getD .skip)) (bodyPost Try.prog Try.f8 fun e w' => e = .returned (.bool true) ∧ Below w.heap.size w w') { tmps := #[t0, t1, t2, t3, t4, .int .i64 n, .string text, .int .i64 errno, .slice a nl cap, t9, t10, t11, t12, t13, t14, t15, t16, t17, t18, .bool true, .int .i64 9, t21, Pt rb, .string s, .int .i64 0, t25, t26, t27, t28, t29, t30, t31, t32, t33, t34, t35, t36, t37, t38, t39, t40, t41, t42, t43, t44, t45, t46, t47, t48, t49, t50, t51, t52, t53, t54, t55, t56, t57, t58, t59, t60, t61, t62, t63, t64, t65, t66, t67, t68, t69, t70, t71, t72, t73, t74, t75, t76, t77, t78, t79, t80, t81, t82, t83, t84, t85, t86, t87, t88, t89, t90, t91, t92, t93, t94, t95, t96, t97, t98, t99, t100, t101, t102, t103, t104, t105, t106, t107, t108, t109, t110, t111, t112, t113, t114, t115, t116, t117, t118, t119, t120, t121, t122, t123, t124, t125, t126, t127, t128, t129, t130, t131, t132, t133, t134, t135, t136, t137, t138, t139, t140, t141, t142, t143, t144, t145, t146, t147, t148, t149, t150, t151, t152, t153, t154, t155, t156, t157, t158, t159, t160, t161, t162, t163, t164], defers := [] } W := by
  have c0 := hr.cell (o := 0) rfl
  have c1 := hr.cell (o := 1) rfl
  have c2 := hr.cell (o := 2) rfl
  have c3 := hr.cell (o := 3) rfl
  have f0 := hr.free 0
  have f1 := hr.free 1
  have f2 := hr.free 2
  have f3 := hr.free 3
  have HR := Hid.mk hr
  have HLL := Hid.mk hL
  have HNL := Hid.mk hnl
  clear hr hL hnl
  by_cases he : 0 < errno ∧ errno < 1000
  · obtain ⟨e1, e2⟩ := he
    simp only [dropC, sndC, Try.f8, Option.getD_some]
    obtain ⟨T, hT3, hTA⟩ := must_tell 8 (by decide) ⟨errno, 0, eB⟩ [] ⟨by simp only; omega, by simp only; omega⟩ (by simp [stP, lfN, lfT, lfS, eB]) (by unfold ckR; rw [if_neg (by simp only; omega)])
    rw [show ((8 + 1 : Nat) : Int) = 9 from rfl] at hTA
    have hT := fun W => tell_any 9 ⟨errno, 0, eB⟩ [] none 0 (by first | decide | (simp only; omega)) (fun x hx => by simp at hx) (by decide) W (.inl rfl)
    rw [hTA] at hT
    simp only [rpC, List.length_nil] at hT
    obtain ⟨Tb, hTb⟩ : ∃ Tb : ByteArray, Tb = ⟨T.toArray⟩ := ⟨_, rfl⟩
    have hTs : (3 : Int) ≤ (Tb.size : Int) := by rw [hTb]; have : (⟨T.toArray⟩ : ByteArray).size = T.length := List.size_toArray; omega
    simp only [← hTb] at hT
    clear hTb hTA hT3
    go_wp2_with (first | (go_at_call 13; refine (hT _).mono ?_; clear hT; rintro e w2 ⟨rfl, b2⟩; have H2 := Hid.mk b2; clear b2))
    go_ret
    exact ⟨rfl, chain (hb.setCell (p := ⟨rb, 0, none⟩) hrb _) H2.out (Nat.le_refl _)⟩
  · have hnn : errno ≤ 0 ∨ (¬ errno ≤ 0 ∧ 1000 ≤ errno) := by omega
    clear he
    rcases hnn with e1 | ⟨e1, e2⟩
    · have e1' : ¬ 0 < errno := by omega
      simp only [dropC, sndC, Try.f8, Option.getD_some]
      obtain ⟨T, hT3, hTA⟩ := must_tell 8 (by decide) ⟨0, 0, eB⟩ [] ⟨by decide, by decide⟩ (by decide +kernel) (by decide +kernel)
      rw [show ((8 + 1 : Nat) : Int) = 9 from rfl] at hTA
      have hT := fun W => tell_any 9 ⟨0, 0, eB⟩ [] none 0 (by first | decide | (simp only; omega)) (fun x hx => by simp at hx) (by decide) W (.inl rfl)
      rw [hTA] at hT
      simp only [rpC, List.length_nil] at hT
      obtain ⟨Tb, hTb⟩ : ∃ Tb : ByteArray, Tb = ⟨T.toArray⟩ := ⟨_, rfl⟩
      have hTs : (3 : Int) ≤ (Tb.size : Int) := by rw [hTb]; have : (⟨T.toArray⟩ : ByteArray).size = T.length := List.size_toArray; omega
      simp only [← hTb] at hT
      clear hTb hTA hT3
      go_wp2_with (first | (go_at_call 13; refine (hT _).mono ?_; clear hT; rintro e w2 ⟨rfl, b2⟩; have H2 := Hid.mk b2; clear b2))
      go_ret
      exact ⟨rfl, chain (hb) H2.out (Nat.le_refl _)⟩
    · have e1' : 0 < errno := by omega
      have e2' : ¬ errno < 1000 := by omega
      simp only [dropC, sndC, Try.f8, Option.getD_some]
      obtain ⟨T, hT3, hTA⟩ := must_tell 8 (by decide) ⟨0, 0, eB⟩ [] ⟨by decide, by decide⟩ (by decide +kernel) (by decide +kernel)
      rw [show ((8 + 1 : Nat) : Int) = 9 from rfl] at hTA
      have hT := fun W => tell_any 9 ⟨0, 0, eB⟩ [] none 0 (by first | decide | (simp only; omega)) (fun x hx => by simp at hx) (by decide) W (.inl rfl)
      rw [hTA] at hT
      simp only [rpC, List.length_nil] at hT
      obtain ⟨Tb, hTb⟩ : ∃ Tb : ByteArray, Tb = ⟨T.toArray⟩ := ⟨_, rfl⟩
      have hTs : (3 : Int) ≤ (Tb.size : Int) := by rw [hTb]; have : (⟨T.toArray⟩ : ByteArray).size = T.length := List.size_toArray; omega
      simp only [← hTb] at hT
      clear hTb hTA hT3
      go_wp2_with (first | (go_at_call 13; refine (hT _).mono ?_; clear hT; rintro e w2 ⟨rfl, b2⟩; have H2 := Hid.mk b2; clear b2))
      go_ret
      exact ⟨rfl, chain (hb) H2.out (Nat.le_refl _)⟩
set_option maxHeartbeats 8000000 in
set_option maxRecDepth 100000 in
theorem tail_2 {t0 t1 t2 t3 t4 t9 t10 t11 t12 t13 t14 t15 t16 t17 t18 t21 t25 t26 t27 t28 t29 t30 t31 t32 t33 t34 t35 t36 t37 t38 t39 t40 t41 t42 t43 t44 t45 t46 t47 t48 t49 t50 t51 t52 t53 t54 t55 t56 t57 t58 t59 t60 t61 t62 t63 t64 t65 t66 t67 t68 t69 t70 t71 t72 t73 t74 t75 t76 t77 t78 t79 t80 t81 t82 t83 t84 t85 t86 t87 t88 t89 t90 t91 t92 t93 t94 t95 t96 t97 t98 t99 t100 t101 t102 t103 t104 t105 t106 t107 t108 t109 t110 t111 t112 t113 t114 t115 t116 t117 t118 t119 t120 t121 t122 t123 t124 t125 t126 t127 t128 t129 t130 t131 t132 t133 t134 t135 t136 t137 t138 t139 t140 t141 t142 t143 t144 t145 t146 t147 t148 t149 t150 t151 t152 t153 t154 t155 t156 t157 t158 t159 t160 t161 t162 t163 t164 : Value} (w W : World) (n errno : Int) (text s : ByteArray) (a : Option Addr) (L : List Ht) (cap rb nl : Nat) (hn : n ≤ 9223372036854775807) (ht : text.size < 4611686018427387904) (hb : Below w.heap.size w W) (hrb : w.heap.size ≤ rb) (hr : HC W rb #[.int .i64 0, .int .i64 0, .string ⟨#[]⟩, .slice none 0 0] 37) (hs : (2 : Int) ≤ (s.size : Int)) (hL : HsAt w a L) (hl : nl < 4611686018427387904) (hnl : nl = L.length) :
    Code.wp Try.prog (dropC 10 (Try.f8.body.getD .skip)) (bodyPost Try.prog Try.f8 fun e w' => e = .returned (.bool true) ∧ Below w.heap.size w w') { tmps := #[t0, t1, t2, t3, t4, .int .i64 n, .string text, .int .i64 errno, .slice a nl cap, t9, t10, t11, t12, t13, t14, t15, t16, t17, t18, .bool true, .int .i64 3, t21, Pt rb, .string s, .int .i64 0, t25, t26, t27, t28, t29, t30, t31, t32, t33, t34, t35, t36, t37, t38, t39, t40, t41, t42, t43, t44, t45, t46, t47, t48, t49, t50, t51, t52, t53, t54, t55, t56, t57, t58, t59, t60, t61, t62, t63, t64, t65, t66, t67, t68, t69, t70, t71, t72, t73, t74, t75, t76, t77, t78, t79, t80, t81, t82, t83, t84, t85, t86, t87, t88, t89, t90, t91, t92, t93, t94, t95, t96, t97, t98, t99, t100, t101, t102, t103, t104, t105, t106, t107, t108, t109, t110, t111, t112, t113, t114, t115, t116, t117, t118, t119, t120, t121, t122, t123, t124, t125, t126, t127, t128, t129, t130, t131, t132, t133, t134, t135, t136, t137, t138, t139, t140, t141, t142, t143, t144, t145, t146, t147, t148, t149, t150, t151, t152, t153, t154, t155, t156, t157, t158, t159, t160, t161, t162, t163, t164], defers := [] } W := by
  have c0 := hr.cell (o := 0) rfl
  have c1 := hr.cell (o := 1) rfl
  have c2 := hr.cell (o := 2) rfl
  have c3 := hr.cell (o := 3) rfl
  have f0 := hr.free 0
  have f1 := hr.free 1
  have f2 := hr.free 2
  have f3 := hr.free 3
  have HR := Hid.mk hr
  have HLL := Hid.mk hL
  have HNL := Hid.mk hnl
  clear hr hL hnl
  by_cases he : 0 < errno ∧ errno < 1000
  · obtain ⟨e1, e2⟩ := he
    simp only [dropC, sndC, Try.f8, Option.getD_some]
    obtain ⟨T, hT3, hTA⟩ := must_tell 2 (by decide) ⟨errno, 0, eB⟩ [] ⟨by simp only; omega, by simp only; omega⟩ (by simp [stP, lfN, lfT, lfS, eB]) (by unfold ckR; rw [if_neg (by simp only; omega)])
    rw [show ((2 + 1 : Nat) : Int) = 3 from rfl] at hTA
    have hT := fun W => tell_any 3 ⟨errno, 0, eB⟩ [] none 0 (by first | decide | (simp only; omega)) (fun x hx => by simp at hx) (by decide) W (.inl rfl)
    rw [hTA] at hT
    simp only [rpC, List.length_nil] at hT
    obtain ⟨Tb, hTb⟩ : ∃ Tb : ByteArray, Tb = ⟨T.toArray⟩ := ⟨_, rfl⟩
    have hTs : (3 : Int) ≤ (Tb.size : Int) := by rw [hTb]; have : (⟨T.toArray⟩ : ByteArray).size = T.length := List.size_toArray; omega
    simp only [← hTb] at hT
    clear hTb hTA hT3
    go_wp2_with (first | (go_at_call 13; refine (hT _).mono ?_; clear hT; rintro e w2 ⟨rfl, b2⟩; have H2 := Hid.mk b2; clear b2))
    go_ret
    exact ⟨rfl, chain (hb.setCell (p := ⟨rb, 0, none⟩) hrb _) H2.out (Nat.le_refl _)⟩
  · have hnn : errno ≤ 0 ∨ (¬ errno ≤ 0 ∧ 1000 ≤ errno) := by omega
    clear he
    rcases hnn with e1 | ⟨e1, e2⟩
    · have e1' : ¬ 0 < errno := by omega
      rcases Nat.lt_or_ge 65536 text.size with q | q
      · have q' : (65536 : Int) < (text.size : Int) := by omega
        have hz : (text.extract 0 65536).size ≤ 65536 := by rw [ByteArray.size_extract]; omega
        obtain ⟨C, hC⟩ : ∃ C, C = text.extract 0 65536 := ⟨_, rfl⟩
        have hC' := hC.symm
        rw [hC'] at hz
        clear hC
        simp only [dropC, sndC, Try.f8, Option.getD_some]
        obtain ⟨T, hT3, hTA⟩ := must_tell 2 (by decide) ⟨0, 0, C⟩ [] ⟨by show (0 : Int) ≤ 0; omega, by show (0 : Int) ≤ 999; omega⟩ (by simp [stP, lfN, lfT, lfS, eB]) (by unfold ckR; rw [if_pos rfl]; simp only [ckP]; rw [decide_eq_false (by omega)])
        rw [show ((2 + 1 : Nat) : Int) = 3 from rfl] at hTA
        have hT := fun W => tell_any 3 ⟨0, 0, C⟩ [] none 0 (by first | decide | (simp only; omega)) (fun x hx => by simp at hx) (by decide) W (.inl rfl)
        rw [hTA] at hT
        simp only [rpC, List.length_nil] at hT
        obtain ⟨Tb, hTb⟩ : ∃ Tb : ByteArray, Tb = ⟨T.toArray⟩ := ⟨_, rfl⟩
        have hTs : (3 : Int) ≤ (Tb.size : Int) := by rw [hTb]; have : (⟨T.toArray⟩ : ByteArray).size = T.length := List.size_toArray; omega
        simp only [← hTb] at hT
        clear hTb hTA hT3
        go_wp2_with (first | (go_at_call 13; refine (hT _).mono ?_; clear hT; rintro e w2 ⟨rfl, b2⟩; have H2 := Hid.mk b2; clear b2))
        go_ret
        exact ⟨rfl, chain (hb.setCell (p := ⟨rb, 2, none⟩) hrb _) H2.out (Nat.le_refl _)⟩
      · have q' : ¬ (65536 : Int) < (text.size : Int) := by omega
        have q2 : (text.size : Int) ≤ 65536 := by omega
        obtain ⟨C, hC⟩ : ∃ C, C = text := ⟨_, rfl⟩
        have hz : C.size ≤ 65536 := by rw [hC]; exact q
        subst hC
        simp only [dropC, sndC, Try.f8, Option.getD_some]
        obtain ⟨T, hT3, hTA⟩ := must_tell 2 (by decide) ⟨0, 0, C⟩ [] ⟨by show (0 : Int) ≤ 0; omega, by show (0 : Int) ≤ 999; omega⟩ (by simp [stP, lfN, lfT, lfS, eB]) (by unfold ckR; rw [if_pos rfl]; simp only [ckP]; rw [decide_eq_false (by omega)])
        rw [show ((2 + 1 : Nat) : Int) = 3 from rfl] at hTA
        have hT := fun W => tell_any 3 ⟨0, 0, C⟩ [] none 0 (by first | decide | (simp only; omega)) (fun x hx => by simp at hx) (by decide) W (.inl rfl)
        rw [hTA] at hT
        simp only [rpC, List.length_nil] at hT
        obtain ⟨Tb, hTb⟩ : ∃ Tb : ByteArray, Tb = ⟨T.toArray⟩ := ⟨_, rfl⟩
        have hTs : (3 : Int) ≤ (Tb.size : Int) := by rw [hTb]; have : (⟨T.toArray⟩ : ByteArray).size = T.length := List.size_toArray; omega
        simp only [← hTb] at hT
        clear hTb hTA hT3
        go_wp2_with (first | (go_at_call 13; refine (hT _).mono ?_; clear hT; rintro e w2 ⟨rfl, b2⟩; have H2 := Hid.mk b2; clear b2))
        go_ret
        exact ⟨rfl, chain (hb.setCell (p := ⟨rb, 2, none⟩) hrb _) H2.out (Nat.le_refl _)⟩
    · have e1' : 0 < errno := by omega
      have e2' : ¬ errno < 1000 := by omega
      rcases Nat.lt_or_ge 65536 text.size with q | q
      · have q' : (65536 : Int) < (text.size : Int) := by omega
        have hz : (text.extract 0 65536).size ≤ 65536 := by rw [ByteArray.size_extract]; omega
        obtain ⟨C, hC⟩ : ∃ C, C = text.extract 0 65536 := ⟨_, rfl⟩
        have hC' := hC.symm
        rw [hC'] at hz
        clear hC
        simp only [dropC, sndC, Try.f8, Option.getD_some]
        obtain ⟨T, hT3, hTA⟩ := must_tell 2 (by decide) ⟨0, 0, C⟩ [] ⟨by show (0 : Int) ≤ 0; omega, by show (0 : Int) ≤ 999; omega⟩ (by simp [stP, lfN, lfT, lfS, eB]) (by unfold ckR; rw [if_pos rfl]; simp only [ckP]; rw [decide_eq_false (by omega)])
        rw [show ((2 + 1 : Nat) : Int) = 3 from rfl] at hTA
        have hT := fun W => tell_any 3 ⟨0, 0, C⟩ [] none 0 (by first | decide | (simp only; omega)) (fun x hx => by simp at hx) (by decide) W (.inl rfl)
        rw [hTA] at hT
        simp only [rpC, List.length_nil] at hT
        obtain ⟨Tb, hTb⟩ : ∃ Tb : ByteArray, Tb = ⟨T.toArray⟩ := ⟨_, rfl⟩
        have hTs : (3 : Int) ≤ (Tb.size : Int) := by rw [hTb]; have : (⟨T.toArray⟩ : ByteArray).size = T.length := List.size_toArray; omega
        simp only [← hTb] at hT
        clear hTb hTA hT3
        go_wp2_with (first | (go_at_call 13; refine (hT _).mono ?_; clear hT; rintro e w2 ⟨rfl, b2⟩; have H2 := Hid.mk b2; clear b2))
        go_ret
        exact ⟨rfl, chain (hb.setCell (p := ⟨rb, 2, none⟩) hrb _) H2.out (Nat.le_refl _)⟩
      · have q' : ¬ (65536 : Int) < (text.size : Int) := by omega
        have q2 : (text.size : Int) ≤ 65536 := by omega
        obtain ⟨C, hC⟩ : ∃ C, C = text := ⟨_, rfl⟩
        have hz : C.size ≤ 65536 := by rw [hC]; exact q
        subst hC
        simp only [dropC, sndC, Try.f8, Option.getD_some]
        obtain ⟨T, hT3, hTA⟩ := must_tell 2 (by decide) ⟨0, 0, C⟩ [] ⟨by show (0 : Int) ≤ 0; omega, by show (0 : Int) ≤ 999; omega⟩ (by simp [stP, lfN, lfT, lfS, eB]) (by unfold ckR; rw [if_pos rfl]; simp only [ckP]; rw [decide_eq_false (by omega)])
        rw [show ((2 + 1 : Nat) : Int) = 3 from rfl] at hTA
        have hT := fun W => tell_any 3 ⟨0, 0, C⟩ [] none 0 (by first | decide | (simp only; omega)) (fun x hx => by simp at hx) (by decide) W (.inl rfl)
        rw [hTA] at hT
        simp only [rpC, List.length_nil] at hT
        obtain ⟨Tb, hTb⟩ : ∃ Tb : ByteArray, Tb = ⟨T.toArray⟩ := ⟨_, rfl⟩
        have hTs : (3 : Int) ≤ (Tb.size : Int) := by rw [hTb]; have : (⟨T.toArray⟩ : ByteArray).size = T.length := List.size_toArray; omega
        simp only [← hTb] at hT
        clear hTb hTA hT3
        go_wp2_with (first | (go_at_call 13; refine (hT _).mono ?_; clear hT; rintro e w2 ⟨rfl, b2⟩; have H2 := Hid.mk b2; clear b2))
        go_ret
        exact ⟨rfl, chain (hb.setCell (p := ⟨rb, 2, none⟩) hrb _) H2.out (Nat.le_refl _)⟩
set_option maxHeartbeats 8000000 in
set_option maxRecDepth 100000 in
theorem tail_5 {t0 t1 t2 t3 t4 t9 t10 t11 t12 t13 t14 t15 t16 t17 t18 t21 t25 t26 t27 t28 t29 t30 t31 t32 t33 t34 t35 t36 t37 t38 t39 t40 t41 t42 t43 t44 t45 t46 t47 t48 t49 t50 t51 t52 t53 t54 t55 t56 t57 t58 t59 t60 t61 t62 t63 t64 t65 t66 t67 t68 t69 t70 t71 t72 t73 t74 t75 t76 t77 t78 t79 t80 t81 t82 t83 t84 t85 t86 t87 t88 t89 t90 t91 t92 t93 t94 t95 t96 t97 t98 t99 t100 t101 t102 t103 t104 t105 t106 t107 t108 t109 t110 t111 t112 t113 t114 t115 t116 t117 t118 t119 t120 t121 t122 t123 t124 t125 t126 t127 t128 t129 t130 t131 t132 t133 t134 t135 t136 t137 t138 t139 t140 t141 t142 t143 t144 t145 t146 t147 t148 t149 t150 t151 t152 t153 t154 t155 t156 t157 t158 t159 t160 t161 t162 t163 t164 : Value} (w W : World) (n errno : Int) (text s : ByteArray) (a : Option Addr) (L : List Ht) (cap rb nl : Nat) (hn : n ≤ 9223372036854775807) (ht : text.size < 4611686018427387904) (hb : Below w.heap.size w W) (hrb : w.heap.size ≤ rb) (hr : HC W rb #[.int .i64 0, .int .i64 0, .string ⟨#[]⟩, .slice none 0 0] 37) (hs : (2 : Int) ≤ (s.size : Int)) (hL : HsAt w a L) (hl : nl < 4611686018427387904) (hnl : nl = L.length) :
    Code.wp Try.prog (dropC 10 (Try.f8.body.getD .skip)) (bodyPost Try.prog Try.f8 fun e w' => e = .returned (.bool true) ∧ Below w.heap.size w w') { tmps := #[t0, t1, t2, t3, t4, .int .i64 n, .string text, .int .i64 errno, .slice a nl cap, t9, t10, t11, t12, t13, t14, t15, t16, t17, t18, .bool true, .int .i64 6, t21, Pt rb, .string s, .int .i64 0, t25, t26, t27, t28, t29, t30, t31, t32, t33, t34, t35, t36, t37, t38, t39, t40, t41, t42, t43, t44, t45, t46, t47, t48, t49, t50, t51, t52, t53, t54, t55, t56, t57, t58, t59, t60, t61, t62, t63, t64, t65, t66, t67, t68, t69, t70, t71, t72, t73, t74, t75, t76, t77, t78, t79, t80, t81, t82, t83, t84, t85, t86, t87, t88, t89, t90, t91, t92, t93, t94, t95, t96, t97, t98, t99, t100, t101, t102, t103, t104, t105, t106, t107, t108, t109, t110, t111, t112, t113, t114, t115, t116, t117, t118, t119, t120, t121, t122, t123, t124, t125, t126, t127, t128, t129, t130, t131, t132, t133, t134, t135, t136, t137, t138, t139, t140, t141, t142, t143, t144, t145, t146, t147, t148, t149, t150, t151, t152, t153, t154, t155, t156, t157, t158, t159, t160, t161, t162, t163, t164], defers := [] } W := by
  have c0 := hr.cell (o := 0) rfl
  have c1 := hr.cell (o := 1) rfl
  have c2 := hr.cell (o := 2) rfl
  have c3 := hr.cell (o := 3) rfl
  have f0 := hr.free 0
  have f1 := hr.free 1
  have f2 := hr.free 2
  have f3 := hr.free 3
  have HR := Hid.mk hr
  have HLL := Hid.mk hL
  have HNL := Hid.mk hnl
  clear hr hL hnl
  by_cases he : 0 < errno ∧ errno < 1000
  · obtain ⟨e1, e2⟩ := he
    simp only [dropC, sndC, Try.f8, Option.getD_some]
    obtain ⟨T, hT3, hTA⟩ := must_tell 5 (by decide) ⟨errno, 0, eB⟩ [] ⟨by simp only; omega, by simp only; omega⟩ (by simp [stP, lfN, lfT, lfS, eB]) (by unfold ckR; rw [if_neg (by simp only; omega)])
    rw [show ((5 + 1 : Nat) : Int) = 6 from rfl] at hTA
    have hT := fun W => tell_any 6 ⟨errno, 0, eB⟩ [] none 0 (by first | decide | (simp only; omega)) (fun x hx => by simp at hx) (by decide) W (.inl rfl)
    rw [hTA] at hT
    simp only [rpC, List.length_nil] at hT
    obtain ⟨Tb, hTb⟩ : ∃ Tb : ByteArray, Tb = ⟨T.toArray⟩ := ⟨_, rfl⟩
    have hTs : (3 : Int) ≤ (Tb.size : Int) := by rw [hTb]; have : (⟨T.toArray⟩ : ByteArray).size = T.length := List.size_toArray; omega
    simp only [← hTb] at hT
    clear hTb hTA hT3
    go_wp2_with (first | (go_at_call 13; refine (hT _).mono ?_; clear hT; rintro e w2 ⟨rfl, b2⟩; have H2 := Hid.mk b2; clear b2))
    go_ret
    exact ⟨rfl, chain (hb.setCell (p := ⟨rb, 0, none⟩) hrb _) H2.out (Nat.le_refl _)⟩
  · have hnn : errno ≤ 0 ∨ (¬ errno ≤ 0 ∧ 1000 ≤ errno) := by omega
    clear he
    rcases hnn with e1 | ⟨e1, e2⟩
    · have e1' : ¬ 0 < errno := by omega
      rcases Int.lt_or_le n 0 with q | q
      · simp only [dropC, sndC, Try.f8, Option.getD_some]
        obtain ⟨T, hT3, hTA⟩ := must_tell 5 (by decide) ⟨0, 0, eB⟩ [] ⟨by decide, by decide⟩ (by decide +kernel) (by decide +kernel)
        rw [show ((5 + 1 : Nat) : Int) = 6 from rfl] at hTA
        have hT := fun W => tell_any 6 ⟨0, 0, eB⟩ [] none 0 (by first | decide | (simp only; omega)) (fun x hx => by simp at hx) (by decide) W (.inl rfl)
        rw [hTA] at hT
        simp only [rpC, List.length_nil] at hT
        obtain ⟨Tb, hTb⟩ : ∃ Tb : ByteArray, Tb = ⟨T.toArray⟩ := ⟨_, rfl⟩
        have hTs : (3 : Int) ≤ (Tb.size : Int) := by rw [hTb]; have : (⟨T.toArray⟩ : ByteArray).size = T.length := List.size_toArray; omega
        simp only [← hTb] at hT
        clear hTb hTA hT3
        go_wp2_with (first | (go_at_call 13; refine (hT _).mono ?_; clear hT; rintro e w2 ⟨rfl, b2⟩; have H2 := Hid.mk b2; clear b2))
        go_ret
        exact ⟨rfl, chain (hb.setCell (p := ⟨rb, 1, none⟩) hrb _) H2.out (Nat.le_refl _)⟩
      · have q' : ¬ n < 0 := by omega
        simp only [dropC, sndC, Try.f8, Option.getD_some]
        obtain ⟨T, hT3, hTA⟩ := must_tell 5 (by decide) ⟨0, n, eB⟩ [] ⟨by simp only; omega, by simp only; omega⟩ (by simp [stP, lfN, lfT, lfS, eB]) (by unfold ckR; rw [if_pos rfl]; simp only [ckP]; rw [decide_eq_false (by omega)])
        rw [show ((5 + 1 : Nat) : Int) = 6 from rfl] at hTA
        have hT := fun W => tell_any 6 ⟨0, n, eB⟩ [] none 0 (by first | decide | (simp only; omega)) (fun x hx => by simp at hx) (by decide) W (.inl rfl)
        rw [hTA] at hT
        simp only [rpC, List.length_nil] at hT
        obtain ⟨Tb, hTb⟩ : ∃ Tb : ByteArray, Tb = ⟨T.toArray⟩ := ⟨_, rfl⟩
        have hTs : (3 : Int) ≤ (Tb.size : Int) := by rw [hTb]; have : (⟨T.toArray⟩ : ByteArray).size = T.length := List.size_toArray; omega
        simp only [← hTb] at hT
        clear hTb hTA hT3
        go_wp2_with (first | (go_at_call 13; refine (hT _).mono ?_; clear hT; rintro e w2 ⟨rfl, b2⟩; have H2 := Hid.mk b2; clear b2))
        go_ret
        exact ⟨rfl, chain (hb.setCell (p := ⟨rb, 1, none⟩) hrb _) H2.out (Nat.le_refl _)⟩
    · have e1' : 0 < errno := by omega
      have e2' : ¬ errno < 1000 := by omega
      rcases Int.lt_or_le n 0 with q | q
      · simp only [dropC, sndC, Try.f8, Option.getD_some]
        obtain ⟨T, hT3, hTA⟩ := must_tell 5 (by decide) ⟨0, 0, eB⟩ [] ⟨by decide, by decide⟩ (by decide +kernel) (by decide +kernel)
        rw [show ((5 + 1 : Nat) : Int) = 6 from rfl] at hTA
        have hT := fun W => tell_any 6 ⟨0, 0, eB⟩ [] none 0 (by first | decide | (simp only; omega)) (fun x hx => by simp at hx) (by decide) W (.inl rfl)
        rw [hTA] at hT
        simp only [rpC, List.length_nil] at hT
        obtain ⟨Tb, hTb⟩ : ∃ Tb : ByteArray, Tb = ⟨T.toArray⟩ := ⟨_, rfl⟩
        have hTs : (3 : Int) ≤ (Tb.size : Int) := by rw [hTb]; have : (⟨T.toArray⟩ : ByteArray).size = T.length := List.size_toArray; omega
        simp only [← hTb] at hT
        clear hTb hTA hT3
        go_wp2_with (first | (go_at_call 13; refine (hT _).mono ?_; clear hT; rintro e w2 ⟨rfl, b2⟩; have H2 := Hid.mk b2; clear b2))
        go_ret
        exact ⟨rfl, chain (hb.setCell (p := ⟨rb, 1, none⟩) hrb _) H2.out (Nat.le_refl _)⟩
      · have q' : ¬ n < 0 := by omega
        simp only [dropC, sndC, Try.f8, Option.getD_some]
        obtain ⟨T, hT3, hTA⟩ := must_tell 5 (by decide) ⟨0, n, eB⟩ [] ⟨by simp only; omega, by simp only; omega⟩ (by simp [stP, lfN, lfT, lfS, eB]) (by unfold ckR; rw [if_pos rfl]; simp only [ckP]; rw [decide_eq_false (by omega)])
        rw [show ((5 + 1 : Nat) : Int) = 6 from rfl] at hTA
        have hT := fun W => tell_any 6 ⟨0, n, eB⟩ [] none 0 (by first | decide | (simp only; omega)) (fun x hx => by simp at hx) (by decide) W (.inl rfl)
        rw [hTA] at hT
        simp only [rpC, List.length_nil] at hT
        obtain ⟨Tb, hTb⟩ : ∃ Tb : ByteArray, Tb = ⟨T.toArray⟩ := ⟨_, rfl⟩
        have hTs : (3 : Int) ≤ (Tb.size : Int) := by rw [hTb]; have : (⟨T.toArray⟩ : ByteArray).size = T.length := List.size_toArray; omega
        simp only [← hTb] at hT
        clear hTb hTA hT3
        go_wp2_with (first | (go_at_call 13; refine (hT _).mono ?_; clear hT; rintro e w2 ⟨rfl, b2⟩; have H2 := Hid.mk b2; clear b2))
        go_ret
        exact ⟨rfl, chain (hb.setCell (p := ⟨rb, 1, none⟩) hrb _) H2.out (Nat.le_refl _)⟩
set_option maxHeartbeats 8000000 in
set_option maxRecDepth 100000 in
theorem tail_7 {t0 t1 t2 t3 t4 t9 t10 t11 t12 t13 t14 t15 t16 t17 t18 t21 t25 t26 t27 t28 t29 t30 t31 t32 t33 t34 t35 t36 t37 t38 t39 t40 t41 t42 t43 t44 t45 t46 t47 t48 t49 t50 t51 t52 t53 t54 t55 t56 t57 t58 t59 t60 t61 t62 t63 t64 t65 t66 t67 t68 t69 t70 t71 t72 t73 t74 t75 t76 t77 t78 t79 t80 t81 t82 t83 t84 t85 t86 t87 t88 t89 t90 t91 t92 t93 t94 t95 t96 t97 t98 t99 t100 t101 t102 t103 t104 t105 t106 t107 t108 t109 t110 t111 t112 t113 t114 t115 t116 t117 t118 t119 t120 t121 t122 t123 t124 t125 t126 t127 t128 t129 t130 t131 t132 t133 t134 t135 t136 t137 t138 t139 t140 t141 t142 t143 t144 t145 t146 t147 t148 t149 t150 t151 t152 t153 t154 t155 t156 t157 t158 t159 t160 t161 t162 t163 t164 : Value} (w W : World) (n errno : Int) (text s : ByteArray) (a : Option Addr) (L : List Ht) (cap rb nl : Nat) (hn : n ≤ 9223372036854775807) (ht : text.size < 4611686018427387904) (hb : Below w.heap.size w W) (hrb : w.heap.size ≤ rb) (hr : HC W rb #[.int .i64 0, .int .i64 0, .string ⟨#[]⟩, .slice none 0 0] 37) (hs : (2 : Int) ≤ (s.size : Int)) (hL : HsAt w a L) (hl : nl < 4611686018427387904) (hnl : nl = L.length) :
    Code.wp Try.prog (dropC 10 (Try.f8.body.getD .skip)) (bodyPost Try.prog Try.f8 fun e w' => e = .returned (.bool true) ∧ Below w.heap.size w w') { tmps := #[t0, t1, t2, t3, t4, .int .i64 n, .string text, .int .i64 errno, .slice a nl cap, t9, t10, t11, t12, t13, t14, t15, t16, t17, t18, .bool true, .int .i64 8, t21, Pt rb, .string s, .int .i64 0, t25, t26, t27, t28, t29, t30, t31, t32, t33, t34, t35, t36, t37, t38, t39, t40, t41, t42, t43, t44, t45, t46, t47, t48, t49, t50, t51, t52, t53, t54, t55, t56, t57, t58, t59, t60, t61, t62, t63, t64, t65, t66, t67, t68, t69, t70, t71, t72, t73, t74, t75, t76, t77, t78, t79, t80, t81, t82, t83, t84, t85, t86, t87, t88, t89, t90, t91, t92, t93, t94, t95, t96, t97, t98, t99, t100, t101, t102, t103, t104, t105, t106, t107, t108, t109, t110, t111, t112, t113, t114, t115, t116, t117, t118, t119, t120, t121, t122, t123, t124, t125, t126, t127, t128, t129, t130, t131, t132, t133, t134, t135, t136, t137, t138, t139, t140, t141, t142, t143, t144, t145, t146, t147, t148, t149, t150, t151, t152, t153, t154, t155, t156, t157, t158, t159, t160, t161, t162, t163, t164], defers := [] } W := by
  have c0 := hr.cell (o := 0) rfl
  have c1 := hr.cell (o := 1) rfl
  have c2 := hr.cell (o := 2) rfl
  have c3 := hr.cell (o := 3) rfl
  have f0 := hr.free 0
  have f1 := hr.free 1
  have f2 := hr.free 2
  have f3 := hr.free 3
  have HR := Hid.mk hr
  have HLL := Hid.mk hL
  have HNL := Hid.mk hnl
  clear hr hL hnl
  by_cases he : 0 < errno ∧ errno < 1000
  · obtain ⟨e1, e2⟩ := he
    simp only [dropC, sndC, Try.f8, Option.getD_some]
    obtain ⟨T, hT3, hTA⟩ := must_tell 7 (by decide) ⟨errno, 0, eB⟩ [] ⟨by simp only; omega, by simp only; omega⟩ (by simp [stP, lfN, lfT, lfS, eB]) (by unfold ckR; rw [if_neg (by simp only; omega)])
    rw [show ((7 + 1 : Nat) : Int) = 8 from rfl] at hTA
    have hT := fun W => tell_any 8 ⟨errno, 0, eB⟩ [] none 0 (by first | decide | (simp only; omega)) (fun x hx => by simp at hx) (by decide) W (.inl rfl)
    rw [hTA] at hT
    simp only [rpC, List.length_nil] at hT
    obtain ⟨Tb, hTb⟩ : ∃ Tb : ByteArray, Tb = ⟨T.toArray⟩ := ⟨_, rfl⟩
    have hTs : (3 : Int) ≤ (Tb.size : Int) := by rw [hTb]; have : (⟨T.toArray⟩ : ByteArray).size = T.length := List.size_toArray; omega
    simp only [← hTb] at hT
    clear hTb hTA hT3
    go_wp2_with (first | (go_at_call 13; refine (hT _).mono ?_; clear hT; rintro e w2 ⟨rfl, b2⟩; have H2 := Hid.mk b2; clear b2))
    go_ret
    exact ⟨rfl, chain (hb.setCell (p := ⟨rb, 0, none⟩) hrb _) H2.out (Nat.le_refl _)⟩
  · have hnn : errno ≤ 0 ∨ (¬ errno ≤ 0 ∧ 1000 ≤ errno) := by omega
    clear he
    rcases hnn with e1 | ⟨e1, e2⟩
    · have e1' : ¬ 0 < errno := by omega
      rcases Int.lt_or_le n 0 with q | q
      · simp only [dropC, sndC, Try.f8, Option.getD_some]
        obtain ⟨T, hT3, hTA⟩ := must_tell 7 (by decide) ⟨0, 0, eB⟩ [] ⟨by decide, by decide⟩ (by decide +kernel) (by decide +kernel)
        rw [show ((7 + 1 : Nat) : Int) = 8 from rfl] at hTA
        have hT := fun W => tell_any 8 ⟨0, 0, eB⟩ [] none 0 (by first | decide | (simp only; omega)) (fun x hx => by simp at hx) (by decide) W (.inl rfl)
        rw [hTA] at hT
        simp only [rpC, List.length_nil] at hT
        obtain ⟨Tb, hTb⟩ : ∃ Tb : ByteArray, Tb = ⟨T.toArray⟩ := ⟨_, rfl⟩
        have hTs : (3 : Int) ≤ (Tb.size : Int) := by rw [hTb]; have : (⟨T.toArray⟩ : ByteArray).size = T.length := List.size_toArray; omega
        simp only [← hTb] at hT
        clear hTb hTA hT3
        go_wp2_with (first | (go_at_call 13; refine (hT _).mono ?_; clear hT; rintro e w2 ⟨rfl, b2⟩; have H2 := Hid.mk b2; clear b2))
        go_ret
        exact ⟨rfl, chain (hb.setCell (p := ⟨rb, 1, none⟩) hrb _) H2.out (Nat.le_refl _)⟩
      · have q' : ¬ n < 0 := by omega
        simp only [dropC, sndC, Try.f8, Option.getD_some]
        obtain ⟨T, hT3, hTA⟩ := must_tell 7 (by decide) ⟨0, n, eB⟩ [] ⟨by simp only; omega, by simp only; omega⟩ (by simp [stP, lfN, lfT, lfS, eB]) (by unfold ckR; rw [if_pos rfl]; simp only [ckP]; rw [decide_eq_false (by omega)])
        rw [show ((7 + 1 : Nat) : Int) = 8 from rfl] at hTA
        have hT := fun W => tell_any 8 ⟨0, n, eB⟩ [] none 0 (by first | decide | (simp only; omega)) (fun x hx => by simp at hx) (by decide) W (.inl rfl)
        rw [hTA] at hT
        simp only [rpC, List.length_nil] at hT
        obtain ⟨Tb, hTb⟩ : ∃ Tb : ByteArray, Tb = ⟨T.toArray⟩ := ⟨_, rfl⟩
        have hTs : (3 : Int) ≤ (Tb.size : Int) := by rw [hTb]; have : (⟨T.toArray⟩ : ByteArray).size = T.length := List.size_toArray; omega
        simp only [← hTb] at hT
        clear hTb hTA hT3
        go_wp2_with (first | (go_at_call 13; refine (hT _).mono ?_; clear hT; rintro e w2 ⟨rfl, b2⟩; have H2 := Hid.mk b2; clear b2))
        go_ret
        exact ⟨rfl, chain (hb.setCell (p := ⟨rb, 1, none⟩) hrb _) H2.out (Nat.le_refl _)⟩
    · have e1' : 0 < errno := by omega
      have e2' : ¬ errno < 1000 := by omega
      rcases Int.lt_or_le n 0 with q | q
      · simp only [dropC, sndC, Try.f8, Option.getD_some]
        obtain ⟨T, hT3, hTA⟩ := must_tell 7 (by decide) ⟨0, 0, eB⟩ [] ⟨by decide, by decide⟩ (by decide +kernel) (by decide +kernel)
        rw [show ((7 + 1 : Nat) : Int) = 8 from rfl] at hTA
        have hT := fun W => tell_any 8 ⟨0, 0, eB⟩ [] none 0 (by first | decide | (simp only; omega)) (fun x hx => by simp at hx) (by decide) W (.inl rfl)
        rw [hTA] at hT
        simp only [rpC, List.length_nil] at hT
        obtain ⟨Tb, hTb⟩ : ∃ Tb : ByteArray, Tb = ⟨T.toArray⟩ := ⟨_, rfl⟩
        have hTs : (3 : Int) ≤ (Tb.size : Int) := by rw [hTb]; have : (⟨T.toArray⟩ : ByteArray).size = T.length := List.size_toArray; omega
        simp only [← hTb] at hT
        clear hTb hTA hT3
        go_wp2_with (first | (go_at_call 13; refine (hT _).mono ?_; clear hT; rintro e w2 ⟨rfl, b2⟩; have H2 := Hid.mk b2; clear b2))
        go_ret
        exact ⟨rfl, chain (hb.setCell (p := ⟨rb, 1, none⟩) hrb _) H2.out (Nat.le_refl _)⟩
      · have q' : ¬ n < 0 := by omega
        simp only [dropC, sndC, Try.f8, Option.getD_some]
        obtain ⟨T, hT3, hTA⟩ := must_tell 7 (by decide) ⟨0, n, eB⟩ [] ⟨by simp only; omega, by simp only; omega⟩ (by simp [stP, lfN, lfT, lfS, eB]) (by unfold ckR; rw [if_pos rfl]; simp only [ckP]; rw [decide_eq_false (by omega)])
        rw [show ((7 + 1 : Nat) : Int) = 8 from rfl] at hTA
        have hT := fun W => tell_any 8 ⟨0, n, eB⟩ [] none 0 (by first | decide | (simp only; omega)) (fun x hx => by simp at hx) (by decide) W (.inl rfl)
        rw [hTA] at hT
        simp only [rpC, List.length_nil] at hT
        obtain ⟨Tb, hTb⟩ : ∃ Tb : ByteArray, Tb = ⟨T.toArray⟩ := ⟨_, rfl⟩
        have hTs : (3 : Int) ≤ (Tb.size : Int) := by rw [hTb]; have : (⟨T.toArray⟩ : ByteArray).size = T.length := List.size_toArray; omega
        simp only [← hTb] at hT
        clear hTb hTA hT3
        go_wp2_with (first | (go_at_call 13; refine (hT _).mono ?_; clear hT; rintro e w2 ⟨rfl, b2⟩; have H2 := Hid.mk b2; clear b2))
        go_ret
        exact ⟨rfl, chain (hb.setCell (p := ⟨rb, 1, none⟩) hrb _) H2.out (Nat.le_refl _)⟩
end Go.Proofs.Ytnkepggldlobjaa
