/-
  DERIVED. PlainLooks: what stands behind its second loop.
-/
import Derived.Test.YtekgppmhcbmpeaaDoorGLawL
set_option linter.unusedVariables false
set_option linter.unusedSimpArgs false
namespace Go.Proofs.YtekgppmhcbmpeaaDoor
open Go.RowKit Go.Proofs.BitMath
def sndC : Code → Code
  | .seq _ b => b
  | c => c
def dropC : Nat → Code → Code
  | 0, c => c
  | n + 1, c => dropC n (sndC c)
def RL3 (W : World) (mm : Nat) (iv : Value) (wr : World) : Prop := ∃ (i : Nat), iv = .int .i64 i ∧ i ≤ mm ∧ Drew W wr
set_option maxHeartbeats 8000000 in
set_option maxRecDepth 100000 in
theorem looks_B {t0 t1 t2 t4 t5 t6 t7 t8 t9 t10 t11 t12 t13 t14 t16 t18 t20 t22 t23 t24 t25 t26 t27 t29 t30 t31 t32 t33 t34 t35 t36 t37 t38 t39 t40 t41 t42 t43 t44 t45 t46 t47 t48 t49 t50 t51 t52 t53 t54 t55 t56 t57 t58 t59 t60 t61 t62 t63 t64 t65 t66 t67 t68 t69 t70 t71 t72 t73 t74 t75 t76 t77 t78 t79 t80 t81 t82 t83 t84 t85 t86 t87 t88 t89 t90 t91 t92 t93 t94 t95 t96 t97 t98 t99 t100 t101 t102 t103 t104 t105 t106 t107 t108 t109 t110 t111 t112 t113 t114 t115 t116 t117 t118 t119 t120 t121 t122 t123 t124 t125 t126 t127 t128 t129 t130 t131 t132 t133 t134 t135 t136 t137 t138 t139 t140 t141 t142 t143 t144 t145 t146 t147 t148 t149 t150 t151 t152 t153 t154 t155 t156 t157 t158 t159 t160 t161 t162 t163 t164 t165 t166 t167 t168 t169 t170 t171 t172 t173 t174 t175 t176 t177 t178 t179 t180 t181 t182 t183 t184 t185 t186 t187 t188 t189 t190 t191 t192 t193 t194 t195 t196 t197 t198 t199 t200 t201 t202 t203 t204 t205 t206 t207 t208 t209 t210 t211 t212 t213 t214 t215 t216 t217 t218 t219 t220 t221 t222 t223 t224 t225 t226 t227 t228 t229 t230 t231 t232 t233 t234 t235 t236 t237 t238 t239 t240 t241 t242 t243 t244 t245 t246 t247 t248 t249 t250 t251 t252 t253 t254 t255 t256 t257 : Value} {w w9 wc wr : World} {wd : Int} {n mm m mb cb kn n2 nl nt nb c6 c7 c8 : Nat} {L : List Pr} {q : ByteArray} {X T Bl : List Ht} {R : Int} {a6 a7 a8 : Option Addr} (HT : Asked w w9 wd n mm m mb cb L q X T Bl kn R a6 a7 a8) (HE : IRow wc cb mm (cnts mm []) ∧ Stay (fun j => j = cb) w9 wc) (hdr : Drew wc wr) (hB : Bl = X.take n2)
    (hn2 : n2 ≤ nl) (hX : X.length = nl) (hT : nt = T.length) (hBl : nb = Bl.length) (hc6 : nl ≤ c6) (h80 : nl ≤ 80) :
    Code.wp Tryd.prog (dropC 16 (Tryd.f4.body.getD .skip)) (bodyPost Tryd.prog Tryd.f4 fun e w' => e = .returned (.bool true) ∧ Below w.heap.size w w') { tmps := #[t0, t1, t2, .int .i64 (kn : Int), t4, t5, t6, t7, t8, t9, t10, t11, t12, t13, t14, .slice a6 nl c6, t16, .slice a7 nt c7, t18, .slice a8 nb c8, t20, .slice (some ⟨cb, 0, none⟩) mm mm, t22, t23, t24, t25, t26, t27, .int .i64 (n2 : Int), t29, t30, t31, t32, t33, t34, t35, t36, t37, t38, t39, t40, t41, t42, t43, t44, t45, t46, t47, t48, t49, t50, t51, t52, t53, t54, t55, t56, t57, t58, t59, t60, t61, t62, t63, t64, t65, t66, t67, t68, t69, t70, t71, t72, t73, t74, t75, t76, t77, t78, t79, t80, t81, t82, t83, t84, t85, t86, t87, t88, t89, t90, t91, t92, t93, t94, t95, t96, t97, t98, t99, t100, t101, t102, t103, t104, t105, t106, t107, t108, t109, t110, t111, t112, t113, t114, t115, t116, t117, t118, t119, t120, t121, t122, t123, t124, t125, t126, t127, t128, t129, t130, t131, t132, t133, t134, t135, t136, t137, t138, t139, t140, t141, t142, t143, t144, t145, t146, t147, t148, t149, t150, t151, t152, t153, t154, t155, t156, t157, t158, t159, t160, t161, t162, t163, t164, t165, t166, t167, t168, t169, t170, t171, t172, t173, t174, t175, t176, t177, t178, t179, t180, t181, t182, t183, t184, t185, t186, t187, t188, t189, t190, t191, t192, t193, t194, t195, t196, t197, t198, t199, t200, t201, t202, t203, t204, t205, t206, t207, t208, t209, t210, t211, t212, t213, t214, t215, t216, t217, t218, t219, t220, t221, t222, t223, t224, t225, t226, t227, t228, t229, t230, t231, t232, t233, t234, t235, t236, t237, t238, t239, t240, t241, t242, t243, t244, t245, t246, t247, t248, t249, t250, t251, t252, t253, t254, t255, t256, t257], defers := [] } wr := by
  have lT : LAt wr a7 (X.take kn) := by
    have := lat_stay HT.lt HE.2 (fun g off h => HT.old g off (.inr (.inl h)))
    rw [HT.hT] at this
    exact this.below (hdr.below _)
  have lB : LAt wr a8 (X.take n2) := by
    have := lat_stay HT.lb HE.2 (fun g off h => HT.old g off (.inr (.inr h)))
    rw [hB] at this
    exact this.below (hdr.below _)
  have lX : LAt wr a6 X := (lat_stay HT.la HE.2 (fun g off h => HT.old g off (.inl h))).below (hdr.below _)
  have tl : nt = min kn nl := by rw [hT, HT.hT, List.length_take, hX]
  have bl : nb = n2 := by rw [hBl, hB, List.length_take]; omega
  have s1 : ∀ K, K ≤ nl → K = nt → Calls Tryd.prog 16 #[.slice a7 nt c7, .slice a6 K c6] wr fun e w' => e = .returned (.bool true) ∧ Drew wr w' := fun K hK e => by
    have h := sameHits_any (X.take K) a7 a6 c7 c6 wr (by
      by_cases h : kn ≤ nl
      · have e2 : K = kn := by omega
        rw [e2]; exact lT
      · have e2 : X.take kn = X.take K := by rw [List.take_of_length_le (by omega), List.take_of_length_le (by omega)]
        rw [← e2]; exact lT) (lX.take K) (by rw [List.length_take]; omega)
    rw [List.length_take, hX, Nat.min_eq_left hK] at h
    rw [← e]; exact h
  have s2 : ∀ W, Drew wr W → Calls Tryd.prog 16 #[.slice a8 nb c8, .slice a6 n2 c6] W fun e w' => e = .returned (.bool true) ∧ Drew W w' := fun W hd => by
    have h := sameHits_any (X.take n2) a8 a6 c8 c6 W (lB.below (hd.below _)) ((lX.take n2).below (hd.below _)) (by rw [List.length_take]; omega)
    rw [List.length_take, hX, Nat.min_eq_left hn2] at h
    rw [bl]; exact h
  have HS1 := Hid.mk s1
  have HS2 := Hid.mk s2
  have hrow : ∀ W, Drew wr W → ∀ i, i < mm → W.cell? ⟨cb, i, none⟩ = some (.int .i64 0) := fun W hd i hi => by
    have h0 : wc.cell? ⟨cb, i, none⟩ = some (.int .i64 0) := by
      rw [HE.1.cellAt i (by omega), List.getElem?_map, cnts_get hi]; rfl
    obtain ⟨k1, rfl⟩ := hdr
    obtain ⟨k2, rfl⟩ := hd
    exact h0
  have HR := Hid.mk hrow
  have hst : ∀ W, Drew wr W → Below w.heap.size w W := fun W hd => by
    have h1 : Below w.heap.size w wc := HT.st.trans (HE.2.toBelow (fun k hk e => by have := HT.cw; omega) HT.st.size)
    exact (h1.trans (hdr.below _)).trans (hd.below _)
  have HST := Hid.mk hst
  have hmm : mm ≤ 1100 := by have := HT.m1; have := isW_bd HT.k.wd'; omega
  have n3 : (n2 : Int) ≤ (c6 : Int) := by omega
  have n4 : n2 ≤ c6 := by omega
  clear lT lB lX s1 s2 hrow hst HT HE hdr hB hX hT hBl bl
  simp only [dropC, sndC, Tryd.f4, Option.getD_some]
  by_cases hlt : kn < nl
  · have l1 : (kn : Int) < (nl : Int) := by omega
    have l2 : kn ≤ c6 := by omega
    have l3 : (kn : Int) ≤ (c6 : Int) := by omega
    have q1 := HS1.out kn (by omega) (by omega)
    clear hlt tl
    go_wp2_with fail
    refine q1.mono ?_
    clear q1
    rintro e wa ⟨rfl, da⟩
    have q2 := HS2.out wa da
    go_wp2_with fail
    refine q2.mono ?_
    clear q2
    rintro e wb ⟨rfl, db'⟩
    have db : Drew wr wb := da.trans db'
    clear da db'
    go_wp2_with fail
    go_loopw [32] (fun iv wx => RL3 wb mm iv wx) (fun u _ => mm - (intOf u).toNat)
    case atStart => exact ⟨0, rfl, Nat.zero_le _, Drew.refl _⟩
    case round =>
      obtain ⟨i, rfl, hi, hdx⟩ := hrel
      by_cases hil : i < mm
      · have i1 : (i : Int) < (mm : Int) := by omega
        have i2 : (0 : Int) ≤ (i : Int) := by omega
        have x0 := HR.out _ (db.trans hdx) i hil
        have hwi : IntKind.i64.wrap ((i : Int) + 1) = ((i + 1 : Nat) : Int) := by rw [IntKind.wrap_i64]; omega
        go_wp2_with fail
        exact ⟨⟨i + 1, by go_num, hil, hdx⟩, by simp only [intOf]; omega⟩
      · have i1 : ¬ (i : Int) < (mm : Int) := by omega
        go_wp2_with fail
        go_ret
        exact ⟨rfl, HST.out _ (db.trans hdx)⟩
  · have l1 : ¬ (kn : Int) < (nl : Int) := by omega
    have q1 := HS1.out nl (Nat.le_refl _) (by omega)
    clear hlt tl
    go_wp2_with fail
    refine q1.mono ?_
    clear q1
    rintro e wa ⟨rfl, da⟩
    have q2 := HS2.out wa da
    go_wp2_with fail
    refine q2.mono ?_
    clear q2
    rintro e wb ⟨rfl, db'⟩
    have db : Drew wr wb := da.trans db'
    clear da db'
    go_wp2_with fail
    go_loopw [32] (fun iv wx => RL3 wb mm iv wx) (fun u _ => mm - (intOf u).toNat)
    case atStart => exact ⟨0, rfl, Nat.zero_le _, Drew.refl _⟩
    case round =>
      obtain ⟨i, rfl, hi, hdx⟩ := hrel
      by_cases hil : i < mm
      · have i1 : (i : Int) < (mm : Int) := by omega
        have i2 : (0 : Int) ≤ (i : Int) := by omega
        have x0 := HR.out _ (db.trans hdx) i hil
        have hwi : IntKind.i64.wrap ((i : Int) + 1) = ((i + 1 : Nat) : Int) := by rw [IntKind.wrap_i64]; omega
        go_wp2_with fail
        exact ⟨⟨i + 1, by go_num, hil, hdx⟩, by simp only [intOf]; omega⟩
      · have i1 : ¬ (i : Int) < (mm : Int) := by omega
        go_wp2_with fail
        go_ret
        exact ⟨rfl, HST.out _ (db.trans hdx)⟩
end Go.Proofs.YtekgppmhcbmpeaaDoor
