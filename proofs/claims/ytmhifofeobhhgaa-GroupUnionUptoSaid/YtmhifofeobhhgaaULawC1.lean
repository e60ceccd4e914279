/-
  DERIVED. The law from the second loop on.
-/
import Derived.Test.YtmhifofeobhhgaaULawC2
set_option linter.unusedVariables false
set_option linter.unusedSimpArgs false
namespace Go.Proofs.Ytmhifofeobhhgaa
open Go.RowKit Go.Proofs.UnionMath
theorem PUI.wide {lo hi lo' hi' : Nat} {W : World} {S : List Int} {R : Nat → Nat} {p : Nat} (h : PUI lo hi W S R p) (h1 : lo' ≤ lo) (h2 : hi ≤ hi') : PUI lo' hi' W S R p := by
  obtain ⟨mb, ag, iv, hu, q1, q2, q3⟩ := h.ex
  exact ⟨⟨mb, ag, iv, hu, ⟨by omega, by omega⟩, ⟨by omega, by omega⟩, fun k hk => by have := q3 k hk; omega⟩, by have := h.p0; omega⟩
theorem RUI.wide {lo hi lo' hi' : Nat} {W : World} {S : List Int} {R : Nat → Nat} {p : Nat} (h : RUI lo hi W S R p) (h1 : lo' ≤ lo) (h2 : hi ≤ hi') : RUI lo' hi' W S R p := by
  obtain ⟨iv, lv, hu, q2, q3⟩ := h.ex
  exact ⟨⟨iv, lv, hu, fun k hk => by have := q2 k hk; omega, fun k hk => by have := q3 k hk; omega⟩, by have := h.p0; omega⟩
/-- What either New comes to, in one shape. -/
def OneO (Q : World → List Int → Nat → Prop) (w : World) (l : List Int) (e : Ending) (w' : World) : Prop :=
  ∃ (pa : Option Addr), e = .returned (.tuple #[.pointer pa, .int .i64 (nwE [] l).1]) ∧ Below w.heap.size w w' ∧ ((∃ T p, nwE [] l = (0, T) ∧ pa = some ⟨p, 0, none⟩ ∧ Q w' T p) ∨ ((nwE [] l).1 ≠ 0 ∧ pa = none))
theorem RnO.one {w : World} {l : List Int} {e : Ending} {w' : World} (h : RnO w l e w') : OneO (fun W T p => RUI w.heap.size W.heap.size W T (fun k => k) p) w l e w' := by
  obtain ⟨b, h⟩ := h
  rcases h with ⟨T, p, iv, lv, e1, rfl, hu, h1, h2, h3⟩ | ⟨c, e1, hc, rfl⟩
  · refine ⟨some ⟨p, 0, none⟩, by rw [e1], b, .inl ⟨T, p, e1, rfl, ⟨⟨iv, lv, hu, fun k hk => ⟨h2 k hk, row_lt hu.row hk⟩, fun k hk => ⟨h3 k hk, row_lt hu.lst hk⟩⟩, h1, ?_⟩⟩⟩
    exact (Array.getElem?_eq_some_iff.1 hu.box).1
  · exact ⟨none, by rw [e1], b, .inr ⟨by rw [e1]; exact hc, rfl⟩⟩
theorem PnO.one {w : World} {l : List Int} {e : Ending} {w' : World} (h : PnO w l e w') : OneO (fun W T p => PUI w.heap.size W.heap.size W T (fun k => k) p) w l e w' := by
  obtain ⟨b, h⟩ := h
  rcases h with ⟨T, p, mb, ag, iv, e1, rfl, hu, h1, h2, h3, h4⟩ | ⟨c, e1, hc, rfl⟩
  · obtain ⟨cnt, hm⟩ := hu.map
    obtain ⟨cur, hc⟩ := hu.agb
    refine ⟨some ⟨p, 0, none⟩, by rw [e1], b, .inl ⟨T, p, e1, rfl, ⟨⟨mb, ag, iv, hu, ⟨h2, hm.lt⟩, ⟨h3, (Array.getElem?_eq_some_iff.1 hc).1⟩, fun k hk => ⟨h4 k hk, row_lt hu.row hk⟩⟩, h1, ?_⟩⟩⟩
    exact (Array.getElem?_eq_some_iff.1 hu.box).1
  · exact ⟨none, by rw [e1], b, .inr ⟨by rw [e1]; exact hc, rfl⟩⟩
/-- Both of the same ids. -/
theorem VV.of {w1 w2 w3 : World} {l : List Int} {lo : Nat} {ya va : Option Addr} (hy : (∃ T p, nwE [] l = (0, T) ∧ ya = some ⟨p, 0, none⟩ ∧ RUI w1.heap.size w2.heap.size w2 T (fun k => k) p) ∨ ((nwE [] l).1 ≠ 0 ∧ ya = none)) (hv : (∃ T p, nwE [] l = (0, T) ∧ va = some ⟨p, 0, none⟩ ∧ PUI w2.heap.size w3.heap.size w3 T (fun k => k) p) ∨ ((nwE [] l).1 ≠ 0 ∧ va = none)) (b : Below w2.heap.size w2 w3) (h1 : lo ≤ w1.heap.size) (h2 : w1.heap.size ≤ w2.heap.size) : VV lo w3 (.pointer va) (.pointer ya) := by
  rcases hy with ⟨T, p, e1, rfl, hr⟩ | ⟨e1, rfl⟩
  · rcases hv with ⟨T', p', e2, rfl, hp⟩ | ⟨e2, rfl⟩
    · rw [e1] at e2
      injection e2 with _ e2
      subst e2
      exact .inr ⟨T, p', p, w3.heap.size, rfl, rfl, hp.wide (by omega) (Nat.le_refl _), (hr.below b).wide h1 b.size⟩
    · rw [e1] at e2; exact absurd rfl e2
  · rcases hv with ⟨T', p', e2, rfl, hp⟩ | ⟨e2, rfl⟩
    · rw [e2] at e1; exact absurd rfl e1
    · exact .inl ⟨rfl, rfl⟩
set_option maxHeartbeats 8000000 in
set_option maxRecDepth 100000 in
theorem law_c1 {t2 t3 t4 t7 t9 t10 t11 t12 t13 t14 t15 t16 t17 t18 t19 t20 t21 t22 t23 t24 t25 t26 t27 t28 t29 t30 t31 t32 t33 t34 t35 t36 t37 t38 t39 t40 t41 t42 t43 t44 t45 t46 t47 t48 t49 t50 t51 t52 t53 t54 t55 t56 t57 t58 t59 t60 t61 t62 t63 t64 t65 t66 t67 t68 t69 t70 t71 t72 t73 t74 t75 t76 t77 t78 t79 t80 t81 t82 t83 t84 t85 t86 t87 t88 t89 t90 t91 t92 t93 t94 t95 t96 t97 t98 t99 t100 t101 t102 t103 t104 t105 t106 t107 t108 t109 t110 t111 t112 t113 t114 t115 t116 t117 t118 t119 t120 t121 t122 t123 t124 t125 t126 t127 t128 t129 t130 t131 t132 t133 t134 t135 t136 t137 t138 t139 t140 t141 t142 t143 t144 t145 t146 t147 t148 t149 t150 t151 t152 t153 t154 t155 t156 t157 t158 t159 t160 t161 t162 t163 t164 t165 t166 t167 t168 t169 t170 t171 t172 t173 t174 t175 t176 t177 t178 t179 t180 t181 t182 t183 t184 t185 : Value} (w W : World) (la sa : Option Addr) (cap sc n m fg fc lo hi ub rp : Nat) (S ids : List Int) (L : List Sp) (hC : CS w W fg fc n lo hi ub rp S (ids ++ [-7])) (hA : iE.At w la ids) (hn : ids.length = n) (hbd : ∀ z ∈ ids, 0 ≤ z ∧ z ≤ 281474976710656) (hnl : n ≤ 1048576) (hL : sE.At w sa L) (hm : L.length = m) (hml : m ≤ 1048576) (hI : ∀ s ∈ L, I64 s.a ∧ I64 s.b) :
    Code.wp Try.prog (dropC 8 (Try.f3.body.getD .skip)) (bodyPost Try.prog Try.f3 fun e w' => e = .returned (.bool true) ∧ Below w.heap.size w w') { tmps := #[.slice la n cap, .slice sa m sc, t2, t3, t4, .slice (some ⟨fg, 0, none⟩) (n + 1) fc, Pt ub, t7, Pt rp, t9, t10, t11, t12, t13, t14, t15, t16, t17, t18, t19, t20, t21, t22, t23, t24, t25, t26, t27, t28, t29, t30, t31, t32, t33, t34, t35, t36, t37, t38, t39, t40, t41, t42, t43, t44, t45, t46, t47, t48, t49, t50, t51, t52, t53, t54, t55, t56, t57, t58, t59, t60, t61, t62, t63, t64, t65, t66, t67, t68, t69, t70, t71, t72, t73, t74, t75, t76, t77, t78, t79, t80, t81, t82, t83, t84, t85, t86, t87, t88, t89, t90, t91, t92, t93, t94, t95, t96, t97, t98, t99, t100, t101, t102, t103, t104, t105, t106, t107, t108, t109, t110, t111, t112, t113, t114, t115, t116, t117, t118, t119, t120, t121, t122, t123, t124, t125, t126, t127, t128, t129, t130, t131, t132, t133, t134, t135, t136, t137, t138, t139, t140, t141, t142, t143, t144, t145, t146, t147, t148, t149, t150, t151, t152, t153, t154, t155, t156, t157, t158, t159, t160, t161, t162, t163, t164, t165, t166, t167, t168, t169, t170, t171, t172, t173, t174, t175, t176, t177, t178, t179, t180, t181, t182, t183, t184, t185], defers := [] } W := by
  have HL := Hid.mk (And.intro hL (And.intro hm (And.intro hml hI)))
  have HA := Hid.mk (And.intro hA (And.intro hn hbd))
  have hl2 : (ids.map (fun z => z + 1)).length = n := by rw [List.length_map]; exact hn
  obtain ⟨l2, hl2e⟩ : ∃ l2, l2 = ids.map (fun z => z + 1) := ⟨_, rfl⟩
  rw [← hl2e] at hl2
  have HL2 := Hid.mk (And.intro hl2e hl2)
  have H0 : Hid (CS w W fg fc n lo hi ub rp S (l2.take 0 ++ (ids ++ [-7]).drop 0)) := Hid.mk (by simpa using hC)
  clear hL hm hml hI hC hA hn hbd hl2 hl2e
  simp only [dropC, sndC, Try.f3, Option.getD_some]
  go_wp2
  go_loopw [11] (fun u wr => ∃ (k : Nat), u = .int .i64 k ∧ k ≤ n ∧ Hid (CS w wr fg fc n lo hi ub rp S (l2.take k ++ (ids ++ [-7]).drop k))) (fun u _ => n - (intOf u).toNat)
  case atStart => exact ⟨0, rfl, Nat.zero_le _, H0⟩
  case round =>
    obtain ⟨k, rfl, hkn, HI⟩ := hrel
    clear H0
    by_cases hlt : k < n
    · have hlt' : (k : Int) < (n : Int) := by omega
      have hlt2 : (k : Int) < ((n : Int) + 1) := by omega
      have hki : k < ids.length := by rw [HA.out.2.1]; exact hlt
      have hk2 : k < l2.length := by rw [HL2.out.2]; exact hlt
      have hkX : k < (l2.take k ++ (ids ++ [-7]).drop k).length := by rw [HI.out.len]; omega
      obtain ⟨q1, q2⟩ := HI.out.cell k hkX
      have hN := HI.out.set k hkX l2[k]
      rw [mix_set l2 (ids ++ [-7]) k hk2 (by simp; omega)] at hN
      obtain ⟨g, off, hla, hr⟩ := HA.out.1.at' (fun e => by rw [e] at hki; simp at hki)
      subst hla
      have k0 : wr.cell? ⟨g, off + k, none⟩ = some (.int .i64 ids[k]) := cell_lat HI.out.bl (hr k _ (by rw [iCells, List.getElem?_map, List.getElem?_eq_getElem hki]; rfl))
      have hx2 : l2[k] = ids[k] + 1 := by
        have := HL2.out.1
        subst this
        simp
      rw [hx2] at hN
      have hbk := HA.out.2.2 ids[k] (List.getElem_mem hki)
      obtain ⟨x, hx⟩ : ∃ x, x = ids[k] := ⟨_, rfl⟩
      rw [← hx] at hN k0 hbk
      have wx : IntKind.i64.wrap (x + 1) = x + 1 := i64_in _ (by omega) (by omega)
      have HN := Hid.mk hN
      have wk : IntKind.i64.wrap ((k : Int) + 1) = ((k + 1 : Nat) : Int) := i64_in _ (by omega) (by omega)
      obtain ⟨z, q1'⟩ : ∃ z, wr.cell? ⟨fg, k, none⟩ = some (.int .i64 z) := ⟨_, q1⟩
      clear q1 hkX hN HI hlt hx hx2 hbk hki hk2 hr
      go_wp2
      go_roundw
      case rel => exact ⟨k + 1, by go_num, by omega, HN⟩
      case measure => simp [intOf]; omega
    · have hlt' : ¬ (k : Int) < (n : Int) := by omega
      have hke : k = n := by omega
      subst hke
      obtain ⟨X, hX⟩ : ∃ X, X = l2.take k ++ (ids ++ [-7]).drop k := ⟨_, rfl⟩
      have hC := HI.out
      rw [← hX] at hC
      have hkc : k ≤ fc := by
        obtain ⟨a0, c0, e0, hc0⟩ := hC.row.form
        injection e0 with e1 e2 e3
        have := hC.len
        omega
      have hXt : X.take k = l2 := by
        have e1 : l2.take k = l2 := List.take_of_length_le (by rw [HL2.out.2]; exact Nat.le_refl _)
        rw [hX, e1, List.take_left' HL2.out.2]
      have hAt : ∀ V, Below wr.heap.size wr V → iE.At V (some ⟨fg, 0, none⟩) l2 := fun V b => by
        obtain ⟨a', c', e, h⟩ := El.Row.lat hC.row
        injection e with e1 e2 e3
        subst e1
        have := i_take h k
        rw [hXt] at this
        exact this.below b
      obtain ⟨v1, w1, hap1, r1, s1, o1⟩ := El.appL iOk wr [] l2 (.slice none 0 0) (El.Row.nil iE _) (some ⟨fg, 0, none⟩) fc (hAt wr (Below.refl _ _)) (by rw [HL2.out.2]; simp [iE]; omega) (by rw [HL2.out.2]; simp; omega)
      rw [List.nil_append] at r1
      rw [HL2.out.2] at hap1
      have b1 : Below wr.heap.size wr w1 := s1.toBelow (fun _ _ h => by cases h) (Nat.le_refl _)
      obtain ⟨a1, c1, e1, hA1⟩ := El.Row.lat r1
      have hR := rnew_any a1 c1 l2 w1 hA1 (by rw [HL2.out.2]; omega)
      rw [HL2.out.2] at hR e1
      subst e1
      have HX := Hid.mk (And.intro hC (And.intro b1 hAt))
      have hfg : fg < wr.heap.size := row_lt hC.row rfl
      have HFG := Hid.mk hfg
      clear hlt hC hAt hXt hX r1 s1 o1 b1 hA1 HI hfg
      go_upto_region 19 with (first
        | (at_builtin; refine wpList_append_eq rfl _ _ 22 22 rfl _ _ _ _ rfl rfl hap1 ?_; clear hap1)
        | (go_at_call 5; refine hR.mono ?_; clear hR; intro e w2 hO; obtain ⟨ya, rfl, b2, hy⟩ := hO.one; have HY := Hid.mk (And.intro hy b2); clear hO hy b2)
        | fail)
      rename_i K2 a2
      have HC := Hid.mk a2
      clear a2
      have hP := new_any (some ⟨fg, 0, none⟩) fc l2 w2 (HX.out.2.2 w2 (chain HX.out.2.1 HY.out.2 (Nat.le_refl _))) (fun a e => by cases e; exact Nat.lt_of_lt_of_le HFG.out (chain HX.out.2.1 HY.out.2 (Nat.le_refl _)).size) (by rw [HL2.out.2]; omega)
      rw [HL2.out.2] at hP
      go_wp2_with (first
        | (go_at_call 4; refine hP.mono ?_; clear hP; intro e w3 hO; obtain ⟨va, rfl, b3, hv⟩ := hO.one; have HV := Hid.mk (And.intro hv b3); clear hO hv b3)
        | fail)
      exact HC.out _ _ (law_c2 w _ la sa cap sc k m fg fc lo hi ub rp S X L (.pointer va) (.pointer ya) _ (((HX.out.1.below HX.out.2.1).below HY.out.2).below HV.out.2) (VV.of HY.out.1 HV.out.1 HV.out.2 (Nat.le_trans HFG.out HX.out.2.1.size) HY.out.2.size) hnl HL.out.1 HL.out.2.1 HL.out.2.2.1 HL.out.2.2.2)
end Go.Proofs.Ytmhifofeobhhgaa
