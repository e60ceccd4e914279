/-
  DERIVED. PlainRefuses: from the refused searches on.
-/
import Derived.Test.YtekgppmhcbmpeaaDoorGNo
import Derived.Test.YtekgppmhcbmpeaaDoorGPairs
import Derived.Test.YtekgppmhcbmpeaaDoorGPlay
import Derived.Test.YtekgppmhcbmpeaaDoorGBegun
set_option linter.unusedVariables false
set_option linter.unusedSimpArgs false
namespace Go.Proofs.YtekgppmhcbmpeaaDoor
open Go.RowKit Go.Proofs.BitMath
def sndC : Code → Code
  | .seq _ b => b
  | c => c
def dropC : Nat → Code → Code
  | 0, c => c
  | n + 1, c => dropC n (sndC c)
/-- The map and what came in. -/
structure RB (w W : World) (wd : Int) (m mb : Nat) (L : List Pr) (nn : Int) (us : List Up) (la : Option Addr) : Prop where
  mp : MP W m mb wd L nn
  st : Below w.heap.size w W
  len : L.length ≤ 80
  num : 0 ≤ nn ∧ nn ≤ 100
  ul : ULAt w la us
  ui : ∀ u ∈ us, I64 u.i
  pm : w.heap.size ≤ m ∧ w.heap.size ≤ mb
  un : us.length ≤ 3518437208780
theorem RB.more {w W W' : World} {wd : Int} {m mb : Nat} {L : List Pr} {nn : Int} {us : List Up} {la : Option Addr} (h : RB w W wd m mb L nn us la) (b : Below W.heap.size W W') : RB w W' wd m mb L nn us la :=
  { h with mp := h.mp.below b, st := h.st.trans (b.mono h.st.size) }
theorem mpl_below {w W W' : World} {wd : Int} {m mb : Nat} {L L' : List Pr} {nn n' : Int} {us : List Up} {la : Option Addr} (h : RB w W wd m mb L nn us la) (b : MPL W W' m mb wd L' n') : Below w.heap.size w W' :=
  h.st.trans (b.2.toBelow (fun k hk e => by have := h.pm; omega) h.st.size)
theorem pl_len (wd : Int) : ∀ (us : List Up) (xs : List Pr) (n : Int), xs.length ≤ 1048576 → (plS wd us xs n).2.2.1.length ≤ 1048576
  | [], xs, n, h => h
  | u :: us, xs, n, h => by
    unfold plS
    split
    · exact pl_len wd us _ _ (upd_len h)
    · exact h
theorem addr_add (b off j : Nat) : (⟨b, off, none⟩ : Addr).add j = ⟨b, off + j, none⟩ := by unfold Addr.add; split <;> simp_all
def RS (w12 : World) (c : Nat) (iv : Value) (wr : World) : Prop := ∃ i : Nat, iv = .int .i64 i ∧ i ≤ c ∧ wr = w12
set_option maxHeartbeats 8000000 in
set_option maxRecDepth 100000 in
theorem refuses_B {t1 t2 t3 t6 t7 t8 t9 t10 t11 t12 t13 t15 t16 t18 t19 t20 t21 t22 t23 t24 t25 t26 t27 t28 t29 t30 t31 t32 t33 t34 t35 t36 t37 t38 t39 t40 t41 t42 t43 t44 t45 t46 t47 t48 t49 t50 t51 t52 t53 t54 t55 t56 t57 t58 t59 t60 t61 t62 t63 t64 t65 t66 t67 t68 t69 t70 t71 t72 t73 t74 t75 t76 t77 t78 t79 t80 t81 t82 t83 t84 t85 t86 t87 t88 t89 t90 t91 t92 t93 t94 t95 t96 t97 t98 t99 t100 t101 t102 t103 t104 t105 t106 t107 t108 t109 t110 t111 t112 t113 t114 t115 t116 t117 t118 t119 t120 t121 t122 t123 t124 t125 t126 t127 t128 t129 t130 t131 t132 t133 t134 t135 t136 t137 t138 t139 t140 t141 t142 t143 t144 t145 t146 t147 t148 t149 t150 t151 t152 t153 t154 t155 t156 t157 t158 t159 t160 t161 t162 t163 t164 t165 t166 t167 t168 t169 t170 t171 t172 t173 t174 t175 t176 t177 t178 t179 t180 t181 t182 t183 t184 t185 t186 t187 t188 t189 t190 t191 t192 t193 t194 t195 t196 t197 t198 t199 : Value} {w w9 : World} {wd nn : Int} {m mb nl cw len ca : Nat} {L : List Pr} {us : List Up} {q' : ByteArray} {la aw : Option Addr} (HB : Hid (RB w w9 wd m mb L nn us la)) (HQ : Hid ((q'.size : Int) = wd / 8)) (HW : Hid (PLAt w9 aw (srtP L) ∧ nl = (srtP L).length)) (HL : Hid (len = us.length)) (hlc : len ≤ ca) :
    Code.wp Tryd.prog (dropC 10 (Tryd.f5.body.getD .skip)) (bodyPost Tryd.prog Tryd.f5 fun e w' => e = .returned (.bool true) ∧ Below w.heap.size w w') { tmps := #[.int .i64 wd, t1, t2, t3, .slice la len ca, .string q', t6, t7, t8, t9, t10, t11, t12, t13, Pt m, t15, t16, .slice aw nl cw, t18, t19, t20, t21, t22, t23, t24, t25, t26, t27, t28, t29, t30, t31, t32, t33, t34, t35, t36, t37, t38, t39, t40, t41, t42, t43, t44, t45, t46, t47, t48, t49, t50, t51, t52, t53, t54, t55, t56, t57, t58, t59, t60, t61, t62, t63, t64, t65, t66, t67, t68, t69, t70, t71, t72, t73, t74, t75, t76, t77, t78, t79, t80, t81, t82, t83, t84, t85, t86, t87, t88, t89, t90, t91, t92, t93, t94, t95, t96, t97, t98, t99, t100, t101, t102, t103, t104, t105, t106, t107, t108, t109, t110, t111, t112, t113, t114, t115, t116, t117, t118, t119, t120, t121, t122, t123, t124, t125, t126, t127, t128, t129, t130, t131, t132, t133, t134, t135, t136, t137, t138, t139, t140, t141, t142, t143, t144, t145, t146, t147, t148, t149, t150, t151, t152, t153, t154, t155, t156, t157, t158, t159, t160, t161, t162, t163, t164, t165, t166, t167, t168, t169, t170, t171, t172, t173, t174, t175, t176, t177, t178, t179, t180, t181, t182, t183, t184, t185, t186, t187, t188, t189, t190, t191, t192, t193, t194, t195, t196, t197, t198, t199], defers := [] } w9 := by
  have hb := isW_bd HB.out.mp.isW
  have t1 := topk_neg m mb wd nn L q' w9 HB.out.mp HQ.out
  have hwr : IntKind.i64.wrap (wd + 1) = wd + 1 := by rw [IntKind.wrap_i64]; omega
  simp only [dropC, sndC, Tryd.f5, Option.getD_some]
  go_wp2_with fail
  refine t1.mono ?_
  clear t1
  rintro e w10 ⟨rfl, b10⟩
  have HB10 : Hid (RB w w10 wd m mb L nn us la) := HB.out.more b10
  have r1 := radius_far m mb wd nn (wd + 1) L q' w10 HB10.out.mp HQ.out (by omega)
  have HW10 : Hid (PLAt w10 aw (srtP L) ∧ nl = (srtP L).length) := ⟨HW.out.1.below b10, HW.out.2⟩
  clear HB HW b10
  go_wp2_with fail
  refine r1.mono ?_
  clear r1
  rintro e w11 ⟨rfl, b11⟩
  have HB11 : Hid (RB w w11 wd m mb L nn us la) := HB10.out.more b11
  have t2 : Hid (∀ q2 : ByteArray, q2.size = q'.size + 1 → Calls Tryd.prog 13 #[Pt m, .string q2, .int .i64 1] w11 fun e w' => e = .returned (.tuple #[.slice none 0 0, .int .i64 11]) ∧ Below w11.heap.size w11 w') := fun q2 h2 => topk_code m mb wd nn 1 L q2 w11 HB11.out.mp (by have := HQ.out; omega)
  have HW11 : Hid (PLAt w11 aw (srtP L) ∧ nl = (srtP L).length) := ⟨HW10.out.1.below b11, HW10.out.2⟩
  have hqs : q'.size ≤ 1024 := by have := HQ.out; omega
  clear HB10 HW10 b11
  go_wp2_with fail
  refine (t2.out _ ?_).mono ?_
  · simp [ByteArray.size_append]
    rfl
  clear t2
  rintro e w12 ⟨rfl, b12⟩
  have HB12 : Hid (RB w w12 wd m mb L nn us la) := HB11.out.more b12
  have HW12 : Hid (PLAt w12 aw (srtP L) ∧ nl = (srtP L).length) := ⟨HW11.out.1.below b12, HW11.out.2⟩
  have p1 := pairs_any m mb wd nn L w12 HB12.out.mp (by have := HB12.out.len; omega)
  clear HB11 HW11 b12 hqs
  go_wp2_with fail
  refine p1.mono ?_
  clear p1
  rintro e w13 ⟨v13, rfl, r13, -, b13⟩
  obtain ⟨a13, c13, hv, l13⟩ := r13.lat
  subst hv
  have HB13 : Hid (RB w w13 wd m mb L nn us la) := HB12.out.more b13
  have sm := samePairs_any (srtP L) aw a13 cw c13 w13 (HW12.out.1.below b13) l13 (by rw [(srtP_perm L).length_eq]; have := HB12.out.len; omega)
  rw [← HW12.out.2] at sm ⊢
  clear HB12 HW12 b13 r13 l13
  go_wp2_with fail
  refine sm.mono ?_
  clear sm
  rintro e w14 ⟨rfl, d14⟩
  have HB14 : Hid (RB w w14 wd m mb L nn us la) := HB13.out.more (d14.below _)
  have sq := seq_any m mb wd nn L w14 HB14.out.mp
  clear HB13 d14
  go_wp2_with fail
  refine sq.mono ?_
  clear sq
  rintro e w15 ⟨rfl, h15⟩
  subst h15
  have hpl := play_any m mb wd nn L us la ca w15 HB14.out.mp HB14.out.ui (HB14.out.ul.stay (F := fun _ => False) (.below (HB14.out.st.mono (Nat.le_refl _))) (fun _ _ _ h => h)) (fun hne g off e => by
    have h1 := HB14.out.ul.lt e hne
    have h2 := HB14.out.pm
    omega) (by have := HB14.out.num; have := HB14.out.un; omega) (by have := HB14.out.len; omega)
  obtain ⟨h1, h2, h3, h4, h5⟩ := pl_spec wd us L nn
  obtain ⟨c, x, ys, n2, hpe⟩ : ∃ c x ys n2, plS wd us L nn = (c, x, ys, n2) := ⟨_, _, _, _, rfl⟩
  rw [hpe] at hpl h1 h2 h3 h4 h5
  simp only at h1 h2 h3 h4 h5 hpl
  rw [← HL.out] at hpl h1 h2
  have HS := Hid.mk (And.intro h3 (And.intro h4 (And.intro h5 HB14.out.num)))
  have hun : len ≤ 3518437208780 := by have := HB14.out.un; have := HL.out; omega
  have hpe' := hpe
  have HPE := Hid.mk hpe'
  clear hpe h3 h4 h5 hpe'
  go_wp2_with fail
  refine hpl.mono ?_
  clear hpl
  rintro e w16 ⟨rfl, m16⟩
  have b16 : Hid (Below w.heap.size w w16) := mpl_below HB14.out m16
  have sq2 := seq_any m mb wd n2 ys w16 m16.1
  have hn2 : n2 = nn + (c : Int) := HS.out.1
  rw [hn2] at sq2
  have hwn : IntKind.i64.wrap (nn + (c : Int)) = nn + (c : Int) := by have := HS.out.2.2.2; rw [IntKind.wrap_i64]; omega
  have hc0 : ¬ (c : Int) < 0 := by omega
  have hc1 : ¬ (len : Int) < (c : Int) := by omega
  have HU16 : Hid (∀ i (hi : i < us.length), i < c → ∃ g o, la = some ⟨g, o, none⟩ ∧ w16.cell? ⟨g, o + i * 4, none⟩ = some (.int .i64 (nn + 1 + (i : Int)))) := fun i hi hic => by
    have hla : ULAt w16 la us := HB14.out.ul.stay (F := fun _ => False) (.below (b16.out.mono (Nat.le_refl _))) (fun _ _ _ h => h)
    obtain ⟨g, o, e1, hr⟩ := hla.at' (fun e => by rw [e] at hi; simp at hi)
    obtain ⟨x0, -⟩ := row_up hr (A := w16) rfl i hi
    rw [HS.out.2.1 i hi hic] at x0
    exact ⟨g, o, e1, x0⟩
  have HP2 : Hid (∀ la2 ca2, (len - c ≠ 0 → ∀ g o, la = some ⟨g, o, none⟩ → la2 = some ⟨g, o + c * 4, none⟩) → Calls Tryd.prog 22 #[Pt m, .slice la2 (len - c) ca2] w16 fun e w' => e = .returned (.tuple #[.int .i64 0, .int .i64 x]) ∧ Below w.heap.size w w') := fun la2 ca2 hla2 => by
    have hla : ULAt w16 la us := HB14.out.ul.stay (F := fun _ => False) (.below (b16.out.mono (Nat.le_refl _))) (fun _ _ _ h => h)
    have hdl : (us.drop c).length = len - c := by rw [List.length_drop, ← HL.out]
    have hU : ULAt w16 la2 (us.drop c) := ⟨fun hne => by
      have hne0 : us ≠ [] := fun e => hne (by rw [e]; simp)
      obtain ⟨g, o, e1, -⟩ := hla.at' hne0
      have e2 := hla2 (fun e => hne (List.eq_nil_of_length_eq_zero (by rw [hdl, e]))) g o e1
      subst e1
      exact (by rw [e2]; exact (hla.drop c).at' hne)⟩
    have h := play_any m mb wd n2 ys (us.drop c) la2 ca2 w16 m16.1 (fun u hu => HB14.out.ui u (List.mem_of_mem_drop hu)) hU (fun hne g off e => by
      have hne0 : us ≠ [] := fun e => hne (by rw [e]; simp)
      obtain ⟨g', o', e1, -⟩ := hla.at' hne0
      have e2 := hla2 (fun e => hne (List.eq_nil_of_length_eq_zero (by rw [hdl, e]))) g' o' e1
      rw [e] at e2
      simp only [Option.some.injEq, Addr.mk.injEq] at e2
      have h6 := HB14.out.ul.lt e1 hne0
      have h7 := HB14.out.pm
      omega) (by rw [hdl, hn2]; have := HS.out.2.2.2; omega) (by rw [show ys = (plS wd us L nn).2.2.1 from by rw [HPE.out]]; exact pl_len wd us L nn (by have := HB14.out.len; omega))
    rw [HS.out.2.2.1, hdl] at h
    exact h.mono (fun e w' he => ⟨he.1, b16.out.trans (he.2.2.toBelow (fun k hk e => by have := HB14.out.pm; omega) b16.out.size)⟩)
  clear m16 hn2 hb
  by_cases hf : c = len
  · have hx0 : x = 0 := h2.2 hf
    subst hx0
    subst hf
    have HP3 : Hid (∀ la2 ca2, Calls Tryd.prog 22 #[Pt m, .slice la2 0 ca2] w16 fun e w' => e = .returned (.tuple #[.int .i64 0, .int .i64 0]) ∧ Below w.heap.size w w') := fun la2 ca2 => by
      have h := HP2.out la2 ca2 (fun h => absurd (Nat.sub_self c) h)
      rw [Nat.sub_self] at h
      exact h
    clear h2 HP2
    go_wp2_with fail
    refine sq2.mono ?_
    clear sq2
    rintro e w17 ⟨rfl, h17⟩
    subst h17
    go_wp2_with fail
    go_loopw [30] (fun iv wr => RS w17 c iv wr) (fun u _ => c - (intOf u).toNat)
    case atStart => exact ⟨0, rfl, Nat.zero_le _, rfl⟩
    case round =>
      obtain ⟨i, rfl, hi, hwr'⟩ := hrel
      subst hwr'
      by_cases hil : i < c
      · have i1 : (i : Int) < (c : Int) := by omega
        have i2 : (0 : Int) ≤ (i : Int) := by omega
        have i3 : (i : Int) < (c : Int) := by omega
        obtain ⟨g, o, e1, x0⟩ := HU16.out i (by have := HL.out; omega) hil
        subst e1
        have hwi : IntKind.i64.wrap ((i : Int) + 1) = ((i + 1 : Nat) : Int) := by rw [IntKind.wrap_i64]; omega
        have hw1 : IntKind.i64.wrap (nn + 1) = nn + 1 := by have := HS.out.2.2.2; rw [IntKind.wrap_i64]; omega
        have hw2 : IntKind.i64.wrap (nn + 1 + (i : Int)) = nn + 1 + (i : Int) := by have := HS.out.2.2.2; rw [IntKind.wrap_i64]; omega
        go_wp2_with fail
        exact ⟨⟨i + 1, by go_num, hil, rfl⟩, by simp only [intOf]; omega⟩
      · have i1 : ¬ (i : Int) < (c : Int) := by omega
        have hcc : (c : Int) ≤ (c : Int) := by omega
        have hcl : c ≤ c := by omega
        go_wp2_with fail
        all_goals
          refine (HP3.out _ _).mono ?_
          rintro e w18 ⟨rfl, b18⟩
          go_wp2_with fail
          go_ret
          exact ⟨rfl, b18⟩

  · have hx0 : x ≠ 0 := fun e => hf (h2.1 e)
    have y0 : (x == 0) = false := by simpa using hx0
    have y1 : ((c : Int) == (len : Int)) = false := by simp; omega
    have y2 : (c == len) = false := by simpa using hf
    clear h2
    go_wp2_with fail
    refine sq2.mono ?_
    clear sq2
    rintro e w17 ⟨rfl, h17⟩
    subst h17
    go_wp2_with fail
    go_loopw [30] (fun iv wr => RS w17 c iv wr) (fun u _ => c - (intOf u).toNat)
    case atStart => exact ⟨0, rfl, Nat.zero_le _, rfl⟩
    case round =>
      obtain ⟨i, rfl, hi, hwr'⟩ := hrel
      subst hwr'
      by_cases hil : i < c
      · have i1 : (i : Int) < (c : Int) := by omega
        have i2 : (0 : Int) ≤ (i : Int) := by omega
        have i3 : (i : Int) < (len : Int) := by omega
        obtain ⟨g, o, e1, x0⟩ := HU16.out i (by have := HL.out; omega) hil
        subst e1
        have hwi : IntKind.i64.wrap ((i : Int) + 1) = ((i + 1 : Nat) : Int) := by rw [IntKind.wrap_i64]; omega
        have hw1 : IntKind.i64.wrap (nn + 1) = nn + 1 := by have := HS.out.2.2.2; rw [IntKind.wrap_i64]; omega
        have hw2 : IntKind.i64.wrap (nn + 1 + (i : Int)) = nn + 1 + (i : Int) := by have := HS.out.2.2.2; rw [IntKind.wrap_i64]; omega
        go_wp2_with fail
        exact ⟨⟨i + 1, by go_num, hil, rfl⟩, by simp only [intOf]; omega⟩
      · have i1 : ¬ (i : Int) < (c : Int) := by omega
        have hcc : (c : Int) ≤ (len : Int) := by omega
        have hcl : c ≤ len := by omega
        go_wp2_with fail
        refine (HP2.out _ _ (fun _ g o e => by rw [e]; simp only [Option.map_some]; congr 1; exact addr_add g o (c * 4))).mono ?_
        rintro e w18 ⟨rfl, b18⟩
        have y3 : (c : Int) < (len : Int) := by omega
        go_wp2_with fail
        go_ret
        exact ⟨rfl, b18⟩

end Go.Proofs.YtekgppmhcbmpeaaDoor
