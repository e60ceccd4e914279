/-
  DERIVED. PlainLooks: from TopK on.
-/
import Derived.Test.YtekgppmhcbmpeaaDoorGLawM
set_option linter.unusedVariables false
set_option linter.unusedSimpArgs false
namespace Go.Proofs.YtekgppmhcbmpeaaDoor
open Go.RowKit Go.Proofs.BitMath
set_option maxHeartbeats 16000000 in
set_option maxRecDepth 100000 in
theorem looks_A {t1 t5 t6 t7 t8 t9 t10 t11 t14 t17 t18 t19 t20 t21 t22 t23 t24 t25 t26 t27 t28 t29 t30 t31 t32 t33 t34 t35 t36 t37 t38 t39 t40 t41 t42 t43 t44 t45 t46 t47 t48 t49 t50 t51 t52 t53 t54 t55 t56 t57 t58 t59 t60 t61 t62 t63 t64 t65 t66 t67 t68 t69 t70 t71 t72 t73 t74 t75 t76 t77 t78 t79 t80 t81 t82 t83 t84 t85 t86 t87 t88 t89 t90 t91 t92 t93 t94 t95 t96 t97 t98 t99 t100 t101 t102 t103 t104 t105 t106 t107 t108 t109 t110 t111 t112 t113 t114 t115 t116 t117 t118 t119 t120 t121 t122 t123 t124 t125 t126 t127 t128 t129 t130 t131 t132 t133 t134 t135 t136 t137 t138 t139 t140 t141 t142 t143 t144 t145 t146 t147 t148 t149 t150 t151 t152 t153 t154 t155 t156 t157 t158 t159 t160 t161 t162 t163 t164 t165 t166 t167 t168 t169 t170 t171 t172 t173 t174 t175 t176 t177 t178 t179 t180 t181 t182 t183 t184 t185 t186 t187 t188 t189 t190 t191 t192 t193 t194 t195 t196 t197 t198 t199 t200 t201 t202 t203 t204 t205 t206 t207 t208 t209 t210 t211 t212 t213 t214 t215 t216 t217 t218 t219 t220 t221 t222 t223 t224 t225 t226 t227 t228 t229 t230 t231 t232 t233 t234 t235 t236 t237 t238 t239 t240 t241 t242 t243 t244 t245 t246 t247 t248 t249 t250 t251 t252 t253 t254 t255 t256 t257 : Value} {w w5 w6 : World} {wd : Int} {n mm m mb kn nl c0 c6 : Nat} {L : List Pr} {q' : ByteArray} {X : List Ht} {R : Int} {a0 a6 : Option Addr} (HK : Hid (Kept wd n L)) (HM : Hid (MP w5 m mb wd L L.length ∧ Tab w5 ∧ Below w.heap.size w w5)) (HZ : Hid (L.length ≤ 80)) (HN : Hid (nl = L.length)) (HQ : Hid ((q'.size : Int) = wd / 8)) (HA : Hid (q'.size = n ∧ (mm : Int) = wd + 1 ∧ 64 ≤ wd ∧ wd ≤ 1024 ∧ wd / 8 = n))
    (HI : Hid ((0 ≤ R ∧ R ≤ wd) ∧ kn ≤ 4096)) (HX : Hid (X = srtL (hitsOf q' L))) (HG6 : Hid (Told w5 w6 (.slice a6 X.length c6) X ∧ LAt w6 a6 X)) (HXl : Hid (X.length = nl)) (hc6 : nl ≤ c6) :
    Code.wp Tryd.prog (dropC 9 (Tryd.f4.body.getD .skip)) (bodyPost Tryd.prog Tryd.f4 fun e w' => e = .returned (.bool true) ∧ Below w.heap.size w w') { tmps := #[.int .i64 wd, t1, .string q', .int .i64 (kn : Int), .int .i64 R, t5, t6, t7, t8, t9, t10, t11, Pt m, .slice a0 nl c0, t14, .slice a6 nl c6, .int .i64 0, t17, t18, t19, t20, t21, t22, t23, t24, t25, t26, t27, t28, t29, t30, t31, t32, t33, t34, t35, t36, t37, t38, t39, t40, t41, t42, t43, t44, t45, t46, t47, t48, t49, t50, t51, t52, t53, t54, t55, t56, t57, t58, t59, t60, t61, t62, t63, t64, t65, t66, t67, t68, t69, t70, t71, t72, t73, t74, t75, t76, t77, t78, t79, t80, t81, t82, t83, t84, t85, t86, t87, t88, t89, t90, t91, t92, t93, t94, t95, t96, t97, t98, t99, t100, t101, t102, t103, t104, t105, t106, t107, t108, t109, t110, t111, t112, t113, t114, t115, t116, t117, t118, t119, t120, t121, t122, t123, t124, t125, t126, t127, t128, t129, t130, t131, t132, t133, t134, t135, t136, t137, t138, t139, t140, t141, t142, t143, t144, t145, t146, t147, t148, t149, t150, t151, t152, t153, t154, t155, t156, t157, t158, t159, t160, t161, t162, t163, t164, t165, t166, t167, t168, t169, t170, t171, t172, t173, t174, t175, t176, t177, t178, t179, t180, t181, t182, t183, t184, t185, t186, t187, t188, t189, t190, t191, t192, t193, t194, t195, t196, t197, t198, t199, t200, t201, t202, t203, t204, t205, t206, t207, t208, t209, t210, t211, t212, t213, t214, t215, t216, t217, t218, t219, t220, t221, t222, t223, t224, t225, t226, t227, t228, t229, t230, t231, t232, t233, t234, t235, t236, t237, t238, t239, t240, t241, t242, t243, t244, t245, t246, t247, t248, t249, t250, t251, t252, t253, t254, t255, t256, t257], defers := [] } w6 := by
  have t1 := topk_any m mb wd L.length L q' kn w6 (HM.out.1.below HG6.out.1.2.2) HQ.out HI.out.2 (HM.out.2.1.lat HG6.out.1.2.2) (by have := HZ.out; omega)
  rw [topL_eq, ← HX.out] at t1
  simp only [dropC, sndC, Tryd.f4, Option.getD_some]
  go_wp2_with fail
  refine t1.mono ?_
  clear t1
  rintro e w7 ⟨v7, rfl, t7⟩
  obtain ⟨T, hT⟩ : ∃ T, T = X.take kn := ⟨_, rfl⟩
  rw [← hT] at t7
  obtain ⟨a7, c7, hv, hc7, l7⟩ := t7.lat
  subst hv
  have b7 : Below w5.heap.size w5 w7 := HG6.out.1.2.2.trans (t7.2.2.mono HG6.out.1.2.2.size)
  have r2 := radius_any m mb wd L.length L q' R w7 (HM.out.1.below b7) HQ.out HI.out.1 (HM.out.2.1.lat b7) (by have := HZ.out; omega)
  rw [srtL_inD, ← HX.out] at r2
  have HG7 : Hid (Told w6 w7 (.slice a7 T.length c7) T ∧ LAt w7 a7 T ∧ T = X.take kn ∧ Below w5.heap.size w5 w7) := ⟨t7, l7, hT, b7⟩
  obtain ⟨nt, hnt⟩ : ∃ nt, nt = T.length := ⟨_, rfl⟩
  rw [← hnt] at hc7 ⊢
  have HNT := Hid.mk hnt
  clear t7 l7 b7 hT hnt
  go_wp2_with fail
  refine r2.mono ?_
  clear r2
  rintro e w8 ⟨v8, rfl, t8⟩
  obtain ⟨Bl, hB⟩ : ∃ Bl, Bl = inD R X := ⟨_, rfl⟩
  rw [← hB] at t8
  obtain ⟨a8, c8, hv, hc8, l8⟩ := t8.lat
  subst hv
  have b8 : Below w5.heap.size w5 w8 := HG7.out.2.2.2.trans (t8.2.2.mono HG7.out.2.2.2.size)
  have h1 := histogram_any m mb wd L.length L q' mm w8 (HM.out.1.below b8) HQ.out (HM.out.2.1.lat b8) (by have := HZ.out; omega) HA.out.2.1
  have HG8 : Hid (Told w7 w8 (.slice a8 Bl.length c8) Bl ∧ LAt w8 a8 Bl ∧ Bl = inD R X ∧ Below w5.heap.size w5 w8) := ⟨t8, l8, hB, b8⟩
  obtain ⟨nb, hnb⟩ : ∃ nb, nb = Bl.length := ⟨_, rfl⟩
  rw [← hnb] at hc8 ⊢
  have HNB := Hid.mk hnb
  clear t8 l8 b8 hB hnb
  go_wp2_with fail
  refine h1.mono ?_
  clear h1
  rintro e w9 ⟨cb, rfl, R9, cb8, b9⟩
  have HT : Hid (Asked w w9 wd n mm m mb cb L q' X T Bl kn R a6 a7 a8) := by
    have e6 := HG6.out
    have e7 := HG7.out
    have e8 := HG8.out
    have q6 : ∀ {W : World} {a : Option Addr} {l : List Ht} {c : Nat} {V : World}, Told V W (.slice a l.length c) l → W.heap.size ≤ w8.heap.size → ∀ g off, a = some ⟨g, off, none⟩ → g ≠ cb := fun {W a l c V} h hs g off ea => by
      have hlt := row_lt h.1 (k := g) (by rw [ea]; rfl)
      omega
    refine ⟨HK.out, HA.out.1, HX.out, e7.2.2.1, e8.2.2.1, ?_, ?_, ?_, ?_, ?_, ?_, ?_, ?_, ?_, HA.out.2.1, ?_, ?_⟩
    · exact ((e6.2.below e7.1.2.2).below e8.1.2.2).below b9
    · exact (e7.2.1.below e8.1.2.2).below b9
    · exact e8.2.1.below b9
    · intro g off h
      have s7 := e7.1.2.2.size
      have s8 := e8.1.2.2.size
      rcases h with h | h | h
      · exact q6 e6.1 (by omega) g off h
      · exact q6 e7.1 (by omega) g off h
      · exact q6 e8.1 (by omega) g off h
    · have hc := cnts_perm (m := mm) (HK.out.perm q')
      rw [← HX.out] at hc
      rw [hc]; exact R9
    · exact (HM.out.1.below e8.2.2.2).below b9
    · have s5 := e8.2.2.2.size
      have p5 := HM.out.1.at'.lt
      have m5 := HM.out.1.pm.lt
      omega
    · exact (HM.out.2.1.lat e8.2.2.2).lat b9
    · have s5 := e8.2.2.2.size
      have := HM.out.2.1.lt
      omega
    · exact (HM.out.2.2.trans (e8.2.2.2.mono HM.out.2.2.size)).trans (b9.mono (Nat.le_trans HM.out.2.2.size e8.2.2.2.size))
    · have s5 := e8.2.2.2.size
      have := HM.out.2.2.size
      omega
  clear R9 cb8 b9 HG6 HG7 HG8
  have hwm : IntKind.i64.wrap (wd + 1) = (mm : Int) := by have := HA.out.2.1; have := HA.out.2.2; rw [IntKind.wrap_i64]; omega
  have hwm2 : wrap64 (wd + 1) = (mm : Int) := by have := HA.out.2.1; have := HA.out.2.2; unfold wrap64; omega
  have hnl80 : nl ≤ 80 := by have := HZ.out; have := HN.out; omega
  go_wp2_with fail
  go_loopw [23] (fun iv wr => RLo w9 cb mm X iv wr) (fun u _ => nl - (intOf u).toNat)
  case atStart => exact ⟨0, rfl, Nat.zero_le _, LL.start HT.out⟩
  case round =>
    obtain ⟨i, rfl, hi, HL⟩ := hrel
    have hXl := HXl.out
    by_cases hlt : i < nl
    · have i1 : (i : Int) < (nl : Int) := by omega
      have i2 : (0 : Int) ≤ (i : Int) := by omega
      have hiX : i < X.length := by omega
      have hla := lat_stay HT.out.la HL.out.st (fun g off h => HT.out.old g off (.inl h))
      obtain ⟨g, o, e1, x0, x1, x2⟩ := hla.hit (W := wr) (fun k _ => rfl) i hiX
      subst e1
      obtain ⟨A, hA⟩ : ∃ A, A = X[i] := ⟨_, rfl⟩
      rw [← hA] at x0 x1 x2
      have hAm : A ∈ srtL (hitsOf q' L) := by rw [hA, ← HX.out]; exact List.getElem_mem hiX
      obtain ⟨o1, o2, o3, o4, o5⟩ := HK.out.one HA.out.1 hAm
      obtain ⟨d, hd⟩ : ∃ d : Nat, d = dQ q' A.c := ⟨_, rfl⟩
      have hdm : d < mm := by have := HA.out.2.1; omega
      have hAd : A.d = (d : Int) := by rw [o2, hd]
      have hds := distance_yes q' A.c wr (by have := HA.out.1; have := HA.out.2.2.2.2; have := HA.out.2.2.2.1; omega) (by rw [HA.out.1, o1]) (tab_stay HT.out.tab HL.out.st HT.out.t0)
      rw [show wt (xorL q'.data.toList A.c.data.toList) = d from hd.symm] at hds
      have hget := fun W (hM : MP W m mb wd L L.length) => get_any m mb wd L.length A.i L W hM o4
      rw [o5] at hget
      have HMw : Hid (MP wr m mb wd L L.length) := HT.out.mp.keep HL.out.st HT.out.pc.1 HT.out.pc.2
      rw [hAd] at x0
      have HP : Hid (∀ ip, i = ip + 1 → ∃ D I, wr.cell? ⟨g, o + ip * 3, none⟩ = some (.int .i64 D) ∧ wr.cell? ⟨g, o + ip * 3 + 1, none⟩ = some (.int .i64 I) ∧ (D < (d : Int) ∨ (D = (d : Int) ∧ I < A.i))) := fun ip hip => by
        have hip' : ip + 1 < X.length := by omega
        obtain ⟨g', o', e', y0, y1, -⟩ := hla.hit (W := wr) (fun k _ => rfl) ip (by omega)
        simp only [Option.some.injEq, Addr.mk.injEq] at e'
        obtain ⟨rfl, rfl, -⟩ := e'
        refine ⟨_, _, y0, y1, ?_⟩
        have hs := srt_step (L := X) (by rw [HX.out]; exact srtL_srt _) (by rw [HX.out]; exact HK.out.ids q') hip'
        have eA : X[ip + 1] = A := by rw [hA]; congr 1; omega
        rw [eA, hAd] at hs
        exact hs
      have HSt : Hid (∀ wx, Below wr.heap.size wr wx → wx.cell? ⟨cb, d, none⟩ = some (.int .i64 (cnt (X.drop i) d : Nat)) ∧ wx.frozen? ⟨cb, d, none⟩ = false ∧ RLo w9 cb mm X (.int .i64 ((i + 1 : Nat) : Int)) (wx.setCell ⟨cb, d, none⟩ (.int .i64 ((cnt (X.drop i) d : Int) - 1)))) := fun wx b => by
        obtain ⟨s1, s2, s3⟩ := HL.out.step b hiX (by rw [← hA]; exact hAd) hdm
        exact ⟨s1, s2, i + 1, rfl, hiX, s3⟩
      have hcn : cnt (X.drop i) d ≤ 80 := by
        have h1 := cnt_le (X.drop i) d
        rw [List.length_drop] at h1
        omega
      obtain ⟨ct, hct⟩ : ∃ ct : Int, ct = (cnt (X.drop i) d : Int) := ⟨_, rfl⟩
      rw [← hct] at HSt
      have hwc : IntKind.i64.wrap (ct - 1) = ct - 1 := by rw [IntKind.wrap_i64]; omega
      have hwi : IntKind.i64.wrap ((i : Int) + 1) = ((i + 1 : Nat) : Int) := by rw [IntKind.wrap_i64]; omega
      have d1 : (d : Int) < (mm : Int) := by omega
      have d2 : (0 : Int) ≤ (d : Int) := by omega
      have HDM := Hid.mk hdm
      clear hla hA hAm o1 o2 o3 o4 o5 hd hdm hAd hiX hcn hct HL hi hXl
      go_wp2_with fail
      refine hds.mono ?_
      clear hds
      rintro e wa ⟨rfl, da⟩
      have ba : Below wr.heap.size wr wa := da.below _
      have hg2 := hget wa (HMw.out.below ba)
      replace x0 := cell_lat ba x0
      replace x1 := cell_lat ba x1
      replace x2 := cell_lat ba x2
      clear hget da
      go_wp2_with fail
      refine hg2.mono ?_
      clear hg2
      rintro e wb ⟨rfl, bb'⟩
      have bb : Below wr.heap.size wr wb := ba.trans (bb'.mono ba.size)
      replace x0 := cell_lat bb' x0
      replace x1 := cell_lat bb' x1
      replace x2 := cell_lat bb' x2
      clear ba bb'
      by_cases hi0 : i = 0
      · subst hi0
        simp only [Nat.zero_mul, Nat.add_zero] at x0 x1 x2
        clear HP
        have s1 := (HSt.out wb bb).1
        have s2 := (HSt.out wb bb).2.1
        go_wp2_with fail
        go_quiet (fail)
        go_wp2_with fail
        exact ⟨(HSt.out _ (bb.trans (drewN_below _ _ _))).2.2, by simp only [intOf]; omega⟩
      · obtain ⟨ip, hip⟩ : ∃ ip, i = ip + 1 := ⟨i - 1, by omega⟩
        obtain ⟨D, I, p0, p1, hor⟩ := HP.out ip hip
        replace p0 := cell_lat bb p0
        replace p1 := cell_lat bb p1
        have g0 : (0 : Int) < (i : Int) := by omega
        have gN : 0 < i := by omega
        have hw1 : IntKind.i64.wrap ((i : Int) - 1) = (ip : Int) := by rw [IntKind.wrap_i64]; omega
        have hw2 : wrap64 ((i : Int) - 1) = (ip : Int) := by unfold wrap64; omega
        have p2 : (ip : Int) < (nl : Int) := by omega
        have p3 : (0 : Int) ≤ (ip : Int) := by omega
        have s1 := (HSt.out wb bb).1
        have s2 := (HSt.out wb bb).2.1
        clear HP hip hi0
        rcases hor with h1 | ⟨h1, h2⟩
        · have k1 : decide ((d : Int) < D) = false := decide_eq_false (by omega)
          have k2 : (D == (d : Int)) = false := by simp; omega
          clear h1
          go_wp2_with fail
          refine wp_region_held_drew (S := fun w' => w'.cell? ⟨g, o + ip * 3, none⟩ = some (.int .i64 D) ∧ w'.cell? ⟨g, o + ip * 3 + 1, none⟩ = some (.int .i64 I) ∧ w'.cell? ⟨g, o + i * 3 + 1, none⟩ = some (.int .i64 A.i)) (by kernel_rfl) ?_ (fun hHeld => ?_)
          · exact ⟨p0, p1, x1⟩
          refine wpAnyH_take (i := 0) (oi := { dst := some 170, op := Op.move (Operand.tmp 23), type := 3, pos := "plain.go:102", after := #[], guard := none }) (v := ?vqa0) rfl (by kernel_rfl) (by kernel_rfl) (by kernel_rfl) (fun _ _ _ h => h) (Or.inl ⟨by rfl, ?hqa0⟩) (by assumption) ?rqa0
          case hqa0 => (intro w0 hSw; (try dsimp only at hSw); go_simp; try (with_reducible rfl))
          simp only [Act.put, List.setIfInBounds_toArray, List.set_cons_zero, List.set_cons_succ]
          refine wpAnyH_take (i := 1) (oi := { dst := some 171, op := Op.binOp BinOp.gtr 3 (Operand.tmp 170) (Operand.const (Value.int IntKind.i64 0)) 3, type := 4, pos := "plain.go:102", after := #[{ on := 0, ground := Ground.data }], guard := none }) (v := ?vqa1) rfl (by kernel_rfl) (by kernel_rfl) (by kernel_rfl) (fun _ _ _ h => h) (Or.inl ⟨by rfl, ?hqa1⟩) (by assumption) ?rqa1
          case hqa1 => (intro w0 hSw; (try dsimp only at hSw); go_simp; try (with_reducible rfl))
          simp only [Act.put, List.setIfInBounds_toArray, List.set_cons_zero, List.set_cons_succ]
          refine wpAnyH_take (i := 2) (oi := { dst := some 172, op := Op.move (Operand.tmp 171), type := 4, pos := "plain.go:102", after := #[{ on := 1, ground := Ground.data }], guard := none }) (v := ?vqa2) rfl (by kernel_rfl) (by kernel_rfl) (by kernel_rfl) (fun _ _ _ h => h) (Or.inl ⟨by rfl, ?hqa2⟩) (by assumption) ?rqa2
          case hqa2 => (intro w0 hSw; (try dsimp only at hSw); go_simp; try (with_reducible rfl))
          simp only [Act.put, List.setIfInBounds_toArray, List.set_cons_zero, List.set_cons_succ]
          refine wpAnyH_take (i := 3) (oi := { dst := some 173, op := Op.move (Operand.tmp 15), type := 32, pos := "plain.go:102", after := #[{ on := 2, ground := Ground.guard }], guard := some (2, true) }) (v := ?vqa3) rfl (by kernel_rfl) (by kernel_rfl) (by kernel_rfl) (fun _ _ _ h => h) (Or.inl ⟨by rfl, ?hqa3⟩) (by assumption) ?rqa3
          case hqa3 => (intro w0 hSw; (try dsimp only at hSw); go_simp; try (with_reducible rfl))
          simp only [Act.put, List.setIfInBounds_toArray, List.set_cons_zero, List.set_cons_succ]
          refine wpAnyH_take (i := 4) (oi := { dst := some 174, op := Op.move (Operand.tmp 23), type := 3, pos := "plain.go:102", after := #[{ on := 2, ground := Ground.guard }], guard := some (2, true) }) (v := ?vqa4) rfl (by kernel_rfl) (by kernel_rfl) (by kernel_rfl) (fun _ _ _ h => h) (Or.inl ⟨by rfl, ?hqa4⟩) (by assumption) ?rqa4
          case hqa4 => (intro w0 hSw; (try dsimp only at hSw); go_simp; try (with_reducible rfl))
          simp only [Act.put, List.setIfInBounds_toArray, List.set_cons_zero, List.set_cons_succ]
          refine wpAnyH_take (i := 5) (oi := { dst := some 175, op := Op.binOp BinOp.sub 3 (Operand.tmp 174) (Operand.const (Value.int IntKind.i64 1)) 3, type := 3, pos := "plain.go:102", after := #[{ on := 4, ground := Ground.data }, { on := 2, ground := Ground.guard }], guard := some (2, true) }) (v := ?vqa5) rfl (by kernel_rfl) (by kernel_rfl) (by kernel_rfl) (fun _ _ _ h => h) (Or.inl ⟨by rfl, ?hqa5⟩) (by assumption) ?rqa5
          case hqa5 => (intro w0 hSw; (try dsimp only at hSw); go_simp; try (with_reducible rfl))
          simp only [Act.put, List.setIfInBounds_toArray, List.set_cons_zero, List.set_cons_succ]
          refine wpAnyH_take (i := 6) (oi := { dst := some 176, op := Op.indexAddr 32 (Operand.tmp 173) (Operand.tmp 175), type := 0, pos := "plain.go:102", after := #[{ on := 3, ground := Ground.data }, { on := 5, ground := Ground.data }, { on := 2, ground := Ground.guard }], guard := some (2, true) }) (v := ?vqa6) rfl (by kernel_rfl) (by kernel_rfl) (by kernel_rfl) (fun _ _ _ h => h) (Or.inl ⟨by rfl, ?hqa6⟩) (by assumption) ?rqa6
          case hqa6 => (intro w0 hSw; (try dsimp only at hSw); go_simp; try (with_reducible rfl))
          simp only [Act.put, List.setIfInBounds_toArray, List.set_cons_zero, List.set_cons_succ]
          refine wpAnyH_take (i := 7) (oi := { dst := some 177, op := Op.fieldAddr 36 (Operand.tmp 176) 0, type := 0, pos := "plain.go:102", after := #[{ on := 6, ground := Ground.data }, { on := 2, ground := Ground.guard }], guard := some (2, true) }) (v := ?vqa7) rfl (by kernel_rfl) (by kernel_rfl) (by kernel_rfl) (fun _ _ _ h => h) (Or.inl ⟨by rfl, ?hqa7⟩) (by assumption) ?rqa7
          case hqa7 => (intro w0 hSw; (try dsimp only at hSw); go_simp; try (with_reducible rfl))
          simp only [Act.put, List.setIfInBounds_toArray, List.set_cons_zero, List.set_cons_succ]
          refine wpAnyH_take (i := 8) (oi := { dst := some 178, op := Op.load 3 (Operand.tmp 177), type := 3, pos := "plain.go:102", after := #[{ on := 7, ground := Ground.data }, { on := 2, ground := Ground.guard }], guard := some (2, true) }) (v := ?vqa8) rfl (by kernel_rfl) (by kernel_rfl) (by kernel_rfl) (fun _ _ _ h => h) (Or.inl ⟨by rfl, ?hqa8⟩) (by assumption) ?rqa8
          case hqa8 => (intro w0 hSw; (try dsimp only at hSw); go_simp; try (with_reducible rfl))
          simp only [Act.put, List.setIfInBounds_toArray, List.set_cons_zero, List.set_cons_succ]
          refine wpAnyH_take (i := 9) (oi := { dst := some 179, op := Op.move (Operand.tmp 24), type := 3, pos := "plain.go:102", after := #[{ on := 2, ground := Ground.guard }], guard := some (2, true) }) (v := ?vqa9) rfl (by kernel_rfl) (by kernel_rfl) (by kernel_rfl) (fun _ _ _ h => h) (Or.inl ⟨by rfl, ?hqa9⟩) (by assumption) ?rqa9
          case hqa9 => (intro w0 hSw; (try dsimp only at hSw); go_simp; try (with_reducible rfl))
          simp only [Act.put, List.setIfInBounds_toArray, List.set_cons_zero, List.set_cons_succ]
          refine wpAnyH_take (i := 10) (oi := { dst := some 180, op := Op.binOp BinOp.gtr 3 (Operand.tmp 178) (Operand.tmp 179) 3, type := 4, pos := "plain.go:102", after := #[{ on := 8, ground := Ground.data }, { on := 9, ground := Ground.data }, { on := 2, ground := Ground.guard }], guard := some (2, true) }) (v := ?vqa10) rfl (by kernel_rfl) (by kernel_rfl) (by kernel_rfl) (fun _ _ _ h => h) (Or.inl ⟨by rfl, ?hqa10⟩) (by assumption) ?rqa10
          case hqa10 => (intro w0 hSw; (try dsimp only at hSw); go_simp; try (with_reducible rfl))
          simp only [Act.put, List.setIfInBounds_toArray, List.set_cons_zero, List.set_cons_succ]
          refine wpAnyH_take (i := 11) (oi := { dst := some 181, op := Op.move (Operand.tmp 180), type := 4, pos := "plain.go:102", after := #[{ on := 10, ground := Ground.data }, { on := 2, ground := Ground.chain }, { on := 2, ground := Ground.guard }], guard := some (2, true) }) (v := ?vqa11) rfl (by kernel_rfl) (by kernel_rfl) (by kernel_rfl) (fun _ _ _ h => h) (Or.inl ⟨by rfl, ?hqa11⟩) (by assumption) ?rqa11
          case hqa11 => (intro w0 hSw; (try dsimp only at hSw); go_simp; try (with_reducible rfl))
          simp only [Act.put, List.setIfInBounds_toArray, List.set_cons_zero, List.set_cons_succ]
          refine wpAnyH_take (i := 12) (oi := { dst := some 182, op := Op.move (Operand.tmp 15), type := 32, pos := "plain.go:102", after := #[{ on := 11, ground := Ground.guard }], guard := some (11, false) }) (v := ?vqa12) rfl (by kernel_rfl) (by kernel_rfl) (by kernel_rfl) (fun _ _ _ h => h) (Or.inl ⟨by rfl, ?hqa12⟩) (by assumption) ?rqa12
          case hqa12 => (intro w0 hSw; (try dsimp only at hSw); go_simp; try (with_reducible rfl))
          simp only [Act.put, List.setIfInBounds_toArray, List.set_cons_zero, List.set_cons_succ]
          refine wpAnyH_take (i := 13) (oi := { dst := some 183, op := Op.move (Operand.tmp 23), type := 3, pos := "plain.go:102", after := #[{ on := 11, ground := Ground.guard }], guard := some (11, false) }) (v := ?vqa13) rfl (by kernel_rfl) (by kernel_rfl) (by kernel_rfl) (fun _ _ _ h => h) (Or.inl ⟨by rfl, ?hqa13⟩) (by assumption) ?rqa13
          case hqa13 => (intro w0 hSw; (try dsimp only at hSw); go_simp; try (with_reducible rfl))
          simp only [Act.put, List.setIfInBounds_toArray, List.set_cons_zero, List.set_cons_succ]
          refine wpAnyH_take (i := 14) (oi := { dst := some 184, op := Op.binOp BinOp.sub 3 (Operand.tmp 183) (Operand.const (Value.int IntKind.i64 1)) 3, type := 3, pos := "plain.go:102", after := #[{ on := 13, ground := Ground.data }, { on := 11, ground := Ground.guard }], guard := some (11, false) }) (v := ?vqa14) rfl (by kernel_rfl) (by kernel_rfl) (by kernel_rfl) (fun _ _ _ h => h) (Or.inl ⟨by rfl, ?hqa14⟩) (by assumption) ?rqa14
          case hqa14 => (intro w0 hSw; (try dsimp only at hSw); go_simp; try (with_reducible rfl))
          simp only [Act.put, List.setIfInBounds_toArray, List.set_cons_zero, List.set_cons_succ]
          refine wpAnyH_take (i := 15) (oi := { dst := some 185, op := Op.indexAddr 32 (Operand.tmp 182) (Operand.tmp 184), type := 0, pos := "plain.go:102", after := #[{ on := 12, ground := Ground.data }, { on := 14, ground := Ground.data }, { on := 11, ground := Ground.guard }], guard := some (11, false) }) (v := ?vqa15) rfl (by kernel_rfl) (by kernel_rfl) (by kernel_rfl) (fun _ _ _ h => h) (Or.inl ⟨by rfl, ?hqa15⟩) (by assumption) ?rqa15
          case hqa15 => (intro w0 hSw; (try dsimp only at hSw); go_simp; try (with_reducible rfl))
          simp only [Act.put, List.setIfInBounds_toArray, List.set_cons_zero, List.set_cons_succ]
          refine wpAnyH_take (i := 16) (oi := { dst := some 186, op := Op.fieldAddr 36 (Operand.tmp 185) 0, type := 0, pos := "plain.go:102", after := #[{ on := 15, ground := Ground.data }, { on := 11, ground := Ground.guard }], guard := some (11, false) }) (v := ?vqa16) rfl (by kernel_rfl) (by kernel_rfl) (by kernel_rfl) (fun _ _ _ h => h) (Or.inl ⟨by rfl, ?hqa16⟩) (by assumption) ?rqa16
          case hqa16 => (intro w0 hSw; (try dsimp only at hSw); go_simp; try (with_reducible rfl))
          simp only [Act.put, List.setIfInBounds_toArray, List.set_cons_zero, List.set_cons_succ]
          refine wpAnyH_take (i := 17) (oi := { dst := some 187, op := Op.load 3 (Operand.tmp 186), type := 3, pos := "plain.go:102", after := #[{ on := 16, ground := Ground.data }, { on := 11, ground := Ground.guard }], guard := some (11, false) }) (v := ?vqa17) rfl (by kernel_rfl) (by kernel_rfl) (by kernel_rfl) (fun _ _ _ h => h) (Or.inl ⟨by rfl, ?hqa17⟩) (by assumption) ?rqa17
          case hqa17 => (intro w0 hSw; (try dsimp only at hSw); go_simp; try (with_reducible rfl))
          simp only [Act.put, List.setIfInBounds_toArray, List.set_cons_zero, List.set_cons_succ]
          refine wpAnyH_take (i := 18) (oi := { dst := some 188, op := Op.move (Operand.tmp 24), type := 3, pos := "plain.go:102", after := #[{ on := 11, ground := Ground.guard }], guard := some (11, false) }) (v := ?vqa18) rfl (by kernel_rfl) (by kernel_rfl) (by kernel_rfl) (fun _ _ _ h => h) (Or.inl ⟨by rfl, ?hqa18⟩) (by assumption) ?rqa18
          case hqa18 => (intro w0 hSw; (try dsimp only at hSw); go_simp; try (with_reducible rfl))
          simp only [Act.put, List.setIfInBounds_toArray, List.set_cons_zero, List.set_cons_succ]
          refine wpAnyH_take (i := 19) (oi := { dst := some 189, op := Op.binOp BinOp.eql 3 (Operand.tmp 187) (Operand.tmp 188) 3, type := 4, pos := "plain.go:102", after := #[{ on := 17, ground := Ground.data }, { on := 18, ground := Ground.data }, { on := 11, ground := Ground.guard }], guard := some (11, false) }) (v := ?vqa19) rfl (by kernel_rfl) (by kernel_rfl) (by kernel_rfl) (fun _ _ _ h => h) (Or.inl ⟨by rfl, ?hqa19⟩) (by assumption) ?rqa19
          case hqa19 => (intro w0 hSw; (try dsimp only at hSw); go_simp; try (with_reducible rfl))
          simp only [Act.put, List.setIfInBounds_toArray, List.set_cons_zero, List.set_cons_succ]
          refine wpAnyH_take (i := 20) (oi := { dst := some 190, op := Op.move (Operand.tmp 189), type := 4, pos := "plain.go:102", after := #[{ on := 19, ground := Ground.data }, { on := 11, ground := Ground.chain }, { on := 11, ground := Ground.guard }], guard := some (11, false) }) (v := ?vqa20) rfl (by kernel_rfl) (by kernel_rfl) (by kernel_rfl) (fun _ _ _ h => h) (Or.inl ⟨by rfl, ?hqa20⟩) (by assumption) ?rqa20
          case hqa20 => (intro w0 hSw; (try dsimp only at hSw); go_simp; try (with_reducible rfl))
          simp only [Act.put, List.setIfInBounds_toArray, List.set_cons_zero, List.set_cons_succ]
          refine wpAnyH_take (i := 21) (oi := { dst := some 191, op := Op.move (Operand.tmp 15), type := 32, pos := "plain.go:102", after := #[{ on := 20, ground := Ground.guard }], guard := some (20, true) }) rfl (by kernel_rfl) (by kernel_rfl) (by kernel_rfl) (fun _ _ _ h => h) (Or.inr ⟨by rfl, rfl⟩) (by assumption) ?_
          simp only [Act.put, List.setIfInBounds_toArray, List.set_cons_zero, List.set_cons_succ]
          refine wpAnyH_take (i := 22) (oi := { dst := some 192, op := Op.move (Operand.tmp 23), type := 3, pos := "plain.go:102", after := #[{ on := 20, ground := Ground.guard }], guard := some (20, true) }) rfl (by kernel_rfl) (by kernel_rfl) (by kernel_rfl) (fun _ _ _ h => h) (Or.inr ⟨by rfl, rfl⟩) (by assumption) ?_
          simp only [Act.put, List.setIfInBounds_toArray, List.set_cons_zero, List.set_cons_succ]
          refine wpAnyH_take (i := 23) (oi := { dst := some 193, op := Op.binOp BinOp.sub 3 (Operand.tmp 192) (Operand.const (Value.int IntKind.i64 1)) 3, type := 3, pos := "plain.go:102", after := #[{ on := 22, ground := Ground.data }, { on := 20, ground := Ground.guard }], guard := some (20, true) }) rfl (by kernel_rfl) (by kernel_rfl) (by kernel_rfl) (fun _ _ _ h => h) (Or.inr ⟨by rfl, rfl⟩) (by assumption) ?_
          simp only [Act.put, List.setIfInBounds_toArray, List.set_cons_zero, List.set_cons_succ]
          refine wpAnyH_take (i := 24) (oi := { dst := some 194, op := Op.indexAddr 32 (Operand.tmp 191) (Operand.tmp 193), type := 0, pos := "plain.go:102", after := #[{ on := 21, ground := Ground.data }, { on := 23, ground := Ground.data }, { on := 20, ground := Ground.guard }], guard := some (20, true) }) rfl (by kernel_rfl) (by kernel_rfl) (by kernel_rfl) (fun _ _ _ h => h) (Or.inr ⟨by rfl, rfl⟩) (by assumption) ?_
          simp only [Act.put, List.setIfInBounds_toArray, List.set_cons_zero, List.set_cons_succ]
          refine wpAnyH_take (i := 25) (oi := { dst := some 195, op := Op.fieldAddr 36 (Operand.tmp 194) 1, type := 0, pos := "plain.go:102", after := #[{ on := 24, ground := Ground.data }, { on := 20, ground := Ground.guard }], guard := some (20, true) }) rfl (by kernel_rfl) (by kernel_rfl) (by kernel_rfl) (fun _ _ _ h => h) (Or.inr ⟨by rfl, rfl⟩) (by assumption) ?_
          simp only [Act.put, List.setIfInBounds_toArray, List.set_cons_zero, List.set_cons_succ]
          refine wpAnyH_take (i := 26) (oi := { dst := some 196, op := Op.load 3 (Operand.tmp 195), type := 3, pos := "plain.go:102", after := #[{ on := 25, ground := Ground.data }, { on := 20, ground := Ground.guard }], guard := some (20, true) }) rfl (by kernel_rfl) (by kernel_rfl) (by kernel_rfl) (fun _ _ _ h => h) (Or.inr ⟨by rfl, rfl⟩) (by assumption) ?_
          simp only [Act.put, List.setIfInBounds_toArray, List.set_cons_zero, List.set_cons_succ]
          refine wpAnyH_take (i := 27) (oi := { dst := some 197, op := Op.move (Operand.tmp 15), type := 32, pos := "plain.go:102", after := #[{ on := 20, ground := Ground.guard }], guard := some (20, true) }) rfl (by kernel_rfl) (by kernel_rfl) (by kernel_rfl) (fun _ _ _ h => h) (Or.inr ⟨by rfl, rfl⟩) (by assumption) ?_
          simp only [Act.put, List.setIfInBounds_toArray, List.set_cons_zero, List.set_cons_succ]
          refine wpAnyH_take (i := 28) (oi := { dst := some 198, op := Op.move (Operand.tmp 23), type := 3, pos := "plain.go:102", after := #[{ on := 20, ground := Ground.guard }], guard := some (20, true) }) rfl (by kernel_rfl) (by kernel_rfl) (by kernel_rfl) (fun _ _ _ h => h) (Or.inr ⟨by rfl, rfl⟩) (by assumption) ?_
          simp only [Act.put, List.setIfInBounds_toArray, List.set_cons_zero, List.set_cons_succ]
          refine wpAnyH_take (i := 29) (oi := { dst := some 199, op := Op.indexAddr 32 (Operand.tmp 197) (Operand.tmp 198), type := 0, pos := "plain.go:102", after := #[{ on := 27, ground := Ground.data }, { on := 28, ground := Ground.data }, { on := 20, ground := Ground.guard }], guard := some (20, true) }) rfl (by kernel_rfl) (by kernel_rfl) (by kernel_rfl) (fun _ _ _ h => h) (Or.inr ⟨by rfl, rfl⟩) (by assumption) ?_
          simp only [Act.put, List.setIfInBounds_toArray, List.set_cons_zero, List.set_cons_succ]
          refine wpAnyH_take (i := 30) (oi := { dst := some 200, op := Op.fieldAddr 36 (Operand.tmp 199) 1, type := 0, pos := "plain.go:102", after := #[{ on := 29, ground := Ground.data }, { on := 20, ground := Ground.guard }], guard := some (20, true) }) rfl (by kernel_rfl) (by kernel_rfl) (by kernel_rfl) (fun _ _ _ h => h) (Or.inr ⟨by rfl, rfl⟩) (by assumption) ?_
          simp only [Act.put, List.setIfInBounds_toArray, List.set_cons_zero, List.set_cons_succ]
          refine wpAnyH_take (i := 31) (oi := { dst := some 201, op := Op.load 3 (Operand.tmp 200), type := 3, pos := "plain.go:102", after := #[{ on := 30, ground := Ground.data }, { on := 20, ground := Ground.guard }], guard := some (20, true) }) rfl (by kernel_rfl) (by kernel_rfl) (by kernel_rfl) (fun _ _ _ h => h) (Or.inr ⟨by rfl, rfl⟩) (by assumption) ?_
          simp only [Act.put, List.setIfInBounds_toArray, List.set_cons_zero, List.set_cons_succ]
          refine wpAnyH_take (i := 32) (oi := { dst := some 202, op := Op.binOp BinOp.geq 3 (Operand.tmp 196) (Operand.tmp 201) 3, type := 4, pos := "plain.go:102", after := #[{ on := 26, ground := Ground.data }, { on := 31, ground := Ground.data }, { on := 20, ground := Ground.guard }], guard := some (20, true) }) rfl (by kernel_rfl) (by kernel_rfl) (by kernel_rfl) (fun _ _ _ h => h) (Or.inr ⟨by rfl, rfl⟩) (by assumption) ?_
          simp only [Act.put, List.setIfInBounds_toArray, List.set_cons_zero, List.set_cons_succ]
          refine wpAnyH_take (i := 33) (oi := { dst := some 203, op := Op.pick (Operand.tmp 190) (Operand.tmp 202) (Operand.const (Value.bool false)), type := 4, pos := "plain.go:102", after := #[{ on := 20, ground := Ground.data }, { on := 32, ground := Ground.data }, { on := 11, ground := Ground.guard }], guard := some (11, false) }) (v := ?vqa33) rfl (by kernel_rfl) (by kernel_rfl) (by kernel_rfl) (fun _ _ _ h => h) (Or.inl ⟨by rfl, ?hqa33⟩) (by assumption) ?rqa33
          case hqa33 => (intro w0 hSw; (try dsimp only at hSw); go_simp; try (with_reducible rfl))
          simp only [Act.put, List.setIfInBounds_toArray, List.set_cons_zero, List.set_cons_succ]
          refine wpAnyH_take (i := 34) (oi := { dst := some 204, op := Op.pick (Operand.tmp 181) (Operand.const (Value.bool true)) (Operand.tmp 203), type := 4, pos := "plain.go:102", after := #[{ on := 11, ground := Ground.data }, { on := 33, ground := Ground.data }, { on := 2, ground := Ground.guard }], guard := some (2, true) }) (v := ?vqa34) rfl (by kernel_rfl) (by kernel_rfl) (by kernel_rfl) (fun _ _ _ h => h) (Or.inl ⟨by rfl, ?hqa34⟩) (by assumption) ?rqa34
          case hqa34 => (intro w0 hSw; (try dsimp only at hSw); go_simp; try (with_reducible rfl))
          simp only [Act.put, List.setIfInBounds_toArray, List.set_cons_zero, List.set_cons_succ]
          refine wpAnyH_take (i := 35) (oi := { dst := some 205, op := Op.pick (Operand.tmp 172) (Operand.tmp 204) (Operand.const (Value.bool false)), type := 4, pos := "plain.go:102", after := #[{ on := 2, ground := Ground.data }, { on := 34, ground := Ground.data }], guard := none }) (v := ?vqa35) rfl (by kernel_rfl) (by kernel_rfl) (by kernel_rfl) (fun _ _ _ h => h) (Or.inl ⟨by rfl, ?hqa35⟩) (by assumption) ?rqa35
          case hqa35 => (intro w0 hSw; (try dsimp only at hSw); go_simp; try (with_reducible rfl))
          simp only [Act.put, List.setIfInBounds_toArray, List.set_cons_zero, List.set_cons_succ]
          refine wpAnyH_done (by kernel_rfl) ?_ _
          go_wp2_with fail
          exact ⟨(HSt.out _ (bb.trans (drewN_below _ _ _))).2.2, by simp only [intOf]; omega⟩
        · subst h1
          have k3 : ¬ A.i ≤ I := by omega
          clear h2
          go_wp2_with fail
          refine wp_region_held_drew (S := fun w' => w'.cell? ⟨g, o + ip * 3, none⟩ = some (.int .i64 d) ∧ w'.cell? ⟨g, o + ip * 3 + 1, none⟩ = some (.int .i64 I) ∧ w'.cell? ⟨g, o + i * 3 + 1, none⟩ = some (.int .i64 A.i)) (by kernel_rfl) ?_ (fun hHeld => ?_)
          · exact ⟨p0, p1, x1⟩
          refine wpAnyH_take (i := 0) (oi := { dst := some 170, op := Op.move (Operand.tmp 23), type := 3, pos := "plain.go:102", after := #[], guard := none }) (v := ?vqb0) rfl (by kernel_rfl) (by kernel_rfl) (by kernel_rfl) (fun _ _ _ h => h) (Or.inl ⟨by rfl, ?hqb0⟩) (by assumption) ?rqb0
          case hqb0 => (intro w0 hSw; (try dsimp only at hSw); go_simp; try (with_reducible rfl))
          simp only [Act.put, List.setIfInBounds_toArray, List.set_cons_zero, List.set_cons_succ]
          refine wpAnyH_take (i := 1) (oi := { dst := some 171, op := Op.binOp BinOp.gtr 3 (Operand.tmp 170) (Operand.const (Value.int IntKind.i64 0)) 3, type := 4, pos := "plain.go:102", after := #[{ on := 0, ground := Ground.data }], guard := none }) (v := ?vqb1) rfl (by kernel_rfl) (by kernel_rfl) (by kernel_rfl) (fun _ _ _ h => h) (Or.inl ⟨by rfl, ?hqb1⟩) (by assumption) ?rqb1
          case hqb1 => (intro w0 hSw; (try dsimp only at hSw); go_simp; try (with_reducible rfl))
          simp only [Act.put, List.setIfInBounds_toArray, List.set_cons_zero, List.set_cons_succ]
          refine wpAnyH_take (i := 2) (oi := { dst := some 172, op := Op.move (Operand.tmp 171), type := 4, pos := "plain.go:102", after := #[{ on := 1, ground := Ground.data }], guard := none }) (v := ?vqb2) rfl (by kernel_rfl) (by kernel_rfl) (by kernel_rfl) (fun _ _ _ h => h) (Or.inl ⟨by rfl, ?hqb2⟩) (by assumption) ?rqb2
          case hqb2 => (intro w0 hSw; (try dsimp only at hSw); go_simp; try (with_reducible rfl))
          simp only [Act.put, List.setIfInBounds_toArray, List.set_cons_zero, List.set_cons_succ]
          refine wpAnyH_take (i := 3) (oi := { dst := some 173, op := Op.move (Operand.tmp 15), type := 32, pos := "plain.go:102", after := #[{ on := 2, ground := Ground.guard }], guard := some (2, true) }) (v := ?vqb3) rfl (by kernel_rfl) (by kernel_rfl) (by kernel_rfl) (fun _ _ _ h => h) (Or.inl ⟨by rfl, ?hqb3⟩) (by assumption) ?rqb3
          case hqb3 => (intro w0 hSw; (try dsimp only at hSw); go_simp; try (with_reducible rfl))
          simp only [Act.put, List.setIfInBounds_toArray, List.set_cons_zero, List.set_cons_succ]
          refine wpAnyH_take (i := 4) (oi := { dst := some 174, op := Op.move (Operand.tmp 23), type := 3, pos := "plain.go:102", after := #[{ on := 2, ground := Ground.guard }], guard := some (2, true) }) (v := ?vqb4) rfl (by kernel_rfl) (by kernel_rfl) (by kernel_rfl) (fun _ _ _ h => h) (Or.inl ⟨by rfl, ?hqb4⟩) (by assumption) ?rqb4
          case hqb4 => (intro w0 hSw; (try dsimp only at hSw); go_simp; try (with_reducible rfl))
          simp only [Act.put, List.setIfInBounds_toArray, List.set_cons_zero, List.set_cons_succ]
          refine wpAnyH_take (i := 5) (oi := { dst := some 175, op := Op.binOp BinOp.sub 3 (Operand.tmp 174) (Operand.const (Value.int IntKind.i64 1)) 3, type := 3, pos := "plain.go:102", after := #[{ on := 4, ground := Ground.data }, { on := 2, ground := Ground.guard }], guard := some (2, true) }) (v := ?vqb5) rfl (by kernel_rfl) (by kernel_rfl) (by kernel_rfl) (fun _ _ _ h => h) (Or.inl ⟨by rfl, ?hqb5⟩) (by assumption) ?rqb5
          case hqb5 => (intro w0 hSw; (try dsimp only at hSw); go_simp; try (with_reducible rfl))
          simp only [Act.put, List.setIfInBounds_toArray, List.set_cons_zero, List.set_cons_succ]
          refine wpAnyH_take (i := 6) (oi := { dst := some 176, op := Op.indexAddr 32 (Operand.tmp 173) (Operand.tmp 175), type := 0, pos := "plain.go:102", after := #[{ on := 3, ground := Ground.data }, { on := 5, ground := Ground.data }, { on := 2, ground := Ground.guard }], guard := some (2, true) }) (v := ?vqb6) rfl (by kernel_rfl) (by kernel_rfl) (by kernel_rfl) (fun _ _ _ h => h) (Or.inl ⟨by rfl, ?hqb6⟩) (by assumption) ?rqb6
          case hqb6 => (intro w0 hSw; (try dsimp only at hSw); go_simp; try (with_reducible rfl))
          simp only [Act.put, List.setIfInBounds_toArray, List.set_cons_zero, List.set_cons_succ]
          refine wpAnyH_take (i := 7) (oi := { dst := some 177, op := Op.fieldAddr 36 (Operand.tmp 176) 0, type := 0, pos := "plain.go:102", after := #[{ on := 6, ground := Ground.data }, { on := 2, ground := Ground.guard }], guard := some (2, true) }) (v := ?vqb7) rfl (by kernel_rfl) (by kernel_rfl) (by kernel_rfl) (fun _ _ _ h => h) (Or.inl ⟨by rfl, ?hqb7⟩) (by assumption) ?rqb7
          case hqb7 => (intro w0 hSw; (try dsimp only at hSw); go_simp; try (with_reducible rfl))
          simp only [Act.put, List.setIfInBounds_toArray, List.set_cons_zero, List.set_cons_succ]
          refine wpAnyH_take (i := 8) (oi := { dst := some 178, op := Op.load 3 (Operand.tmp 177), type := 3, pos := "plain.go:102", after := #[{ on := 7, ground := Ground.data }, { on := 2, ground := Ground.guard }], guard := some (2, true) }) (v := ?vqb8) rfl (by kernel_rfl) (by kernel_rfl) (by kernel_rfl) (fun _ _ _ h => h) (Or.inl ⟨by rfl, ?hqb8⟩) (by assumption) ?rqb8
          case hqb8 => (intro w0 hSw; (try dsimp only at hSw); go_simp; try (with_reducible rfl))
          simp only [Act.put, List.setIfInBounds_toArray, List.set_cons_zero, List.set_cons_succ]
          refine wpAnyH_take (i := 9) (oi := { dst := some 179, op := Op.move (Operand.tmp 24), type := 3, pos := "plain.go:102", after := #[{ on := 2, ground := Ground.guard }], guard := some (2, true) }) (v := ?vqb9) rfl (by kernel_rfl) (by kernel_rfl) (by kernel_rfl) (fun _ _ _ h => h) (Or.inl ⟨by rfl, ?hqb9⟩) (by assumption) ?rqb9
          case hqb9 => (intro w0 hSw; (try dsimp only at hSw); go_simp; try (with_reducible rfl))
          simp only [Act.put, List.setIfInBounds_toArray, List.set_cons_zero, List.set_cons_succ]
          refine wpAnyH_take (i := 10) (oi := { dst := some 180, op := Op.binOp BinOp.gtr 3 (Operand.tmp 178) (Operand.tmp 179) 3, type := 4, pos := "plain.go:102", after := #[{ on := 8, ground := Ground.data }, { on := 9, ground := Ground.data }, { on := 2, ground := Ground.guard }], guard := some (2, true) }) (v := ?vqb10) rfl (by kernel_rfl) (by kernel_rfl) (by kernel_rfl) (fun _ _ _ h => h) (Or.inl ⟨by rfl, ?hqb10⟩) (by assumption) ?rqb10
          case hqb10 => (intro w0 hSw; (try dsimp only at hSw); go_simp; try (with_reducible rfl))
          simp only [Act.put, List.setIfInBounds_toArray, List.set_cons_zero, List.set_cons_succ]
          refine wpAnyH_take (i := 11) (oi := { dst := some 181, op := Op.move (Operand.tmp 180), type := 4, pos := "plain.go:102", after := #[{ on := 10, ground := Ground.data }, { on := 2, ground := Ground.chain }, { on := 2, ground := Ground.guard }], guard := some (2, true) }) (v := ?vqb11) rfl (by kernel_rfl) (by kernel_rfl) (by kernel_rfl) (fun _ _ _ h => h) (Or.inl ⟨by rfl, ?hqb11⟩) (by assumption) ?rqb11
          case hqb11 => (intro w0 hSw; (try dsimp only at hSw); go_simp; try (with_reducible rfl))
          simp only [Act.put, List.setIfInBounds_toArray, List.set_cons_zero, List.set_cons_succ]
          refine wpAnyH_take (i := 12) (oi := { dst := some 182, op := Op.move (Operand.tmp 15), type := 32, pos := "plain.go:102", after := #[{ on := 11, ground := Ground.guard }], guard := some (11, false) }) (v := ?vqb12) rfl (by kernel_rfl) (by kernel_rfl) (by kernel_rfl) (fun _ _ _ h => h) (Or.inl ⟨by rfl, ?hqb12⟩) (by assumption) ?rqb12
          case hqb12 => (intro w0 hSw; (try dsimp only at hSw); go_simp; try (with_reducible rfl))
          simp only [Act.put, List.setIfInBounds_toArray, List.set_cons_zero, List.set_cons_succ]
          refine wpAnyH_take (i := 13) (oi := { dst := some 183, op := Op.move (Operand.tmp 23), type := 3, pos := "plain.go:102", after := #[{ on := 11, ground := Ground.guard }], guard := some (11, false) }) (v := ?vqb13) rfl (by kernel_rfl) (by kernel_rfl) (by kernel_rfl) (fun _ _ _ h => h) (Or.inl ⟨by rfl, ?hqb13⟩) (by assumption) ?rqb13
          case hqb13 => (intro w0 hSw; (try dsimp only at hSw); go_simp; try (with_reducible rfl))
          simp only [Act.put, List.setIfInBounds_toArray, List.set_cons_zero, List.set_cons_succ]
          refine wpAnyH_take (i := 14) (oi := { dst := some 184, op := Op.binOp BinOp.sub 3 (Operand.tmp 183) (Operand.const (Value.int IntKind.i64 1)) 3, type := 3, pos := "plain.go:102", after := #[{ on := 13, ground := Ground.data }, { on := 11, ground := Ground.guard }], guard := some (11, false) }) (v := ?vqb14) rfl (by kernel_rfl) (by kernel_rfl) (by kernel_rfl) (fun _ _ _ h => h) (Or.inl ⟨by rfl, ?hqb14⟩) (by assumption) ?rqb14
          case hqb14 => (intro w0 hSw; (try dsimp only at hSw); go_simp; try (with_reducible rfl))
          simp only [Act.put, List.setIfInBounds_toArray, List.set_cons_zero, List.set_cons_succ]
          refine wpAnyH_take (i := 15) (oi := { dst := some 185, op := Op.indexAddr 32 (Operand.tmp 182) (Operand.tmp 184), type := 0, pos := "plain.go:102", after := #[{ on := 12, ground := Ground.data }, { on := 14, ground := Ground.data }, { on := 11, ground := Ground.guard }], guard := some (11, false) }) (v := ?vqb15) rfl (by kernel_rfl) (by kernel_rfl) (by kernel_rfl) (fun _ _ _ h => h) (Or.inl ⟨by rfl, ?hqb15⟩) (by assumption) ?rqb15
          case hqb15 => (intro w0 hSw; (try dsimp only at hSw); go_simp; try (with_reducible rfl))
          simp only [Act.put, List.setIfInBounds_toArray, List.set_cons_zero, List.set_cons_succ]
          refine wpAnyH_take (i := 16) (oi := { dst := some 186, op := Op.fieldAddr 36 (Operand.tmp 185) 0, type := 0, pos := "plain.go:102", after := #[{ on := 15, ground := Ground.data }, { on := 11, ground := Ground.guard }], guard := some (11, false) }) (v := ?vqb16) rfl (by kernel_rfl) (by kernel_rfl) (by kernel_rfl) (fun _ _ _ h => h) (Or.inl ⟨by rfl, ?hqb16⟩) (by assumption) ?rqb16
          case hqb16 => (intro w0 hSw; (try dsimp only at hSw); go_simp; try (with_reducible rfl))
          simp only [Act.put, List.setIfInBounds_toArray, List.set_cons_zero, List.set_cons_succ]
          refine wpAnyH_take (i := 17) (oi := { dst := some 187, op := Op.load 3 (Operand.tmp 186), type := 3, pos := "plain.go:102", after := #[{ on := 16, ground := Ground.data }, { on := 11, ground := Ground.guard }], guard := some (11, false) }) (v := ?vqb17) rfl (by kernel_rfl) (by kernel_rfl) (by kernel_rfl) (fun _ _ _ h => h) (Or.inl ⟨by rfl, ?hqb17⟩) (by assumption) ?rqb17
          case hqb17 => (intro w0 hSw; (try dsimp only at hSw); go_simp; try (with_reducible rfl))
          simp only [Act.put, List.setIfInBounds_toArray, List.set_cons_zero, List.set_cons_succ]
          refine wpAnyH_take (i := 18) (oi := { dst := some 188, op := Op.move (Operand.tmp 24), type := 3, pos := "plain.go:102", after := #[{ on := 11, ground := Ground.guard }], guard := some (11, false) }) (v := ?vqb18) rfl (by kernel_rfl) (by kernel_rfl) (by kernel_rfl) (fun _ _ _ h => h) (Or.inl ⟨by rfl, ?hqb18⟩) (by assumption) ?rqb18
          case hqb18 => (intro w0 hSw; (try dsimp only at hSw); go_simp; try (with_reducible rfl))
          simp only [Act.put, List.setIfInBounds_toArray, List.set_cons_zero, List.set_cons_succ]
          refine wpAnyH_take (i := 19) (oi := { dst := some 189, op := Op.binOp BinOp.eql 3 (Operand.tmp 187) (Operand.tmp 188) 3, type := 4, pos := "plain.go:102", after := #[{ on := 17, ground := Ground.data }, { on := 18, ground := Ground.data }, { on := 11, ground := Ground.guard }], guard := some (11, false) }) (v := ?vqb19) rfl (by kernel_rfl) (by kernel_rfl) (by kernel_rfl) (fun _ _ _ h => h) (Or.inl ⟨by rfl, ?hqb19⟩) (by assumption) ?rqb19
          case hqb19 => (intro w0 hSw; (try dsimp only at hSw); go_simp; try (with_reducible rfl))
          simp only [Act.put, List.setIfInBounds_toArray, List.set_cons_zero, List.set_cons_succ]
          refine wpAnyH_take (i := 20) (oi := { dst := some 190, op := Op.move (Operand.tmp 189), type := 4, pos := "plain.go:102", after := #[{ on := 19, ground := Ground.data }, { on := 11, ground := Ground.chain }, { on := 11, ground := Ground.guard }], guard := some (11, false) }) (v := ?vqb20) rfl (by kernel_rfl) (by kernel_rfl) (by kernel_rfl) (fun _ _ _ h => h) (Or.inl ⟨by rfl, ?hqb20⟩) (by assumption) ?rqb20
          case hqb20 => (intro w0 hSw; (try dsimp only at hSw); go_simp; try (with_reducible rfl))
          simp only [Act.put, List.setIfInBounds_toArray, List.set_cons_zero, List.set_cons_succ]
          refine wpAnyH_take (i := 21) (oi := { dst := some 191, op := Op.move (Operand.tmp 15), type := 32, pos := "plain.go:102", after := #[{ on := 20, ground := Ground.guard }], guard := some (20, true) }) (v := ?vqb21) rfl (by kernel_rfl) (by kernel_rfl) (by kernel_rfl) (fun _ _ _ h => h) (Or.inl ⟨by rfl, ?hqb21⟩) (by assumption) ?rqb21
          case hqb21 => (intro w0 hSw; (try dsimp only at hSw); go_simp; try (with_reducible rfl))
          simp only [Act.put, List.setIfInBounds_toArray, List.set_cons_zero, List.set_cons_succ]
          refine wpAnyH_take (i := 22) (oi := { dst := some 192, op := Op.move (Operand.tmp 23), type := 3, pos := "plain.go:102", after := #[{ on := 20, ground := Ground.guard }], guard := some (20, true) }) (v := ?vqb22) rfl (by kernel_rfl) (by kernel_rfl) (by kernel_rfl) (fun _ _ _ h => h) (Or.inl ⟨by rfl, ?hqb22⟩) (by assumption) ?rqb22
          case hqb22 => (intro w0 hSw; (try dsimp only at hSw); go_simp; try (with_reducible rfl))
          simp only [Act.put, List.setIfInBounds_toArray, List.set_cons_zero, List.set_cons_succ]
          refine wpAnyH_take (i := 23) (oi := { dst := some 193, op := Op.binOp BinOp.sub 3 (Operand.tmp 192) (Operand.const (Value.int IntKind.i64 1)) 3, type := 3, pos := "plain.go:102", after := #[{ on := 22, ground := Ground.data }, { on := 20, ground := Ground.guard }], guard := some (20, true) }) (v := ?vqb23) rfl (by kernel_rfl) (by kernel_rfl) (by kernel_rfl) (fun _ _ _ h => h) (Or.inl ⟨by rfl, ?hqb23⟩) (by assumption) ?rqb23
          case hqb23 => (intro w0 hSw; (try dsimp only at hSw); go_simp; try (with_reducible rfl))
          simp only [Act.put, List.setIfInBounds_toArray, List.set_cons_zero, List.set_cons_succ]
          refine wpAnyH_take (i := 24) (oi := { dst := some 194, op := Op.indexAddr 32 (Operand.tmp 191) (Operand.tmp 193), type := 0, pos := "plain.go:102", after := #[{ on := 21, ground := Ground.data }, { on := 23, ground := Ground.data }, { on := 20, ground := Ground.guard }], guard := some (20, true) }) (v := ?vqb24) rfl (by kernel_rfl) (by kernel_rfl) (by kernel_rfl) (fun _ _ _ h => h) (Or.inl ⟨by rfl, ?hqb24⟩) (by assumption) ?rqb24
          case hqb24 => (intro w0 hSw; (try dsimp only at hSw); go_simp; try (with_reducible rfl))
          simp only [Act.put, List.setIfInBounds_toArray, List.set_cons_zero, List.set_cons_succ]
          refine wpAnyH_take (i := 25) (oi := { dst := some 195, op := Op.fieldAddr 36 (Operand.tmp 194) 1, type := 0, pos := "plain.go:102", after := #[{ on := 24, ground := Ground.data }, { on := 20, ground := Ground.guard }], guard := some (20, true) }) (v := ?vqb25) rfl (by kernel_rfl) (by kernel_rfl) (by kernel_rfl) (fun _ _ _ h => h) (Or.inl ⟨by rfl, ?hqb25⟩) (by assumption) ?rqb25
          case hqb25 => (intro w0 hSw; (try dsimp only at hSw); go_simp; try (with_reducible rfl))
          simp only [Act.put, List.setIfInBounds_toArray, List.set_cons_zero, List.set_cons_succ]
          refine wpAnyH_take (i := 26) (oi := { dst := some 196, op := Op.load 3 (Operand.tmp 195), type := 3, pos := "plain.go:102", after := #[{ on := 25, ground := Ground.data }, { on := 20, ground := Ground.guard }], guard := some (20, true) }) (v := ?vqb26) rfl (by kernel_rfl) (by kernel_rfl) (by kernel_rfl) (fun _ _ _ h => h) (Or.inl ⟨by rfl, ?hqb26⟩) (by assumption) ?rqb26
          case hqb26 => (intro w0 hSw; (try dsimp only at hSw); go_simp; try (with_reducible rfl))
          simp only [Act.put, List.setIfInBounds_toArray, List.set_cons_zero, List.set_cons_succ]
          refine wpAnyH_take (i := 27) (oi := { dst := some 197, op := Op.move (Operand.tmp 15), type := 32, pos := "plain.go:102", after := #[{ on := 20, ground := Ground.guard }], guard := some (20, true) }) (v := ?vqb27) rfl (by kernel_rfl) (by kernel_rfl) (by kernel_rfl) (fun _ _ _ h => h) (Or.inl ⟨by rfl, ?hqb27⟩) (by assumption) ?rqb27
          case hqb27 => (intro w0 hSw; (try dsimp only at hSw); go_simp; try (with_reducible rfl))
          simp only [Act.put, List.setIfInBounds_toArray, List.set_cons_zero, List.set_cons_succ]
          refine wpAnyH_take (i := 28) (oi := { dst := some 198, op := Op.move (Operand.tmp 23), type := 3, pos := "plain.go:102", after := #[{ on := 20, ground := Ground.guard }], guard := some (20, true) }) (v := ?vqb28) rfl (by kernel_rfl) (by kernel_rfl) (by kernel_rfl) (fun _ _ _ h => h) (Or.inl ⟨by rfl, ?hqb28⟩) (by assumption) ?rqb28
          case hqb28 => (intro w0 hSw; (try dsimp only at hSw); go_simp; try (with_reducible rfl))
          simp only [Act.put, List.setIfInBounds_toArray, List.set_cons_zero, List.set_cons_succ]
          refine wpAnyH_take (i := 29) (oi := { dst := some 199, op := Op.indexAddr 32 (Operand.tmp 197) (Operand.tmp 198), type := 0, pos := "plain.go:102", after := #[{ on := 27, ground := Ground.data }, { on := 28, ground := Ground.data }, { on := 20, ground := Ground.guard }], guard := some (20, true) }) (v := ?vqb29) rfl (by kernel_rfl) (by kernel_rfl) (by kernel_rfl) (fun _ _ _ h => h) (Or.inl ⟨by rfl, ?hqb29⟩) (by assumption) ?rqb29
          case hqb29 => (intro w0 hSw; (try dsimp only at hSw); go_simp; try (with_reducible rfl))
          simp only [Act.put, List.setIfInBounds_toArray, List.set_cons_zero, List.set_cons_succ]
          refine wpAnyH_take (i := 30) (oi := { dst := some 200, op := Op.fieldAddr 36 (Operand.tmp 199) 1, type := 0, pos := "plain.go:102", after := #[{ on := 29, ground := Ground.data }, { on := 20, ground := Ground.guard }], guard := some (20, true) }) (v := ?vqb30) rfl (by kernel_rfl) (by kernel_rfl) (by kernel_rfl) (fun _ _ _ h => h) (Or.inl ⟨by rfl, ?hqb30⟩) (by assumption) ?rqb30
          case hqb30 => (intro w0 hSw; (try dsimp only at hSw); go_simp; try (with_reducible rfl))
          simp only [Act.put, List.setIfInBounds_toArray, List.set_cons_zero, List.set_cons_succ]
          refine wpAnyH_take (i := 31) (oi := { dst := some 201, op := Op.load 3 (Operand.tmp 200), type := 3, pos := "plain.go:102", after := #[{ on := 30, ground := Ground.data }, { on := 20, ground := Ground.guard }], guard := some (20, true) }) (v := ?vqb31) rfl (by kernel_rfl) (by kernel_rfl) (by kernel_rfl) (fun _ _ _ h => h) (Or.inl ⟨by rfl, ?hqb31⟩) (by assumption) ?rqb31
          case hqb31 => (intro w0 hSw; (try dsimp only at hSw); go_simp; try (with_reducible rfl))
          simp only [Act.put, List.setIfInBounds_toArray, List.set_cons_zero, List.set_cons_succ]
          refine wpAnyH_take (i := 32) (oi := { dst := some 202, op := Op.binOp BinOp.geq 3 (Operand.tmp 196) (Operand.tmp 201) 3, type := 4, pos := "plain.go:102", after := #[{ on := 26, ground := Ground.data }, { on := 31, ground := Ground.data }, { on := 20, ground := Ground.guard }], guard := some (20, true) }) (v := ?vqb32) rfl (by kernel_rfl) (by kernel_rfl) (by kernel_rfl) (fun _ _ _ h => h) (Or.inl ⟨by rfl, ?hqb32⟩) (by assumption) ?rqb32
          case hqb32 => (intro w0 hSw; (try dsimp only at hSw); go_simp; try (with_reducible rfl))
          simp only [Act.put, List.setIfInBounds_toArray, List.set_cons_zero, List.set_cons_succ]
          refine wpAnyH_take (i := 33) (oi := { dst := some 203, op := Op.pick (Operand.tmp 190) (Operand.tmp 202) (Operand.const (Value.bool false)), type := 4, pos := "plain.go:102", after := #[{ on := 20, ground := Ground.data }, { on := 32, ground := Ground.data }, { on := 11, ground := Ground.guard }], guard := some (11, false) }) (v := ?vqb33) rfl (by kernel_rfl) (by kernel_rfl) (by kernel_rfl) (fun _ _ _ h => h) (Or.inl ⟨by rfl, ?hqb33⟩) (by assumption) ?rqb33
          case hqb33 => (intro w0 hSw; (try dsimp only at hSw); go_simp; try (with_reducible rfl))
          simp only [Act.put, List.setIfInBounds_toArray, List.set_cons_zero, List.set_cons_succ]
          refine wpAnyH_take (i := 34) (oi := { dst := some 204, op := Op.pick (Operand.tmp 181) (Operand.const (Value.bool true)) (Operand.tmp 203), type := 4, pos := "plain.go:102", after := #[{ on := 11, ground := Ground.data }, { on := 33, ground := Ground.data }, { on := 2, ground := Ground.guard }], guard := some (2, true) }) (v := ?vqb34) rfl (by kernel_rfl) (by kernel_rfl) (by kernel_rfl) (fun _ _ _ h => h) (Or.inl ⟨by rfl, ?hqb34⟩) (by assumption) ?rqb34
          case hqb34 => (intro w0 hSw; (try dsimp only at hSw); go_simp; try (with_reducible rfl))
          simp only [Act.put, List.setIfInBounds_toArray, List.set_cons_zero, List.set_cons_succ]
          refine wpAnyH_take (i := 35) (oi := { dst := some 205, op := Op.pick (Operand.tmp 172) (Operand.tmp 204) (Operand.const (Value.bool false)), type := 4, pos := "plain.go:102", after := #[{ on := 2, ground := Ground.data }, { on := 34, ground := Ground.data }], guard := none }) (v := ?vqb35) rfl (by kernel_rfl) (by kernel_rfl) (by kernel_rfl) (fun _ _ _ h => h) (Or.inl ⟨by rfl, ?hqb35⟩) (by assumption) ?rqb35
          case hqb35 => (intro w0 hSw; (try dsimp only at hSw); go_simp; try (with_reducible rfl))
          simp only [Act.put, List.setIfInBounds_toArray, List.set_cons_zero, List.set_cons_succ]
          refine wpAnyH_done (by kernel_rfl) ?_ _
          go_wp2_with fail
          exact ⟨(HSt.out _ (bb.trans (drewN_below _ _ _))).2.2, by simp only [intOf]; omega⟩
    · have i1 : ¬ (i : Int) < (nl : Int) := by omega
      have HE : Hid (IRow wr cb mm (cnts mm []) ∧ Stay (fun j => j = cb) w9 wr) := by
        have h1 := HL.out.row
        rw [List.drop_of_length_le (by omega)] at h1
        exact ⟨h1, HL.out.st⟩
      obtain ⟨wc, rfl⟩ : ∃ wc, wc = wr := ⟨_, rfl⟩
      clear HL hi hlt
      go_wp2_with fail
      rename_i K9 a9
      have HC9 := Hid.mk a9
      clear a9
      go_loopw [28] (fun nv wr => RLn wc X R nv wr) (fun u _ => nl - (intOf u).toNat)
      case atStart => exact ⟨0, rfl, Nat.zero_le _, fun j hj => (by omega), Drew.refl _⟩
      case round =>
        obtain ⟨n2, rfl, hn2, HJ, hdr⟩ := hrel
        have hcl : ∀ q, wr.cell? q = wc.cell? q := fun q => by obtain ⟨k, rfl⟩ := hdr; rfl
        by_cases hlt : n2 < nl
        · have j1 : (n2 : Int) < (nl : Int) := by omega
          have j2 : (0 : Int) ≤ (n2 : Int) := by omega
          have hnX : n2 < X.length := by omega
          have hla := lat_stay HT.out.la HE.out.2 (fun g off h => HT.out.old g off (.inl h))
          obtain ⟨g, o, e1, x0, x1, x2⟩ := hla.hit (W := wc) (fun k _ => rfl) n2 hnX
          obtain ⟨D, hD⟩ : ∃ D, D = X[n2].d := ⟨_, rfl⟩
          rw [← hD] at x0
          replace x0 := (hcl _).trans x0
          by_cases hle : D ≤ R
          · have hwn : IntKind.i64.wrap ((n2 : Int) + 1) = ((n2 + 1 : Nat) : Int) := by rw [IntKind.wrap_i64]; omega
            have HN2 : Hid (RLn wc X R (.int .i64 ((n2 + 1 : Nat) : Int)) wr) := ⟨n2 + 1, rfl, by omega, fun j hj hl => by
              by_cases e : j = n2
              · subst e; rw [← hD]; exact hle
              · exact HJ.out j (by omega) hl, hdr⟩
            subst e1
            clear hla x1 x2 hD HJ hnX hcl hXl
            go_wp2_with fail
            exact ⟨HN2.out, by simp only [intOf]; omega⟩
          · have HBt : Hid (Bl = X.take n2) := by
              show _ = _
              rw [HT.out.hB]
              exact inD_take (by rw [HX.out]; exact srtL_srt _) (by omega) (fun j hj => HJ.out j hj (by omega)) (fun hl => by rw [← hD]; omega)
            have j3 : ¬ D ≤ R := hle
            subst e1
            clear hla x1 x2 hD HJ hnX hcl
            go_wp2_with fail
            exact HC9.out _ _ (looks_B HT.out HE.out hdr HBt.out (by omega) hXl HNT.out HNB.out hc6 hnl80)
        · have j1 : ¬ (n2 : Int) < (nl : Int) := by omega
          have HBt : Hid (Bl = X.take n2) := by
            show _ = _
            rw [HT.out.hB]
            exact inD_take (by rw [HX.out]; exact srtL_srt _) (by omega) (fun j hj => HJ.out j hj (by omega)) (fun hl => by omega)
          clear HJ hcl
          go_wp2_with fail
          exact HC9.out _ _ (looks_B HT.out HE.out hdr HBt.out (by omega) hXl HNT.out HNB.out hc6 hnl80)
end Go.Proofs.YtekgppmhcbmpeaaDoor
