/-
  DERIVED. WireMust behind Ask, with hits.
-/
import Derived.Test.YtnkepggldlobjaaWMustH
import Derived.Test.YtnkepggldlobjaaWRdH
import Derived.Test.YtnkepggldlobjaaWDrop
set_option linter.unusedVariables false
set_option linter.unusedSimpArgs false
namespace Go.Proofs.Ytnkepggldlobjaa
open Go.RowKit Go.Proofs.SealMath
set_option maxHeartbeats 8000000 in
set_option maxRecDepth 100000 in
theorem tail_4 {t0 t1 t2 t3 t4 t9 t10 t11 t12 t13 t14 t15 t16 t17 t18 t21 t25 t26 t27 t28 t29 t30 t31 t32 t33 t34 t35 t36 t37 t38 t39 t40 t41 t42 t43 t44 t45 t46 t47 t48 t49 t50 t51 t52 t53 t54 t55 t56 t57 t58 t59 t60 t61 t62 t63 t64 t65 t66 t67 t68 t69 t70 t71 t72 t73 t74 t75 t76 t77 t78 t79 t80 t81 t82 t83 t84 t85 t86 t87 t88 t89 t90 t91 t92 t93 t94 t95 t96 t97 t98 t99 t100 t101 t102 t103 t104 t105 t106 t107 t108 t109 t110 t111 t112 t113 t114 t115 t116 t117 t118 t119 t120 t121 t122 t123 t124 t125 t126 t127 t128 t129 t130 t131 t132 t133 t134 t135 t136 t137 t138 t139 t140 t141 t142 t143 t144 t145 t146 t147 t148 t149 t150 t151 t152 t153 t154 t155 t156 t157 t158 t159 t160 t161 t162 t163 t164 : Value} (w W : World) (n errno : Int) (text s : ByteArray) (a : Option Addr) (L : List Ht) (cap rb nl : Nat) (hn : n ≤ 9223372036854775807) (ht : text.size < 4611686018427387904) (hb : Below w.heap.size w W) (hrb : w.heap.size ≤ rb) (hr : HC W rb #[.int .i64 0, .int .i64 0, .string ⟨#[]⟩, .slice none 0 0] 37) (hs : (2 : Int) ≤ (s.size : Int)) (hL : HsAt w a L) (hl : nl < 4611686018427387904) (hnl : nl = L.length) :
    Code.wp Try.prog (dropC 10 (Try.f8.body.getD .skip)) (bodyPost Try.prog Try.f8 fun e w' => e = .returned (.bool true) ∧ Below w.heap.size w w') { tmps := #[t0, t1, t2, t3, t4, .int .i64 n, .string text, .int .i64 errno, .slice a nl cap, t9, t10, t11, t12, t13, t14, t15, t16, t17, t18, .bool true, .int .i64 5, t21, Pt rb, .string s, .int .i64 0, t25, t26, t27, t28, t29, t30, t31, t32, t33, t34, t35, t36, t37, t38, t39, t40, t41, t42, t43, t44, t45, t46, t47, t48, t49, t50, t51, t52, t53, t54, t55, t56, t57, t58, t59, t60, t61, t62, t63, t64, t65, t66, t67, t68, t69, t70, t71, t72, t73, t74, t75, t76, t77, t78, t79, t80, t81, t82, t83, t84, t85, t86, t87, t88, t89, t90, t91, t92, t93, t94, t95, t96, t97, t98, t99, t100, t101, t102, t103, t104, t105, t106, t107, t108, t109, t110, t111, t112, t113, t114, t115, t116, t117, t118, t119, t120, t121, t122, t123, t124, t125, t126, t127, t128, t129, t130, t131, t132, t133, t134, t135, t136, t137, t138, t139, t140, t141, t142, t143, t144, t145, t146, t147, t148, t149, t150, t151, t152, t153, t154, t155, t156, t157, t158, t159, t160, t161, t162, t163, t164], defers := [] } W := by
  have c0 := hr.cell (o := 0) rfl
  have c1 := hr.cell (o := 1) rfl
  have c2 := hr.cell (o := 2) rfl
  have c3 := hr.cell (o := 3) rfl
  have f0 := hr.free 0
  have f1 := hr.free 1
  have f2 := hr.free 2
  have f3 := hr.free 3
  have HR := Hid.mk hr
  have HLL := Hid.mk hL
  have HNL := Hid.mk hnl
  clear hr hL hnl
  by_cases he : 0 < errno ∧ errno < 1000
  · obtain ⟨e1, e2⟩ := he
    simp only [dropC, sndC, Try.f8, Option.getD_some]
    obtain ⟨T, hT3, hTA⟩ := must_tell 4 (by decide) ⟨errno, 0, eB⟩ [] ⟨by simp only; omega, by simp only; omega⟩ (by simp [stP, lfN, lfT, lfS, eB]) (by unfold ckR; rw [if_neg (by simp only; omega)])
    rw [show ((4 + 1 : Nat) : Int) = 5 from rfl] at hTA
    have hT := fun W => tell_any 5 ⟨errno, 0, eB⟩ [] none 0 (by first | decide | (simp only; omega)) (fun x hx => by simp at hx) (by decide) W (.inl rfl)
    rw [hTA] at hT
    simp only [rpC, List.length_nil] at hT
    obtain ⟨Tb, hTb⟩ : ∃ Tb : ByteArray, Tb = ⟨T.toArray⟩ := ⟨_, rfl⟩
    have hTs : (3 : Int) ≤ (Tb.size : Int) := by rw [hTb]; have : (⟨T.toArray⟩ : ByteArray).size = T.length := List.size_toArray; omega
    simp only [← hTb] at hT
    clear hTb hTA hT3
    go_wp2_with (first | (go_at_call 13; refine (hT _).mono ?_; clear hT; rintro e w2 ⟨rfl, b2⟩; have H2 := Hid.mk b2; clear b2))
    go_ret
    exact ⟨rfl, chain (hb.setCell (p := ⟨rb, 0, none⟩) hrb _) H2.out (Nat.le_refl _)⟩
  · have hnn : errno ≤ 0 ∨ (¬ errno ≤ 0 ∧ 1000 ≤ errno) := by omega
    clear he
    rcases hnn with e1 | ⟨e1, e2⟩
    · have e1' : ¬ 0 < errno := by omega
      simp only [dropC, sndC, Try.f8, Option.getD_some]
      go_wp2_with fail
      have H0 : Hid (0 = ([] : List Ht).length ∧ MI w W rb (.slice none 0 0) []) := ⟨rfl, HR.out, ⟨rfl, .inl ⟨rfl, rfl⟩⟩, fun k hk => (by cases hk), hb, MHs.nil⟩
      clear c0 c1 c2 c3 f0 f1 f2 f3
      go_loopw [25] (fun u wr => MR w rb u wr) (fun u _ => (1000 - intOf u).toNat)
      case atStart => exact ⟨[], _, 0, rfl, by omega, H0⟩
      case round =>
        obtain ⟨K, v, j, rfl, hj, HI⟩ := hrel
        clear H0
        have c0 := HI.out.2.rep.cell (o := 0) rfl
        have c1 := HI.out.2.rep.cell (o := 1) rfl
        have c2 := HI.out.2.rep.cell (o := 2) rfl
        have c3 := HI.out.2.rep.cell (o := 3) rfl
        have f3 := HI.out.2.rep.free 3
        obtain ⟨av, cv, hav, -⟩ := slice_form HI.out.2.row
        rw [← HI.out.1] at hav
        by_cases hlt : j < nl ∧ j < 1000
        · obtain ⟨h1, h2⟩ := hlt
          have h1' : (j : Int) < (nl : Int) := by omega
          have h2' : (j : Int) < 1000 := by omega
          obtain ⟨g, off, hag, hgl, hcs⟩ := (HLL.out.resolve_left (fun e => by rw [e] at HNL; have := HNL.out; simp at this; omega))
          have s0' := (hcs j (by rw [← HNL.out]; exact h1)).2.2
          obtain ⟨c, hc⟩ : ∃ c, c = (L[j]'(by rw [← HNL.out]; exact h1)).c := ⟨_, rfl⟩
          rw [← hc] at s0'
          have s0 := cell_below HI.out.2.old s0'
          clear s0' hcs hc
          subst hag
          have hq3 : ((j : Int) / 3) = ((j / 3 : Nat) : Int) := by simp
          obtain ⟨dv, hdv⟩ : ∃ dv : Int, dv = ((j / 3 : Nat) : Int) := ⟨_, rfl⟩
          have htd : (j : Int).tdiv 3 = dv := by rw [hdv]; simp
          have hwd : IntKind.i64.wrap dv = dv := by rw [IntKind.wrap_i64, hdv]; omega
          rcases Nat.lt_or_ge 200 c.size with q | q
          · have q' : (200 : Int) < (c.size : Int) := by omega
            have q2 : ¬ (c.size : Int) ≤ 200 := by omega
            have q3 : ¬ (c.size : Int) < 200 := by omega
            obtain ⟨C, hC⟩ : ∃ C, C = c.extract 0 200 := ⟨_, rfl⟩
            have hz : C.size ≤ 200 := by rw [hC, ByteArray.size_extract]; omega
            have hC' := hC.symm
            clear hC
            have hx : MHs (K ++ [⟨dv, (j : Int), C⟩]) := HI.out.2.hs.snoc C hz (by rw [← HI.out.1]; exact h2) dv (j : Int) (by rw [hdv, HI.out.1]) (by rw [HI.out.1])
            obtain ⟨v5, w5, hap, hr5, st5, loc5⟩ := hit_app1 wr.drew K v HI.out.2.row ⟨dv, (j : Int), C⟩ (by rw [← HI.out.1]; omega)
            have hap : (Builtin.append_ #[35, 35] 35 #[v, .slice (some ⟨wr.heap.size, 0, none⟩) 1 1]).run Try.prog (wr.alloc (.cells #[.int .i64 dv, .int .i64 (j : Int), .string C] 39)).drew = .ok v5 w5 := hap
            have st5 : Stay (fun k => v.ownBlock = some k) wr w5 := st5.undrew
            have hm5 := HI.out.2.app hx hrb hr5 st5 loc5
            have nrb : ¬ v.ownBlock = some rb := fun e => by obtain ⟨cur, hc⟩ := row_block HI.out.2.row e; have := HI.out.2.rep; unfold HC at this; rw [hc] at this; injection this with this; injection this with _ this; revert this; decide
            have r5 := HC.stay HI.out.2.rep st5 nrb
            have d3 := r5.cell (o := 3) rfl
            have z3 := r5.free 3
            have ngv : ¬ v.ownBlock = some g := fun e => by have := HI.out.2.own g e; omega
            have s2 := cstay (F := fun k => v.ownBlock = some k) st5 ngv s0
            have s3 : (w5.setCell ⟨rb, 3, none⟩ v5).cell? ⟨g, off + j * 3 + 2, none⟩ = some (.string c) := (World.cell?_setCell_far w5 ⟨rb, 3, none⟩ ⟨g, off + j * 3 + 2, none⟩ v5 (show rb ≠ g from fun e => by omega)).trans s2
            have bl : Below wr.heap.size wr (wr.alloc (.cells #[.int .i64 dv, .int .i64 (j : Int), .string C] 39)) := (Below.refl _ wr).alloc (Nat.le_refl _) _
            have s1 : (wr.alloc (.cells #[.int .i64 dv, .int .i64 (j : Int), .string C] 39)).drew.cell? ⟨g, off + j * 3 + 2, none⟩ = some (.string c) := (show (wr.alloc (.cells #[.int .i64 dv, .int .i64 (j : Int), .string C] 39)).cell? _ = _ from cell_below bl s0)
            have c3A : (wr.alloc (.cells #[.int .i64 dv, .int .i64 (j : Int), .string C] 39)).drew.cell? ⟨rb, 3, none⟩ = some v := (show (wr.alloc (.cells #[.int .i64 dv, .int .i64 (j : Int), .string C] 39)).cell? _ = _ from cell_below bl c3)
            obtain ⟨av5, cv5, hav5, -⟩ := slice_form hr5
            obtain ⟨nb, hnb⟩ : ∃ nb, nb = (K ++ [(⟨dv, (j : Int), C⟩ : Ht)]).length := ⟨_, rfl⟩
            rw [← hnb] at hav5
            have H5 := Hid.mk hm5
            rw [hav5] at hap H5 s3
            rw [hav] at hap c3 c3A d3
            clear hm5 hr5 st5 loc5 hx r5 bl hnb hav5 hav hdv hq3 c0 c1 c2 nrb ngv
            go_wp2
            refine wp_region_held_drew (S := fun w' => w'.cell? ⟨g, off + j * 3 + 2, none⟩ = some (.string c)) (by kernel_rfl) ?_ (fun hHeld => ?_)
            · exact s0
            refine wpAnyH_take (i := 0) (oi := { dst := some 118, op := Op.fieldAddr 37 (Operand.tmp 22) 3, type := 0, pos := "plain.go:110", after := #[], guard := none }) (v := ?vrfx0) rfl (by kernel_rfl) (by kernel_rfl) (by kernel_rfl) (fun _ _ _ h => h) (Or.inl ⟨by rfl, ?hrfx0⟩) (by assumption) ?rrfx0
            case hrfx0 => (intro w0 hSw; (try dsimp only at hSw); go_simp; try (with_reducible rfl))
            simp only [Act.put, List.setIfInBounds_toArray, List.set_cons_zero, List.set_cons_succ]
            refine wpAnyH_take (i := 2) (oi := { dst := some 120, op := Op.move (Operand.tmp 25), type := 3, pos := "plain.go:110", after := #[], guard := none }) (v := ?vrfx2) rfl (by kernel_rfl) (by kernel_rfl) (by kernel_rfl) (fun _ _ _ h => h) (Or.inl ⟨by rfl, ?hrfx2⟩) (by assumption) ?rrfx2
            case hrfx2 => (intro w0 hSw; (try dsimp only at hSw); go_simp; try (with_reducible rfl))
            simp only [Act.put, List.setIfInBounds_toArray, List.set_cons_zero, List.set_cons_succ]
            refine wpAnyH_take (i := 3) (oi := { dst := some 121, op := Op.binOp BinOp.quo 3 (Operand.tmp 120) (Operand.const (Value.int IntKind.i64 3)) 3, type := 3, pos := "plain.go:110", after := #[{ on := 2, ground := Ground.data }], guard := none }) (v := ?vrfx3) rfl (by kernel_rfl) (by kernel_rfl) (by kernel_rfl) (fun _ _ _ h => h) (Or.inl ⟨by rfl, ?hrfx3⟩) (by assumption) ?rrfx3
            case hrfx3 => (intro w0 hSw; (try dsimp only at hSw); go_simp; try (with_reducible rfl))
            simp only [Act.put, List.setIfInBounds_toArray, List.set_cons_zero, List.set_cons_succ]
            refine wpAnyH_take (i := 4) (oi := { dst := some 122, op := Op.move (Operand.tmp 25), type := 3, pos := "plain.go:110", after := #[], guard := none }) (v := ?vrfx4) rfl (by kernel_rfl) (by kernel_rfl) (by kernel_rfl) (fun _ _ _ h => h) (Or.inl ⟨by rfl, ?hrfx4⟩) (by assumption) ?rrfx4
            case hrfx4 => (intro w0 hSw; (try dsimp only at hSw); go_simp; try (with_reducible rfl))
            simp only [Act.put, List.setIfInBounds_toArray, List.set_cons_zero, List.set_cons_succ]
            refine wpAnyH_take (i := 5) (oi := { dst := some 123, op := Op.move (Operand.tmp 8), type := 35, pos := "plain.go:110", after := #[], guard := none }) (v := ?vrfx5) rfl (by kernel_rfl) (by kernel_rfl) (by kernel_rfl) (fun _ _ _ h => h) (Or.inl ⟨by rfl, ?hrfx5⟩) (by assumption) ?rrfx5
            case hrfx5 => (intro w0 hSw; (try dsimp only at hSw); go_simp; try (with_reducible rfl))
            simp only [Act.put, List.setIfInBounds_toArray, List.set_cons_zero, List.set_cons_succ]
            refine wpAnyH_take (i := 6) (oi := { dst := some 124, op := Op.move (Operand.tmp 25), type := 3, pos := "plain.go:110", after := #[], guard := none }) (v := ?vrfx6) rfl (by kernel_rfl) (by kernel_rfl) (by kernel_rfl) (fun _ _ _ h => h) (Or.inl ⟨by rfl, ?hrfx6⟩) (by assumption) ?rrfx6
            case hrfx6 => (intro w0 hSw; (try dsimp only at hSw); go_simp; try (with_reducible rfl))
            simp only [Act.put, List.setIfInBounds_toArray, List.set_cons_zero, List.set_cons_succ]
            refine wpAnyH_take (i := 7) (oi := { dst := some 125, op := Op.indexAddr 35 (Operand.tmp 123) (Operand.tmp 124), type := 0, pos := "plain.go:110", after := #[{ on := 5, ground := Ground.data }, { on := 6, ground := Ground.data }], guard := none }) (v := ?vrfx7) rfl (by kernel_rfl) (by kernel_rfl) (by kernel_rfl) (fun _ _ _ h => h) (Or.inl ⟨by rfl, ?hrfx7⟩) (by assumption) ?rrfx7
            case hrfx7 => (intro w0 hSw; (try dsimp only at hSw); go_simp; try (with_reducible rfl))
            simp only [Act.put, List.setIfInBounds_toArray, List.set_cons_zero, List.set_cons_succ]
            refine wpAnyH_take (i := 8) (oi := { dst := some 126, op := Op.fieldAddr 39 (Operand.tmp 125) 2, type := 0, pos := "plain.go:110", after := #[{ on := 7, ground := Ground.data }], guard := none }) (v := ?vrfx8) rfl (by kernel_rfl) (by kernel_rfl) (by kernel_rfl) (fun _ _ _ h => h) (Or.inl ⟨by rfl, ?hrfx8⟩) (by assumption) ?rrfx8
            case hrfx8 => (intro w0 hSw; (try dsimp only at hSw); go_simp; try (with_reducible rfl))
            simp only [Act.put, List.setIfInBounds_toArray, List.set_cons_zero, List.set_cons_succ]
            refine wpAnyH_take (i := 9) (oi := { dst := some 127, op := Op.load 9 (Operand.tmp 126), type := 9, pos := "plain.go:110", after := #[{ on := 8, ground := Ground.data }], guard := none }) (v := ?vrfx9) rfl (by kernel_rfl) (by kernel_rfl) (by kernel_rfl) (fun _ _ _ h => h) (Or.inl ⟨by rfl, ?hrfx9⟩) (by assumption) ?rrfx9
            case hrfx9 => (intro w0 hSw; (try dsimp only at hSw); go_simp; try (with_reducible rfl))
            simp only [Act.put, List.setIfInBounds_toArray, List.set_cons_zero, List.set_cons_succ]
            refine wpAnyH_take (i := 10) (oi := { dst := some 128, op := Op.move (Operand.tmp 8), type := 35, pos := "plain.go:110", after := #[], guard := none }) (v := ?vrfx10) rfl (by kernel_rfl) (by kernel_rfl) (by kernel_rfl) (fun _ _ _ h => h) (Or.inl ⟨by rfl, ?hrfx10⟩) (by assumption) ?rrfx10
            case hrfx10 => (intro w0 hSw; (try dsimp only at hSw); go_simp; try (with_reducible rfl))
            simp only [Act.put, List.setIfInBounds_toArray, List.set_cons_zero, List.set_cons_succ]
            refine wpAnyH_take (i := 11) (oi := { dst := some 129, op := Op.move (Operand.tmp 25), type := 3, pos := "plain.go:110", after := #[], guard := none }) (v := ?vrfx11) rfl (by kernel_rfl) (by kernel_rfl) (by kernel_rfl) (fun _ _ _ h => h) (Or.inl ⟨by rfl, ?hrfx11⟩) (by assumption) ?rrfx11
            case hrfx11 => (intro w0 hSw; (try dsimp only at hSw); go_simp; try (with_reducible rfl))
            simp only [Act.put, List.setIfInBounds_toArray, List.set_cons_zero, List.set_cons_succ]
            refine wpAnyH_take (i := 12) (oi := { dst := some 130, op := Op.indexAddr 35 (Operand.tmp 128) (Operand.tmp 129), type := 0, pos := "plain.go:110", after := #[{ on := 10, ground := Ground.data }, { on := 11, ground := Ground.data }], guard := none }) (v := ?vrfx12) rfl (by kernel_rfl) (by kernel_rfl) (by kernel_rfl) (fun _ _ _ h => h) (Or.inl ⟨by rfl, ?hrfx12⟩) (by assumption) ?rrfx12
            case hrfx12 => (intro w0 hSw; (try dsimp only at hSw); go_simp; try (with_reducible rfl))
            simp only [Act.put, List.setIfInBounds_toArray, List.set_cons_zero, List.set_cons_succ]
            refine wpAnyH_take (i := 13) (oi := { dst := some 131, op := Op.fieldAddr 39 (Operand.tmp 130) 2, type := 0, pos := "plain.go:110", after := #[{ on := 12, ground := Ground.data }], guard := none }) (v := ?vrfx13) rfl (by kernel_rfl) (by kernel_rfl) (by kernel_rfl) (fun _ _ _ h => h) (Or.inl ⟨by rfl, ?hrfx13⟩) (by assumption) ?rrfx13
            case hrfx13 => (intro w0 hSw; (try dsimp only at hSw); go_simp; try (with_reducible rfl))
            simp only [Act.put, List.setIfInBounds_toArray, List.set_cons_zero, List.set_cons_succ]
            refine wpAnyH_take (i := 14) (oi := { dst := some 132, op := Op.load 9 (Operand.tmp 131), type := 9, pos := "plain.go:110", after := #[{ on := 13, ground := Ground.data }], guard := none }) (v := ?vrfx14) rfl (by kernel_rfl) (by kernel_rfl) (by kernel_rfl) (fun _ _ _ h => h) (Or.inl ⟨by rfl, ?hrfx14⟩) (by assumption) ?rrfx14
            case hrfx14 => (intro w0 hSw; (try dsimp only at hSw); go_simp; try (with_reducible rfl))
            simp only [Act.put, List.setIfInBounds_toArray, List.set_cons_zero, List.set_cons_succ]
            refine wpAnyH_take (i := 15) (oi := { dst := some 133, op := Op.call { callee := Callee.builtin Builtin.len, args := #[Operand.tmp 132], argTypes := #[9] }, type := 3, pos := "plain.go:110", after := #[{ on := 14, ground := Ground.data }], guard := none }) (v := ?vrfx15) rfl (by kernel_rfl) (by kernel_rfl) (by kernel_rfl) (fun _ _ _ h => h) (Or.inl ⟨by rfl, ?hrfx15⟩) (by assumption) ?rrfx15
            case hrfx15 => (intro w0 hSw; (try dsimp only at hSw); go_simp; try (with_reducible rfl))
            simp only [Act.put, List.setIfInBounds_toArray, List.set_cons_zero, List.set_cons_succ]
            refine wpAnyH_take (i := 16) (oi := { dst := some 134, op := Op.call { callee := Callee.builtin Builtin.min, args := #[Operand.tmp 133, Operand.const (Value.int IntKind.i64 200)], argTypes := #[3, 3] }, type := 3, pos := "plain.go:110", after := #[{ on := 15, ground := Ground.data }], guard := none }) (v := ?vrfx16) rfl (by kernel_rfl) (by kernel_rfl) (by kernel_rfl) (fun _ _ _ h => h) (Or.inl ⟨by rfl, ?hrfx16⟩) (by assumption) ?rrfx16
            case hrfx16 => (intro w0 hSw; (try dsimp only at hSw); go_simp; try (with_reducible rfl))
            simp only [Act.put, List.setIfInBounds_toArray, List.set_cons_zero, List.set_cons_succ]
            refine wpAnyH_take (i := 17) (oi := { dst := some 135, op := Op.slice 9 (Operand.tmp 127) none (some (Operand.tmp 134)) none, type := 9, pos := "plain.go:110", after := #[{ on := 9, ground := Ground.data }, { on := 16, ground := Ground.data }], guard := none }) (v := ?vrfx17) rfl (by kernel_rfl) (by kernel_rfl) (by kernel_rfl) (fun _ _ _ h => h) (Or.inl ⟨by rfl, ?hrfx17⟩) (by assumption) ?rrfx17
            case hrfx17 => (intro w0 hSw; (try dsimp only at hSw); go_simp; try (with_reducible rfl))
            simp only [Act.put, List.setIfInBounds_toArray, List.set_cons_zero, List.set_cons_succ]
            refine wpAnyH_take (i := 18) (oi := { dst := some 136, op := Op.build 39 #[(0, Operand.tmp 121), (1, Operand.tmp 122), (2, Operand.tmp 135)], type := 39, pos := "plain.go:110", after := #[{ on := 3, ground := Ground.data }, { on := 4, ground := Ground.data }, { on := 17, ground := Ground.data }], guard := none }) (v := ?vrfx18) rfl (by kernel_rfl) (by kernel_rfl) (by kernel_rfl) (fun _ _ _ h => h) (Or.inl ⟨by rfl, ?hrfx18⟩) (by assumption) ?rrfx18
            case hrfx18 => (intro w0 hSw; (try dsimp only at hSw); go_simp; try (with_reducible rfl))
            simp only [Act.put, List.setIfInBounds_toArray, List.set_cons_zero, List.set_cons_succ]
            refine wpAnyH_ready (rs := [1, 19]) (by kernel_rfl) (by simp) ?_
            refine AllReadyH.cons rfl (fun K hK => ?_) (AllReadyH.cons rfl (fun K hK => ?_) AllReadyH.nil)
            · go_simp
              go_wp2_with (fail)
              refine hK.out _ _ ?_ (fun hHeld => ?_)
              · exact s0
              clear hK K
              refine wpAnyH_ready (rs := [19]) (by kernel_rfl) (by simp) ?_
              refine AllReadyH.cons rfl (fun K hK => ?_) AllReadyH.nil
              go_simp
              go_wp2_with (fail)
              refine hK.out _ _ ?_ (fun hHeld => ?_)
              · exact s1
              clear hK K
              refine wpAnyH_ready (rs := [20]) (by kernel_rfl) (by simp) ?_
              refine AllReadyH.cons rfl (fun K hK => ?_) AllReadyH.nil
              rw [if_pos (by rfl)]
              refine oper_append_eq _ _ _ _ rfl _ _ _ _ rfl rfl hap ?_
              go_simp
              refine hK.out _ _ ?_ (fun hHeld => ?_)
              · exact s2
              clear hK K
              refine wpAnyH_take (i := 21) (oi := { dst := some 139, op := Op.fieldAddr 37 (Operand.tmp 22) 3, type := 0, pos := "plain.go:110", after := #[{ on := 0, ground := Ground.phase }, { on := 1, ground := Ground.phase }, { on := 2, ground := Ground.phase }, { on := 3, ground := Ground.phase }, { on := 4, ground := Ground.phase }, { on := 5, ground := Ground.phase }, { on := 6, ground := Ground.phase }, { on := 7, ground := Ground.phase }, { on := 8, ground := Ground.phase }, { on := 9, ground := Ground.phase }, { on := 10, ground := Ground.phase }, { on := 11, ground := Ground.phase }, { on := 12, ground := Ground.phase }, { on := 13, ground := Ground.phase }, { on := 14, ground := Ground.phase }, { on := 15, ground := Ground.phase }, { on := 16, ground := Ground.phase }, { on := 17, ground := Ground.phase }, { on := 18, ground := Ground.phase }, { on := 19, ground := Ground.phase }, { on := 20, ground := Ground.phase }], guard := none }) (v := ?vrfxa21) rfl (by kernel_rfl) (by kernel_rfl) (by kernel_rfl) (fun _ _ _ h => h) (Or.inl ⟨by rfl, ?hrfxa21⟩) (by assumption) ?rrfxa21
              case hrfxa21 => (intro w0 hSw; (try dsimp only at hSw); go_simp; try (with_reducible rfl))
              simp only [Act.put, List.setIfInBounds_toArray, List.set_cons_zero, List.set_cons_succ]
              refine wpAnyH_ready (rs := [22]) (by kernel_rfl) (by simp) ?_
              refine AllReadyH.cons rfl (fun K hK => ?_) AllReadyH.nil
              go_simp
              go_wp2_with (fail)
              refine hK.out _ _ ?_ (fun hHeld => ?_)
              · exact s3
              clear hK K
              refine wpAnyH_done (by kernel_rfl) ?_ _
              go_wp2
              go_roundw
              case rel => exact ⟨K ++ [⟨dv, (j : Int), C⟩], _, j + 1, by go_num, by omega, by rw [List.length_append, HI.out.1]; rfl, H5.out⟩
              case measure => simp [intOf]; omega
            · go_simp
              go_wp2_with (fail)
              refine hK.out _ _ ?_ (fun hHeld => ?_)
              · exact s1
              clear hK K
              refine wpAnyH_ready (rs := [1]) (by kernel_rfl) (by simp) ?_
              refine AllReadyH.cons rfl (fun K hK => ?_) AllReadyH.nil
              go_simp
              go_wp2_with (fail)
              refine hK.out _ _ ?_ (fun hHeld => ?_)
              · exact s1
              clear hK K
              refine wpAnyH_ready (rs := [20]) (by kernel_rfl) (by simp) ?_
              refine AllReadyH.cons rfl (fun K hK => ?_) AllReadyH.nil
              rw [if_pos (by rfl)]
              refine oper_append_eq _ _ _ _ rfl _ _ _ _ rfl rfl hap ?_
              go_simp
              refine hK.out _ _ ?_ (fun hHeld => ?_)
              · exact s2
              clear hK K
              refine wpAnyH_take (i := 21) (oi := { dst := some 139, op := Op.fieldAddr 37 (Operand.tmp 22) 3, type := 0, pos := "plain.go:110", after := #[{ on := 0, ground := Ground.phase }, { on := 1, ground := Ground.phase }, { on := 2, ground := Ground.phase }, { on := 3, ground := Ground.phase }, { on := 4, ground := Ground.phase }, { on := 5, ground := Ground.phase }, { on := 6, ground := Ground.phase }, { on := 7, ground := Ground.phase }, { on := 8, ground := Ground.phase }, { on := 9, ground := Ground.phase }, { on := 10, ground := Ground.phase }, { on := 11, ground := Ground.phase }, { on := 12, ground := Ground.phase }, { on := 13, ground := Ground.phase }, { on := 14, ground := Ground.phase }, { on := 15, ground := Ground.phase }, { on := 16, ground := Ground.phase }, { on := 17, ground := Ground.phase }, { on := 18, ground := Ground.phase }, { on := 19, ground := Ground.phase }, { on := 20, ground := Ground.phase }], guard := none }) (v := ?vrfxb21) rfl (by kernel_rfl) (by kernel_rfl) (by kernel_rfl) (fun _ _ _ h => h) (Or.inl ⟨by rfl, ?hrfxb21⟩) (by assumption) ?rrfxb21
              case hrfxb21 => (intro w0 hSw; (try dsimp only at hSw); go_simp; try (with_reducible rfl))
              simp only [Act.put, List.setIfInBounds_toArray, List.set_cons_zero, List.set_cons_succ]
              refine wpAnyH_ready (rs := [22]) (by kernel_rfl) (by simp) ?_
              refine AllReadyH.cons rfl (fun K hK => ?_) AllReadyH.nil
              go_simp
              go_wp2_with (fail)
              refine hK.out _ _ ?_ (fun hHeld => ?_)
              · exact s3
              clear hK K
              refine wpAnyH_done (by kernel_rfl) ?_ _
              go_wp2
              go_roundw
              case rel => exact ⟨K ++ [⟨dv, (j : Int), C⟩], _, j + 1, by go_num, by omega, by rw [List.length_append, HI.out.1]; rfl, H5.out⟩
              case measure => simp [intOf]; omega
          · have q' : ¬ (200 : Int) < (c.size : Int) := by omega
            have q2 : (c.size : Int) ≤ 200 := by omega
            have hz : c.size ≤ 200 := q
            have qi : (if (200 : Int) < (c.size : Int) then (200 : Int) else (c.size : Int)) = (c.size : Int) := if_neg q'
            have hex : c.extract 0 c.size = c := by simp
            have hx : MHs (K ++ [⟨dv, (j : Int), c⟩]) := HI.out.2.hs.snoc c hz (by rw [← HI.out.1]; exact h2) dv (j : Int) (by rw [hdv, HI.out.1]) (by rw [HI.out.1])
            obtain ⟨v5, w5, hap, hr5, st5, loc5⟩ := hit_app1 wr.drew K v HI.out.2.row ⟨dv, (j : Int), c⟩ (by rw [← HI.out.1]; omega)
            have hap : (Builtin.append_ #[35, 35] 35 #[v, .slice (some ⟨wr.heap.size, 0, none⟩) 1 1]).run Try.prog (wr.alloc (.cells #[.int .i64 dv, .int .i64 (j : Int), .string c] 39)).drew = .ok v5 w5 := hap
            have st5 : Stay (fun k => v.ownBlock = some k) wr w5 := st5.undrew
            have hm5 := HI.out.2.app hx hrb hr5 st5 loc5
            have nrb : ¬ v.ownBlock = some rb := fun e => by obtain ⟨cur, hc⟩ := row_block HI.out.2.row e; have := HI.out.2.rep; unfold HC at this; rw [hc] at this; injection this with this; injection this with _ this; revert this; decide
            have r5 := HC.stay HI.out.2.rep st5 nrb
            have d3 := r5.cell (o := 3) rfl
            have z3 := r5.free 3
            have ngv : ¬ v.ownBlock = some g := fun e => by have := HI.out.2.own g e; omega
            have s2 := cstay (F := fun k => v.ownBlock = some k) st5 ngv s0
            have s3 : (w5.setCell ⟨rb, 3, none⟩ v5).cell? ⟨g, off + j * 3 + 2, none⟩ = some (.string c) := (World.cell?_setCell_far w5 ⟨rb, 3, none⟩ ⟨g, off + j * 3 + 2, none⟩ v5 (show rb ≠ g from fun e => by omega)).trans s2
            have bl : Below wr.heap.size wr (wr.alloc (.cells #[.int .i64 dv, .int .i64 (j : Int), .string c] 39)) := (Below.refl _ wr).alloc (Nat.le_refl _) _
            have s1 : (wr.alloc (.cells #[.int .i64 dv, .int .i64 (j : Int), .string c] 39)).drew.cell? ⟨g, off + j * 3 + 2, none⟩ = some (.string c) := (show (wr.alloc (.cells #[.int .i64 dv, .int .i64 (j : Int), .string c] 39)).cell? _ = _ from cell_below bl s0)
            have c3A : (wr.alloc (.cells #[.int .i64 dv, .int .i64 (j : Int), .string c] 39)).drew.cell? ⟨rb, 3, none⟩ = some v := (show (wr.alloc (.cells #[.int .i64 dv, .int .i64 (j : Int), .string c] 39)).cell? _ = _ from cell_below bl c3)
            obtain ⟨av5, cv5, hav5, -⟩ := slice_form hr5
            obtain ⟨nb, hnb⟩ : ∃ nb, nb = (K ++ [(⟨dv, (j : Int), c⟩ : Ht)]).length := ⟨_, rfl⟩
            rw [← hnb] at hav5
            have H5 := Hid.mk hm5
            rw [hav5] at hap H5 s3
            rw [hav] at hap c3 c3A d3
            clear hm5 hr5 st5 loc5 hx r5 bl hnb hav5 hav hdv hq3 c0 c1 c2 nrb ngv
            go_wp2
            refine wp_region_held_drew (S := fun w' => w'.cell? ⟨g, off + j * 3 + 2, none⟩ = some (.string c)) (by kernel_rfl) ?_ (fun hHeld => ?_)
            · exact s0
            refine wpAnyH_take (i := 0) (oi := { dst := some 118, op := Op.fieldAddr 37 (Operand.tmp 22) 3, type := 0, pos := "plain.go:110", after := #[], guard := none }) (v := ?vrfy0) rfl (by kernel_rfl) (by kernel_rfl) (by kernel_rfl) (fun _ _ _ h => h) (Or.inl ⟨by rfl, ?hrfy0⟩) (by assumption) ?rrfy0
            case hrfy0 => (intro w0 hSw; (try dsimp only at hSw); go_simp; try (with_reducible rfl))
            simp only [Act.put, List.setIfInBounds_toArray, List.set_cons_zero, List.set_cons_succ]
            refine wpAnyH_take (i := 2) (oi := { dst := some 120, op := Op.move (Operand.tmp 25), type := 3, pos := "plain.go:110", after := #[], guard := none }) (v := ?vrfy2) rfl (by kernel_rfl) (by kernel_rfl) (by kernel_rfl) (fun _ _ _ h => h) (Or.inl ⟨by rfl, ?hrfy2⟩) (by assumption) ?rrfy2
            case hrfy2 => (intro w0 hSw; (try dsimp only at hSw); go_simp; try (with_reducible rfl))
            simp only [Act.put, List.setIfInBounds_toArray, List.set_cons_zero, List.set_cons_succ]
            refine wpAnyH_take (i := 3) (oi := { dst := some 121, op := Op.binOp BinOp.quo 3 (Operand.tmp 120) (Operand.const (Value.int IntKind.i64 3)) 3, type := 3, pos := "plain.go:110", after := #[{ on := 2, ground := Ground.data }], guard := none }) (v := ?vrfy3) rfl (by kernel_rfl) (by kernel_rfl) (by kernel_rfl) (fun _ _ _ h => h) (Or.inl ⟨by rfl, ?hrfy3⟩) (by assumption) ?rrfy3
            case hrfy3 => (intro w0 hSw; (try dsimp only at hSw); go_simp; try (with_reducible rfl))
            simp only [Act.put, List.setIfInBounds_toArray, List.set_cons_zero, List.set_cons_succ]
            refine wpAnyH_take (i := 4) (oi := { dst := some 122, op := Op.move (Operand.tmp 25), type := 3, pos := "plain.go:110", after := #[], guard := none }) (v := ?vrfy4) rfl (by kernel_rfl) (by kernel_rfl) (by kernel_rfl) (fun _ _ _ h => h) (Or.inl ⟨by rfl, ?hrfy4⟩) (by assumption) ?rrfy4
            case hrfy4 => (intro w0 hSw; (try dsimp only at hSw); go_simp; try (with_reducible rfl))
            simp only [Act.put, List.setIfInBounds_toArray, List.set_cons_zero, List.set_cons_succ]
            refine wpAnyH_take (i := 5) (oi := { dst := some 123, op := Op.move (Operand.tmp 8), type := 35, pos := "plain.go:110", after := #[], guard := none }) (v := ?vrfy5) rfl (by kernel_rfl) (by kernel_rfl) (by kernel_rfl) (fun _ _ _ h => h) (Or.inl ⟨by rfl, ?hrfy5⟩) (by assumption) ?rrfy5
            case hrfy5 => (intro w0 hSw; (try dsimp only at hSw); go_simp; try (with_reducible rfl))
            simp only [Act.put, List.setIfInBounds_toArray, List.set_cons_zero, List.set_cons_succ]
            refine wpAnyH_take (i := 6) (oi := { dst := some 124, op := Op.move (Operand.tmp 25), type := 3, pos := "plain.go:110", after := #[], guard := none }) (v := ?vrfy6) rfl (by kernel_rfl) (by kernel_rfl) (by kernel_rfl) (fun _ _ _ h => h) (Or.inl ⟨by rfl, ?hrfy6⟩) (by assumption) ?rrfy6
            case hrfy6 => (intro w0 hSw; (try dsimp only at hSw); go_simp; try (with_reducible rfl))
            simp only [Act.put, List.setIfInBounds_toArray, List.set_cons_zero, List.set_cons_succ]
            refine wpAnyH_take (i := 7) (oi := { dst := some 125, op := Op.indexAddr 35 (Operand.tmp 123) (Operand.tmp 124), type := 0, pos := "plain.go:110", after := #[{ on := 5, ground := Ground.data }, { on := 6, ground := Ground.data }], guard := none }) (v := ?vrfy7) rfl (by kernel_rfl) (by kernel_rfl) (by kernel_rfl) (fun _ _ _ h => h) (Or.inl ⟨by rfl, ?hrfy7⟩) (by assumption) ?rrfy7
            case hrfy7 => (intro w0 hSw; (try dsimp only at hSw); go_simp; try (with_reducible rfl))
            simp only [Act.put, List.setIfInBounds_toArray, List.set_cons_zero, List.set_cons_succ]
            refine wpAnyH_take (i := 8) (oi := { dst := some 126, op := Op.fieldAddr 39 (Operand.tmp 125) 2, type := 0, pos := "plain.go:110", after := #[{ on := 7, ground := Ground.data }], guard := none }) (v := ?vrfy8) rfl (by kernel_rfl) (by kernel_rfl) (by kernel_rfl) (fun _ _ _ h => h) (Or.inl ⟨by rfl, ?hrfy8⟩) (by assumption) ?rrfy8
            case hrfy8 => (intro w0 hSw; (try dsimp only at hSw); go_simp; try (with_reducible rfl))
            simp only [Act.put, List.setIfInBounds_toArray, List.set_cons_zero, List.set_cons_succ]
            refine wpAnyH_take (i := 9) (oi := { dst := some 127, op := Op.load 9 (Operand.tmp 126), type := 9, pos := "plain.go:110", after := #[{ on := 8, ground := Ground.data }], guard := none }) (v := ?vrfy9) rfl (by kernel_rfl) (by kernel_rfl) (by kernel_rfl) (fun _ _ _ h => h) (Or.inl ⟨by rfl, ?hrfy9⟩) (by assumption) ?rrfy9
            case hrfy9 => (intro w0 hSw; (try dsimp only at hSw); go_simp; try (with_reducible rfl))
            simp only [Act.put, List.setIfInBounds_toArray, List.set_cons_zero, List.set_cons_succ]
            refine wpAnyH_take (i := 10) (oi := { dst := some 128, op := Op.move (Operand.tmp 8), type := 35, pos := "plain.go:110", after := #[], guard := none }) (v := ?vrfy10) rfl (by kernel_rfl) (by kernel_rfl) (by kernel_rfl) (fun _ _ _ h => h) (Or.inl ⟨by rfl, ?hrfy10⟩) (by assumption) ?rrfy10
            case hrfy10 => (intro w0 hSw; (try dsimp only at hSw); go_simp; try (with_reducible rfl))
            simp only [Act.put, List.setIfInBounds_toArray, List.set_cons_zero, List.set_cons_succ]
            refine wpAnyH_take (i := 11) (oi := { dst := some 129, op := Op.move (Operand.tmp 25), type := 3, pos := "plain.go:110", after := #[], guard := none }) (v := ?vrfy11) rfl (by kernel_rfl) (by kernel_rfl) (by kernel_rfl) (fun _ _ _ h => h) (Or.inl ⟨by rfl, ?hrfy11⟩) (by assumption) ?rrfy11
            case hrfy11 => (intro w0 hSw; (try dsimp only at hSw); go_simp; try (with_reducible rfl))
            simp only [Act.put, List.setIfInBounds_toArray, List.set_cons_zero, List.set_cons_succ]
            refine wpAnyH_take (i := 12) (oi := { dst := some 130, op := Op.indexAddr 35 (Operand.tmp 128) (Operand.tmp 129), type := 0, pos := "plain.go:110", after := #[{ on := 10, ground := Ground.data }, { on := 11, ground := Ground.data }], guard := none }) (v := ?vrfy12) rfl (by kernel_rfl) (by kernel_rfl) (by kernel_rfl) (fun _ _ _ h => h) (Or.inl ⟨by rfl, ?hrfy12⟩) (by assumption) ?rrfy12
            case hrfy12 => (intro w0 hSw; (try dsimp only at hSw); go_simp; try (with_reducible rfl))
            simp only [Act.put, List.setIfInBounds_toArray, List.set_cons_zero, List.set_cons_succ]
            refine wpAnyH_take (i := 13) (oi := { dst := some 131, op := Op.fieldAddr 39 (Operand.tmp 130) 2, type := 0, pos := "plain.go:110", after := #[{ on := 12, ground := Ground.data }], guard := none }) (v := ?vrfy13) rfl (by kernel_rfl) (by kernel_rfl) (by kernel_rfl) (fun _ _ _ h => h) (Or.inl ⟨by rfl, ?hrfy13⟩) (by assumption) ?rrfy13
            case hrfy13 => (intro w0 hSw; (try dsimp only at hSw); go_simp; try (with_reducible rfl))
            simp only [Act.put, List.setIfInBounds_toArray, List.set_cons_zero, List.set_cons_succ]
            refine wpAnyH_take (i := 14) (oi := { dst := some 132, op := Op.load 9 (Operand.tmp 131), type := 9, pos := "plain.go:110", after := #[{ on := 13, ground := Ground.data }], guard := none }) (v := ?vrfy14) rfl (by kernel_rfl) (by kernel_rfl) (by kernel_rfl) (fun _ _ _ h => h) (Or.inl ⟨by rfl, ?hrfy14⟩) (by assumption) ?rrfy14
            case hrfy14 => (intro w0 hSw; (try dsimp only at hSw); go_simp; try (with_reducible rfl))
            simp only [Act.put, List.setIfInBounds_toArray, List.set_cons_zero, List.set_cons_succ]
            refine wpAnyH_take (i := 15) (oi := { dst := some 133, op := Op.call { callee := Callee.builtin Builtin.len, args := #[Operand.tmp 132], argTypes := #[9] }, type := 3, pos := "plain.go:110", after := #[{ on := 14, ground := Ground.data }], guard := none }) (v := ?vrfy15) rfl (by kernel_rfl) (by kernel_rfl) (by kernel_rfl) (fun _ _ _ h => h) (Or.inl ⟨by rfl, ?hrfy15⟩) (by assumption) ?rrfy15
            case hrfy15 => (intro w0 hSw; (try dsimp only at hSw); go_simp; try (with_reducible rfl))
            simp only [Act.put, List.setIfInBounds_toArray, List.set_cons_zero, List.set_cons_succ]
            refine wpAnyH_take (i := 16) (oi := { dst := some 134, op := Op.call { callee := Callee.builtin Builtin.min, args := #[Operand.tmp 133, Operand.const (Value.int IntKind.i64 200)], argTypes := #[3, 3] }, type := 3, pos := "plain.go:110", after := #[{ on := 15, ground := Ground.data }], guard := none }) (v := ?vrfy16) rfl (by kernel_rfl) (by kernel_rfl) (by kernel_rfl) (fun _ _ _ h => h) (Or.inl ⟨by rfl, ?hrfy16⟩) (by assumption) ?rrfy16
            case hrfy16 => (intro w0 hSw; (try dsimp only at hSw); go_simp; try (with_reducible rfl))
            simp only [Act.put, List.setIfInBounds_toArray, List.set_cons_zero, List.set_cons_succ]
            refine wpAnyH_take (i := 17) (oi := { dst := some 135, op := Op.slice 9 (Operand.tmp 127) none (some (Operand.tmp 134)) none, type := 9, pos := "plain.go:110", after := #[{ on := 9, ground := Ground.data }, { on := 16, ground := Ground.data }], guard := none }) (v := ?vrfy17) rfl (by kernel_rfl) (by kernel_rfl) (by kernel_rfl) (fun _ _ _ h => h) (Or.inl ⟨by rfl, ?hrfy17⟩) (by assumption) ?rrfy17
            case hrfy17 => (intro w0 hSw; (try dsimp only at hSw); go_simp; try (with_reducible rfl))
            simp only [Act.put, List.setIfInBounds_toArray, List.set_cons_zero, List.set_cons_succ]
            refine wpAnyH_take (i := 18) (oi := { dst := some 136, op := Op.build 39 #[(0, Operand.tmp 121), (1, Operand.tmp 122), (2, Operand.tmp 135)], type := 39, pos := "plain.go:110", after := #[{ on := 3, ground := Ground.data }, { on := 4, ground := Ground.data }, { on := 17, ground := Ground.data }], guard := none }) (v := ?vrfy18) rfl (by kernel_rfl) (by kernel_rfl) (by kernel_rfl) (fun _ _ _ h => h) (Or.inl ⟨by rfl, ?hrfy18⟩) (by assumption) ?rrfy18
            case hrfy18 => (intro w0 hSw; (try dsimp only at hSw); go_simp; try (with_reducible rfl))
            simp only [Act.put, List.setIfInBounds_toArray, List.set_cons_zero, List.set_cons_succ]
            refine wpAnyH_ready (rs := [1, 19]) (by kernel_rfl) (by simp) ?_
            refine AllReadyH.cons rfl (fun K hK => ?_) (AllReadyH.cons rfl (fun K hK => ?_) AllReadyH.nil)
            · go_simp
              go_wp2_with (fail)
              refine hK.out _ _ ?_ (fun hHeld => ?_)
              · exact s0
              clear hK K
              refine wpAnyH_ready (rs := [19]) (by kernel_rfl) (by simp) ?_
              refine AllReadyH.cons rfl (fun K hK => ?_) AllReadyH.nil
              go_simp
              go_wp2_with (fail)
              refine hK.out _ _ ?_ (fun hHeld => ?_)
              · exact s1
              clear hK K
              refine wpAnyH_ready (rs := [20]) (by kernel_rfl) (by simp) ?_
              refine AllReadyH.cons rfl (fun K hK => ?_) AllReadyH.nil
              rw [if_pos (by rfl)]
              refine oper_append_eq _ _ _ _ rfl _ _ _ _ rfl rfl hap ?_
              go_simp
              refine hK.out _ _ ?_ (fun hHeld => ?_)
              · exact s2
              clear hK K
              refine wpAnyH_take (i := 21) (oi := { dst := some 139, op := Op.fieldAddr 37 (Operand.tmp 22) 3, type := 0, pos := "plain.go:110", after := #[{ on := 0, ground := Ground.phase }, { on := 1, ground := Ground.phase }, { on := 2, ground := Ground.phase }, { on := 3, ground := Ground.phase }, { on := 4, ground := Ground.phase }, { on := 5, ground := Ground.phase }, { on := 6, ground := Ground.phase }, { on := 7, ground := Ground.phase }, { on := 8, ground := Ground.phase }, { on := 9, ground := Ground.phase }, { on := 10, ground := Ground.phase }, { on := 11, ground := Ground.phase }, { on := 12, ground := Ground.phase }, { on := 13, ground := Ground.phase }, { on := 14, ground := Ground.phase }, { on := 15, ground := Ground.phase }, { on := 16, ground := Ground.phase }, { on := 17, ground := Ground.phase }, { on := 18, ground := Ground.phase }, { on := 19, ground := Ground.phase }, { on := 20, ground := Ground.phase }], guard := none }) (v := ?vrfya21) rfl (by kernel_rfl) (by kernel_rfl) (by kernel_rfl) (fun _ _ _ h => h) (Or.inl ⟨by rfl, ?hrfya21⟩) (by assumption) ?rrfya21
              case hrfya21 => (intro w0 hSw; (try dsimp only at hSw); go_simp; try (with_reducible rfl))
              simp only [Act.put, List.setIfInBounds_toArray, List.set_cons_zero, List.set_cons_succ]
              refine wpAnyH_ready (rs := [22]) (by kernel_rfl) (by simp) ?_
              refine AllReadyH.cons rfl (fun K hK => ?_) AllReadyH.nil
              go_simp
              go_wp2_with (fail)
              refine hK.out _ _ ?_ (fun hHeld => ?_)
              · exact s3
              clear hK K
              refine wpAnyH_done (by kernel_rfl) ?_ _
              go_wp2
              go_roundw
              case rel => exact ⟨K ++ [⟨dv, (j : Int), c⟩], _, j + 1, by go_num, by omega, by rw [List.length_append, HI.out.1]; rfl, H5.out⟩
              case measure => simp [intOf]; omega
            · go_simp
              go_wp2_with (fail)
              refine hK.out _ _ ?_ (fun hHeld => ?_)
              · exact s1
              clear hK K
              refine wpAnyH_ready (rs := [1]) (by kernel_rfl) (by simp) ?_
              refine AllReadyH.cons rfl (fun K hK => ?_) AllReadyH.nil
              go_simp
              go_wp2_with (fail)
              refine hK.out _ _ ?_ (fun hHeld => ?_)
              · exact s1
              clear hK K
              refine wpAnyH_ready (rs := [20]) (by kernel_rfl) (by simp) ?_
              refine AllReadyH.cons rfl (fun K hK => ?_) AllReadyH.nil
              rw [if_pos (by rfl)]
              refine oper_append_eq _ _ _ _ rfl _ _ _ _ rfl rfl hap ?_
              go_simp
              refine hK.out _ _ ?_ (fun hHeld => ?_)
              · exact s2
              clear hK K
              refine wpAnyH_take (i := 21) (oi := { dst := some 139, op := Op.fieldAddr 37 (Operand.tmp 22) 3, type := 0, pos := "plain.go:110", after := #[{ on := 0, ground := Ground.phase }, { on := 1, ground := Ground.phase }, { on := 2, ground := Ground.phase }, { on := 3, ground := Ground.phase }, { on := 4, ground := Ground.phase }, { on := 5, ground := Ground.phase }, { on := 6, ground := Ground.phase }, { on := 7, ground := Ground.phase }, { on := 8, ground := Ground.phase }, { on := 9, ground := Ground.phase }, { on := 10, ground := Ground.phase }, { on := 11, ground := Ground.phase }, { on := 12, ground := Ground.phase }, { on := 13, ground := Ground.phase }, { on := 14, ground := Ground.phase }, { on := 15, ground := Ground.phase }, { on := 16, ground := Ground.phase }, { on := 17, ground := Ground.phase }, { on := 18, ground := Ground.phase }, { on := 19, ground := Ground.phase }, { on := 20, ground := Ground.phase }], guard := none }) (v := ?vrfyb21) rfl (by kernel_rfl) (by kernel_rfl) (by kernel_rfl) (fun _ _ _ h => h) (Or.inl ⟨by rfl, ?hrfyb21⟩) (by assumption) ?rrfyb21
              case hrfyb21 => (intro w0 hSw; (try dsimp only at hSw); go_simp; try (with_reducible rfl))
              simp only [Act.put, List.setIfInBounds_toArray, List.set_cons_zero, List.set_cons_succ]
              refine wpAnyH_ready (rs := [22]) (by kernel_rfl) (by simp) ?_
              refine AllReadyH.cons rfl (fun K hK => ?_) AllReadyH.nil
              go_simp
              go_wp2_with (fail)
              refine hK.out _ _ ?_ (fun hHeld => ?_)
              · exact s3
              clear hK K
              refine wpAnyH_done (by kernel_rfl) ?_ _
              go_wp2
              go_roundw
              case rel => exact ⟨K ++ [⟨dv, (j : Int), c⟩], _, j + 1, by go_num, by omega, by rw [List.length_append, HI.out.1]; rfl, H5.out⟩
              case measure => simp [intOf]; omega
        · have hx : nl ≤ j ∨ (¬ nl ≤ j ∧ 1000 ≤ j) := by omega
          obtain ⟨T, hT3, hTA⟩ := must_tell 4 (by decide) ⟨0, 0, eB⟩ K ⟨by decide, by decide⟩ (by simp [stP, lfN, lfT, lfS, eB]) (by unfold ckR; rw [if_pos rfl]; simp only [ckP]; rw [HI.out.2.hs.gl])
          rw [show ((4 + 1 : Nat) : Int) = 5 from rfl] at hTA
          have hT := tell_any 5 ⟨0, 0, eB⟩ K av cv (by decide) HI.out.2.hs.hw (by rw [← HI.out.1]; omega) wr (HI.out.2.row.at (by rw [← HI.out.1]; exact hav))
          rw [hTA] at hT
          simp only [rpC, ← HI.out.1] at hT
          obtain ⟨Tb, hTb⟩ : ∃ Tb : ByteArray, Tb = ⟨T.toArray⟩ := ⟨_, rfl⟩
          have hTs : (3 : Int) ≤ (Tb.size : Int) := by rw [hTb]; have : (⟨T.toArray⟩ : ByteArray).size = T.length := List.size_toArray; omega
          simp only [← hTb] at hT
          clear hTb hTA hT3
          subst hav
          rcases hx with x1 | ⟨x1, x2⟩
          · have x1' : ¬ (j : Int) < (nl : Int) := by omega
            clear hlt
            go_wp2_with (first | (go_at_call 13; refine hT.mono ?_; clear hT; rintro e w2 ⟨rfl, b2⟩; have H2 := Hid.mk b2; clear b2))
            go_ret
            exact ⟨rfl, chain HI.out.2.old H2.out (Nat.le_refl _)⟩
          · have x1' : (j : Int) < (nl : Int) := by omega
            have x2' : ¬ (j : Int) < 1000 := by omega
            clear hlt
            go_wp2_with (first | (go_at_call 13; refine hT.mono ?_; clear hT; rintro e w2 ⟨rfl, b2⟩; have H2 := Hid.mk b2; clear b2))
            go_ret
            exact ⟨rfl, chain HI.out.2.old H2.out (Nat.le_refl _)⟩
    · have e1' : 0 < errno := by omega
      have e2' : ¬ errno < 1000 := by omega
      simp only [dropC, sndC, Try.f8, Option.getD_some]
      go_wp2_with fail
      have H0 : Hid (0 = ([] : List Ht).length ∧ MI w W rb (.slice none 0 0) []) := ⟨rfl, HR.out, ⟨rfl, .inl ⟨rfl, rfl⟩⟩, fun k hk => (by cases hk), hb, MHs.nil⟩
      clear c0 c1 c2 c3 f0 f1 f2 f3
      go_loopw [25] (fun u wr => MR w rb u wr) (fun u _ => (1000 - intOf u).toNat)
      case atStart => exact ⟨[], _, 0, rfl, by omega, H0⟩
      case round =>
        obtain ⟨K, v, j, rfl, hj, HI⟩ := hrel
        clear H0
        have c0 := HI.out.2.rep.cell (o := 0) rfl
        have c1 := HI.out.2.rep.cell (o := 1) rfl
        have c2 := HI.out.2.rep.cell (o := 2) rfl
        have c3 := HI.out.2.rep.cell (o := 3) rfl
        have f3 := HI.out.2.rep.free 3
        obtain ⟨av, cv, hav, -⟩ := slice_form HI.out.2.row
        rw [← HI.out.1] at hav
        by_cases hlt : j < nl ∧ j < 1000
        · obtain ⟨h1, h2⟩ := hlt
          have h1' : (j : Int) < (nl : Int) := by omega
          have h2' : (j : Int) < 1000 := by omega
          obtain ⟨g, off, hag, hgl, hcs⟩ := (HLL.out.resolve_left (fun e => by rw [e] at HNL; have := HNL.out; simp at this; omega))
          have s0' := (hcs j (by rw [← HNL.out]; exact h1)).2.2
          obtain ⟨c, hc⟩ : ∃ c, c = (L[j]'(by rw [← HNL.out]; exact h1)).c := ⟨_, rfl⟩
          rw [← hc] at s0'
          have s0 := cell_below HI.out.2.old s0'
          clear s0' hcs hc
          subst hag
          have hq3 : ((j : Int) / 3) = ((j / 3 : Nat) : Int) := by simp
          obtain ⟨dv, hdv⟩ : ∃ dv : Int, dv = ((j / 3 : Nat) : Int) := ⟨_, rfl⟩
          have htd : (j : Int).tdiv 3 = dv := by rw [hdv]; simp
          have hwd : IntKind.i64.wrap dv = dv := by rw [IntKind.wrap_i64, hdv]; omega
          rcases Nat.lt_or_ge 200 c.size with q | q
          · have q' : (200 : Int) < (c.size : Int) := by omega
            have q2 : ¬ (c.size : Int) ≤ 200 := by omega
            have q3 : ¬ (c.size : Int) < 200 := by omega
            obtain ⟨C, hC⟩ : ∃ C, C = c.extract 0 200 := ⟨_, rfl⟩
            have hz : C.size ≤ 200 := by rw [hC, ByteArray.size_extract]; omega
            have hC' := hC.symm
            clear hC
            have hx : MHs (K ++ [⟨dv, (j : Int), C⟩]) := HI.out.2.hs.snoc C hz (by rw [← HI.out.1]; exact h2) dv (j : Int) (by rw [hdv, HI.out.1]) (by rw [HI.out.1])
            obtain ⟨v5, w5, hap, hr5, st5, loc5⟩ := hit_app1 wr.drew K v HI.out.2.row ⟨dv, (j : Int), C⟩ (by rw [← HI.out.1]; omega)
            have hap : (Builtin.append_ #[35, 35] 35 #[v, .slice (some ⟨wr.heap.size, 0, none⟩) 1 1]).run Try.prog (wr.alloc (.cells #[.int .i64 dv, .int .i64 (j : Int), .string C] 39)).drew = .ok v5 w5 := hap
            have st5 : Stay (fun k => v.ownBlock = some k) wr w5 := st5.undrew
            have hm5 := HI.out.2.app hx hrb hr5 st5 loc5
            have nrb : ¬ v.ownBlock = some rb := fun e => by obtain ⟨cur, hc⟩ := row_block HI.out.2.row e; have := HI.out.2.rep; unfold HC at this; rw [hc] at this; injection this with this; injection this with _ this; revert this; decide
            have r5 := HC.stay HI.out.2.rep st5 nrb
            have d3 := r5.cell (o := 3) rfl
            have z3 := r5.free 3
            have ngv : ¬ v.ownBlock = some g := fun e => by have := HI.out.2.own g e; omega
            have s2 := cstay (F := fun k => v.ownBlock = some k) st5 ngv s0
            have s3 : (w5.setCell ⟨rb, 3, none⟩ v5).cell? ⟨g, off + j * 3 + 2, none⟩ = some (.string c) := (World.cell?_setCell_far w5 ⟨rb, 3, none⟩ ⟨g, off + j * 3 + 2, none⟩ v5 (show rb ≠ g from fun e => by omega)).trans s2
            have bl : Below wr.heap.size wr (wr.alloc (.cells #[.int .i64 dv, .int .i64 (j : Int), .string C] 39)) := (Below.refl _ wr).alloc (Nat.le_refl _) _
            have s1 : (wr.alloc (.cells #[.int .i64 dv, .int .i64 (j : Int), .string C] 39)).drew.cell? ⟨g, off + j * 3 + 2, none⟩ = some (.string c) := (show (wr.alloc (.cells #[.int .i64 dv, .int .i64 (j : Int), .string C] 39)).cell? _ = _ from cell_below bl s0)
            have c3A : (wr.alloc (.cells #[.int .i64 dv, .int .i64 (j : Int), .string C] 39)).drew.cell? ⟨rb, 3, none⟩ = some v := (show (wr.alloc (.cells #[.int .i64 dv, .int .i64 (j : Int), .string C] 39)).cell? _ = _ from cell_below bl c3)
            obtain ⟨av5, cv5, hav5, -⟩ := slice_form hr5
            obtain ⟨nb, hnb⟩ : ∃ nb, nb = (K ++ [(⟨dv, (j : Int), C⟩ : Ht)]).length := ⟨_, rfl⟩
            rw [← hnb] at hav5
            have H5 := Hid.mk hm5
            rw [hav5] at hap H5 s3
            rw [hav] at hap c3 c3A d3
            clear hm5 hr5 st5 loc5 hx r5 bl hnb hav5 hav hdv hq3 c0 c1 c2 nrb ngv
            go_wp2
            refine wp_region_held_drew (S := fun w' => w'.cell? ⟨g, off + j * 3 + 2, none⟩ = some (.string c)) (by kernel_rfl) ?_ (fun hHeld => ?_)
            · exact s0
            refine wpAnyH_take (i := 0) (oi := { dst := some 118, op := Op.fieldAddr 37 (Operand.tmp 22) 3, type := 0, pos := "plain.go:110", after := #[], guard := none }) (v := ?vrgx0) rfl (by kernel_rfl) (by kernel_rfl) (by kernel_rfl) (fun _ _ _ h => h) (Or.inl ⟨by rfl, ?hrgx0⟩) (by assumption) ?rrgx0
            case hrgx0 => (intro w0 hSw; (try dsimp only at hSw); go_simp; try (with_reducible rfl))
            simp only [Act.put, List.setIfInBounds_toArray, List.set_cons_zero, List.set_cons_succ]
            refine wpAnyH_take (i := 2) (oi := { dst := some 120, op := Op.move (Operand.tmp 25), type := 3, pos := "plain.go:110", after := #[], guard := none }) (v := ?vrgx2) rfl (by kernel_rfl) (by kernel_rfl) (by kernel_rfl) (fun _ _ _ h => h) (Or.inl ⟨by rfl, ?hrgx2⟩) (by assumption) ?rrgx2
            case hrgx2 => (intro w0 hSw; (try dsimp only at hSw); go_simp; try (with_reducible rfl))
            simp only [Act.put, List.setIfInBounds_toArray, List.set_cons_zero, List.set_cons_succ]
            refine wpAnyH_take (i := 3) (oi := { dst := some 121, op := Op.binOp BinOp.quo 3 (Operand.tmp 120) (Operand.const (Value.int IntKind.i64 3)) 3, type := 3, pos := "plain.go:110", after := #[{ on := 2, ground := Ground.data }], guard := none }) (v := ?vrgx3) rfl (by kernel_rfl) (by kernel_rfl) (by kernel_rfl) (fun _ _ _ h => h) (Or.inl ⟨by rfl, ?hrgx3⟩) (by assumption) ?rrgx3
            case hrgx3 => (intro w0 hSw; (try dsimp only at hSw); go_simp; try (with_reducible rfl))
            simp only [Act.put, List.setIfInBounds_toArray, List.set_cons_zero, List.set_cons_succ]
            refine wpAnyH_take (i := 4) (oi := { dst := some 122, op := Op.move (Operand.tmp 25), type := 3, pos := "plain.go:110", after := #[], guard := none }) (v := ?vrgx4) rfl (by kernel_rfl) (by kernel_rfl) (by kernel_rfl) (fun _ _ _ h => h) (Or.inl ⟨by rfl, ?hrgx4⟩) (by assumption) ?rrgx4
            case hrgx4 => (intro w0 hSw; (try dsimp only at hSw); go_simp; try (with_reducible rfl))
            simp only [Act.put, List.setIfInBounds_toArray, List.set_cons_zero, List.set_cons_succ]
            refine wpAnyH_take (i := 5) (oi := { dst := some 123, op := Op.move (Operand.tmp 8), type := 35, pos := "plain.go:110", after := #[], guard := none }) (v := ?vrgx5) rfl (by kernel_rfl) (by kernel_rfl) (by kernel_rfl) (fun _ _ _ h => h) (Or.inl ⟨by rfl, ?hrgx5⟩) (by assumption) ?rrgx5
            case hrgx5 => (intro w0 hSw; (try dsimp only at hSw); go_simp; try (with_reducible rfl))
            simp only [Act.put, List.setIfInBounds_toArray, List.set_cons_zero, List.set_cons_succ]
            refine wpAnyH_take (i := 6) (oi := { dst := some 124, op := Op.move (Operand.tmp 25), type := 3, pos := "plain.go:110", after := #[], guard := none }) (v := ?vrgx6) rfl (by kernel_rfl) (by kernel_rfl) (by kernel_rfl) (fun _ _ _ h => h) (Or.inl ⟨by rfl, ?hrgx6⟩) (by assumption) ?rrgx6
            case hrgx6 => (intro w0 hSw; (try dsimp only at hSw); go_simp; try (with_reducible rfl))
            simp only [Act.put, List.setIfInBounds_toArray, List.set_cons_zero, List.set_cons_succ]
            refine wpAnyH_take (i := 7) (oi := { dst := some 125, op := Op.indexAddr 35 (Operand.tmp 123) (Operand.tmp 124), type := 0, pos := "plain.go:110", after := #[{ on := 5, ground := Ground.data }, { on := 6, ground := Ground.data }], guard := none }) (v := ?vrgx7) rfl (by kernel_rfl) (by kernel_rfl) (by kernel_rfl) (fun _ _ _ h => h) (Or.inl ⟨by rfl, ?hrgx7⟩) (by assumption) ?rrgx7
            case hrgx7 => (intro w0 hSw; (try dsimp only at hSw); go_simp; try (with_reducible rfl))
            simp only [Act.put, List.setIfInBounds_toArray, List.set_cons_zero, List.set_cons_succ]
            refine wpAnyH_take (i := 8) (oi := { dst := some 126, op := Op.fieldAddr 39 (Operand.tmp 125) 2, type := 0, pos := "plain.go:110", after := #[{ on := 7, ground := Ground.data }], guard := none }) (v := ?vrgx8) rfl (by kernel_rfl) (by kernel_rfl) (by kernel_rfl) (fun _ _ _ h => h) (Or.inl ⟨by rfl, ?hrgx8⟩) (by assumption) ?rrgx8
            case hrgx8 => (intro w0 hSw; (try dsimp only at hSw); go_simp; try (with_reducible rfl))
            simp only [Act.put, List.setIfInBounds_toArray, List.set_cons_zero, List.set_cons_succ]
            refine wpAnyH_take (i := 9) (oi := { dst := some 127, op := Op.load 9 (Operand.tmp 126), type := 9, pos := "plain.go:110", after := #[{ on := 8, ground := Ground.data }], guard := none }) (v := ?vrgx9) rfl (by kernel_rfl) (by kernel_rfl) (by kernel_rfl) (fun _ _ _ h => h) (Or.inl ⟨by rfl, ?hrgx9⟩) (by assumption) ?rrgx9
            case hrgx9 => (intro w0 hSw; (try dsimp only at hSw); go_simp; try (with_reducible rfl))
            simp only [Act.put, List.setIfInBounds_toArray, List.set_cons_zero, List.set_cons_succ]
            refine wpAnyH_take (i := 10) (oi := { dst := some 128, op := Op.move (Operand.tmp 8), type := 35, pos := "plain.go:110", after := #[], guard := none }) (v := ?vrgx10) rfl (by kernel_rfl) (by kernel_rfl) (by kernel_rfl) (fun _ _ _ h => h) (Or.inl ⟨by rfl, ?hrgx10⟩) (by assumption) ?rrgx10
            case hrgx10 => (intro w0 hSw; (try dsimp only at hSw); go_simp; try (with_reducible rfl))
            simp only [Act.put, List.setIfInBounds_toArray, List.set_cons_zero, List.set_cons_succ]
            refine wpAnyH_take (i := 11) (oi := { dst := some 129, op := Op.move (Operand.tmp 25), type := 3, pos := "plain.go:110", after := #[], guard := none }) (v := ?vrgx11) rfl (by kernel_rfl) (by kernel_rfl) (by kernel_rfl) (fun _ _ _ h => h) (Or.inl ⟨by rfl, ?hrgx11⟩) (by assumption) ?rrgx11
            case hrgx11 => (intro w0 hSw; (try dsimp only at hSw); go_simp; try (with_reducible rfl))
            simp only [Act.put, List.setIfInBounds_toArray, List.set_cons_zero, List.set_cons_succ]
            refine wpAnyH_take (i := 12) (oi := { dst := some 130, op := Op.indexAddr 35 (Operand.tmp 128) (Operand.tmp 129), type := 0, pos := "plain.go:110", after := #[{ on := 10, ground := Ground.data }, { on := 11, ground := Ground.data }], guard := none }) (v := ?vrgx12) rfl (by kernel_rfl) (by kernel_rfl) (by kernel_rfl) (fun _ _ _ h => h) (Or.inl ⟨by rfl, ?hrgx12⟩) (by assumption) ?rrgx12
            case hrgx12 => (intro w0 hSw; (try dsimp only at hSw); go_simp; try (with_reducible rfl))
            simp only [Act.put, List.setIfInBounds_toArray, List.set_cons_zero, List.set_cons_succ]
            refine wpAnyH_take (i := 13) (oi := { dst := some 131, op := Op.fieldAddr 39 (Operand.tmp 130) 2, type := 0, pos := "plain.go:110", after := #[{ on := 12, ground := Ground.data }], guard := none }) (v := ?vrgx13) rfl (by kernel_rfl) (by kernel_rfl) (by kernel_rfl) (fun _ _ _ h => h) (Or.inl ⟨by rfl, ?hrgx13⟩) (by assumption) ?rrgx13
            case hrgx13 => (intro w0 hSw; (try dsimp only at hSw); go_simp; try (with_reducible rfl))
            simp only [Act.put, List.setIfInBounds_toArray, List.set_cons_zero, List.set_cons_succ]
            refine wpAnyH_take (i := 14) (oi := { dst := some 132, op := Op.load 9 (Operand.tmp 131), type := 9, pos := "plain.go:110", after := #[{ on := 13, ground := Ground.data }], guard := none }) (v := ?vrgx14) rfl (by kernel_rfl) (by kernel_rfl) (by kernel_rfl) (fun _ _ _ h => h) (Or.inl ⟨by rfl, ?hrgx14⟩) (by assumption) ?rrgx14
            case hrgx14 => (intro w0 hSw; (try dsimp only at hSw); go_simp; try (with_reducible rfl))
            simp only [Act.put, List.setIfInBounds_toArray, List.set_cons_zero, List.set_cons_succ]
            refine wpAnyH_take (i := 15) (oi := { dst := some 133, op := Op.call { callee := Callee.builtin Builtin.len, args := #[Operand.tmp 132], argTypes := #[9] }, type := 3, pos := "plain.go:110", after := #[{ on := 14, ground := Ground.data }], guard := none }) (v := ?vrgx15) rfl (by kernel_rfl) (by kernel_rfl) (by kernel_rfl) (fun _ _ _ h => h) (Or.inl ⟨by rfl, ?hrgx15⟩) (by assumption) ?rrgx15
            case hrgx15 => (intro w0 hSw; (try dsimp only at hSw); go_simp; try (with_reducible rfl))
            simp only [Act.put, List.setIfInBounds_toArray, List.set_cons_zero, List.set_cons_succ]
            refine wpAnyH_take (i := 16) (oi := { dst := some 134, op := Op.call { callee := Callee.builtin Builtin.min, args := #[Operand.tmp 133, Operand.const (Value.int IntKind.i64 200)], argTypes := #[3, 3] }, type := 3, pos := "plain.go:110", after := #[{ on := 15, ground := Ground.data }], guard := none }) (v := ?vrgx16) rfl (by kernel_rfl) (by kernel_rfl) (by kernel_rfl) (fun _ _ _ h => h) (Or.inl ⟨by rfl, ?hrgx16⟩) (by assumption) ?rrgx16
            case hrgx16 => (intro w0 hSw; (try dsimp only at hSw); go_simp; try (with_reducible rfl))
            simp only [Act.put, List.setIfInBounds_toArray, List.set_cons_zero, List.set_cons_succ]
            refine wpAnyH_take (i := 17) (oi := { dst := some 135, op := Op.slice 9 (Operand.tmp 127) none (some (Operand.tmp 134)) none, type := 9, pos := "plain.go:110", after := #[{ on := 9, ground := Ground.data }, { on := 16, ground := Ground.data }], guard := none }) (v := ?vrgx17) rfl (by kernel_rfl) (by kernel_rfl) (by kernel_rfl) (fun _ _ _ h => h) (Or.inl ⟨by rfl, ?hrgx17⟩) (by assumption) ?rrgx17
            case hrgx17 => (intro w0 hSw; (try dsimp only at hSw); go_simp; try (with_reducible rfl))
            simp only [Act.put, List.setIfInBounds_toArray, List.set_cons_zero, List.set_cons_succ]
            refine wpAnyH_take (i := 18) (oi := { dst := some 136, op := Op.build 39 #[(0, Operand.tmp 121), (1, Operand.tmp 122), (2, Operand.tmp 135)], type := 39, pos := "plain.go:110", after := #[{ on := 3, ground := Ground.data }, { on := 4, ground := Ground.data }, { on := 17, ground := Ground.data }], guard := none }) (v := ?vrgx18) rfl (by kernel_rfl) (by kernel_rfl) (by kernel_rfl) (fun _ _ _ h => h) (Or.inl ⟨by rfl, ?hrgx18⟩) (by assumption) ?rrgx18
            case hrgx18 => (intro w0 hSw; (try dsimp only at hSw); go_simp; try (with_reducible rfl))
            simp only [Act.put, List.setIfInBounds_toArray, List.set_cons_zero, List.set_cons_succ]
            refine wpAnyH_ready (rs := [1, 19]) (by kernel_rfl) (by simp) ?_
            refine AllReadyH.cons rfl (fun K hK => ?_) (AllReadyH.cons rfl (fun K hK => ?_) AllReadyH.nil)
            · go_simp
              go_wp2_with (fail)
              refine hK.out _ _ ?_ (fun hHeld => ?_)
              · exact s0
              clear hK K
              refine wpAnyH_ready (rs := [19]) (by kernel_rfl) (by simp) ?_
              refine AllReadyH.cons rfl (fun K hK => ?_) AllReadyH.nil
              go_simp
              go_wp2_with (fail)
              refine hK.out _ _ ?_ (fun hHeld => ?_)
              · exact s1
              clear hK K
              refine wpAnyH_ready (rs := [20]) (by kernel_rfl) (by simp) ?_
              refine AllReadyH.cons rfl (fun K hK => ?_) AllReadyH.nil
              rw [if_pos (by rfl)]
              refine oper_append_eq _ _ _ _ rfl _ _ _ _ rfl rfl hap ?_
              go_simp
              refine hK.out _ _ ?_ (fun hHeld => ?_)
              · exact s2
              clear hK K
              refine wpAnyH_take (i := 21) (oi := { dst := some 139, op := Op.fieldAddr 37 (Operand.tmp 22) 3, type := 0, pos := "plain.go:110", after := #[{ on := 0, ground := Ground.phase }, { on := 1, ground := Ground.phase }, { on := 2, ground := Ground.phase }, { on := 3, ground := Ground.phase }, { on := 4, ground := Ground.phase }, { on := 5, ground := Ground.phase }, { on := 6, ground := Ground.phase }, { on := 7, ground := Ground.phase }, { on := 8, ground := Ground.phase }, { on := 9, ground := Ground.phase }, { on := 10, ground := Ground.phase }, { on := 11, ground := Ground.phase }, { on := 12, ground := Ground.phase }, { on := 13, ground := Ground.phase }, { on := 14, ground := Ground.phase }, { on := 15, ground := Ground.phase }, { on := 16, ground := Ground.phase }, { on := 17, ground := Ground.phase }, { on := 18, ground := Ground.phase }, { on := 19, ground := Ground.phase }, { on := 20, ground := Ground.phase }], guard := none }) (v := ?vrgxa21) rfl (by kernel_rfl) (by kernel_rfl) (by kernel_rfl) (fun _ _ _ h => h) (Or.inl ⟨by rfl, ?hrgxa21⟩) (by assumption) ?rrgxa21
              case hrgxa21 => (intro w0 hSw; (try dsimp only at hSw); go_simp; try (with_reducible rfl))
              simp only [Act.put, List.setIfInBounds_toArray, List.set_cons_zero, List.set_cons_succ]
              refine wpAnyH_ready (rs := [22]) (by kernel_rfl) (by simp) ?_
              refine AllReadyH.cons rfl (fun K hK => ?_) AllReadyH.nil
              go_simp
              go_wp2_with (fail)
              refine hK.out _ _ ?_ (fun hHeld => ?_)
              · exact s3
              clear hK K
              refine wpAnyH_done (by kernel_rfl) ?_ _
              go_wp2
              go_roundw
              case rel => exact ⟨K ++ [⟨dv, (j : Int), C⟩], _, j + 1, by go_num, by omega, by rw [List.length_append, HI.out.1]; rfl, H5.out⟩
              case measure => simp [intOf]; omega
            · go_simp
              go_wp2_with (fail)
              refine hK.out _ _ ?_ (fun hHeld => ?_)
              · exact s1
              clear hK K
              refine wpAnyH_ready (rs := [1]) (by kernel_rfl) (by simp) ?_
              refine AllReadyH.cons rfl (fun K hK => ?_) AllReadyH.nil
              go_simp
              go_wp2_with (fail)
              refine hK.out _ _ ?_ (fun hHeld => ?_)
              · exact s1
              clear hK K
              refine wpAnyH_ready (rs := [20]) (by kernel_rfl) (by simp) ?_
              refine AllReadyH.cons rfl (fun K hK => ?_) AllReadyH.nil
              rw [if_pos (by rfl)]
              refine oper_append_eq _ _ _ _ rfl _ _ _ _ rfl rfl hap ?_
              go_simp
              refine hK.out _ _ ?_ (fun hHeld => ?_)
              · exact s2
              clear hK K
              refine wpAnyH_take (i := 21) (oi := { dst := some 139, op := Op.fieldAddr 37 (Operand.tmp 22) 3, type := 0, pos := "plain.go:110", after := #[{ on := 0, ground := Ground.phase }, { on := 1, ground := Ground.phase }, { on := 2, ground := Ground.phase }, { on := 3, ground := Ground.phase }, { on := 4, ground := Ground.phase }, { on := 5, ground := Ground.phase }, { on := 6, ground := Ground.phase }, { on := 7, ground := Ground.phase }, { on := 8, ground := Ground.phase }, { on := 9, ground := Ground.phase }, { on := 10, ground := Ground.phase }, { on := 11, ground := Ground.phase }, { on := 12, ground := Ground.phase }, { on := 13, ground := Ground.phase }, { on := 14, ground := Ground.phase }, { on := 15, ground := Ground.phase }, { on := 16, ground := Ground.phase }, { on := 17, ground := Ground.phase }, { on := 18, ground := Ground.phase }, { on := 19, ground := Ground.phase }, { on := 20, ground := Ground.phase }], guard := none }) (v := ?vrgxb21) rfl (by kernel_rfl) (by kernel_rfl) (by kernel_rfl) (fun _ _ _ h => h) (Or.inl ⟨by rfl, ?hrgxb21⟩) (by assumption) ?rrgxb21
              case hrgxb21 => (intro w0 hSw; (try dsimp only at hSw); go_simp; try (with_reducible rfl))
              simp only [Act.put, List.setIfInBounds_toArray, List.set_cons_zero, List.set_cons_succ]
              refine wpAnyH_ready (rs := [22]) (by kernel_rfl) (by simp) ?_
              refine AllReadyH.cons rfl (fun K hK => ?_) AllReadyH.nil
              go_simp
              go_wp2_with (fail)
              refine hK.out _ _ ?_ (fun hHeld => ?_)
              · exact s3
              clear hK K
              refine wpAnyH_done (by kernel_rfl) ?_ _
              go_wp2
              go_roundw
              case rel => exact ⟨K ++ [⟨dv, (j : Int), C⟩], _, j + 1, by go_num, by omega, by rw [List.length_append, HI.out.1]; rfl, H5.out⟩
              case measure => simp [intOf]; omega
          · have q' : ¬ (200 : Int) < (c.size : Int) := by omega
            have q2 : (c.size : Int) ≤ 200 := by omega
            have hz : c.size ≤ 200 := q
            have qi : (if (200 : Int) < (c.size : Int) then (200 : Int) else (c.size : Int)) = (c.size : Int) := if_neg q'
            have hex : c.extract 0 c.size = c := by simp
            have hx : MHs (K ++ [⟨dv, (j : Int), c⟩]) := HI.out.2.hs.snoc c hz (by rw [← HI.out.1]; exact h2) dv (j : Int) (by rw [hdv, HI.out.1]) (by rw [HI.out.1])
            obtain ⟨v5, w5, hap, hr5, st5, loc5⟩ := hit_app1 wr.drew K v HI.out.2.row ⟨dv, (j : Int), c⟩ (by rw [← HI.out.1]; omega)
            have hap : (Builtin.append_ #[35, 35] 35 #[v, .slice (some ⟨wr.heap.size, 0, none⟩) 1 1]).run Try.prog (wr.alloc (.cells #[.int .i64 dv, .int .i64 (j : Int), .string c] 39)).drew = .ok v5 w5 := hap
            have st5 : Stay (fun k => v.ownBlock = some k) wr w5 := st5.undrew
            have hm5 := HI.out.2.app hx hrb hr5 st5 loc5
            have nrb : ¬ v.ownBlock = some rb := fun e => by obtain ⟨cur, hc⟩ := row_block HI.out.2.row e; have := HI.out.2.rep; unfold HC at this; rw [hc] at this; injection this with this; injection this with _ this; revert this; decide
            have r5 := HC.stay HI.out.2.rep st5 nrb
            have d3 := r5.cell (o := 3) rfl
            have z3 := r5.free 3
            have ngv : ¬ v.ownBlock = some g := fun e => by have := HI.out.2.own g e; omega
            have s2 := cstay (F := fun k => v.ownBlock = some k) st5 ngv s0
            have s3 : (w5.setCell ⟨rb, 3, none⟩ v5).cell? ⟨g, off + j * 3 + 2, none⟩ = some (.string c) := (World.cell?_setCell_far w5 ⟨rb, 3, none⟩ ⟨g, off + j * 3 + 2, none⟩ v5 (show rb ≠ g from fun e => by omega)).trans s2
            have bl : Below wr.heap.size wr (wr.alloc (.cells #[.int .i64 dv, .int .i64 (j : Int), .string c] 39)) := (Below.refl _ wr).alloc (Nat.le_refl _) _
            have s1 : (wr.alloc (.cells #[.int .i64 dv, .int .i64 (j : Int), .string c] 39)).drew.cell? ⟨g, off + j * 3 + 2, none⟩ = some (.string c) := (show (wr.alloc (.cells #[.int .i64 dv, .int .i64 (j : Int), .string c] 39)).cell? _ = _ from cell_below bl s0)
            have c3A : (wr.alloc (.cells #[.int .i64 dv, .int .i64 (j : Int), .string c] 39)).drew.cell? ⟨rb, 3, none⟩ = some v := (show (wr.alloc (.cells #[.int .i64 dv, .int .i64 (j : Int), .string c] 39)).cell? _ = _ from cell_below bl c3)
            obtain ⟨av5, cv5, hav5, -⟩ := slice_form hr5
            obtain ⟨nb, hnb⟩ : ∃ nb, nb = (K ++ [(⟨dv, (j : Int), c⟩ : Ht)]).length := ⟨_, rfl⟩
            rw [← hnb] at hav5
            have H5 := Hid.mk hm5
            rw [hav5] at hap H5 s3
            rw [hav] at hap c3 c3A d3
            clear hm5 hr5 st5 loc5 hx r5 bl hnb hav5 hav hdv hq3 c0 c1 c2 nrb ngv
            go_wp2
            refine wp_region_held_drew (S := fun w' => w'.cell? ⟨g, off + j * 3 + 2, none⟩ = some (.string c)) (by kernel_rfl) ?_ (fun hHeld => ?_)
            · exact s0
            refine wpAnyH_take (i := 0) (oi := { dst := some 118, op := Op.fieldAddr 37 (Operand.tmp 22) 3, type := 0, pos := "plain.go:110", after := #[], guard := none }) (v := ?vrgy0) rfl (by kernel_rfl) (by kernel_rfl) (by kernel_rfl) (fun _ _ _ h => h) (Or.inl ⟨by rfl, ?hrgy0⟩) (by assumption) ?rrgy0
            case hrgy0 => (intro w0 hSw; (try dsimp only at hSw); go_simp; try (with_reducible rfl))
            simp only [Act.put, List.setIfInBounds_toArray, List.set_cons_zero, List.set_cons_succ]
            refine wpAnyH_take (i := 2) (oi := { dst := some 120, op := Op.move (Operand.tmp 25), type := 3, pos := "plain.go:110", after := #[], guard := none }) (v := ?vrgy2) rfl (by kernel_rfl) (by kernel_rfl) (by kernel_rfl) (fun _ _ _ h => h) (Or.inl ⟨by rfl, ?hrgy2⟩) (by assumption) ?rrgy2
            case hrgy2 => (intro w0 hSw; (try dsimp only at hSw); go_simp; try (with_reducible rfl))
            simp only [Act.put, List.setIfInBounds_toArray, List.set_cons_zero, List.set_cons_succ]
            refine wpAnyH_take (i := 3) (oi := { dst := some 121, op := Op.binOp BinOp.quo 3 (Operand.tmp 120) (Operand.const (Value.int IntKind.i64 3)) 3, type := 3, pos := "plain.go:110", after := #[{ on := 2, ground := Ground.data }], guard := none }) (v := ?vrgy3) rfl (by kernel_rfl) (by kernel_rfl) (by kernel_rfl) (fun _ _ _ h => h) (Or.inl ⟨by rfl, ?hrgy3⟩) (by assumption) ?rrgy3
            case hrgy3 => (intro w0 hSw; (try dsimp only at hSw); go_simp; try (with_reducible rfl))
            simp only [Act.put, List.setIfInBounds_toArray, List.set_cons_zero, List.set_cons_succ]
            refine wpAnyH_take (i := 4) (oi := { dst := some 122, op := Op.move (Operand.tmp 25), type := 3, pos := "plain.go:110", after := #[], guard := none }) (v := ?vrgy4) rfl (by kernel_rfl) (by kernel_rfl) (by kernel_rfl) (fun _ _ _ h => h) (Or.inl ⟨by rfl, ?hrgy4⟩) (by assumption) ?rrgy4
            case hrgy4 => (intro w0 hSw; (try dsimp only at hSw); go_simp; try (with_reducible rfl))
            simp only [Act.put, List.setIfInBounds_toArray, List.set_cons_zero, List.set_cons_succ]
            refine wpAnyH_take (i := 5) (oi := { dst := some 123, op := Op.move (Operand.tmp 8), type := 35, pos := "plain.go:110", after := #[], guard := none }) (v := ?vrgy5) rfl (by kernel_rfl) (by kernel_rfl) (by kernel_rfl) (fun _ _ _ h => h) (Or.inl ⟨by rfl, ?hrgy5⟩) (by assumption) ?rrgy5
            case hrgy5 => (intro w0 hSw; (try dsimp only at hSw); go_simp; try (with_reducible rfl))
            simp only [Act.put, List.setIfInBounds_toArray, List.set_cons_zero, List.set_cons_succ]
            refine wpAnyH_take (i := 6) (oi := { dst := some 124, op := Op.move (Operand.tmp 25), type := 3, pos := "plain.go:110", after := #[], guard := none }) (v := ?vrgy6) rfl (by kernel_rfl) (by kernel_rfl) (by kernel_rfl) (fun _ _ _ h => h) (Or.inl ⟨by rfl, ?hrgy6⟩) (by assumption) ?rrgy6
            case hrgy6 => (intro w0 hSw; (try dsimp only at hSw); go_simp; try (with_reducible rfl))
            simp only [Act.put, List.setIfInBounds_toArray, List.set_cons_zero, List.set_cons_succ]
            refine wpAnyH_take (i := 7) (oi := { dst := some 125, op := Op.indexAddr 35 (Operand.tmp 123) (Operand.tmp 124), type := 0, pos := "plain.go:110", after := #[{ on := 5, ground := Ground.data }, { on := 6, ground := Ground.data }], guard := none }) (v := ?vrgy7) rfl (by kernel_rfl) (by kernel_rfl) (by kernel_rfl) (fun _ _ _ h => h) (Or.inl ⟨by rfl, ?hrgy7⟩) (by assumption) ?rrgy7
            case hrgy7 => (intro w0 hSw; (try dsimp only at hSw); go_simp; try (with_reducible rfl))
            simp only [Act.put, List.setIfInBounds_toArray, List.set_cons_zero, List.set_cons_succ]
            refine wpAnyH_take (i := 8) (oi := { dst := some 126, op := Op.fieldAddr 39 (Operand.tmp 125) 2, type := 0, pos := "plain.go:110", after := #[{ on := 7, ground := Ground.data }], guard := none }) (v := ?vrgy8) rfl (by kernel_rfl) (by kernel_rfl) (by kernel_rfl) (fun _ _ _ h => h) (Or.inl ⟨by rfl, ?hrgy8⟩) (by assumption) ?rrgy8
            case hrgy8 => (intro w0 hSw; (try dsimp only at hSw); go_simp; try (with_reducible rfl))
            simp only [Act.put, List.setIfInBounds_toArray, List.set_cons_zero, List.set_cons_succ]
            refine wpAnyH_take (i := 9) (oi := { dst := some 127, op := Op.load 9 (Operand.tmp 126), type := 9, pos := "plain.go:110", after := #[{ on := 8, ground := Ground.data }], guard := none }) (v := ?vrgy9) rfl (by kernel_rfl) (by kernel_rfl) (by kernel_rfl) (fun _ _ _ h => h) (Or.inl ⟨by rfl, ?hrgy9⟩) (by assumption) ?rrgy9
            case hrgy9 => (intro w0 hSw; (try dsimp only at hSw); go_simp; try (with_reducible rfl))
            simp only [Act.put, List.setIfInBounds_toArray, List.set_cons_zero, List.set_cons_succ]
            refine wpAnyH_take (i := 10) (oi := { dst := some 128, op := Op.move (Operand.tmp 8), type := 35, pos := "plain.go:110", after := #[], guard := none }) (v := ?vrgy10) rfl (by kernel_rfl) (by kernel_rfl) (by kernel_rfl) (fun _ _ _ h => h) (Or.inl ⟨by rfl, ?hrgy10⟩) (by assumption) ?rrgy10
            case hrgy10 => (intro w0 hSw; (try dsimp only at hSw); go_simp; try (with_reducible rfl))
            simp only [Act.put, List.setIfInBounds_toArray, List.set_cons_zero, List.set_cons_succ]
            refine wpAnyH_take (i := 11) (oi := { dst := some 129, op := Op.move (Operand.tmp 25), type := 3, pos := "plain.go:110", after := #[], guard := none }) (v := ?vrgy11) rfl (by kernel_rfl) (by kernel_rfl) (by kernel_rfl) (fun _ _ _ h => h) (Or.inl ⟨by rfl, ?hrgy11⟩) (by assumption) ?rrgy11
            case hrgy11 => (intro w0 hSw; (try dsimp only at hSw); go_simp; try (with_reducible rfl))
            simp only [Act.put, List.setIfInBounds_toArray, List.set_cons_zero, List.set_cons_succ]
            refine wpAnyH_take (i := 12) (oi := { dst := some 130, op := Op.indexAddr 35 (Operand.tmp 128) (Operand.tmp 129), type := 0, pos := "plain.go:110", after := #[{ on := 10, ground := Ground.data }, { on := 11, ground := Ground.data }], guard := none }) (v := ?vrgy12) rfl (by kernel_rfl) (by kernel_rfl) (by kernel_rfl) (fun _ _ _ h => h) (Or.inl ⟨by rfl, ?hrgy12⟩) (by assumption) ?rrgy12
            case hrgy12 => (intro w0 hSw; (try dsimp only at hSw); go_simp; try (with_reducible rfl))
            simp only [Act.put, List.setIfInBounds_toArray, List.set_cons_zero, List.set_cons_succ]
            refine wpAnyH_take (i := 13) (oi := { dst := some 131, op := Op.fieldAddr 39 (Operand.tmp 130) 2, type := 0, pos := "plain.go:110", after := #[{ on := 12, ground := Ground.data }], guard := none }) (v := ?vrgy13) rfl (by kernel_rfl) (by kernel_rfl) (by kernel_rfl) (fun _ _ _ h => h) (Or.inl ⟨by rfl, ?hrgy13⟩) (by assumption) ?rrgy13
            case hrgy13 => (intro w0 hSw; (try dsimp only at hSw); go_simp; try (with_reducible rfl))
            simp only [Act.put, List.setIfInBounds_toArray, List.set_cons_zero, List.set_cons_succ]
            refine wpAnyH_take (i := 14) (oi := { dst := some 132, op := Op.load 9 (Operand.tmp 131), type := 9, pos := "plain.go:110", after := #[{ on := 13, ground := Ground.data }], guard := none }) (v := ?vrgy14) rfl (by kernel_rfl) (by kernel_rfl) (by kernel_rfl) (fun _ _ _ h => h) (Or.inl ⟨by rfl, ?hrgy14⟩) (by assumption) ?rrgy14
            case hrgy14 => (intro w0 hSw; (try dsimp only at hSw); go_simp; try (with_reducible rfl))
            simp only [Act.put, List.setIfInBounds_toArray, List.set_cons_zero, List.set_cons_succ]
            refine wpAnyH_take (i := 15) (oi := { dst := some 133, op := Op.call { callee := Callee.builtin Builtin.len, args := #[Operand.tmp 132], argTypes := #[9] }, type := 3, pos := "plain.go:110", after := #[{ on := 14, ground := Ground.data }], guard := none }) (v := ?vrgy15) rfl (by kernel_rfl) (by kernel_rfl) (by kernel_rfl) (fun _ _ _ h => h) (Or.inl ⟨by rfl, ?hrgy15⟩) (by assumption) ?rrgy15
            case hrgy15 => (intro w0 hSw; (try dsimp only at hSw); go_simp; try (with_reducible rfl))
            simp only [Act.put, List.setIfInBounds_toArray, List.set_cons_zero, List.set_cons_succ]
            refine wpAnyH_take (i := 16) (oi := { dst := some 134, op := Op.call { callee := Callee.builtin Builtin.min, args := #[Operand.tmp 133, Operand.const (Value.int IntKind.i64 200)], argTypes := #[3, 3] }, type := 3, pos := "plain.go:110", after := #[{ on := 15, ground := Ground.data }], guard := none }) (v := ?vrgy16) rfl (by kernel_rfl) (by kernel_rfl) (by kernel_rfl) (fun _ _ _ h => h) (Or.inl ⟨by rfl, ?hrgy16⟩) (by assumption) ?rrgy16
            case hrgy16 => (intro w0 hSw; (try dsimp only at hSw); go_simp; try (with_reducible rfl))
            simp only [Act.put, List.setIfInBounds_toArray, List.set_cons_zero, List.set_cons_succ]
            refine wpAnyH_take (i := 17) (oi := { dst := some 135, op := Op.slice 9 (Operand.tmp 127) none (some (Operand.tmp 134)) none, type := 9, pos := "plain.go:110", after := #[{ on := 9, ground := Ground.data }, { on := 16, ground := Ground.data }], guard := none }) (v := ?vrgy17) rfl (by kernel_rfl) (by kernel_rfl) (by kernel_rfl) (fun _ _ _ h => h) (Or.inl ⟨by rfl, ?hrgy17⟩) (by assumption) ?rrgy17
            case hrgy17 => (intro w0 hSw; (try dsimp only at hSw); go_simp; try (with_reducible rfl))
            simp only [Act.put, List.setIfInBounds_toArray, List.set_cons_zero, List.set_cons_succ]
            refine wpAnyH_take (i := 18) (oi := { dst := some 136, op := Op.build 39 #[(0, Operand.tmp 121), (1, Operand.tmp 122), (2, Operand.tmp 135)], type := 39, pos := "plain.go:110", after := #[{ on := 3, ground := Ground.data }, { on := 4, ground := Ground.data }, { on := 17, ground := Ground.data }], guard := none }) (v := ?vrgy18) rfl (by kernel_rfl) (by kernel_rfl) (by kernel_rfl) (fun _ _ _ h => h) (Or.inl ⟨by rfl, ?hrgy18⟩) (by assumption) ?rrgy18
            case hrgy18 => (intro w0 hSw; (try dsimp only at hSw); go_simp; try (with_reducible rfl))
            simp only [Act.put, List.setIfInBounds_toArray, List.set_cons_zero, List.set_cons_succ]
            refine wpAnyH_ready (rs := [1, 19]) (by kernel_rfl) (by simp) ?_
            refine AllReadyH.cons rfl (fun K hK => ?_) (AllReadyH.cons rfl (fun K hK => ?_) AllReadyH.nil)
            · go_simp
              go_wp2_with (fail)
              refine hK.out _ _ ?_ (fun hHeld => ?_)
              · exact s0
              clear hK K
              refine wpAnyH_ready (rs := [19]) (by kernel_rfl) (by simp) ?_
              refine AllReadyH.cons rfl (fun K hK => ?_) AllReadyH.nil
              go_simp
              go_wp2_with (fail)
              refine hK.out _ _ ?_ (fun hHeld => ?_)
              · exact s1
              clear hK K
              refine wpAnyH_ready (rs := [20]) (by kernel_rfl) (by simp) ?_
              refine AllReadyH.cons rfl (fun K hK => ?_) AllReadyH.nil
              rw [if_pos (by rfl)]
              refine oper_append_eq _ _ _ _ rfl _ _ _ _ rfl rfl hap ?_
              go_simp
              refine hK.out _ _ ?_ (fun hHeld => ?_)
              · exact s2
              clear hK K
              refine wpAnyH_take (i := 21) (oi := { dst := some 139, op := Op.fieldAddr 37 (Operand.tmp 22) 3, type := 0, pos := "plain.go:110", after := #[{ on := 0, ground := Ground.phase }, { on := 1, ground := Ground.phase }, { on := 2, ground := Ground.phase }, { on := 3, ground := Ground.phase }, { on := 4, ground := Ground.phase }, { on := 5, ground := Ground.phase }, { on := 6, ground := Ground.phase }, { on := 7, ground := Ground.phase }, { on := 8, ground := Ground.phase }, { on := 9, ground := Ground.phase }, { on := 10, ground := Ground.phase }, { on := 11, ground := Ground.phase }, { on := 12, ground := Ground.phase }, { on := 13, ground := Ground.phase }, { on := 14, ground := Ground.phase }, { on := 15, ground := Ground.phase }, { on := 16, ground := Ground.phase }, { on := 17, ground := Ground.phase }, { on := 18, ground := Ground.phase }, { on := 19, ground := Ground.phase }, { on := 20, ground := Ground.phase }], guard := none }) (v := ?vrgya21) rfl (by kernel_rfl) (by kernel_rfl) (by kernel_rfl) (fun _ _ _ h => h) (Or.inl ⟨by rfl, ?hrgya21⟩) (by assumption) ?rrgya21
              case hrgya21 => (intro w0 hSw; (try dsimp only at hSw); go_simp; try (with_reducible rfl))
              simp only [Act.put, List.setIfInBounds_toArray, List.set_cons_zero, List.set_cons_succ]
              refine wpAnyH_ready (rs := [22]) (by kernel_rfl) (by simp) ?_
              refine AllReadyH.cons rfl (fun K hK => ?_) AllReadyH.nil
              go_simp
              go_wp2_with (fail)
              refine hK.out _ _ ?_ (fun hHeld => ?_)
              · exact s3
              clear hK K
              refine wpAnyH_done (by kernel_rfl) ?_ _
              go_wp2
              go_roundw
              case rel => exact ⟨K ++ [⟨dv, (j : Int), c⟩], _, j + 1, by go_num, by omega, by rw [List.length_append, HI.out.1]; rfl, H5.out⟩
              case measure => simp [intOf]; omega
            · go_simp
              go_wp2_with (fail)
              refine hK.out _ _ ?_ (fun hHeld => ?_)
              · exact s1
              clear hK K
              refine wpAnyH_ready (rs := [1]) (by kernel_rfl) (by simp) ?_
              refine AllReadyH.cons rfl (fun K hK => ?_) AllReadyH.nil
              go_simp
              go_wp2_with (fail)
              refine hK.out _ _ ?_ (fun hHeld => ?_)
              · exact s1
              clear hK K
              refine wpAnyH_ready (rs := [20]) (by kernel_rfl) (by simp) ?_
              refine AllReadyH.cons rfl (fun K hK => ?_) AllReadyH.nil
              rw [if_pos (by rfl)]
              refine oper_append_eq _ _ _ _ rfl _ _ _ _ rfl rfl hap ?_
              go_simp
              refine hK.out _ _ ?_ (fun hHeld => ?_)
              · exact s2
              clear hK K
              refine wpAnyH_take (i := 21) (oi := { dst := some 139, op := Op.fieldAddr 37 (Operand.tmp 22) 3, type := 0, pos := "plain.go:110", after := #[{ on := 0, ground := Ground.phase }, { on := 1, ground := Ground.phase }, { on := 2, ground := Ground.phase }, { on := 3, ground := Ground.phase }, { on := 4, ground := Ground.phase }, { on := 5, ground := Ground.phase }, { on := 6, ground := Ground.phase }, { on := 7, ground := Ground.phase }, { on := 8, ground := Ground.phase }, { on := 9, ground := Ground.phase }, { on := 10, ground := Ground.phase }, { on := 11, ground := Ground.phase }, { on := 12, ground := Ground.phase }, { on := 13, ground := Ground.phase }, { on := 14, ground := Ground.phase }, { on := 15, ground := Ground.phase }, { on := 16, ground := Ground.phase }, { on := 17, ground := Ground.phase }, { on := 18, ground := Ground.phase }, { on := 19, ground := Ground.phase }, { on := 20, ground := Ground.phase }], guard := none }) (v := ?vrgyb21) rfl (by kernel_rfl) (by kernel_rfl) (by kernel_rfl) (fun _ _ _ h => h) (Or.inl ⟨by rfl, ?hrgyb21⟩) (by assumption) ?rrgyb21
              case hrgyb21 => (intro w0 hSw; (try dsimp only at hSw); go_simp; try (with_reducible rfl))
              simp only [Act.put, List.setIfInBounds_toArray, List.set_cons_zero, List.set_cons_succ]
              refine wpAnyH_ready (rs := [22]) (by kernel_rfl) (by simp) ?_
              refine AllReadyH.cons rfl (fun K hK => ?_) AllReadyH.nil
              go_simp
              go_wp2_with (fail)
              refine hK.out _ _ ?_ (fun hHeld => ?_)
              · exact s3
              clear hK K
              refine wpAnyH_done (by kernel_rfl) ?_ _
              go_wp2
              go_roundw
              case rel => exact ⟨K ++ [⟨dv, (j : Int), c⟩], _, j + 1, by go_num, by omega, by rw [List.length_append, HI.out.1]; rfl, H5.out⟩
              case measure => simp [intOf]; omega
        · have hx : nl ≤ j ∨ (¬ nl ≤ j ∧ 1000 ≤ j) := by omega
          obtain ⟨T, hT3, hTA⟩ := must_tell 4 (by decide) ⟨0, 0, eB⟩ K ⟨by decide, by decide⟩ (by simp [stP, lfN, lfT, lfS, eB]) (by unfold ckR; rw [if_pos rfl]; simp only [ckP]; rw [HI.out.2.hs.gl])
          rw [show ((4 + 1 : Nat) : Int) = 5 from rfl] at hTA
          have hT := tell_any 5 ⟨0, 0, eB⟩ K av cv (by decide) HI.out.2.hs.hw (by rw [← HI.out.1]; omega) wr (HI.out.2.row.at (by rw [← HI.out.1]; exact hav))
          rw [hTA] at hT
          simp only [rpC, ← HI.out.1] at hT
          obtain ⟨Tb, hTb⟩ : ∃ Tb : ByteArray, Tb = ⟨T.toArray⟩ := ⟨_, rfl⟩
          have hTs : (3 : Int) ≤ (Tb.size : Int) := by rw [hTb]; have : (⟨T.toArray⟩ : ByteArray).size = T.length := List.size_toArray; omega
          simp only [← hTb] at hT
          clear hTb hTA hT3
          subst hav
          rcases hx with x1 | ⟨x1, x2⟩
          · have x1' : ¬ (j : Int) < (nl : Int) := by omega
            clear hlt
            go_wp2_with (first | (go_at_call 13; refine hT.mono ?_; clear hT; rintro e w2 ⟨rfl, b2⟩; have H2 := Hid.mk b2; clear b2))
            go_ret
            exact ⟨rfl, chain HI.out.2.old H2.out (Nat.le_refl _)⟩
          · have x1' : (j : Int) < (nl : Int) := by omega
            have x2' : ¬ (j : Int) < 1000 := by omega
            clear hlt
            go_wp2_with (first | (go_at_call 13; refine hT.mono ?_; clear hT; rintro e w2 ⟨rfl, b2⟩; have H2 := Hid.mk b2; clear b2))
            go_ret
            exact ⟨rfl, chain HI.out.2.old H2.out (Nat.le_refl _)⟩
end Go.Proofs.Ytnkepggldlobjaa
