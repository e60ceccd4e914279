/-
  DERIVED. WireMust behind Ask, with hits.
-/
import Derived.Test.YtnkepggldlobjaaWMustH
import Derived.Test.YtnkepggldlobjaaWRdH
import Derived.Test.YtnkepggldlobjaaWDrop
set_option linter.unusedVariables false
set_option linter.unusedSimpArgs false
namespace Go.Proofs.Ytnkepggldlobjaa
open Go.RowKit Go.Proofs.SealMath
set_option maxHeartbeats 8000000 in
set_option maxRecDepth 100000 in
theorem tail_3 {t0 t1 t2 t3 t4 t9 t10 t11 t12 t13 t14 t15 t16 t17 t18 t21 t25 t26 t27 t28 t29 t30 t31 t32 t33 t34 t35 t36 t37 t38 t39 t40 t41 t42 t43 t44 t45 t46 t47 t48 t49 t50 t51 t52 t53 t54 t55 t56 t57 t58 t59 t60 t61 t62 t63 t64 t65 t66 t67 t68 t69 t70 t71 t72 t73 t74 t75 t76 t77 t78 t79 t80 t81 t82 t83 t84 t85 t86 t87 t88 t89 t90 t91 t92 t93 t94 t95 t96 t97 t98 t99 t100 t101 t102 t103 t104 t105 t106 t107 t108 t109 t110 t111 t112 t113 t114 t115 t116 t117 t118 t119 t120 t121 t122 t123 t124 t125 t126 t127 t128 t129 t130 t131 t132 t133 t134 t135 t136 t137 t138 t139 t140 t141 t142 t143 t144 t145 t146 t147 t148 t149 t150 t151 t152 t153 t154 t155 t156 t157 t158 t159 t160 t161 t162 t163 t164 : Value} (w W : World) (n errno : Int) (text s : ByteArray) (a : Option Addr) (L : List Ht) (cap rb nl : Nat) (hn : n ≤ 9223372036854775807) (ht : text.size < 4611686018427387904) (hb : Below w.heap.size w W) (hrb : w.heap.size ≤ rb) (hr : HC W rb #[.int .i64 0, .int .i64 0, .string ⟨#[]⟩, .slice none 0 0] 37) (hs : (2 : Int) ≤ (s.size : Int)) (hL : HsAt w a L) (hl : nl < 4611686018427387904) (hnl : nl = L.length) :
    Code.wp Try.prog (dropC 10 (Try.f8.body.getD .skip)) (bodyPost Try.prog Try.f8 fun e w' => e = .returned (.bool true) ∧ Below w.heap.size w w') { tmps := #[t0, t1, t2, t3, t4, .int .i64 n, .string text, .int .i64 errno, .slice a nl cap, t9, t10, t11, t12, t13, t14, t15, t16, t17, t18, .bool true, .int .i64 4, t21, Pt rb, .string s, .int .i64 0, t25, t26, t27, t28, t29, t30, t31, t32, t33, t34, t35, t36, t37, t38, t39, t40, t41, t42, t43, t44, t45, t46, t47, t48, t49, t50, t51, t52, t53, t54, t55, t56, t57, t58, t59, t60, t61, t62, t63, t64, t65, t66, t67, t68, t69, t70, t71, t72, t73, t74, t75, t76, t77, t78, t79, t80, t81, t82, t83, t84, t85, t86, t87, t88, t89, t90, t91, t92, t93, t94, t95, t96, t97, t98, t99, t100, t101, t102, t103, t104, t105, t106, t107, t108, t109, t110, t111, t112, t113, t114, t115, t116, t117, t118, t119, t120, t121, t122, t123, t124, t125, t126, t127, t128, t129, t130, t131, t132, t133, t134, t135, t136, t137, t138, t139, t140, t141, t142, t143, t144, t145, t146, t147, t148, t149, t150, t151, t152, t153, t154, t155, t156, t157, t158, t159, t160, t161, t162, t163, t164], defers := [] } W := by
  have c0 := hr.cell (o := 0) rfl
  have c1 := hr.cell (o := 1) rfl
  have c2 := hr.cell (o := 2) rfl
  have c3 := hr.cell (o := 3) rfl
  have f0 := hr.free 0
  have f1 := hr.free 1
  have f2 := hr.free 2
  have f3 := hr.free 3
  have HR := Hid.mk hr
  have HLL := Hid.mk hL
  have HNL := Hid.mk hnl
  clear hr hL hnl
  by_cases he : 0 < errno ∧ errno < 1000
  · obtain ⟨e1, e2⟩ := he
    simp only [dropC, sndC, Try.f8, Option.getD_some]
    obtain ⟨T, hT3, hTA⟩ := must_tell 3 (by decide) ⟨errno, 0, eB⟩ [] ⟨by simp only; omega, by simp only; omega⟩ (by simp [stP, lfN, lfT, lfS, eB]) (by unfold ckR; rw [if_neg (by simp only; omega)])
    rw [show ((3 + 1 : Nat) : Int) = 4 from rfl] at hTA
    have hT := fun W => tell_any 4 ⟨errno, 0, eB⟩ [] none 0 (by first | decide | (simp only; omega)) (fun x hx => by simp at hx) (by decide) W (.inl rfl)
    rw [hTA] at hT
    simp only [rpC, List.length_nil] at hT
    obtain ⟨Tb, hTb⟩ : ∃ Tb : ByteArray, Tb = ⟨T.toArray⟩ := ⟨_, rfl⟩
    have hTs : (3 : Int) ≤ (Tb.size : Int) := by rw [hTb]; have : (⟨T.toArray⟩ : ByteArray).size = T.length := List.size_toArray; omega
    simp only [← hTb] at hT
    clear hTb hTA hT3
    go_wp2_with (first | (go_at_call 13; refine (hT _).mono ?_; clear hT; rintro e w2 ⟨rfl, b2⟩; have H2 := Hid.mk b2; clear b2))
    go_ret
    exact ⟨rfl, chain (hb.setCell (p := ⟨rb, 0, none⟩) hrb _) H2.out (Nat.le_refl _)⟩
  · have hnn : errno ≤ 0 ∨ (¬ errno ≤ 0 ∧ 1000 ≤ errno) := by omega
    clear he
    rcases hnn with e1 | ⟨e1, e2⟩
    · have e1' : ¬ 0 < errno := by omega
      simp only [dropC, sndC, Try.f8, Option.getD_some]
      go_wp2_with fail
      have H0 : Hid (0 = ([] : List Ht).length ∧ MI w W rb (.slice none 0 0) []) := ⟨rfl, HR.out, ⟨rfl, .inl ⟨rfl, rfl⟩⟩, fun k hk => (by cases hk), hb, MHs.nil⟩
      clear c0 c1 c2 c3 f0 f1 f2 f3
      go_loopw [25] (fun u wr => MR w rb u wr) (fun u _ => (1000 - intOf u).toNat)
      case atStart => exact ⟨[], _, 0, rfl, by omega, H0⟩
      case round =>
        obtain ⟨K, v, j, rfl, hj, HI⟩ := hrel
        clear H0
        have c0 := HI.out.2.rep.cell (o := 0) rfl
        have c1 := HI.out.2.rep.cell (o := 1) rfl
        have c2 := HI.out.2.rep.cell (o := 2) rfl
        have c3 := HI.out.2.rep.cell (o := 3) rfl
        have f3 := HI.out.2.rep.free 3
        obtain ⟨av, cv, hav, -⟩ := slice_form HI.out.2.row
        rw [← HI.out.1] at hav
        by_cases hlt : j < nl ∧ j < 1000
        · obtain ⟨h1, h2⟩ := hlt
          have h1' : (j : Int) < (nl : Int) := by omega
          have h2' : (j : Int) < 1000 := by omega
          obtain ⟨g, off, hag, hgl, hcs⟩ := (HLL.out.resolve_left (fun e => by rw [e] at HNL; have := HNL.out; simp at this; omega))
          have s0' := (hcs j (by rw [← HNL.out]; exact h1)).2.2
          obtain ⟨c, hc⟩ : ∃ c, c = (L[j]'(by rw [← HNL.out]; exact h1)).c := ⟨_, rfl⟩
          rw [← hc] at s0'
          have s0 := cell_below HI.out.2.old s0'
          clear s0' hcs hc
          subst hag
          have hq3 : ((j : Int) / 3) = ((j / 3 : Nat) : Int) := by simp
          obtain ⟨dv, hdv⟩ : ∃ dv : Int, dv = ((j / 3 : Nat) : Int) := ⟨_, rfl⟩
          have htd : (j : Int).tdiv 3 = dv := by rw [hdv]; simp
          have hwd : IntKind.i64.wrap dv = dv := by rw [IntKind.wrap_i64, hdv]; omega
          rcases Nat.lt_or_ge 200 c.size with q | q
          · have q' : (200 : Int) < (c.size : Int) := by omega
            have q2 : ¬ (c.size : Int) ≤ 200 := by omega
            have q3 : ¬ (c.size : Int) < 200 := by omega
            obtain ⟨C, hC⟩ : ∃ C, C = c.extract 0 200 := ⟨_, rfl⟩
            have hz : C.size ≤ 200 := by rw [hC, ByteArray.size_extract]; omega
            have hC' := hC.symm
            clear hC
            have hx : MHs (K ++ [⟨dv, (j : Int), C⟩]) := HI.out.2.hs.snoc C hz (by rw [← HI.out.1]; exact h2) dv (j : Int) (by rw [hdv, HI.out.1]) (by rw [HI.out.1])
            obtain ⟨v5, w5, hap, hr5, st5, loc5⟩ := hit_app1 wr.drew K v HI.out.2.row ⟨dv, (j : Int), C⟩ (by rw [← HI.out.1]; omega)
            have hap : (Builtin.append_ #[35, 35] 35 #[v, .slice (some ⟨wr.heap.size, 0, none⟩) 1 1]).run Try.prog (wr.alloc (.cells #[.int .i64 dv, .int .i64 (j : Int), .string C] 39)).drew = .ok v5 w5 := hap
            have st5 : Stay (fun k => v.ownBlock = some k) wr w5 := st5.undrew
            have hm5 := HI.out.2.app hx hrb hr5 st5 loc5
            have nrb : ¬ v.ownBlock = some rb := fun e => by obtain ⟨cur, hc⟩ := row_block HI.out.2.row e; have := HI.out.2.rep; unfold HC at this; rw [hc] at this; injection this with this; injection this with _ this; revert this; decide
            have r5 := HC.stay HI.out.2.rep st5 nrb
            have d3 := r5.cell (o := 3) rfl
            have z3 := r5.free 3
            have ngv : ¬ v.ownBlock = some g := fun e => by have := HI.out.2.own g e; omega
            have s2 := cstay (F := fun k => v.ownBlock = some k) st5 ngv s0
            have s3 : (w5.setCell ⟨rb, 3, none⟩ v5).cell? ⟨g, off + j * 3 + 2, none⟩ = some (.string c) := (World.cell?_setCell_far w5 ⟨rb, 3, none⟩ ⟨g, off + j * 3 + 2, none⟩ v5 (show rb ≠ g from fun e => by omega)).trans s2
            have bl : Below wr.heap.size wr (wr.alloc (.cells #[.int .i64 dv, .int .i64 (j : Int), .string C] 39)) := (Below.refl _ wr).alloc (Nat.le_refl _) _
            have s1 : (wr.alloc (.cells #[.int .i64 dv, .int .i64 (j : Int), .string C] 39)).drew.cell? ⟨g, off + j * 3 + 2, none⟩ = some (.string c) := (show (wr.alloc (.cells #[.int .i64 dv, .int .i64 (j : Int), .string C] 39)).cell? _ = _ from cell_below bl s0)
            have c3A : (wr.alloc (.cells #[.int .i64 dv, .int .i64 (j : Int), .string C] 39)).drew.cell? ⟨rb, 3, none⟩ = some v := (show (wr.alloc (.cells #[.int .i64 dv, .int .i64 (j : Int), .string C] 39)).cell? _ = _ from cell_below bl c3)
            obtain ⟨av5, cv5, hav5, -⟩ := slice_form hr5
            obtain ⟨nb, hnb⟩ : ∃ nb, nb = (K ++ [(⟨dv, (j : Int), C⟩ : Ht)]).length := ⟨_, rfl⟩
            rw [← hnb] at hav5
            have H5 := Hid.mk hm5
            rw [hav5] at hap H5 s3
            rw [hav] at hap c3 c3A d3
            clear hm5 hr5 st5 loc5 hx r5 bl hnb hav5 hav hdv hq3 c0 c1 c2 nrb ngv
            go_wp2
            refine wp_region_held_drew (S := fun w' => w'.cell? ⟨g, off + j * 3 + 2, none⟩ = some (.string c)) (by kernel_rfl) ?_ (fun hHeld => ?_)
            · exact s0
            refine wpAnyH_take (i := 0) (oi := { dst := some 118, op := Op.fieldAddr 37 (Operand.tmp 22) 3, type := 0, pos := "plain.go:110", after := #[], guard := none }) (v := ?vrdx0) rfl (by kernel_rfl) (by kernel_rfl) (by kernel_rfl) (fun _ _ _ h => h) (Or.inl ⟨by rfl, ?hrdx0⟩) (by assumption) ?rrdx0
            case hrdx0 => (intro w0 hSw; (try dsimp only at hSw); go_simp; try (with_reducible rfl))
            simp only [Act.put, List.setIfInBounds_toArray, List.set_cons_zero, List.set_cons_succ]
            refine wpAnyH_take (i := 2) (oi := { dst := some 120, op := Op.move (Operand.tmp 25), type := 3, pos := "plain.go:110", after := #[], guard := none }) (v := ?vrdx2) rfl (by kernel_rfl) (by kernel_rfl) (by kernel_rfl) (fun _ _ _ h => h) (Or.inl ⟨by rfl, ?hrdx2⟩) (by assumption) ?rrdx2
            case hrdx2 => (intro w0 hSw; (try dsimp only at hSw); go_simp; try (with_reducible rfl))
            simp only [Act.put, List.setIfInBounds_toArray, List.set_cons_zero, List.set_cons_succ]
            refine wpAnyH_take (i := 3) (oi := { dst := some 121, op := Op.binOp BinOp.quo 3 (Operand.tmp 120) (Operand.const (Value.int IntKind.i64 3)) 3, type := 3, pos := "plain.go:110", after := #[{ on := 2, ground := Ground.data }], guard := none }) (v := ?vrdx3) rfl (by kernel_rfl) (by kernel_rfl) (by kernel_rfl) (fun _ _ _ h => h) (Or.inl ⟨by rfl, ?hrdx3⟩) (by assumption) ?rrdx3
            case hrdx3 => (intro w0 hSw; (try dsimp only at hSw); go_simp; try (with_reducible rfl))
            simp only [Act.put, List.setIfInBounds_toArray, List.set_cons_zero, List.set_cons_succ]
            refine wpAnyH_take (i := 4) (oi := { dst := some 122, op := Op.move (Operand.tmp 25), type := 3, pos := "plain.go:110", after := #[], guard := none }) (v := ?vrdx4) rfl (by kernel_rfl) (by kernel_rfl) (by kernel_rfl) (fun _ _ _ h => h) (Or.inl ⟨by rfl, ?hrdx4⟩) (by assumption) ?rrdx4
            case hrdx4 => (intro w0 hSw; (try dsimp only at hSw); go_simp; try (with_reducible rfl))
            simp only [Act.put, List.setIfInBounds_toArray, List.set_cons_zero, List.set_cons_succ]
            refine wpAnyH_take (i := 5) (oi := { dst := some 123, op := Op.move (Operand.tmp 8), type := 35, pos := "plain.go:110", after := #[], guard := none }) (v := ?vrdx5) rfl (by kernel_rfl) (by kernel_rfl) (by kernel_rfl) (fun _ _ _ h => h) (Or.inl ⟨by rfl, ?hrdx5⟩) (by assumption) ?rrdx5
            case hrdx5 => (intro w0 hSw; (try dsimp only at hSw); go_simp; try (with_reducible rfl))
            simp only [Act.put, List.setIfInBounds_toArray, List.set_cons_zero, List.set_cons_succ]
            refine wpAnyH_take (i := 6) (oi := { dst := some 124, op := Op.move (Operand.tmp 25), type := 3, pos := "plain.go:110", after := #[], guard := none }) (v := ?vrdx6) rfl (by kernel_rfl) (by kernel_rfl) (by kernel_rfl) (fun _ _ _ h => h) (Or.inl ⟨by rfl, ?hrdx6⟩) (by assumption) ?rrdx6
            case hrdx6 => (intro w0 hSw; (try dsimp only at hSw); go_simp; try (with_reducible rfl))
            simp only [Act.put, List.setIfInBounds_toArray, List.set_cons_zero, List.set_cons_succ]
            refine wpAnyH_take (i := 7) (oi := { dst := some 125, op := Op.indexAddr 35 (Operand.tmp 123) (Operand.tmp 124), type := 0, pos := "plain.go:110", after := #[{ on := 5, ground := Ground.data }, { on := 6, ground := Ground.data }], guard := none }) (v := ?vrdx7) rfl (by kernel_rfl) (by kernel_rfl) (by kernel_rfl) (fun _ _ _ h => h) (Or.inl ⟨by rfl, ?hrdx7⟩) (by assumption) ?rrdx7
            case hrdx7 => (intro w0 hSw; (try dsimp only at hSw); go_simp; try (with_reducible rfl))
            simp only [Act.put, List.setIfInBounds_toArray, List.set_cons_zero, List.set_cons_succ]
            refine wpAnyH_take (i := 8) (oi := { dst := some 126, op := Op.fieldAddr 39 (Operand.tmp 125) 2, type := 0, pos := "plain.go:110", after := #[{ on := 7, ground := Ground.data }], guard := none }) (v := ?vrdx8) rfl (by kernel_rfl) (by kernel_rfl) (by kernel_rfl) (fun _ _ _ h => h) (Or.inl ⟨by rfl, ?hrdx8⟩) (by assumption) ?rrdx8
            case hrdx8 => (intro w0 hSw; (try dsimp only at hSw); go_simp; try (with_reducible rfl))
            simp only [Act.put, List.setIfInBounds_toArray, List.set_cons_zero, List.set_cons_succ]
            refine wpAnyH_take (i := 9) (oi := { dst := some 127, op := Op.load 9 (Operand.tmp 126), type := 9, pos := "plain.go:110", after := #[{ on := 8, ground := Ground.data }], guard := none }) (v := ?vrdx9) rfl (by kernel_rfl) (by kernel_rfl) (by kernel_rfl) (fun _ _ _ h => h) (Or.inl ⟨by rfl, ?hrdx9⟩) (by assumption) ?rrdx9
            case hrdx9 => (intro w0 hSw; (try dsimp only at hSw); go_simp; try (with_reducible rfl))
            simp only [Act.put, List.setIfInBounds_toArray, List.set_cons_zero, List.set_cons_succ]
            refine wpAnyH_take (i := 10) (oi := { dst := some 128, op := Op.move (Operand.tmp 8), type := 35, pos := "plain.go:110", after := #[], guard := none }) (v := ?vrdx10) rfl (by kernel_rfl) (by kernel_rfl) (by kernel_rfl) (fun _ _ _ h => h) (Or.inl ⟨by rfl, ?hrdx10⟩) (by assumption) ?rrdx10
            case hrdx10 => (intro w0 hSw; (try dsimp only at hSw); go_simp; try (with_reducible rfl))
            simp only [Act.put, List.setIfInBounds_toArray, List.set_cons_zero, List.set_cons_succ]
            refine wpAnyH_take (i := 11) (oi := { dst := some 129, op := Op.move (Operand.tmp 25), type := 3, pos := "plain.go:110", after := #[], guard := none }) (v := ?vrdx11) rfl (by kernel_rfl) (by kernel_rfl) (by kernel_rfl) (fun _ _ _ h => h) (Or.inl ⟨by rfl, ?hrdx11⟩) (by assumption) ?rrdx11
            case hrdx11 => (intro w0 hSw; (try dsimp only at hSw); go_simp; try (with_reducible rfl))
            simp only [Act.put, List.setIfInBounds_toArray, List.set_cons_zero, List.set_cons_succ]
            refine wpAnyH_take (i := 12) (oi := { dst := some 130, op := Op.indexAddr 35 (Operand.tmp 128) (Operand.tmp 129), type := 0, pos := "plain.go:110", after := #[{ on := 10, ground := Ground.data }, { on := 11, ground := Ground.data }], guard := none }) (v := ?vrdx12) rfl (by kernel_rfl) (by kernel_rfl) (by kernel_rfl) (fun _ _ _ h => h) (Or.inl ⟨by rfl, ?hrdx12⟩) (by assumption) ?rrdx12
            case hrdx12 => (intro w0 hSw; (try dsimp only at hSw); go_simp; try (with_reducible rfl))
            simp only [Act.put, List.setIfInBounds_toArray, List.set_cons_zero, List.set_cons_succ]
            refine wpAnyH_take (i := 13) (oi := { dst := some 131, op := Op.fieldAddr 39 (Operand.tmp 130) 2, type := 0, pos := "plain.go:110", after := #[{ on := 12, ground := Ground.data }], guard := none }) (v := ?vrdx13) rfl (by kernel_rfl) (by kernel_rfl) (by kernel_rfl) (fun _ _ _ h => h) (Or.inl ⟨by rfl, ?hrdx13⟩) (by assumption) ?rrdx13
            case hrdx13 => (intro w0 hSw; (try dsimp only at hSw); go_simp; try (with_reducible rfl))
            simp only [Act.put, List.setIfInBounds_toArray, List.set_cons_zero, List.set_cons_succ]
            refine wpAnyH_take (i := 14) (oi := { dst := some 132, op := Op.load 9 (Operand.tmp 131), type := 9, pos := "plain.go:110", after := #[{ on := 13, ground := Ground.data }], guard := none }) (v := ?vrdx14) rfl (by kernel_rfl) (by kernel_rfl) (by kernel_rfl) (fun _ _ _ h => h) (Or.inl ⟨by rfl, ?hrdx14⟩) (by assumption) ?rrdx14
            case hrdx14 => (intro w0 hSw; (try dsimp only at hSw); go_simp; try (with_reducible rfl))
            simp only [Act.put, List.setIfInBounds_toArray, List.set_cons_zero, List.set_cons_succ]
            refine wpAnyH_take (i := 15) (oi := { dst := some 133, op := Op.call { callee := Callee.builtin Builtin.len, args := #[Operand.tmp 132], argTypes := #[9] }, type := 3, pos := "plain.go:110", after := #[{ on := 14, ground := Ground.data }], guard := none }) (v := ?vrdx15) rfl (by kernel_rfl) (by kernel_rfl) (by kernel_rfl) (fun _ _ _ h => h) (Or.inl ⟨by rfl, ?hrdx15⟩) (by assumption) ?rrdx15
            case hrdx15 => (intro w0 hSw; (try dsimp only at hSw); go_simp; try (with_reducible rfl))
            simp only [Act.put, List.setIfInBounds_toArray, List.set_cons_zero, List.set_cons_succ]
            refine wpAnyH_take (i := 16) (oi := { dst := some 134, op := Op.call { callee := Callee.builtin Builtin.min, args := #[Operand.tmp 133, Operand.const (Value.int IntKind.i64 200)], argTypes := #[3, 3] }, type := 3, pos := "plain.go:110", after := #[{ on := 15, ground := Ground.data }], guard := none }) (v := ?vrdx16) rfl (by kernel_rfl) (by kernel_rfl) (by kernel_rfl) (fun _ _ _ h => h) (Or.inl ⟨by rfl, ?hrdx16⟩) (by assumption) ?rrdx16
            case hrdx16 => (intro w0 hSw; (try dsimp only at hSw); go_simp; try (with_reducible rfl))
            simp only [Act.put, List.setIfInBounds_toArray, List.set_cons_zero, List.set_cons_succ]
            refine wpAnyH_take (i := 17) (oi := { dst := some 135, op := Op.slice 9 (Operand.tmp 127) none (some (Operand.tmp 134)) none, type := 9, pos := "plain.go:110", after := #[{ on := 9, ground := Ground.data }, { on := 16, ground := Ground.data }], guard := none }) (v := ?vrdx17) rfl (by kernel_rfl) (by kernel_rfl) (by kernel_rfl) (fun _ _ _ h => h) (Or.inl ⟨by rfl, ?hrdx17⟩) (by assumption) ?rrdx17
            case hrdx17 => (intro w0 hSw; (try dsimp only at hSw); go_simp; try (with_reducible rfl))
            simp only [Act.put, List.setIfInBounds_toArray, List.set_cons_zero, List.set_cons_succ]
            refine wpAnyH_take (i := 18) (oi := { dst := some 136, op := Op.build 39 #[(0, Operand.tmp 121), (1, Operand.tmp 122), (2, Operand.tmp 135)], type := 39, pos := "plain.go:110", after := #[{ on := 3, ground := Ground.data }, { on := 4, ground := Ground.data }, { on := 17, ground := Ground.data }], guard := none }) (v := ?vrdx18) rfl (by kernel_rfl) (by kernel_rfl) (by kernel_rfl) (fun _ _ _ h => h) (Or.inl ⟨by rfl, ?hrdx18⟩) (by assumption) ?rrdx18
            case hrdx18 => (intro w0 hSw; (try dsimp only at hSw); go_simp; try (with_reducible rfl))
            simp only [Act.put, List.setIfInBounds_toArray, List.set_cons_zero, List.set_cons_succ]
            refine wpAnyH_ready (rs := [1, 19]) (by kernel_rfl) (by simp) ?_
            refine AllReadyH.cons rfl (fun K hK => ?_) (AllReadyH.cons rfl (fun K hK => ?_) AllReadyH.nil)
            · go_simp
              go_wp2_with (fail)
              refine hK.out _ _ ?_ (fun hHeld => ?_)
              · exact s0
              clear hK K
              refine wpAnyH_ready (rs := [19]) (by kernel_rfl) (by simp) ?_
              refine AllReadyH.cons rfl (fun K hK => ?_) AllReadyH.nil
              go_simp
              go_wp2_with (fail)
              refine hK.out _ _ ?_ (fun hHeld => ?_)
              · exact s1
              clear hK K
              refine wpAnyH_ready (rs := [20]) (by kernel_rfl) (by simp) ?_
              refine AllReadyH.cons rfl (fun K hK => ?_) AllReadyH.nil
              rw [if_pos (by rfl)]
              refine oper_append_eq _ _ _ _ rfl _ _ _ _ rfl rfl hap ?_
              go_simp
              refine hK.out _ _ ?_ (fun hHeld => ?_)
              · exact s2
              clear hK K
              refine wpAnyH_take (i := 21) (oi := { dst := some 139, op := Op.fieldAddr 37 (Operand.tmp 22) 3, type := 0, pos := "plain.go:110", after := #[{ on := 0, ground := Ground.phase }, { on := 1, ground := Ground.phase }, { on := 2, ground := Ground.phase }, { on := 3, ground := Ground.phase }, { on := 4, ground := Ground.phase }, { on := 5, ground := Ground.phase }, { on := 6, ground := Ground.phase }, { on := 7, ground := Ground.phase }, { on := 8, ground := Ground.phase }, { on := 9, ground := Ground.phase }, { on := 10, ground := Ground.phase }, { on := 11, ground := Ground.phase }, { on := 12, ground := Ground.phase }, { on := 13, ground := Ground.phase }, { on := 14, ground := Ground.phase }, { on := 15, ground := Ground.phase }, { on := 16, ground := Ground.phase }, { on := 17, ground := Ground.phase }, { on := 18, ground := Ground.phase }, { on := 19, ground := Ground.phase }, { on := 20, ground := Ground.phase }], guard := none }) (v := ?vrdxa21) rfl (by kernel_rfl) (by kernel_rfl) (by kernel_rfl) (fun _ _ _ h => h) (Or.inl ⟨by rfl, ?hrdxa21⟩) (by assumption) ?rrdxa21
              case hrdxa21 => (intro w0 hSw; (try dsimp only at hSw); go_simp; try (with_reducible rfl))
              simp only [Act.put, List.setIfInBounds_toArray, List.set_cons_zero, List.set_cons_succ]
              refine wpAnyH_ready (rs := [22]) (by kernel_rfl) (by simp) ?_
              refine AllReadyH.cons rfl (fun K hK => ?_) AllReadyH.nil
              go_simp
              go_wp2_with (fail)
              refine hK.out _ _ ?_ (fun hHeld => ?_)
              · exact s3
              clear hK K
              refine wpAnyH_done (by kernel_rfl) ?_ _
              go_wp2
              go_roundw
              case rel => exact ⟨K ++ [⟨dv, (j : Int), C⟩], _, j + 1, by go_num, by omega, by rw [List.length_append, HI.out.1]; rfl, H5.out⟩
              case measure => simp [intOf]; omega
            · go_simp
              go_wp2_with (fail)
              refine hK.out _ _ ?_ (fun hHeld => ?_)
              · exact s1
              clear hK K
              refine wpAnyH_ready (rs := [1]) (by kernel_rfl) (by simp) ?_
              refine AllReadyH.cons rfl (fun K hK => ?_) AllReadyH.nil
              go_simp
              go_wp2_with (fail)
              refine hK.out _ _ ?_ (fun hHeld => ?_)
              · exact s1
              clear hK K
              refine wpAnyH_ready (rs := [20]) (by kernel_rfl) (by simp) ?_
              refine AllReadyH.cons rfl (fun K hK => ?_) AllReadyH.nil
              rw [if_pos (by rfl)]
              refine oper_append_eq _ _ _ _ rfl _ _ _ _ rfl rfl hap ?_
              go_simp
              refine hK.out _ _ ?_ (fun hHeld => ?_)
              · exact s2
              clear hK K
              refine wpAnyH_take (i := 21) (oi := { dst := some 139, op := Op.fieldAddr 37 (Operand.tmp 22) 3, type := 0, pos := "plain.go:110", after := #[{ on := 0, ground := Ground.phase }, { on := 1, ground := Ground.phase }, { on := 2, ground := Ground.phase }, { on := 3, ground := Ground.phase }, { on := 4, ground := Ground.phase }, { on := 5, ground := Ground.phase }, { on := 6, ground := Ground.phase }, { on := 7, ground := Ground.phase }, { on := 8, ground := Ground.phase }, { on := 9, ground := Ground.phase }, { on := 10, ground := Ground.phase }, { on := 11, ground := Ground.phase }, { on := 12, ground := Ground.phase }, { on := 13, ground := Ground.phase }, { on := 14, ground := Ground.phase }, { on := 15, ground := Ground.phase }, { on := 16, ground := Ground.phase }, { on := 17, ground := Ground.phase }, { on := 18, ground := Ground.phase }, { on := 19, ground := Ground.phase }, { on := 20, ground := Ground.phase }], guard := none }) (v := ?vrdxb21) rfl (by kernel_rfl) (by kernel_rfl) (by kernel_rfl) (fun _ _ _ h => h) (Or.inl ⟨by rfl, ?hrdxb21⟩) (by assumption) ?rrdxb21
              case hrdxb21 => (intro w0 hSw; (try dsimp only at hSw); go_simp; try (with_reducible rfl))
              simp only [Act.put, List.setIfInBounds_toArray, List.set_cons_zero, List.set_cons_succ]
              refine wpAnyH_ready (rs := [22]) (by kernel_rfl) (by simp) ?_
              refine AllReadyH.cons rfl (fun K hK => ?_) AllReadyH.nil
              go_simp
              go_wp2_with (fail)
              refine hK.out _ _ ?_ (fun hHeld => ?_)
              · exact s3
              clear hK K
              refine wpAnyH_done (by kernel_rfl) ?_ _
              go_wp2
              go_roundw
              case rel => exact ⟨K ++ [⟨dv, (j : Int), C⟩], _, j + 1, by go_num, by omega, by rw [List.length_append, HI.out.1]; rfl, H5.out⟩
              case measure => simp [intOf]; omega
          · have q' : ¬ (200 : Int) < (c.size : Int) := by omega
            have q2 : (c.size : Int) ≤ 200 := by omega
            have hz : c.size ≤ 200 := q
            have qi : (if (200 : Int) < (c.size : Int) then (200 : Int) else (c.size : Int)) = (c.size : Int) := if_neg q'
            have hex : c.extract 0 c.size = c := by simp
            have hx : MHs (K ++ [⟨dv, (j : Int), c⟩]) := HI.out.2.hs.snoc c hz (by rw [← HI.out.1]; exact h2) dv (j : Int) (by rw [hdv, HI.out.1]) (by rw [HI.out.1])
            obtain ⟨v5, w5, hap, hr5, st5, loc5⟩ := hit_app1 wr.drew K v HI.out.2.row ⟨dv, (j : Int), c⟩ (by rw [← HI.out.1]; omega)
            have hap : (Builtin.append_ #[35, 35] 35 #[v, .slice (some ⟨wr.heap.size, 0, none⟩) 1 1]).run Try.prog (wr.alloc (.cells #[.int .i64 dv, .int .i64 (j : Int), .string c] 39)).drew = .ok v5 w5 := hap
            have st5 : Stay (fun k => v.ownBlock = some k) wr w5 := st5.undrew
            have hm5 := HI.out.2.app hx hrb hr5 st5 loc5
            have nrb : ¬ v.ownBlock = some rb := fun e => by obtain ⟨cur, hc⟩ := row_block HI.out.2.row e; have := HI.out.2.rep; unfold HC at this; rw [hc] at this; injection this with this; injection this with _ this; revert this; decide
            have r5 := HC.stay HI.out.2.rep st5 nrb
            have d3 := r5.cell (o := 3) rfl
            have z3 := r5.free 3
            have ngv : ¬ v.ownBlock = some g := fun e => by have := HI.out.2.own g e; omega
            have s2 := cstay (F := fun k => v.ownBlock = some k) st5 ngv s0
            have s3 : (w5.setCell ⟨rb, 3, none⟩ v5).cell? ⟨g, off + j * 3 + 2, none⟩ = some (.string c) := (World.cell?_setCell_far w5 ⟨rb, 3, none⟩ ⟨g, off + j * 3 + 2, none⟩ v5 (show rb ≠ g from fun e => by omega)).trans s2
            have bl : Below wr.heap.size wr (wr.alloc (.cells #[.int .i64 dv, .int .i64 (j : Int), .string c] 39)) := (Below.refl _ wr).alloc (Nat.le_refl _) _
            have s1 : (wr.alloc (.cells #[.int .i64 dv, .int .i64 (j : Int), .string c] 39)).drew.cell? ⟨g, off + j * 3 + 2, none⟩ = some (.string c) := (show (wr.alloc (.cells #[.int .i64 dv, .int .i64 (j : Int), .string c] 39)).cell? _ = _ from cell_below bl s0)
            have c3A : (wr.alloc (.cells #[.int .i64 dv, .int .i64 (j : Int), .string c] 39)).drew.cell? ⟨rb, 3, none⟩ = some v := (show (wr.alloc (.cells #[.int .i64 dv, .int .i64 (j : Int), .string c] 39)).cell? _ = _ from cell_below bl c3)
            obtain ⟨av5, cv5, hav5, -⟩ := slice_form hr5
            obtain ⟨nb, hnb⟩ : ∃ nb, nb = (K ++ [(⟨dv, (j : Int), c⟩ : Ht)]).length := ⟨_, rfl⟩
            rw [← hnb] at hav5
            have H5 := Hid.mk hm5
            rw [hav5] at hap H5 s3
            rw [hav] at hap c3 c3A d3
            clear hm5 hr5 st5 loc5 hx r5 bl hnb hav5 hav hdv hq3 c0 c1 c2 nrb ngv
            go_wp2
            refine wp_region_held_drew (S := fun w' => w'.cell? ⟨g, off + j * 3 + 2, none⟩ = some (.string c)) (by kernel_rfl) ?_ (fun hHeld => ?_)
            · exact s0
            refine wpAnyH_take (i := 0) (oi := { dst := some 118, op := Op.fieldAddr 37 (Operand.tmp 22) 3, type := 0, pos := "plain.go:110", after := #[], guard := none }) (v := ?vrdy0) rfl (by kernel_rfl) (by kernel_rfl) (by kernel_rfl) (fun _ _ _ h => h) (Or.inl ⟨by rfl, ?hrdy0⟩) (by assumption) ?rrdy0
            case hrdy0 => (intro w0 hSw; (try dsimp only at hSw); go_simp; try (with_reducible rfl))
            simp only [Act.put, List.setIfInBounds_toArray, List.set_cons_zero, List.set_cons_succ]
            refine wpAnyH_take (i := 2) (oi := { dst := some 120, op := Op.move (Operand.tmp 25), type := 3, pos := "plain.go:110", after := #[], guard := none }) (v := ?vrdy2) rfl (by kernel_rfl) (by kernel_rfl) (by kernel_rfl) (fun _ _ _ h => h) (Or.inl ⟨by rfl, ?hrdy2⟩) (by assumption) ?rrdy2
            case hrdy2 => (intro w0 hSw; (try dsimp only at hSw); go_simp; try (with_reducible rfl))
            simp only [Act.put, List.setIfInBounds_toArray, List.set_cons_zero, List.set_cons_succ]
            refine wpAnyH_take (i := 3) (oi := { dst := some 121, op := Op.binOp BinOp.quo 3 (Operand.tmp 120) (Operand.const (Value.int IntKind.i64 3)) 3, type := 3, pos := "plain.go:110", after := #[{ on := 2, ground := Ground.data }], guard := none }) (v := ?vrdy3) rfl (by kernel_rfl) (by kernel_rfl) (by kernel_rfl) (fun _ _ _ h => h) (Or.inl ⟨by rfl, ?hrdy3⟩) (by assumption) ?rrdy3
            case hrdy3 => (intro w0 hSw; (try dsimp only at hSw); go_simp; try (with_reducible rfl))
            simp only [Act.put, List.setIfInBounds_toArray, List.set_cons_zero, List.set_cons_succ]
            refine wpAnyH_take (i := 4) (oi := { dst := some 122, op := Op.move (Operand.tmp 25), type := 3, pos := "plain.go:110", after := #[], guard := none }) (v := ?vrdy4) rfl (by kernel_rfl) (by kernel_rfl) (by kernel_rfl) (fun _ _ _ h => h) (Or.inl ⟨by rfl, ?hrdy4⟩) (by assumption) ?rrdy4
            case hrdy4 => (intro w0 hSw; (try dsimp only at hSw); go_simp; try (with_reducible rfl))
            simp only [Act.put, List.setIfInBounds_toArray, List.set_cons_zero, List.set_cons_succ]
            refine wpAnyH_take (i := 5) (oi := { dst := some 123, op := Op.move (Operand.tmp 8), type := 35, pos := "plain.go:110", after := #[], guard := none }) (v := ?vrdy5) rfl (by kernel_rfl) (by kernel_rfl) (by kernel_rfl) (fun _ _ _ h => h) (Or.inl ⟨by rfl, ?hrdy5⟩) (by assumption) ?rrdy5
            case hrdy5 => (intro w0 hSw; (try dsimp only at hSw); go_simp; try (with_reducible rfl))
            simp only [Act.put, List.setIfInBounds_toArray, List.set_cons_zero, List.set_cons_succ]
            refine wpAnyH_take (i := 6) (oi := { dst := some 124, op := Op.move (Operand.tmp 25), type := 3, pos := "plain.go:110", after := #[], guard := none }) (v := ?vrdy6) rfl (by kernel_rfl) (by kernel_rfl) (by kernel_rfl) (fun _ _ _ h => h) (Or.inl ⟨by rfl, ?hrdy6⟩) (by assumption) ?rrdy6
            case hrdy6 => (intro w0 hSw; (try dsimp only at hSw); go_simp; try (with_reducible rfl))
            simp only [Act.put, List.setIfInBounds_toArray, List.set_cons_zero, List.set_cons_succ]
            refine wpAnyH_take (i := 7) (oi := { dst := some 125, op := Op.indexAddr 35 (Operand.tmp 123) (Operand.tmp 124), type := 0, pos := "plain.go:110", after := #[{ on := 5, ground := Ground.data }, { on := 6, ground := Ground.data }], guard := none }) (v := ?vrdy7) rfl (by kernel_rfl) (by kernel_rfl) (by kernel_rfl) (fun _ _ _ h => h) (Or.inl ⟨by rfl, ?hrdy7⟩) (by assumption) ?rrdy7
            case hrdy7 => (intro w0 hSw; (try dsimp only at hSw); go_simp; try (with_reducible rfl))
            simp only [Act.put, List.setIfInBounds_toArray, List.set_cons_zero, List.set_cons_succ]
            refine wpAnyH_take (i := 8) (oi := { dst := some 126, op := Op.fieldAddr 39 (Operand.tmp 125) 2, type := 0, pos := "plain.go:110", after := #[{ on := 7, ground := Ground.data }], guard := none }) (v := ?vrdy8) rfl (by kernel_rfl) (by kernel_rfl) (by kernel_rfl) (fun _ _ _ h => h) (Or.inl ⟨by rfl, ?hrdy8⟩) (by assumption) ?rrdy8
            case hrdy8 => (intro w0 hSw; (try dsimp only at hSw); go_simp; try (with_reducible rfl))
            simp only [Act.put, List.setIfInBounds_toArray, List.set_cons_zero, List.set_cons_succ]
            refine wpAnyH_take (i := 9) (oi := { dst := some 127, op := Op.load 9 (Operand.tmp 126), type := 9, pos := "plain.go:110", after := #[{ on := 8, ground := Ground.data }], guard := none }) (v := ?vrdy9) rfl (by kernel_rfl) (by kernel_rfl) (by kernel_rfl) (fun _ _ _ h => h) (Or.inl ⟨by rfl, ?hrdy9⟩) (by assumption) ?rrdy9
            case hrdy9 => (intro w0 hSw; (try dsimp only at hSw); go_simp; try (with_reducible rfl))
            simp only [Act.put, List.setIfInBounds_toArray, List.set_cons_zero, List.set_cons_succ]
            refine wpAnyH_take (i := 10) (oi := { dst := some 128, op := Op.move (Operand.tmp 8), type := 35, pos := "plain.go:110", after := #[], guard := none }) (v := ?vrdy10) rfl (by kernel_rfl) (by kernel_rfl) (by kernel_rfl) (fun _ _ _ h => h) (Or.inl ⟨by rfl, ?hrdy10⟩) (by assumption) ?rrdy10
            case hrdy10 => (intro w0 hSw; (try dsimp only at hSw); go_simp; try (with_reducible rfl))
            simp only [Act.put, List.setIfInBounds_toArray, List.set_cons_zero, List.set_cons_succ]
            refine wpAnyH_take (i := 11) (oi := { dst := some 129, op := Op.move (Operand.tmp 25), type := 3, pos := "plain.go:110", after := #[], guard := none }) (v := ?vrdy11) rfl (by kernel_rfl) (by kernel_rfl) (by kernel_rfl) (fun _ _ _ h => h) (Or.inl ⟨by rfl, ?hrdy11⟩) (by assumption) ?rrdy11
            case hrdy11 => (intro w0 hSw; (try dsimp only at hSw); go_simp; try (with_reducible rfl))
            simp only [Act.put, List.setIfInBounds_toArray, List.set_cons_zero, List.set_cons_succ]
            refine wpAnyH_take (i := 12) (oi := { dst := some 130, op := Op.indexAddr 35 (Operand.tmp 128) (Operand.tmp 129), type := 0, pos := "plain.go:110", after := #[{ on := 10, ground := Ground.data }, { on := 11, ground := Ground.data }], guard := none }) (v := ?vrdy12) rfl (by kernel_rfl) (by kernel_rfl) (by kernel_rfl) (fun _ _ _ h => h) (Or.inl ⟨by rfl, ?hrdy12⟩) (by assumption) ?rrdy12
            case hrdy12 => (intro w0 hSw; (try dsimp only at hSw); go_simp; try (with_reducible rfl))
            simp only [Act.put, List.setIfInBounds_toArray, List.set_cons_zero, List.set_cons_succ]
            refine wpAnyH_take (i := 13) (oi := { dst := some 131, op := Op.fieldAddr 39 (Operand.tmp 130) 2, type := 0, pos := "plain.go:110", after := #[{ on := 12, ground := Ground.data }], guard := none }) (v := ?vrdy13) rfl (by kernel_rfl) (by kernel_rfl) (by kernel_rfl) (fun _ _ _ h => h) (Or.inl ⟨by rfl, ?hrdy13⟩) (by assumption) ?rrdy13
            case hrdy13 => (intro w0 hSw; (try dsimp only at hSw); go_simp; try (with_reducible rfl))
            simp only [Act.put, List.setIfInBounds_toArray, List.set_cons_zero, List.set_cons_succ]
            refine wpAnyH_take (i := 14) (oi := { dst := some 132, op := Op.load 9 (Operand.tmp 131), type := 9, pos := "plain.go:110", after := #[{ on := 13, ground := Ground.data }], guard := none }) (v := ?vrdy14) rfl (by kernel_rfl) (by kernel_rfl) (by kernel_rfl) (fun _ _ _ h => h) (Or.inl ⟨by rfl, ?hrdy14⟩) (by assumption) ?rrdy14
            case hrdy14 => (intro w0 hSw; (try dsimp only at hSw); go_simp; try (with_reducible rfl))
            simp only [Act.put, List.setIfInBounds_toArray, List.set_cons_zero, List.set_cons_succ]
            refine wpAnyH_take (i := 15) (oi := { dst := some 133, op := Op.call { callee := Callee.builtin Builtin.len, args := #[Operand.tmp 132], argTypes := #[9] }, type := 3, pos := "plain.go:110", after := #[{ on := 14, ground := Ground.data }], guard := none }) (v := ?vrdy15) rfl (by kernel_rfl) (by kernel_rfl) (by kernel_rfl) (fun _ _ _ h => h) (Or.inl ⟨by rfl, ?hrdy15⟩) (by assumption) ?rrdy15
            case hrdy15 => (intro w0 hSw; (try dsimp only at hSw); go_simp; try (with_reducible rfl))
            simp only [Act.put, List.setIfInBounds_toArray, List.set_cons_zero, List.set_cons_succ]
            refine wpAnyH_take (i := 16) (oi := { dst := some 134, op := Op.call { callee := Callee.builtin Builtin.min, args := #[Operand.tmp 133, Operand.const (Value.int IntKind.i64 200)], argTypes := #[3, 3] }, type := 3, pos := "plain.go:110", after := #[{ on := 15, ground := Ground.data }], guard := none }) (v := ?vrdy16) rfl (by kernel_rfl) (by kernel_rfl) (by kernel_rfl) (fun _ _ _ h => h) (Or.inl ⟨by rfl, ?hrdy16⟩) (by assumption) ?rrdy16
            case hrdy16 => (intro w0 hSw; (try dsimp only at hSw); go_simp; try (with_reducible rfl))
            simp only [Act.put, List.setIfInBounds_toArray, List.set_cons_zero, List.set_cons_succ]
            refine wpAnyH_take (i := 17) (oi := { dst := some 135, op := Op.slice 9 (Operand.tmp 127) none (some (Operand.tmp 134)) none, type := 9, pos := "plain.go:110", after := #[{ on := 9, ground := Ground.data }, { on := 16, ground := Ground.data }], guard := none }) (v := ?vrdy17) rfl (by kernel_rfl) (by kernel_rfl) (by kernel_rfl) (fun _ _ _ h => h) (Or.inl ⟨by rfl, ?hrdy17⟩) (by assumption) ?rrdy17
            case hrdy17 => (intro w0 hSw; (try dsimp only at hSw); go_simp; try (with_reducible rfl))
            simp only [Act.put, List.setIfInBounds_toArray, List.set_cons_zero, List.set_cons_succ]
            refine wpAnyH_take (i := 18) (oi := { dst := some 136, op := Op.build 39 #[(0, Operand.tmp 121), (1, Operand.tmp 122), (2, Operand.tmp 135)], type := 39, pos := "plain.go:110", after := #[{ on := 3, ground := Ground.data }, { on := 4, ground := Ground.data }, { on := 17, ground := Ground.data }], guard := none }) (v := ?vrdy18) rfl (by kernel_rfl) (by kernel_rfl) (by kernel_rfl) (fun _ _ _ h => h) (Or.inl ⟨by rfl, ?hrdy18⟩) (by assumption) ?rrdy18
            case hrdy18 => (intro w0 hSw; (try dsimp only at hSw); go_simp; try (with_reducible rfl))
            simp only [Act.put, List.setIfInBounds_toArray, List.set_cons_zero, List.set_cons_succ]
            refine wpAnyH_ready (rs := [1, 19]) (by kernel_rfl) (by simp) ?_
            refine AllReadyH.cons rfl (fun K hK => ?_) (AllReadyH.cons rfl (fun K hK => ?_) AllReadyH.nil)
            · go_simp
              go_wp2_with (fail)
              refine hK.out _ _ ?_ (fun hHeld => ?_)
              · exact s0
              clear hK K
              refine wpAnyH_ready (rs := [19]) (by kernel_rfl) (by simp) ?_
              refine AllReadyH.cons rfl (fun K hK => ?_) AllReadyH.nil
              go_simp
              go_wp2_with (fail)
              refine hK.out _ _ ?_ (fun hHeld => ?_)
              · exact s1
              clear hK K
              refine wpAnyH_ready (rs := [20]) (by kernel_rfl) (by simp) ?_
              refine AllReadyH.cons rfl (fun K hK => ?_) AllReadyH.nil
              rw [if_pos (by rfl)]
              refine oper_append_eq _ _ _ _ rfl _ _ _ _ rfl rfl hap ?_
              go_simp
              refine hK.out _ _ ?_ (fun hHeld => ?_)
              · exact s2
              clear hK K
              refine wpAnyH_take (i := 21) (oi := { dst := some 139, op := Op.fieldAddr 37 (Operand.tmp 22) 3, type := 0, pos := "plain.go:110", after := #[{ on := 0, ground := Ground.phase }, { on := 1, ground := Ground.phase }, { on := 2, ground := Ground.phase }, { on := 3, ground := Ground.phase }, { on := 4, ground := Ground.phase }, { on := 5, ground := Ground.phase }, { on := 6, ground := Ground.phase }, { on := 7, ground := Ground.phase }, { on := 8, ground := Ground.phase }, { on := 9, ground := Ground.phase }, { on := 10, ground := Ground.phase }, { on := 11, ground := Ground.phase }, { on := 12, ground := Ground.phase }, { on := 13, ground := Ground.phase }, { on := 14, ground := Ground.phase }, { on := 15, ground := Ground.phase }, { on := 16, ground := Ground.phase }, { on := 17, ground := Ground.phase }, { on := 18, ground := Ground.phase }, { on := 19, ground := Ground.phase }, { on := 20, ground := Ground.phase }], guard := none }) (v := ?vrdya21) rfl (by kernel_rfl) (by kernel_rfl) (by kernel_rfl) (fun _ _ _ h => h) (Or.inl ⟨by rfl, ?hrdya21⟩) (by assumption) ?rrdya21
              case hrdya21 => (intro w0 hSw; (try dsimp only at hSw); go_simp; try (with_reducible rfl))
              simp only [Act.put, List.setIfInBounds_toArray, List.set_cons_zero, List.set_cons_succ]
              refine wpAnyH_ready (rs := [22]) (by kernel_rfl) (by simp) ?_
              refine AllReadyH.cons rfl (fun K hK => ?_) AllReadyH.nil
              go_simp
              go_wp2_with (fail)
              refine hK.out _ _ ?_ (fun hHeld => ?_)
              · exact s3
              clear hK K
              refine wpAnyH_done (by kernel_rfl) ?_ _
              go_wp2
              go_roundw
              case rel => exact ⟨K ++ [⟨dv, (j : Int), c⟩], _, j + 1, by go_num, by omega, by rw [List.length_append, HI.out.1]; rfl, H5.out⟩
              case measure => simp [intOf]; omega
            · go_simp
              go_wp2_with (fail)
              refine hK.out _ _ ?_ (fun hHeld => ?_)
              · exact s1
              clear hK K
              refine wpAnyH_ready (rs := [1]) (by kernel_rfl) (by simp) ?_
              refine AllReadyH.cons rfl (fun K hK => ?_) AllReadyH.nil
              go_simp
              go_wp2_with (fail)
              refine hK.out _ _ ?_ (fun hHeld => ?_)
              · exact s1
              clear hK K
              refine wpAnyH_ready (rs := [20]) (by kernel_rfl) (by simp) ?_
              refine AllReadyH.cons rfl (fun K hK => ?_) AllReadyH.nil
              rw [if_pos (by rfl)]
              refine oper_append_eq _ _ _ _ rfl _ _ _ _ rfl rfl hap ?_
              go_simp
              refine hK.out _ _ ?_ (fun hHeld => ?_)
              · exact s2
              clear hK K
              refine wpAnyH_take (i := 21) (oi := { dst := some 139, op := Op.fieldAddr 37 (Operand.tmp 22) 3, type := 0, pos := "plain.go:110", after := #[{ on := 0, ground := Ground.phase }, { on := 1, ground := Ground.phase }, { on := 2, ground := Ground.phase }, { on := 3, ground := Ground.phase }, { on := 4, ground := Ground.phase }, { on := 5, ground := Ground.phase }, { on := 6, ground := Ground.phase }, { on := 7, ground := Ground.phase }, { on := 8, ground := Ground.phase }, { on := 9, ground := Ground.phase }, { on := 10, ground := Ground.phase }, { on := 11, ground := Ground.phase }, { on := 12, ground := Ground.phase }, { on := 13, ground := Ground.phase }, { on := 14, ground := Ground.phase }, { on := 15, ground := Ground.phase }, { on := 16, ground := Ground.phase }, { on := 17, ground := Ground.phase }, { on := 18, ground := Ground.phase }, { on := 19, ground := Ground.phase }, { on := 20, ground := Ground.phase }], guard := none }) (v := ?vrdyb21) rfl (by kernel_rfl) (by kernel_rfl) (by kernel_rfl) (fun _ _ _ h => h) (Or.inl ⟨by rfl, ?hrdyb21⟩) (by assumption) ?rrdyb21
              case hrdyb21 => (intro w0 hSw; (try dsimp only at hSw); go_simp; try (with_reducible rfl))
              simp only [Act.put, List.setIfInBounds_toArray, List.set_cons_zero, List.set_cons_succ]
              refine wpAnyH_ready (rs := [22]) (by kernel_rfl) (by simp) ?_
              refine AllReadyH.cons rfl (fun K hK => ?_) AllReadyH.nil
              go_simp
              go_wp2_with (fail)
              refine hK.out _ _ ?_ (fun hHeld => ?_)
              · exact s3
              clear hK K
              refine wpAnyH_done (by kernel_rfl) ?_ _
              go_wp2
              go_roundw
              case rel => exact ⟨K ++ [⟨dv, (j : Int), c⟩], _, j + 1, by go_num, by omega, by rw [List.length_append, HI.out.1]; rfl, H5.out⟩
              case measure => simp [intOf]; omega
        · have hx : nl ≤ j ∨ (¬ nl ≤ j ∧ 1000 ≤ j) := by omega
          obtain ⟨T, hT3, hTA⟩ := must_tell 3 (by decide) ⟨0, 0, eB⟩ K ⟨by decide, by decide⟩ (by simp [stP, lfN, lfT, lfS, eB]) (by unfold ckR; rw [if_pos rfl]; simp only [ckP]; rw [HI.out.2.hs.gl])
          rw [show ((3 + 1 : Nat) : Int) = 4 from rfl] at hTA
          have hT := tell_any 4 ⟨0, 0, eB⟩ K av cv (by decide) HI.out.2.hs.hw (by rw [← HI.out.1]; omega) wr (HI.out.2.row.at (by rw [← HI.out.1]; exact hav))
          rw [hTA] at hT
          simp only [rpC, ← HI.out.1] at hT
          obtain ⟨Tb, hTb⟩ : ∃ Tb : ByteArray, Tb = ⟨T.toArray⟩ := ⟨_, rfl⟩
          have hTs : (3 : Int) ≤ (Tb.size : Int) := by rw [hTb]; have : (⟨T.toArray⟩ : ByteArray).size = T.length := List.size_toArray; omega
          simp only [← hTb] at hT
          clear hTb hTA hT3
          subst hav
          rcases hx with x1 | ⟨x1, x2⟩
          · have x1' : ¬ (j : Int) < (nl : Int) := by omega
            clear hlt
            go_wp2_with (first | (go_at_call 13; refine hT.mono ?_; clear hT; rintro e w2 ⟨rfl, b2⟩; have H2 := Hid.mk b2; clear b2))
            go_ret
            exact ⟨rfl, chain HI.out.2.old H2.out (Nat.le_refl _)⟩
          · have x1' : (j : Int) < (nl : Int) := by omega
            have x2' : ¬ (j : Int) < 1000 := by omega
            clear hlt
            go_wp2_with (first | (go_at_call 13; refine hT.mono ?_; clear hT; rintro e w2 ⟨rfl, b2⟩; have H2 := Hid.mk b2; clear b2))
            go_ret
            exact ⟨rfl, chain HI.out.2.old H2.out (Nat.le_refl _)⟩
    · have e1' : 0 < errno := by omega
      have e2' : ¬ errno < 1000 := by omega
      simp only [dropC, sndC, Try.f8, Option.getD_some]
      go_wp2_with fail
      have H0 : Hid (0 = ([] : List Ht).length ∧ MI w W rb (.slice none 0 0) []) := ⟨rfl, HR.out, ⟨rfl, .inl ⟨rfl, rfl⟩⟩, fun k hk => (by cases hk), hb, MHs.nil⟩
      clear c0 c1 c2 c3 f0 f1 f2 f3
      go_loopw [25] (fun u wr => MR w rb u wr) (fun u _ => (1000 - intOf u).toNat)
      case atStart => exact ⟨[], _, 0, rfl, by omega, H0⟩
      case round =>
        obtain ⟨K, v, j, rfl, hj, HI⟩ := hrel
        clear H0
        have c0 := HI.out.2.rep.cell (o := 0) rfl
        have c1 := HI.out.2.rep.cell (o := 1) rfl
        have c2 := HI.out.2.rep.cell (o := 2) rfl
        have c3 := HI.out.2.rep.cell (o := 3) rfl
        have f3 := HI.out.2.rep.free 3
        obtain ⟨av, cv, hav, -⟩ := slice_form HI.out.2.row
        rw [← HI.out.1] at hav
        by_cases hlt : j < nl ∧ j < 1000
        · obtain ⟨h1, h2⟩ := hlt
          have h1' : (j : Int) < (nl : Int) := by omega
          have h2' : (j : Int) < 1000 := by omega
          obtain ⟨g, off, hag, hgl, hcs⟩ := (HLL.out.resolve_left (fun e => by rw [e] at HNL; have := HNL.out; simp at this; omega))
          have s0' := (hcs j (by rw [← HNL.out]; exact h1)).2.2
          obtain ⟨c, hc⟩ : ∃ c, c = (L[j]'(by rw [← HNL.out]; exact h1)).c := ⟨_, rfl⟩
          rw [← hc] at s0'
          have s0 := cell_below HI.out.2.old s0'
          clear s0' hcs hc
          subst hag
          have hq3 : ((j : Int) / 3) = ((j / 3 : Nat) : Int) := by simp
          obtain ⟨dv, hdv⟩ : ∃ dv : Int, dv = ((j / 3 : Nat) : Int) := ⟨_, rfl⟩
          have htd : (j : Int).tdiv 3 = dv := by rw [hdv]; simp
          have hwd : IntKind.i64.wrap dv = dv := by rw [IntKind.wrap_i64, hdv]; omega
          rcases Nat.lt_or_ge 200 c.size with q | q
          · have q' : (200 : Int) < (c.size : Int) := by omega
            have q2 : ¬ (c.size : Int) ≤ 200 := by omega
            have q3 : ¬ (c.size : Int) < 200 := by omega
            obtain ⟨C, hC⟩ : ∃ C, C = c.extract 0 200 := ⟨_, rfl⟩
            have hz : C.size ≤ 200 := by rw [hC, ByteArray.size_extract]; omega
            have hC' := hC.symm
            clear hC
            have hx : MHs (K ++ [⟨dv, (j : Int), C⟩]) := HI.out.2.hs.snoc C hz (by rw [← HI.out.1]; exact h2) dv (j : Int) (by rw [hdv, HI.out.1]) (by rw [HI.out.1])
            obtain ⟨v5, w5, hap, hr5, st5, loc5⟩ := hit_app1 wr.drew K v HI.out.2.row ⟨dv, (j : Int), C⟩ (by rw [← HI.out.1]; omega)
            have hap : (Builtin.append_ #[35, 35] 35 #[v, .slice (some ⟨wr.heap.size, 0, none⟩) 1 1]).run Try.prog (wr.alloc (.cells #[.int .i64 dv, .int .i64 (j : Int), .string C] 39)).drew = .ok v5 w5 := hap
            have st5 : Stay (fun k => v.ownBlock = some k) wr w5 := st5.undrew
            have hm5 := HI.out.2.app hx hrb hr5 st5 loc5
            have nrb : ¬ v.ownBlock = some rb := fun e => by obtain ⟨cur, hc⟩ := row_block HI.out.2.row e; have := HI.out.2.rep; unfold HC at this; rw [hc] at this; injection this with this; injection this with _ this; revert this; decide
            have r5 := HC.stay HI.out.2.rep st5 nrb
            have d3 := r5.cell (o := 3) rfl
            have z3 := r5.free 3
            have ngv : ¬ v.ownBlock = some g := fun e => by have := HI.out.2.own g e; omega
            have s2 := cstay (F := fun k => v.ownBlock = some k) st5 ngv s0
            have s3 : (w5.setCell ⟨rb, 3, none⟩ v5).cell? ⟨g, off + j * 3 + 2, none⟩ = some (.string c) := (World.cell?_setCell_far w5 ⟨rb, 3, none⟩ ⟨g, off + j * 3 + 2, none⟩ v5 (show rb ≠ g from fun e => by omega)).trans s2
            have bl : Below wr.heap.size wr (wr.alloc (.cells #[.int .i64 dv, .int .i64 (j : Int), .string C] 39)) := (Below.refl _ wr).alloc (Nat.le_refl _) _
            have s1 : (wr.alloc (.cells #[.int .i64 dv, .int .i64 (j : Int), .string C] 39)).drew.cell? ⟨g, off + j * 3 + 2, none⟩ = some (.string c) := (show (wr.alloc (.cells #[.int .i64 dv, .int .i64 (j : Int), .string C] 39)).cell? _ = _ from cell_below bl s0)
            have c3A : (wr.alloc (.cells #[.int .i64 dv, .int .i64 (j : Int), .string C] 39)).drew.cell? ⟨rb, 3, none⟩ = some v := (show (wr.alloc (.cells #[.int .i64 dv, .int .i64 (j : Int), .string C] 39)).cell? _ = _ from cell_below bl c3)
            obtain ⟨av5, cv5, hav5, -⟩ := slice_form hr5
            obtain ⟨nb, hnb⟩ : ∃ nb, nb = (K ++ [(⟨dv, (j : Int), C⟩ : Ht)]).length := ⟨_, rfl⟩
            rw [← hnb] at hav5
            have H5 := Hid.mk hm5
            rw [hav5] at hap H5 s3
            rw [hav] at hap c3 c3A d3
            clear hm5 hr5 st5 loc5 hx r5 bl hnb hav5 hav hdv hq3 c0 c1 c2 nrb ngv
            go_wp2
            refine wp_region_held_drew (S := fun w' => w'.cell? ⟨g, off + j * 3 + 2, none⟩ = some (.string c)) (by kernel_rfl) ?_ (fun hHeld => ?_)
            · exact s0
            refine wpAnyH_take (i := 0) (oi := { dst := some 118, op := Op.fieldAddr 37 (Operand.tmp 22) 3, type := 0, pos := "plain.go:110", after := #[], guard := none }) (v := ?vrex0) rfl (by kernel_rfl) (by kernel_rfl) (by kernel_rfl) (fun _ _ _ h => h) (Or.inl ⟨by rfl, ?hrex0⟩) (by assumption) ?rrex0
            case hrex0 => (intro w0 hSw; (try dsimp only at hSw); go_simp; try (with_reducible rfl))
            simp only [Act.put, List.setIfInBounds_toArray, List.set_cons_zero, List.set_cons_succ]
            refine wpAnyH_take (i := 2) (oi := { dst := some 120, op := Op.move (Operand.tmp 25), type := 3, pos := "plain.go:110", after := #[], guard := none }) (v := ?vrex2) rfl (by kernel_rfl) (by kernel_rfl) (by kernel_rfl) (fun _ _ _ h => h) (Or.inl ⟨by rfl, ?hrex2⟩) (by assumption) ?rrex2
            case hrex2 => (intro w0 hSw; (try dsimp only at hSw); go_simp; try (with_reducible rfl))
            simp only [Act.put, List.setIfInBounds_toArray, List.set_cons_zero, List.set_cons_succ]
            refine wpAnyH_take (i := 3) (oi := { dst := some 121, op := Op.binOp BinOp.quo 3 (Operand.tmp 120) (Operand.const (Value.int IntKind.i64 3)) 3, type := 3, pos := "plain.go:110", after := #[{ on := 2, ground := Ground.data }], guard := none }) (v := ?vrex3) rfl (by kernel_rfl) (by kernel_rfl) (by kernel_rfl) (fun _ _ _ h => h) (Or.inl ⟨by rfl, ?hrex3⟩) (by assumption) ?rrex3
            case hrex3 => (intro w0 hSw; (try dsimp only at hSw); go_simp; try (with_reducible rfl))
            simp only [Act.put, List.setIfInBounds_toArray, List.set_cons_zero, List.set_cons_succ]
            refine wpAnyH_take (i := 4) (oi := { dst := some 122, op := Op.move (Operand.tmp 25), type := 3, pos := "plain.go:110", after := #[], guard := none }) (v := ?vrex4) rfl (by kernel_rfl) (by kernel_rfl) (by kernel_rfl) (fun _ _ _ h => h) (Or.inl ⟨by rfl, ?hrex4⟩) (by assumption) ?rrex4
            case hrex4 => (intro w0 hSw; (try dsimp only at hSw); go_simp; try (with_reducible rfl))
            simp only [Act.put, List.setIfInBounds_toArray, List.set_cons_zero, List.set_cons_succ]
            refine wpAnyH_take (i := 5) (oi := { dst := some 123, op := Op.move (Operand.tmp 8), type := 35, pos := "plain.go:110", after := #[], guard := none }) (v := ?vrex5) rfl (by kernel_rfl) (by kernel_rfl) (by kernel_rfl) (fun _ _ _ h => h) (Or.inl ⟨by rfl, ?hrex5⟩) (by assumption) ?rrex5
            case hrex5 => (intro w0 hSw; (try dsimp only at hSw); go_simp; try (with_reducible rfl))
            simp only [Act.put, List.setIfInBounds_toArray, List.set_cons_zero, List.set_cons_succ]
            refine wpAnyH_take (i := 6) (oi := { dst := some 124, op := Op.move (Operand.tmp 25), type := 3, pos := "plain.go:110", after := #[], guard := none }) (v := ?vrex6) rfl (by kernel_rfl) (by kernel_rfl) (by kernel_rfl) (fun _ _ _ h => h) (Or.inl ⟨by rfl, ?hrex6⟩) (by assumption) ?rrex6
            case hrex6 => (intro w0 hSw; (try dsimp only at hSw); go_simp; try (with_reducible rfl))
            simp only [Act.put, List.setIfInBounds_toArray, List.set_cons_zero, List.set_cons_succ]
            refine wpAnyH_take (i := 7) (oi := { dst := some 125, op := Op.indexAddr 35 (Operand.tmp 123) (Operand.tmp 124), type := 0, pos := "plain.go:110", after := #[{ on := 5, ground := Ground.data }, { on := 6, ground := Ground.data }], guard := none }) (v := ?vrex7) rfl (by kernel_rfl) (by kernel_rfl) (by kernel_rfl) (fun _ _ _ h => h) (Or.inl ⟨by rfl, ?hrex7⟩) (by assumption) ?rrex7
            case hrex7 => (intro w0 hSw; (try dsimp only at hSw); go_simp; try (with_reducible rfl))
            simp only [Act.put, List.setIfInBounds_toArray, List.set_cons_zero, List.set_cons_succ]
            refine wpAnyH_take (i := 8) (oi := { dst := some 126, op := Op.fieldAddr 39 (Operand.tmp 125) 2, type := 0, pos := "plain.go:110", after := #[{ on := 7, ground := Ground.data }], guard := none }) (v := ?vrex8) rfl (by kernel_rfl) (by kernel_rfl) (by kernel_rfl) (fun _ _ _ h => h) (Or.inl ⟨by rfl, ?hrex8⟩) (by assumption) ?rrex8
            case hrex8 => (intro w0 hSw; (try dsimp only at hSw); go_simp; try (with_reducible rfl))
            simp only [Act.put, List.setIfInBounds_toArray, List.set_cons_zero, List.set_cons_succ]
            refine wpAnyH_take (i := 9) (oi := { dst := some 127, op := Op.load 9 (Operand.tmp 126), type := 9, pos := "plain.go:110", after := #[{ on := 8, ground := Ground.data }], guard := none }) (v := ?vrex9) rfl (by kernel_rfl) (by kernel_rfl) (by kernel_rfl) (fun _ _ _ h => h) (Or.inl ⟨by rfl, ?hrex9⟩) (by assumption) ?rrex9
            case hrex9 => (intro w0 hSw; (try dsimp only at hSw); go_simp; try (with_reducible rfl))
            simp only [Act.put, List.setIfInBounds_toArray, List.set_cons_zero, List.set_cons_succ]
            refine wpAnyH_take (i := 10) (oi := { dst := some 128, op := Op.move (Operand.tmp 8), type := 35, pos := "plain.go:110", after := #[], guard := none }) (v := ?vrex10) rfl (by kernel_rfl) (by kernel_rfl) (by kernel_rfl) (fun _ _ _ h => h) (Or.inl ⟨by rfl, ?hrex10⟩) (by assumption) ?rrex10
            case hrex10 => (intro w0 hSw; (try dsimp only at hSw); go_simp; try (with_reducible rfl))
            simp only [Act.put, List.setIfInBounds_toArray, List.set_cons_zero, List.set_cons_succ]
            refine wpAnyH_take (i := 11) (oi := { dst := some 129, op := Op.move (Operand.tmp 25), type := 3, pos := "plain.go:110", after := #[], guard := none }) (v := ?vrex11) rfl (by kernel_rfl) (by kernel_rfl) (by kernel_rfl) (fun _ _ _ h => h) (Or.inl ⟨by rfl, ?hrex11⟩) (by assumption) ?rrex11
            case hrex11 => (intro w0 hSw; (try dsimp only at hSw); go_simp; try (with_reducible rfl))
            simp only [Act.put, List.setIfInBounds_toArray, List.set_cons_zero, List.set_cons_succ]
            refine wpAnyH_take (i := 12) (oi := { dst := some 130, op := Op.indexAddr 35 (Operand.tmp 128) (Operand.tmp 129), type := 0, pos := "plain.go:110", after := #[{ on := 10, ground := Ground.data }, { on := 11, ground := Ground.data }], guard := none }) (v := ?vrex12) rfl (by kernel_rfl) (by kernel_rfl) (by kernel_rfl) (fun _ _ _ h => h) (Or.inl ⟨by rfl, ?hrex12⟩) (by assumption) ?rrex12
            case hrex12 => (intro w0 hSw; (try dsimp only at hSw); go_simp; try (with_reducible rfl))
            simp only [Act.put, List.setIfInBounds_toArray, List.set_cons_zero, List.set_cons_succ]
            refine wpAnyH_take (i := 13) (oi := { dst := some 131, op := Op.fieldAddr 39 (Operand.tmp 130) 2, type := 0, pos := "plain.go:110", after := #[{ on := 12, ground := Ground.data }], guard := none }) (v := ?vrex13) rfl (by kernel_rfl) (by kernel_rfl) (by kernel_rfl) (fun _ _ _ h => h) (Or.inl ⟨by rfl, ?hrex13⟩) (by assumption) ?rrex13
            case hrex13 => (intro w0 hSw; (try dsimp only at hSw); go_simp; try (with_reducible rfl))
            simp only [Act.put, List.setIfInBounds_toArray, List.set_cons_zero, List.set_cons_succ]
            refine wpAnyH_take (i := 14) (oi := { dst := some 132, op := Op.load 9 (Operand.tmp 131), type := 9, pos := "plain.go:110", after := #[{ on := 13, ground := Ground.data }], guard := none }) (v := ?vrex14) rfl (by kernel_rfl) (by kernel_rfl) (by kernel_rfl) (fun _ _ _ h => h) (Or.inl ⟨by rfl, ?hrex14⟩) (by assumption) ?rrex14
            case hrex14 => (intro w0 hSw; (try dsimp only at hSw); go_simp; try (with_reducible rfl))
            simp only [Act.put, List.setIfInBounds_toArray, List.set_cons_zero, List.set_cons_succ]
            refine wpAnyH_take (i := 15) (oi := { dst := some 133, op := Op.call { callee := Callee.builtin Builtin.len, args := #[Operand.tmp 132], argTypes := #[9] }, type := 3, pos := "plain.go:110", after := #[{ on := 14, ground := Ground.data }], guard := none }) (v := ?vrex15) rfl (by kernel_rfl) (by kernel_rfl) (by kernel_rfl) (fun _ _ _ h => h) (Or.inl ⟨by rfl, ?hrex15⟩) (by assumption) ?rrex15
            case hrex15 => (intro w0 hSw; (try dsimp only at hSw); go_simp; try (with_reducible rfl))
            simp only [Act.put, List.setIfInBounds_toArray, List.set_cons_zero, List.set_cons_succ]
            refine wpAnyH_take (i := 16) (oi := { dst := some 134, op := Op.call { callee := Callee.builtin Builtin.min, args := #[Operand.tmp 133, Operand.const (Value.int IntKind.i64 200)], argTypes := #[3, 3] }, type := 3, pos := "plain.go:110", after := #[{ on := 15, ground := Ground.data }], guard := none }) (v := ?vrex16) rfl (by kernel_rfl) (by kernel_rfl) (by kernel_rfl) (fun _ _ _ h => h) (Or.inl ⟨by rfl, ?hrex16⟩) (by assumption) ?rrex16
            case hrex16 => (intro w0 hSw; (try dsimp only at hSw); go_simp; try (with_reducible rfl))
            simp only [Act.put, List.setIfInBounds_toArray, List.set_cons_zero, List.set_cons_succ]
            refine wpAnyH_take (i := 17) (oi := { dst := some 135, op := Op.slice 9 (Operand.tmp 127) none (some (Operand.tmp 134)) none, type := 9, pos := "plain.go:110", after := #[{ on := 9, ground := Ground.data }, { on := 16, ground := Ground.data }], guard := none }) (v := ?vrex17) rfl (by kernel_rfl) (by kernel_rfl) (by kernel_rfl) (fun _ _ _ h => h) (Or.inl ⟨by rfl, ?hrex17⟩) (by assumption) ?rrex17
            case hrex17 => (intro w0 hSw; (try dsimp only at hSw); go_simp; try (with_reducible rfl))
            simp only [Act.put, List.setIfInBounds_toArray, List.set_cons_zero, List.set_cons_succ]
            refine wpAnyH_take (i := 18) (oi := { dst := some 136, op := Op.build 39 #[(0, Operand.tmp 121), (1, Operand.tmp 122), (2, Operand.tmp 135)], type := 39, pos := "plain.go:110", after := #[{ on := 3, ground := Ground.data }, { on := 4, ground := Ground.data }, { on := 17, ground := Ground.data }], guard := none }) (v := ?vrex18) rfl (by kernel_rfl) (by kernel_rfl) (by kernel_rfl) (fun _ _ _ h => h) (Or.inl ⟨by rfl, ?hrex18⟩) (by assumption) ?rrex18
            case hrex18 => (intro w0 hSw; (try dsimp only at hSw); go_simp; try (with_reducible rfl))
            simp only [Act.put, List.setIfInBounds_toArray, List.set_cons_zero, List.set_cons_succ]
            refine wpAnyH_ready (rs := [1, 19]) (by kernel_rfl) (by simp) ?_
            refine AllReadyH.cons rfl (fun K hK => ?_) (AllReadyH.cons rfl (fun K hK => ?_) AllReadyH.nil)
            · go_simp
              go_wp2_with (fail)
              refine hK.out _ _ ?_ (fun hHeld => ?_)
              · exact s0
              clear hK K
              refine wpAnyH_ready (rs := [19]) (by kernel_rfl) (by simp) ?_
              refine AllReadyH.cons rfl (fun K hK => ?_) AllReadyH.nil
              go_simp
              go_wp2_with (fail)
              refine hK.out _ _ ?_ (fun hHeld => ?_)
              · exact s1
              clear hK K
              refine wpAnyH_ready (rs := [20]) (by kernel_rfl) (by simp) ?_
              refine AllReadyH.cons rfl (fun K hK => ?_) AllReadyH.nil
              rw [if_pos (by rfl)]
              refine oper_append_eq _ _ _ _ rfl _ _ _ _ rfl rfl hap ?_
              go_simp
              refine hK.out _ _ ?_ (fun hHeld => ?_)
              · exact s2
              clear hK K
              refine wpAnyH_take (i := 21) (oi := { dst := some 139, op := Op.fieldAddr 37 (Operand.tmp 22) 3, type := 0, pos := "plain.go:110", after := #[{ on := 0, ground := Ground.phase }, { on := 1, ground := Ground.phase }, { on := 2, ground := Ground.phase }, { on := 3, ground := Ground.phase }, { on := 4, ground := Ground.phase }, { on := 5, ground := Ground.phase }, { on := 6, ground := Ground.phase }, { on := 7, ground := Ground.phase }, { on := 8, ground := Ground.phase }, { on := 9, ground := Ground.phase }, { on := 10, ground := Ground.phase }, { on := 11, ground := Ground.phase }, { on := 12, ground := Ground.phase }, { on := 13, ground := Ground.phase }, { on := 14, ground := Ground.phase }, { on := 15, ground := Ground.phase }, { on := 16, ground := Ground.phase }, { on := 17, ground := Ground.phase }, { on := 18, ground := Ground.phase }, { on := 19, ground := Ground.phase }, { on := 20, ground := Ground.phase }], guard := none }) (v := ?vrexa21) rfl (by kernel_rfl) (by kernel_rfl) (by kernel_rfl) (fun _ _ _ h => h) (Or.inl ⟨by rfl, ?hrexa21⟩) (by assumption) ?rrexa21
              case hrexa21 => (intro w0 hSw; (try dsimp only at hSw); go_simp; try (with_reducible rfl))
              simp only [Act.put, List.setIfInBounds_toArray, List.set_cons_zero, List.set_cons_succ]
              refine wpAnyH_ready (rs := [22]) (by kernel_rfl) (by simp) ?_
              refine AllReadyH.cons rfl (fun K hK => ?_) AllReadyH.nil
              go_simp
              go_wp2_with (fail)
              refine hK.out _ _ ?_ (fun hHeld => ?_)
              · exact s3
              clear hK K
              refine wpAnyH_done (by kernel_rfl) ?_ _
              go_wp2
              go_roundw
              case rel => exact ⟨K ++ [⟨dv, (j : Int), C⟩], _, j + 1, by go_num, by omega, by rw [List.length_append, HI.out.1]; rfl, H5.out⟩
              case measure => simp [intOf]; omega
            · go_simp
              go_wp2_with (fail)
              refine hK.out _ _ ?_ (fun hHeld => ?_)
              · exact s1
              clear hK K
              refine wpAnyH_ready (rs := [1]) (by kernel_rfl) (by simp) ?_
              refine AllReadyH.cons rfl (fun K hK => ?_) AllReadyH.nil
              go_simp
              go_wp2_with (fail)
              refine hK.out _ _ ?_ (fun hHeld => ?_)
              · exact s1
              clear hK K
              refine wpAnyH_ready (rs := [20]) (by kernel_rfl) (by simp) ?_
              refine AllReadyH.cons rfl (fun K hK => ?_) AllReadyH.nil
              rw [if_pos (by rfl)]
              refine oper_append_eq _ _ _ _ rfl _ _ _ _ rfl rfl hap ?_
              go_simp
              refine hK.out _ _ ?_ (fun hHeld => ?_)
              · exact s2
              clear hK K
              refine wpAnyH_take (i := 21) (oi := { dst := some 139, op := Op.fieldAddr 37 (Operand.tmp 22) 3, type := 0, pos := "plain.go:110", after := #[{ on := 0, ground := Ground.phase }, { on := 1, ground := Ground.phase }, { on := 2, ground := Ground.phase }, { on := 3, ground := Ground.phase }, { on := 4, ground := Ground.phase }, { on := 5, ground := Ground.phase }, { on := 6, ground := Ground.phase }, { on := 7, ground := Ground.phase }, { on := 8, ground := Ground.phase }, { on := 9, ground := Ground.phase }, { on := 10, ground := Ground.phase }, { on := 11, ground := Ground.phase }, { on := 12, ground := Ground.phase }, { on := 13, ground := Ground.phase }, { on := 14, ground := Ground.phase }, { on := 15, ground := Ground.phase }, { on := 16, ground := Ground.phase }, { on := 17, ground := Ground.phase }, { on := 18, ground := Ground.phase }, { on := 19, ground := Ground.phase }, { on := 20, ground := Ground.phase }], guard := none }) (v := ?vrexb21) rfl (by kernel_rfl) (by kernel_rfl) (by kernel_rfl) (fun _ _ _ h => h) (Or.inl ⟨by rfl, ?hrexb21⟩) (by assumption) ?rrexb21
              case hrexb21 => (intro w0 hSw; (try dsimp only at hSw); go_simp; try (with_reducible rfl))
              simp only [Act.put, List.setIfInBounds_toArray, List.set_cons_zero, List.set_cons_succ]
              refine wpAnyH_ready (rs := [22]) (by kernel_rfl) (by simp) ?_
              refine AllReadyH.cons rfl (fun K hK => ?_) AllReadyH.nil
              go_simp
              go_wp2_with (fail)
              refine hK.out _ _ ?_ (fun hHeld => ?_)
              · exact s3
              clear hK K
              refine wpAnyH_done (by kernel_rfl) ?_ _
              go_wp2
              go_roundw
              case rel => exact ⟨K ++ [⟨dv, (j : Int), C⟩], _, j + 1, by go_num, by omega, by rw [List.length_append, HI.out.1]; rfl, H5.out⟩
              case measure => simp [intOf]; omega
          · have q' : ¬ (200 : Int) < (c.size : Int) := by omega
            have q2 : (c.size : Int) ≤ 200 := by omega
            have hz : c.size ≤ 200 := q
            have qi : (if (200 : Int) < (c.size : Int) then (200 : Int) else (c.size : Int)) = (c.size : Int) := if_neg q'
            have hex : c.extract 0 c.size = c := by simp
            have hx : MHs (K ++ [⟨dv, (j : Int), c⟩]) := HI.out.2.hs.snoc c hz (by rw [← HI.out.1]; exact h2) dv (j : Int) (by rw [hdv, HI.out.1]) (by rw [HI.out.1])
            obtain ⟨v5, w5, hap, hr5, st5, loc5⟩ := hit_app1 wr.drew K v HI.out.2.row ⟨dv, (j : Int), c⟩ (by rw [← HI.out.1]; omega)
            have hap : (Builtin.append_ #[35, 35] 35 #[v, .slice (some ⟨wr.heap.size, 0, none⟩) 1 1]).run Try.prog (wr.alloc (.cells #[.int .i64 dv, .int .i64 (j : Int), .string c] 39)).drew = .ok v5 w5 := hap
            have st5 : Stay (fun k => v.ownBlock = some k) wr w5 := st5.undrew
            have hm5 := HI.out.2.app hx hrb hr5 st5 loc5
            have nrb : ¬ v.ownBlock = some rb := fun e => by obtain ⟨cur, hc⟩ := row_block HI.out.2.row e; have := HI.out.2.rep; unfold HC at this; rw [hc] at this; injection this with this; injection this with _ this; revert this; decide
            have r5 := HC.stay HI.out.2.rep st5 nrb
            have d3 := r5.cell (o := 3) rfl
            have z3 := r5.free 3
            have ngv : ¬ v.ownBlock = some g := fun e => by have := HI.out.2.own g e; omega
            have s2 := cstay (F := fun k => v.ownBlock = some k) st5 ngv s0
            have s3 : (w5.setCell ⟨rb, 3, none⟩ v5).cell? ⟨g, off + j * 3 + 2, none⟩ = some (.string c) := (World.cell?_setCell_far w5 ⟨rb, 3, none⟩ ⟨g, off + j * 3 + 2, none⟩ v5 (show rb ≠ g from fun e => by omega)).trans s2
            have bl : Below wr.heap.size wr (wr.alloc (.cells #[.int .i64 dv, .int .i64 (j : Int), .string c] 39)) := (Below.refl _ wr).alloc (Nat.le_refl _) _
            have s1 : (wr.alloc (.cells #[.int .i64 dv, .int .i64 (j : Int), .string c] 39)).drew.cell? ⟨g, off + j * 3 + 2, none⟩ = some (.string c) := (show (wr.alloc (.cells #[.int .i64 dv, .int .i64 (j : Int), .string c] 39)).cell? _ = _ from cell_below bl s0)
            have c3A : (wr.alloc (.cells #[.int .i64 dv, .int .i64 (j : Int), .string c] 39)).drew.cell? ⟨rb, 3, none⟩ = some v := (show (wr.alloc (.cells #[.int .i64 dv, .int .i64 (j : Int), .string c] 39)).cell? _ = _ from cell_below bl c3)
            obtain ⟨av5, cv5, hav5, -⟩ := slice_form hr5
            obtain ⟨nb, hnb⟩ : ∃ nb, nb = (K ++ [(⟨dv, (j : Int), c⟩ : Ht)]).length := ⟨_, rfl⟩
            rw [← hnb] at hav5
            have H5 := Hid.mk hm5
            rw [hav5] at hap H5 s3
            rw [hav] at hap c3 c3A d3
            clear hm5 hr5 st5 loc5 hx r5 bl hnb hav5 hav hdv hq3 c0 c1 c2 nrb ngv
            go_wp2
            refine wp_region_held_drew (S := fun w' => w'.cell? ⟨g, off + j * 3 + 2, none⟩ = some (.string c)) (by kernel_rfl) ?_ (fun hHeld => ?_)
            · exact s0
            refine wpAnyH_take (i := 0) (oi := { dst := some 118, op := Op.fieldAddr 37 (Operand.tmp 22) 3, type := 0, pos := "plain.go:110", after := #[], guard := none }) (v := ?vrey0) rfl (by kernel_rfl) (by kernel_rfl) (by kernel_rfl) (fun _ _ _ h => h) (Or.inl ⟨by rfl, ?hrey0⟩) (by assumption) ?rrey0
            case hrey0 => (intro w0 hSw; (try dsimp only at hSw); go_simp; try (with_reducible rfl))
            simp only [Act.put, List.setIfInBounds_toArray, List.set_cons_zero, List.set_cons_succ]
            refine wpAnyH_take (i := 2) (oi := { dst := some 120, op := Op.move (Operand.tmp 25), type := 3, pos := "plain.go:110", after := #[], guard := none }) (v := ?vrey2) rfl (by kernel_rfl) (by kernel_rfl) (by kernel_rfl) (fun _ _ _ h => h) (Or.inl ⟨by rfl, ?hrey2⟩) (by assumption) ?rrey2
            case hrey2 => (intro w0 hSw; (try dsimp only at hSw); go_simp; try (with_reducible rfl))
            simp only [Act.put, List.setIfInBounds_toArray, List.set_cons_zero, List.set_cons_succ]
            refine wpAnyH_take (i := 3) (oi := { dst := some 121, op := Op.binOp BinOp.quo 3 (Operand.tmp 120) (Operand.const (Value.int IntKind.i64 3)) 3, type := 3, pos := "plain.go:110", after := #[{ on := 2, ground := Ground.data }], guard := none }) (v := ?vrey3) rfl (by kernel_rfl) (by kernel_rfl) (by kernel_rfl) (fun _ _ _ h => h) (Or.inl ⟨by rfl, ?hrey3⟩) (by assumption) ?rrey3
            case hrey3 => (intro w0 hSw; (try dsimp only at hSw); go_simp; try (with_reducible rfl))
            simp only [Act.put, List.setIfInBounds_toArray, List.set_cons_zero, List.set_cons_succ]
            refine wpAnyH_take (i := 4) (oi := { dst := some 122, op := Op.move (Operand.tmp 25), type := 3, pos := "plain.go:110", after := #[], guard := none }) (v := ?vrey4) rfl (by kernel_rfl) (by kernel_rfl) (by kernel_rfl) (fun _ _ _ h => h) (Or.inl ⟨by rfl, ?hrey4⟩) (by assumption) ?rrey4
            case hrey4 => (intro w0 hSw; (try dsimp only at hSw); go_simp; try (with_reducible rfl))
            simp only [Act.put, List.setIfInBounds_toArray, List.set_cons_zero, List.set_cons_succ]
            refine wpAnyH_take (i := 5) (oi := { dst := some 123, op := Op.move (Operand.tmp 8), type := 35, pos := "plain.go:110", after := #[], guard := none }) (v := ?vrey5) rfl (by kernel_rfl) (by kernel_rfl) (by kernel_rfl) (fun _ _ _ h => h) (Or.inl ⟨by rfl, ?hrey5⟩) (by assumption) ?rrey5
            case hrey5 => (intro w0 hSw; (try dsimp only at hSw); go_simp; try (with_reducible rfl))
            simp only [Act.put, List.setIfInBounds_toArray, List.set_cons_zero, List.set_cons_succ]
            refine wpAnyH_take (i := 6) (oi := { dst := some 124, op := Op.move (Operand.tmp 25), type := 3, pos := "plain.go:110", after := #[], guard := none }) (v := ?vrey6) rfl (by kernel_rfl) (by kernel_rfl) (by kernel_rfl) (fun _ _ _ h => h) (Or.inl ⟨by rfl, ?hrey6⟩) (by assumption) ?rrey6
            case hrey6 => (intro w0 hSw; (try dsimp only at hSw); go_simp; try (with_reducible rfl))
            simp only [Act.put, List.setIfInBounds_toArray, List.set_cons_zero, List.set_cons_succ]
            refine wpAnyH_take (i := 7) (oi := { dst := some 125, op := Op.indexAddr 35 (Operand.tmp 123) (Operand.tmp 124), type := 0, pos := "plain.go:110", after := #[{ on := 5, ground := Ground.data }, { on := 6, ground := Ground.data }], guard := none }) (v := ?vrey7) rfl (by kernel_rfl) (by kernel_rfl) (by kernel_rfl) (fun _ _ _ h => h) (Or.inl ⟨by rfl, ?hrey7⟩) (by assumption) ?rrey7
            case hrey7 => (intro w0 hSw; (try dsimp only at hSw); go_simp; try (with_reducible rfl))
            simp only [Act.put, List.setIfInBounds_toArray, List.set_cons_zero, List.set_cons_succ]
            refine wpAnyH_take (i := 8) (oi := { dst := some 126, op := Op.fieldAddr 39 (Operand.tmp 125) 2, type := 0, pos := "plain.go:110", after := #[{ on := 7, ground := Ground.data }], guard := none }) (v := ?vrey8) rfl (by kernel_rfl) (by kernel_rfl) (by kernel_rfl) (fun _ _ _ h => h) (Or.inl ⟨by rfl, ?hrey8⟩) (by assumption) ?rrey8
            case hrey8 => (intro w0 hSw; (try dsimp only at hSw); go_simp; try (with_reducible rfl))
            simp only [Act.put, List.setIfInBounds_toArray, List.set_cons_zero, List.set_cons_succ]
            refine wpAnyH_take (i := 9) (oi := { dst := some 127, op := Op.load 9 (Operand.tmp 126), type := 9, pos := "plain.go:110", after := #[{ on := 8, ground := Ground.data }], guard := none }) (v := ?vrey9) rfl (by kernel_rfl) (by kernel_rfl) (by kernel_rfl) (fun _ _ _ h => h) (Or.inl ⟨by rfl, ?hrey9⟩) (by assumption) ?rrey9
            case hrey9 => (intro w0 hSw; (try dsimp only at hSw); go_simp; try (with_reducible rfl))
            simp only [Act.put, List.setIfInBounds_toArray, List.set_cons_zero, List.set_cons_succ]
            refine wpAnyH_take (i := 10) (oi := { dst := some 128, op := Op.move (Operand.tmp 8), type := 35, pos := "plain.go:110", after := #[], guard := none }) (v := ?vrey10) rfl (by kernel_rfl) (by kernel_rfl) (by kernel_rfl) (fun _ _ _ h => h) (Or.inl ⟨by rfl, ?hrey10⟩) (by assumption) ?rrey10
            case hrey10 => (intro w0 hSw; (try dsimp only at hSw); go_simp; try (with_reducible rfl))
            simp only [Act.put, List.setIfInBounds_toArray, List.set_cons_zero, List.set_cons_succ]
            refine wpAnyH_take (i := 11) (oi := { dst := some 129, op := Op.move (Operand.tmp 25), type := 3, pos := "plain.go:110", after := #[], guard := none }) (v := ?vrey11) rfl (by kernel_rfl) (by kernel_rfl) (by kernel_rfl) (fun _ _ _ h => h) (Or.inl ⟨by rfl, ?hrey11⟩) (by assumption) ?rrey11
            case hrey11 => (intro w0 hSw; (try dsimp only at hSw); go_simp; try (with_reducible rfl))
            simp only [Act.put, List.setIfInBounds_toArray, List.set_cons_zero, List.set_cons_succ]
            refine wpAnyH_take (i := 12) (oi := { dst := some 130, op := Op.indexAddr 35 (Operand.tmp 128) (Operand.tmp 129), type := 0, pos := "plain.go:110", after := #[{ on := 10, ground := Ground.data }, { on := 11, ground := Ground.data }], guard := none }) (v := ?vrey12) rfl (by kernel_rfl) (by kernel_rfl) (by kernel_rfl) (fun _ _ _ h => h) (Or.inl ⟨by rfl, ?hrey12⟩) (by assumption) ?rrey12
            case hrey12 => (intro w0 hSw; (try dsimp only at hSw); go_simp; try (with_reducible rfl))
            simp only [Act.put, List.setIfInBounds_toArray, List.set_cons_zero, List.set_cons_succ]
            refine wpAnyH_take (i := 13) (oi := { dst := some 131, op := Op.fieldAddr 39 (Operand.tmp 130) 2, type := 0, pos := "plain.go:110", after := #[{ on := 12, ground := Ground.data }], guard := none }) (v := ?vrey13) rfl (by kernel_rfl) (by kernel_rfl) (by kernel_rfl) (fun _ _ _ h => h) (Or.inl ⟨by rfl, ?hrey13⟩) (by assumption) ?rrey13
            case hrey13 => (intro w0 hSw; (try dsimp only at hSw); go_simp; try (with_reducible rfl))
            simp only [Act.put, List.setIfInBounds_toArray, List.set_cons_zero, List.set_cons_succ]
            refine wpAnyH_take (i := 14) (oi := { dst := some 132, op := Op.load 9 (Operand.tmp 131), type := 9, pos := "plain.go:110", after := #[{ on := 13, ground := Ground.data }], guard := none }) (v := ?vrey14) rfl (by kernel_rfl) (by kernel_rfl) (by kernel_rfl) (fun _ _ _ h => h) (Or.inl ⟨by rfl, ?hrey14⟩) (by assumption) ?rrey14
            case hrey14 => (intro w0 hSw; (try dsimp only at hSw); go_simp; try (with_reducible rfl))
            simp only [Act.put, List.setIfInBounds_toArray, List.set_cons_zero, List.set_cons_succ]
            refine wpAnyH_take (i := 15) (oi := { dst := some 133, op := Op.call { callee := Callee.builtin Builtin.len, args := #[Operand.tmp 132], argTypes := #[9] }, type := 3, pos := "plain.go:110", after := #[{ on := 14, ground := Ground.data }], guard := none }) (v := ?vrey15) rfl (by kernel_rfl) (by kernel_rfl) (by kernel_rfl) (fun _ _ _ h => h) (Or.inl ⟨by rfl, ?hrey15⟩) (by assumption) ?rrey15
            case hrey15 => (intro w0 hSw; (try dsimp only at hSw); go_simp; try (with_reducible rfl))
            simp only [Act.put, List.setIfInBounds_toArray, List.set_cons_zero, List.set_cons_succ]
            refine wpAnyH_take (i := 16) (oi := { dst := some 134, op := Op.call { callee := Callee.builtin Builtin.min, args := #[Operand.tmp 133, Operand.const (Value.int IntKind.i64 200)], argTypes := #[3, 3] }, type := 3, pos := "plain.go:110", after := #[{ on := 15, ground := Ground.data }], guard := none }) (v := ?vrey16) rfl (by kernel_rfl) (by kernel_rfl) (by kernel_rfl) (fun _ _ _ h => h) (Or.inl ⟨by rfl, ?hrey16⟩) (by assumption) ?rrey16
            case hrey16 => (intro w0 hSw; (try dsimp only at hSw); go_simp; try (with_reducible rfl))
            simp only [Act.put, List.setIfInBounds_toArray, List.set_cons_zero, List.set_cons_succ]
            refine wpAnyH_take (i := 17) (oi := { dst := some 135, op := Op.slice 9 (Operand.tmp 127) none (some (Operand.tmp 134)) none, type := 9, pos := "plain.go:110", after := #[{ on := 9, ground := Ground.data }, { on := 16, ground := Ground.data }], guard := none }) (v := ?vrey17) rfl (by kernel_rfl) (by kernel_rfl) (by kernel_rfl) (fun _ _ _ h => h) (Or.inl ⟨by rfl, ?hrey17⟩) (by assumption) ?rrey17
            case hrey17 => (intro w0 hSw; (try dsimp only at hSw); go_simp; try (with_reducible rfl))
            simp only [Act.put, List.setIfInBounds_toArray, List.set_cons_zero, List.set_cons_succ]
            refine wpAnyH_take (i := 18) (oi := { dst := some 136, op := Op.build 39 #[(0, Operand.tmp 121), (1, Operand.tmp 122), (2, Operand.tmp 135)], type := 39, pos := "plain.go:110", after := #[{ on := 3, ground := Ground.data }, { on := 4, ground := Ground.data }, { on := 17, ground := Ground.data }], guard := none }) (v := ?vrey18) rfl (by kernel_rfl) (by kernel_rfl) (by kernel_rfl) (fun _ _ _ h => h) (Or.inl ⟨by rfl, ?hrey18⟩) (by assumption) ?rrey18
            case hrey18 => (intro w0 hSw; (try dsimp only at hSw); go_simp; try (with_reducible rfl))
            simp only [Act.put, List.setIfInBounds_toArray, List.set_cons_zero, List.set_cons_succ]
            refine wpAnyH_ready (rs := [1, 19]) (by kernel_rfl) (by simp) ?_
            refine AllReadyH.cons rfl (fun K hK => ?_) (AllReadyH.cons rfl (fun K hK => ?_) AllReadyH.nil)
            · go_simp
              go_wp2_with (fail)
              refine hK.out _ _ ?_ (fun hHeld => ?_)
              · exact s0
              clear hK K
              refine wpAnyH_ready (rs := [19]) (by kernel_rfl) (by simp) ?_
              refine AllReadyH.cons rfl (fun K hK => ?_) AllReadyH.nil
              go_simp
              go_wp2_with (fail)
              refine hK.out _ _ ?_ (fun hHeld => ?_)
              · exact s1
              clear hK K
              refine wpAnyH_ready (rs := [20]) (by kernel_rfl) (by simp) ?_
              refine AllReadyH.cons rfl (fun K hK => ?_) AllReadyH.nil
              rw [if_pos (by rfl)]
              refine oper_append_eq _ _ _ _ rfl _ _ _ _ rfl rfl hap ?_
              go_simp
              refine hK.out _ _ ?_ (fun hHeld => ?_)
              · exact s2
              clear hK K
              refine wpAnyH_take (i := 21) (oi := { dst := some 139, op := Op.fieldAddr 37 (Operand.tmp 22) 3, type := 0, pos := "plain.go:110", after := #[{ on := 0, ground := Ground.phase }, { on := 1, ground := Ground.phase }, { on := 2, ground := Ground.phase }, { on := 3, ground := Ground.phase }, { on := 4, ground := Ground.phase }, { on := 5, ground := Ground.phase }, { on := 6, ground := Ground.phase }, { on := 7, ground := Ground.phase }, { on := 8, ground := Ground.phase }, { on := 9, ground := Ground.phase }, { on := 10, ground := Ground.phase }, { on := 11, ground := Ground.phase }, { on := 12, ground := Ground.phase }, { on := 13, ground := Ground.phase }, { on := 14, ground := Ground.phase }, { on := 15, ground := Ground.phase }, { on := 16, ground := Ground.phase }, { on := 17, ground := Ground.phase }, { on := 18, ground := Ground.phase }, { on := 19, ground := Ground.phase }, { on := 20, ground := Ground.phase }], guard := none }) (v := ?vreya21) rfl (by kernel_rfl) (by kernel_rfl) (by kernel_rfl) (fun _ _ _ h => h) (Or.inl ⟨by rfl, ?hreya21⟩) (by assumption) ?rreya21
              case hreya21 => (intro w0 hSw; (try dsimp only at hSw); go_simp; try (with_reducible rfl))
              simp only [Act.put, List.setIfInBounds_toArray, List.set_cons_zero, List.set_cons_succ]
              refine wpAnyH_ready (rs := [22]) (by kernel_rfl) (by simp) ?_
              refine AllReadyH.cons rfl (fun K hK => ?_) AllReadyH.nil
              go_simp
              go_wp2_with (fail)
              refine hK.out _ _ ?_ (fun hHeld => ?_)
              · exact s3
              clear hK K
              refine wpAnyH_done (by kernel_rfl) ?_ _
              go_wp2
              go_roundw
              case rel => exact ⟨K ++ [⟨dv, (j : Int), c⟩], _, j + 1, by go_num, by omega, by rw [List.length_append, HI.out.1]; rfl, H5.out⟩
              case measure => simp [intOf]; omega
            · go_simp
              go_wp2_with (fail)
              refine hK.out _ _ ?_ (fun hHeld => ?_)
              · exact s1
              clear hK K
              refine wpAnyH_ready (rs := [1]) (by kernel_rfl) (by simp) ?_
              refine AllReadyH.cons rfl (fun K hK => ?_) AllReadyH.nil
              go_simp
              go_wp2_with (fail)
              refine hK.out _ _ ?_ (fun hHeld => ?_)
              · exact s1
              clear hK K
              refine wpAnyH_ready (rs := [20]) (by kernel_rfl) (by simp) ?_
              refine AllReadyH.cons rfl (fun K hK => ?_) AllReadyH.nil
              rw [if_pos (by rfl)]
              refine oper_append_eq _ _ _ _ rfl _ _ _ _ rfl rfl hap ?_
              go_simp
              refine hK.out _ _ ?_ (fun hHeld => ?_)
              · exact s2
              clear hK K
              refine wpAnyH_take (i := 21) (oi := { dst := some 139, op := Op.fieldAddr 37 (Operand.tmp 22) 3, type := 0, pos := "plain.go:110", after := #[{ on := 0, ground := Ground.phase }, { on := 1, ground := Ground.phase }, { on := 2, ground := Ground.phase }, { on := 3, ground := Ground.phase }, { on := 4, ground := Ground.phase }, { on := 5, ground := Ground.phase }, { on := 6, ground := Ground.phase }, { on := 7, ground := Ground.phase }, { on := 8, ground := Ground.phase }, { on := 9, ground := Ground.phase }, { on := 10, ground := Ground.phase }, { on := 11, ground := Ground.phase }, { on := 12, ground := Ground.phase }, { on := 13, ground := Ground.phase }, { on := 14, ground := Ground.phase }, { on := 15, ground := Ground.phase }, { on := 16, ground := Ground.phase }, { on := 17, ground := Ground.phase }, { on := 18, ground := Ground.phase }, { on := 19, ground := Ground.phase }, { on := 20, ground := Ground.phase }], guard := none }) (v := ?vreyb21) rfl (by kernel_rfl) (by kernel_rfl) (by kernel_rfl) (fun _ _ _ h => h) (Or.inl ⟨by rfl, ?hreyb21⟩) (by assumption) ?rreyb21
              case hreyb21 => (intro w0 hSw; (try dsimp only at hSw); go_simp; try (with_reducible rfl))
              simp only [Act.put, List.setIfInBounds_toArray, List.set_cons_zero, List.set_cons_succ]
              refine wpAnyH_ready (rs := [22]) (by kernel_rfl) (by simp) ?_
              refine AllReadyH.cons rfl (fun K hK => ?_) AllReadyH.nil
              go_simp
              go_wp2_with (fail)
              refine hK.out _ _ ?_ (fun hHeld => ?_)
              · exact s3
              clear hK K
              refine wpAnyH_done (by kernel_rfl) ?_ _
              go_wp2
              go_roundw
              case rel => exact ⟨K ++ [⟨dv, (j : Int), c⟩], _, j + 1, by go_num, by omega, by rw [List.length_append, HI.out.1]; rfl, H5.out⟩
              case measure => simp [intOf]; omega
        · have hx : nl ≤ j ∨ (¬ nl ≤ j ∧ 1000 ≤ j) := by omega
          obtain ⟨T, hT3, hTA⟩ := must_tell 3 (by decide) ⟨0, 0, eB⟩ K ⟨by decide, by decide⟩ (by simp [stP, lfN, lfT, lfS, eB]) (by unfold ckR; rw [if_pos rfl]; simp only [ckP]; rw [HI.out.2.hs.gl])
          rw [show ((3 + 1 : Nat) : Int) = 4 from rfl] at hTA
          have hT := tell_any 4 ⟨0, 0, eB⟩ K av cv (by decide) HI.out.2.hs.hw (by rw [← HI.out.1]; omega) wr (HI.out.2.row.at (by rw [← HI.out.1]; exact hav))
          rw [hTA] at hT
          simp only [rpC, ← HI.out.1] at hT
          obtain ⟨Tb, hTb⟩ : ∃ Tb : ByteArray, Tb = ⟨T.toArray⟩ := ⟨_, rfl⟩
          have hTs : (3 : Int) ≤ (Tb.size : Int) := by rw [hTb]; have : (⟨T.toArray⟩ : ByteArray).size = T.length := List.size_toArray; omega
          simp only [← hTb] at hT
          clear hTb hTA hT3
          subst hav
          rcases hx with x1 | ⟨x1, x2⟩
          · have x1' : ¬ (j : Int) < (nl : Int) := by omega
            clear hlt
            go_wp2_with (first | (go_at_call 13; refine hT.mono ?_; clear hT; rintro e w2 ⟨rfl, b2⟩; have H2 := Hid.mk b2; clear b2))
            go_ret
            exact ⟨rfl, chain HI.out.2.old H2.out (Nat.le_refl _)⟩
          · have x1' : (j : Int) < (nl : Int) := by omega
            have x2' : ¬ (j : Int) < 1000 := by omega
            clear hlt
            go_wp2_with (first | (go_at_call 13; refine hT.mono ?_; clear hT; rintro e w2 ⟨rfl, b2⟩; have H2 := Hid.mk b2; clear b2))
            go_ret
            exact ⟨rfl, chain HI.out.2.old H2.out (Nat.le_refl _)⟩
end Go.Proofs.Ytnkepggldlobjaa
