/-
  DERIVED. sign: the laws' same, of one list at two places; rows that grow, of whatever length.
-/
import Derived.Test.YtmdmjjobhkpojaaQApart
import Derived.Test.YtmdmjjobhkpojaaQLaw0
set_option linter.unusedVariables false
set_option linter.unusedSimpArgs false
namespace Go.Proofs.Ytmdmjjobhkpojaa
open Go.RowKit Go.Shelf Go.Proofs.BitMath Go.Proofs.FloatMath
/-- An element of elements that lie somewhere. -/
theorem at_zz {W : World} {a : Option Addr} {X : List Zp} (h : zE.At W a X) (i : Nat) (hi : i < X.length) : ∃ g off, a = some ⟨g, off, none⟩ ∧ W.cell? ⟨g, off + i * 2, none⟩ = some (.int .i64 X[i].1) ∧ W.cell? ⟨g, off + i * 2 + 1, none⟩ = some (.int .i64 X[i].2) := by
  obtain ⟨g, off, e, hr⟩ := h.at' (fun e => by rw [e] at hi; simp at hi)
  exact ⟨g, off, e, z_cells hr i hi⟩
set_option maxRecDepth 100000 in
set_option maxHeartbeats 4000000 in
theorem same_any (X : List Zp) (la lb : Option Addr) (ca cb : Nat) (w : World) (hA : zE.At w la X) (hB : zE.At w lb X) (hn : X.length < 4611686018427387904) :
    Calls Try.prog 20 #[.slice la X.length ca, .slice lb X.length cb] w fun e w' => e = .returned (.bool true) ∧ Drew w w' := by
  obtain ⟨n, en⟩ : ∃ n, X.length = n := ⟨_, rfl⟩
  rw [en] at hn ⊢
  have EN := Hid.mk en
  have HA := Hid.mk hA
  have HB := Hid.mk hB
  have n0 : ((n : Int) != n) = false := by simp
  have hzn := z_neq
  clear en hA hB
  go_enter Try.func20, Try.ntmps20
  go_wp2
  go_loopw [5] (fun f wr => ∃ (i : Nat), i ≤ n ∧ f = .int .i64 i ∧ Drew w wr) (fun f _ => n - (intOf f).toNat)
  case atStart => exact ⟨0, Nat.zero_le _, rfl, Drew.refl _⟩
  case round =>
    obtain ⟨i, hi, rfl, hd⟩ := hrel
    have HD := Hid.mk hd
    by_cases hlt : i < n
    · have hlt' : (i : Int) < (n : Int) := by omega
      obtain ⟨ga, oa, rfl, y0, y1⟩ := at_zz (HA.out.below (hd.below _)) i (by rw [EN.out]; exact hlt)
      obtain ⟨gb, ob, rfl, y2, y3⟩ := at_zz (HB.out.below (hd.below _)) i (by rw [EN.out]; exact hlt)
      generalize X[i]'(by rw [EN.out]; exact hlt) = p at *
      clear hd
      go_wp2_with fail
      refine wp_region_held_drew (S := fun w' => w'.cell? ⟨ga, oa + i * 2, none⟩ = some (.int .i64 p.1) ∧ w'.cell? ⟨ga, oa + i * 2 + 1, none⟩ = some (.int .i64 p.2) ∧ w'.cell? ⟨gb, ob + i * 2, none⟩ = some (.int .i64 p.1) ∧ w'.cell? ⟨gb, ob + i * 2 + 1, none⟩ = some (.int .i64 p.2)) (by kernel_rfl) ?_ (fun hHeld => ?_)
      · exact ⟨y0, y1, y2, y3⟩
      refine wpAnyH_take (i := 0) (oi := { dst := some 17, op := Op.move (Operand.tmp 0), type := 23, pos := "law.go:16", after := #[], guard := none }) (v := ?vs0) rfl (by kernel_rfl) (by kernel_rfl) (by kernel_rfl) (fun _ _ _ h => h) (Or.inl ⟨by rfl, ?hs0⟩) (by assumption) ?rs0
      case hs0 => (intro w0 hSw; (try dsimp only at hSw); go_simp; try (with_reducible rfl))
      simp only [Act.put, List.setIfInBounds_toArray, List.set_cons_zero, List.set_cons_succ]
      refine wpAnyH_take (i := 1) (oi := { dst := some 18, op := Op.move (Operand.tmp 5), type := 3, pos := "law.go:16", after := #[], guard := none }) (v := ?vs1) rfl (by kernel_rfl) (by kernel_rfl) (by kernel_rfl) (fun _ _ _ h => h) (Or.inl ⟨by rfl, ?hs1⟩) (by assumption) ?rs1
      case hs1 => (intro w0 hSw; (try dsimp only at hSw); go_simp; try (with_reducible rfl))
      simp only [Act.put, List.setIfInBounds_toArray, List.set_cons_zero, List.set_cons_succ]
      refine wpAnyH_take (i := 2) (oi := { dst := some 19, op := Op.indexAddr 23 (Operand.tmp 17) (Operand.tmp 18), type := 0, pos := "law.go:16", after := #[{ on := 0, ground := Ground.data }, { on := 1, ground := Ground.data }], guard := none }) (v := ?vs2) rfl (by kernel_rfl) (by kernel_rfl) (by kernel_rfl) (fun _ _ _ h => h) (Or.inl ⟨by rfl, ?hs2⟩) (by assumption) ?rs2
      case hs2 => (intro w0 hSw; (try dsimp only at hSw); go_simp; try (with_reducible rfl))
      simp only [Act.put, List.setIfInBounds_toArray, List.set_cons_zero, List.set_cons_succ]
      refine wpAnyH_take (i := 3) (oi := { dst := some 20, op := Op.load 30 (Operand.tmp 19), type := 30, pos := "law.go:16", after := #[{ on := 2, ground := Ground.data }], guard := none }) (v := ?vs3) rfl (by kernel_rfl) (by kernel_rfl) (by kernel_rfl) (fun _ _ _ h => h) (Or.inl ⟨by rfl, ?hs3⟩) (by assumption) ?rs3
      case hs3 => (intro w0 hSw; (try dsimp only at hSw); go_simp; try (with_reducible rfl))
      simp only [Act.put, List.setIfInBounds_toArray, List.set_cons_zero, List.set_cons_succ]
      refine wpAnyH_take (i := 4) (oi := { dst := some 21, op := Op.move (Operand.tmp 1), type := 23, pos := "law.go:16", after := #[], guard := none }) (v := ?vs4) rfl (by kernel_rfl) (by kernel_rfl) (by kernel_rfl) (fun _ _ _ h => h) (Or.inl ⟨by rfl, ?hs4⟩) (by assumption) ?rs4
      case hs4 => (intro w0 hSw; (try dsimp only at hSw); go_simp; try (with_reducible rfl))
      simp only [Act.put, List.setIfInBounds_toArray, List.set_cons_zero, List.set_cons_succ]
      refine wpAnyH_take (i := 5) (oi := { dst := some 22, op := Op.move (Operand.tmp 5), type := 3, pos := "law.go:16", after := #[], guard := none }) (v := ?vs5) rfl (by kernel_rfl) (by kernel_rfl) (by kernel_rfl) (fun _ _ _ h => h) (Or.inl ⟨by rfl, ?hs5⟩) (by assumption) ?rs5
      case hs5 => (intro w0 hSw; (try dsimp only at hSw); go_simp; try (with_reducible rfl))
      simp only [Act.put, List.setIfInBounds_toArray, List.set_cons_zero, List.set_cons_succ]
      refine wpAnyH_take (i := 6) (oi := { dst := some 23, op := Op.indexAddr 23 (Operand.tmp 21) (Operand.tmp 22), type := 0, pos := "law.go:16", after := #[{ on := 4, ground := Ground.data }, { on := 5, ground := Ground.data }], guard := none }) (v := ?vs6) rfl (by kernel_rfl) (by kernel_rfl) (by kernel_rfl) (fun _ _ _ h => h) (Or.inl ⟨by rfl, ?hs6⟩) (by assumption) ?rs6
      case hs6 => (intro w0 hSw; (try dsimp only at hSw); go_simp; try (with_reducible rfl))
      simp only [Act.put, List.setIfInBounds_toArray, List.set_cons_zero, List.set_cons_succ]
      refine wpAnyH_take (i := 7) (oi := { dst := some 24, op := Op.load 30 (Operand.tmp 23), type := 30, pos := "law.go:16", after := #[{ on := 6, ground := Ground.data }], guard := none }) (v := ?vs7) rfl (by kernel_rfl) (by kernel_rfl) (by kernel_rfl) (fun _ _ _ h => h) (Or.inl ⟨by rfl, ?hs7⟩) (by assumption) ?rs7
      case hs7 => (intro w0 hSw; (try dsimp only at hSw); go_simp; try (with_reducible rfl))
      simp only [Act.put, List.setIfInBounds_toArray, List.set_cons_zero, List.set_cons_succ]
      refine wpAnyH_take (i := 8) (oi := { dst := some 25, op := Op.binOp BinOp.neq 30 (Operand.tmp 20) (Operand.tmp 24) 30, type := 4, pos := "law.go:16", after := #[{ on := 3, ground := Ground.data }, { on := 7, ground := Ground.data }], guard := none }) (v := ?vs8) rfl (by kernel_rfl) (by kernel_rfl) (by kernel_rfl) (fun _ _ _ h => h) (Or.inl ⟨by rfl, ?hs8⟩) (by assumption) ?rs8
      case hs8 => (intro w0 hSw; (try dsimp only at hSw); go_simp; try (with_reducible rfl))
      simp only [Act.put, List.setIfInBounds_toArray, List.set_cons_zero, List.set_cons_succ]
      refine wpAnyH_done (by kernel_rfl) ?_ _
      go_wp2
      go_roundw
      case rel => exact ⟨i + 1, hlt, by go_num, HD.out.drew⟩
      case measure => simp [intOf]; omega
    · have hlt' : ¬ (i : Int) < (n : Int) := by omega
      clear hd
      go_wp2
      go_ret
      exact ⟨rfl, HD.out⟩
/-- As GroZ.push, for a list of whatever length memory takes. -/
theorem GroZ.push2 {w W : World} {X : List Zp} {o : Value} (h : GroZ w X o W) (hl : X.length + 1 ≤ 8796093022207) (x : Zp) :
    ∃ o' W', (Builtin.append_ #[23, 23] 23 #[o, .slice (some ⟨W.heap.size, 0, none⟩) 1 1]).run Try.prog (W.alloc (.cells #[.int .i64 x.1, .int .i64 x.2] 30)) = .ok o' W' ∧ zE.Row W' o' (X ++ [x]) ∧ Stay (fun k => o.ownBlock = some k) W W' ∧ ∀ k, o'.ownBlock = some k → o.ownBlock = some k ∨ W.heap.size ≤ k :=
  El.app1 zOk W X o h.row x (by show _ * 16 ≤ _; omega) (by omega)
end Go.Proofs.Ytmdmjjobhkpojaa
