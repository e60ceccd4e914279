/-
  DERIVED. sign: the iterator over a direction's units.
-/
import Derived.Test.YtmdmjjobhkpojaaQNew
import Derived.Test.YtmdmjjobhkpojaaRow
import Derived.Test.YtmdmjjobhkpojaaHeld
import Derived.Test.YtmdmjjobhkpojaaBRange
set_option linter.unusedVariables false
set_option linter.unusedSimpArgs false
namespace Go.Proofs.Ytmdmjjobhkpojaa
open Go.RowKit Go.Shelf Go.Proofs.BitMath Go.Proofs.FloatMath
attribute [local go_sem] Oper.semAt_some
theorem mixed : Try.prog.follows .mixedOrders = true := by kernel_rfl
/-- What units hands on for place k. -/
def encU (sd : Int) (jj : Nat) (x : Nat) : Array Value := #[.int .i64 (x : Nat), uV (uq sd (1024 * (jj : Int) + (x : Nat) + 1))]
/-- What the iterator does by itself: nothing that is seen. -/
def TrU (_ : Unit) (A : World) (_ : Unit) (B : World) : Prop := Below A.heap.size A B
theorem TrU.others {s s' : Unit} {A B : World} (h : TrU s A s' B) : KeepsOthers A B := ⟨h.size, fun k o hk _ => (h.block k (Array.getElem?_eq_some_iff.1 hk).1).trans hk⟩
/-- Every block of cells but one lies as it lay. -/
def KeepX (b : Nat) (W W' : World) : Prop := ∀ k o, k ≠ b → W.heap[k]? = some o → o.isCells = true → W'.heap[k]? = some o
theorem keepX_t {n : Nat} {A B C : World} (h : KeepX n A B) (k : KeepX n B C) : KeepX n A C := fun i o hi ho hc => k i o hi (h i o hi ho hc) hc
theorem keepX_b {n : Nat} {w : World} (W : World) (l : Nat) (o o' : Obj) (_ : w.heap.size ≤ l) (hl : W.heap[l]? = some o) (ho : o.isCells = false) (_ : o.isWalk = false) : KeepX n W (W.putObj l o') := fun i q _ hq hc => by
  have hne : i ≠ l := fun e => by subst e; rw [hl] at hq; cases hq; rw [ho] at hc; cases hc
  exact (World.putObj_heap_other (by omega)).trans hq
theorem KeepX.cell {n : Nat} {W W' : World} (h : KeepX n W W') {a : Addr} {v : Value} (ha : a.block ≠ n) (hv : W.cell? a = some v) : W'.cell? a = some v := by
  cases ho : W.heap[a.block]? with
  | none => simp [World.cell?, ho] at hv
  | some o =>
    have hc : o.isCells = true := by
      cases o <;> simp [World.cell?, ho] at hv <;> rfl
    exact (World.cell?_of_block ((h a.block o ha ho hc).trans ho.symm)).trans hv
theorem KeepX.below {n : Nat} {W W' : World} (h : Below W.heap.size W W') : KeepX n W W' := fun i o _ ho _ => (h.block i (Array.getElem?_eq_some_iff.1 ho).1).trans ho
theorem KeepX.set {n : Nat} {W : World} {a : Addr} (h : a.block = n) (v : Value) : KeepX n W (W.setCell a v) := fun i o hi ho _ => (heap_setCell_other W a i v (fun e => hi (by rw [e, h]))).trans ho
set_option maxHeartbeats 400000 in
theorem units_any (b jj : Nat) (w : World) :
    Calls Try.prog 36 #[Pt b, .int .i64 jj] w fun e w' => e = .returned (.func (.func 38) #[] #[Pt w.heap.size, Pt (w.heap.size + 1)]) ∧ w' = (w.alloc (.cells #[Pt b] 31)).alloc (.cells #[.int .i64 jj] 3) := by
  go_enter Try.func36, Try.ntmps36
  go_wp2
  go_ret
  exact ⟨rfl, rfl⟩
theorem u64_in (a : Int) (h0 : 0 ≤ a) (h1 : a < 18446744073709551616) : IntKind.u64.wrap a = a := by
  unfold IntKind.wrap; simp [IntKind.bits, IntKind.signed]; omega
theorem i64_1024 (jj : Nat) (h : jj ≤ 512) : IntKind.i64.wrap (1024 * (jj : Int)) = 1024 * (jj : Int) := i64_in _ (by omega) (by omega)
set_option maxRecDepth 100000 in
set_option maxHeartbeats 4000000 in
theorem units_st (jj wd dm b bS bJ bT n : Nat) (sd : Int) (w : World) (hS : w.cell? ⟨bS, 0, none⟩ = some (Pt b)) (hJ0 : w.cell? ⟨bJ, 0, none⟩ = some (.int .i64 jj)) (hs : SgAt w b wd dm sd)
    (hd : dm ≤ 1024) (hj : jj ≤ 512) (n1 : bS ≠ bT) (n2 : bJ ≠ bT) (n3 : b ≠ bT) :
    SeqSt Fence.wide n Try.prog 38 #[Pt bS, Pt bJ] (encU sd jj) (fun p x => x = p.length ∧ x < dm) TrU (fun _ => KeepX bT) (fun p => p = List.range dm) (fun _ => True) () w := fun l J Jx W hW hJ _ hY h0 => by
  have xS : W.cell? ⟨bS, 0, none⟩ = some (Pt b) := (hW.cell (World.block_lt_of_cell? w _ hS)).trans hS
  have xJ : W.cell? ⟨bJ, 0, none⟩ = some (.int .i64 jj) := (hW.cell (World.block_lt_of_cell? w _ hJ0)).trans hJ0
  have x1 : W.cell? ⟨b, 1, none⟩ = some (.int .i64 dm) := (hW.cell (World.block_lt_of_cell? w _ hs.c1)).trans hs.c1
  have x2 : W.cell? ⟨b, 2, none⟩ = some (.int .u64 sd) := (hW.cell (World.block_lt_of_cell? w _ hs.c2)).trans hs.c2
  clear hS hJ0 hs
  refine callsIn_of_wp Try.func38 rfl trivial ?_ rfl
  simp only [Try.ntmps38, List.size_toArray, List.length_cons, List.length_nil, Nat.reduceAdd, Nat.reduceSub, Array.replicate_succ, Array.replicate_zero, List.push_toArray, List.append_toArray, List.nil_append, List.cons_append]
  gi_wp2
  gi_loopw [4, 9] (fun f i wr => ∃ (k : Nat), k ≤ dm ∧ i = .int .i64 k ∧ J (List.range k) () wr ∧ wr.cell? ⟨bS, 0, none⟩ = some (Pt b) ∧ wr.cell? ⟨bJ, 0, none⟩ = some (.int .i64 jj) ∧ wr.cell? ⟨b, 2, none⟩ = some (.int .u64 sd)) (fun _ i _ => dm - (intOf i).toNat)
  case atStart => exact ⟨0, Nat.zero_le _, rfl, h0, xS, xJ, x2⟩
  case round =>
    obtain ⟨k, hk, rfl, hJk, yS, yJ, y2⟩ := hrel
    clear xS xJ x1 x2
    by_cases hlt : k < dm
    · have hJ1 := hJ _ () wr () wr.drew hJk (b_drew wr)
      obtain ⟨fn, tmps, assign, body, hy, hR⟩ := hY _ k () _ hJ1 ⟨by simp, hlt⟩
      dsimp only [encU] at hy
      have HK2 : k < 1024 := Nat.lt_of_lt_of_le hlt hd
      have hlt' : (k : Int) < (dm : Int) := by omega
      have a1 := i64_1024 jj hj
      have a2 : IntKind.i64.wrap (1024 * (jj : Int) + k) = 1024 * (jj : Int) + k := i64_in _ (by omega) (by omega)
      have a3 : IntKind.i64.wrap (1024 * (jj : Int) + k + 1) = 1024 * (jj : Int) + k + 1 := i64_in _ (by omega) (by omega)
      have a4 : IntKind.u64.wrap (1024 * (jj : Int) + k + 1) = 1024 * (jj : Int) + k + 1 := u64_in _ (by omega) (by omega)
      have HH := Hid.mk (And.intro hd (And.intro hj (And.intro hlt (And.intro HK2 hk))))
      obtain ⟨X, eX⟩ : ∃ X, 1024 * (jj : Int) + k + 1 = X := ⟨_, rfl⟩
      rw [eX] at a3 a4 hy
      have hu := unit_any sd X wr.drew
      obtain ⟨U, eU⟩ : ∃ U, uV (uq sd X) = U := ⟨_, rfl⟩
      rw [eU] at hu hy
      clear eU
      have yS' : wr.drew.cell? ⟨bS, 0, none⟩ = some (Pt b) := yS
      have yJ' : wr.drew.cell? ⟨bJ, 0, none⟩ = some (.int .i64 jj) := yJ
      have y2' : wr.drew.cell? ⟨b, 2, none⟩ = some (.int .u64 sd) := y2
      clear hJ1 hJk hY hJ hd hj hk hlt HK2
      gi_wp2_with fail
      refine region_held mixed 15 rfl (S := fun w' => w'.cell? ⟨bS, 0, none⟩ = some (Pt b) ∧ w'.cell? ⟨bJ, 0, none⟩ = some (.int .i64 jj) ∧ w'.cell? ⟨b, 2, none⟩ = some (.int .u64 sd)) ?_
      refine AnyS.take (i := 0) (oi := { dst := some 12, op := Op.move (Operand.tmp 0), type := 81, pos := "sign.go:83", after := #[], guard := none }) (v := ?vi0) (by kernel_rfl) rfl (by kernel_rfl) (by kernel_rfl) (by kernel_rfl) (fun _ _ _ h => h) ⟨Or.inl ⟨by kernel_rfl, fun w' hS => ?yi0⟩, fun _ => rfl⟩ ⟨yS', yJ', y2'⟩ ?_
      case yi0 => go_simp; rfl
      simp only [Act.put, List.setIfInBounds_toArray, List.set_cons_zero, List.set_cons_succ]
      refine AnyS.take (i := 1) (oi := { dst := some 13, op := Op.move (Operand.tmp 4), type := 3, pos := "sign.go:83", after := #[], guard := none }) (v := ?vi1) (by kernel_rfl) rfl (by kernel_rfl) (by kernel_rfl) (by kernel_rfl) (fun _ _ _ h => h) ⟨Or.inl ⟨by kernel_rfl, fun w' hS => ?yi1⟩, fun _ => rfl⟩ ⟨yS', yJ', y2'⟩ ?_
      case yi1 => go_simp; rfl
      simp only [Act.put, List.setIfInBounds_toArray, List.set_cons_zero, List.set_cons_succ]
      refine AnyS.take (i := 2) (oi := { dst := some 14, op := Op.load 31 (Operand.tmp 1), type := 31, pos := "sign.go:83", after := #[], guard := none }) (v := ?vi2) (by kernel_rfl) rfl (by kernel_rfl) (by kernel_rfl) (by kernel_rfl) (fun _ _ _ h => h) ⟨Or.inl ⟨by kernel_rfl, fun w' hS => ?yi2⟩, fun _ => rfl⟩ ⟨yS', yJ', y2'⟩ ?_
      case yi2 => have g0 := hS.1; clear hS; go_simp; rfl
      simp only [Act.put, List.setIfInBounds_toArray, List.set_cons_zero, List.set_cons_succ]
      refine AnyS.take (i := 3) (oi := { dst := some 15, op := Op.nilCheck (Operand.tmp 14), type := 0, pos := "sign.go:83", after := #[{ on := 2, ground := Ground.data }], guard := none }) (v := ?vi3) (by kernel_rfl) rfl (by kernel_rfl) (by kernel_rfl) (by kernel_rfl) (fun _ _ _ h => h) ⟨Or.inl ⟨by kernel_rfl, fun w' hS => ?yi3⟩, fun _ => rfl⟩ ⟨yS', yJ', y2'⟩ ?_
      case yi3 => go_simp; rfl
      simp only [Act.put, List.setIfInBounds_toArray, List.set_cons_zero, List.set_cons_succ]
      refine AnyS.take (i := 4) (oi := { dst := some 16, op := Op.fieldAddr 60 (Operand.tmp 15) 2, type := 0, pos := "sign.go:83", after := #[{ on := 3, ground := Ground.data }], guard := none }) (v := ?vi4) (by kernel_rfl) rfl (by kernel_rfl) (by kernel_rfl) (by kernel_rfl) (fun _ _ _ h => h) ⟨Or.inl ⟨by kernel_rfl, fun w' hS => ?yi4⟩, fun _ => rfl⟩ ⟨yS', yJ', y2'⟩ ?_
      case yi4 => go_simp; rfl
      simp only [Act.put, List.setIfInBounds_toArray, List.set_cons_zero, List.set_cons_succ]
      refine AnyS.take (i := 5) (oi := { dst := some 17, op := Op.load 22 (Operand.tmp 16), type := 22, pos := "sign.go:83", after := #[{ on := 4, ground := Ground.data }], guard := none }) (v := ?vi5) (by kernel_rfl) rfl (by kernel_rfl) (by kernel_rfl) (by kernel_rfl) (fun _ _ _ h => h) ⟨Or.inl ⟨by kernel_rfl, fun w' hS => ?yi5⟩, fun _ => rfl⟩ ⟨yS', yJ', y2'⟩ ?_
      case yi5 => have g0 := hS.2.2; clear hS; go_simp; rfl
      simp only [Act.put, List.setIfInBounds_toArray, List.set_cons_zero, List.set_cons_succ]
      refine AnyS.take (i := 6) (oi := { dst := some 18, op := Op.load 3 (Operand.tmp 2), type := 3, pos := "sign.go:83", after := #[], guard := none }) (v := ?vi6) (by kernel_rfl) rfl (by kernel_rfl) (by kernel_rfl) (by kernel_rfl) (fun _ _ _ h => h) ⟨Or.inl ⟨by kernel_rfl, fun w' hS => ?yi6⟩, fun _ => rfl⟩ ⟨yS', yJ', y2'⟩ ?_
      case yi6 => have g0 := hS.2.1; clear hS; go_simp; rfl
      simp only [Act.put, List.setIfInBounds_toArray, List.set_cons_zero, List.set_cons_succ]
      refine AnyS.take (i := 7) (oi := { dst := some 19, op := Op.binOp BinOp.mul 3 (Operand.const (Value.int IntKind.i64 1024)) (Operand.tmp 18) 3, type := 3, pos := "sign.go:83", after := #[{ on := 6, ground := Ground.data }], guard := none }) (v := ?vi7) (by kernel_rfl) rfl (by kernel_rfl) (by kernel_rfl) (by kernel_rfl) (fun _ _ _ h => h) ⟨Or.inl ⟨by kernel_rfl, fun w' hS => ?yi7⟩, fun _ => rfl⟩ ⟨yS', yJ', y2'⟩ ?_
      case yi7 => clear hS; go_simp; rfl
      simp only [Act.put, List.setIfInBounds_toArray, List.set_cons_zero, List.set_cons_succ]
      refine AnyS.take (i := 8) (oi := { dst := some 20, op := Op.move (Operand.tmp 4), type := 3, pos := "sign.go:83", after := #[], guard := none }) (v := ?vi8) (by kernel_rfl) rfl (by kernel_rfl) (by kernel_rfl) (by kernel_rfl) (fun _ _ _ h => h) ⟨Or.inl ⟨by kernel_rfl, fun w' hS => ?yi8⟩, fun _ => rfl⟩ ⟨yS', yJ', y2'⟩ ?_
      case yi8 => go_simp; rfl
      simp only [Act.put, List.setIfInBounds_toArray, List.set_cons_zero, List.set_cons_succ]
      refine AnyS.take (i := 9) (oi := { dst := some 21, op := Op.binOp BinOp.add 3 (Operand.tmp 19) (Operand.tmp 20) 3, type := 3, pos := "sign.go:83", after := #[{ on := 7, ground := Ground.data }, { on := 8, ground := Ground.data }], guard := none }) (v := ?vi9) (by kernel_rfl) rfl (by kernel_rfl) (by kernel_rfl) (by kernel_rfl) (fun _ _ _ h => h) ⟨Or.inl ⟨by kernel_rfl, fun w' hS => ?yi9⟩, fun _ => rfl⟩ ⟨yS', yJ', y2'⟩ ?_
      case yi9 => clear hS; go_simp; rfl
      simp only [Act.put, List.setIfInBounds_toArray, List.set_cons_zero, List.set_cons_succ]
      refine AnyS.take (i := 10) (oi := { dst := some 22, op := Op.binOp BinOp.add 3 (Operand.tmp 21) (Operand.const (Value.int IntKind.i64 1)) 3, type := 3, pos := "sign.go:83", after := #[{ on := 9, ground := Ground.data }], guard := none }) (v := ?vi10) (by kernel_rfl) rfl (by kernel_rfl) (by kernel_rfl) (by kernel_rfl) (fun _ _ _ h => h) ⟨Or.inl ⟨by kernel_rfl, fun w' hS => ?yi10⟩, fun _ => rfl⟩ ⟨yS', yJ', y2'⟩ ?_
      case yi10 => clear hS; go_simp; rfl
      simp only [Act.put, List.setIfInBounds_toArray, List.set_cons_zero, List.set_cons_succ]
      refine AnyS.take (i := 11) (oi := { dst := some 23, op := Op.convert 3 22 (Operand.tmp 22), type := 22, pos := "sign.go:83", after := #[{ on := 10, ground := Ground.data }], guard := none }) (v := ?vi11) (by kernel_rfl) rfl (by kernel_rfl) (by kernel_rfl) (by kernel_rfl) (fun _ _ _ h => h) ⟨Or.inl ⟨by kernel_rfl, fun w' hS => ?yi11⟩, fun _ => rfl⟩ ⟨yS', yJ', y2'⟩ ?_
      case yi11 => clear hS; go_simp; rfl
      simp only [Act.put, List.setIfInBounds_toArray, List.set_cons_zero, List.set_cons_succ]
      refine AnyS.one (i := 12) (by kernel_rfl) (wpOpIn_step (o := { dst := some 24, op := Op.call { callee := Callee.value (Operand.func 39), args := #[Operand.tmp 17, Operand.tmp 23], argTypes := #[22, 22] }, type := 66, pos := "sign.go:83", after := #[{ on := 5, ground := Ground.data }, { on := 11, ground := Ground.data }], guard := none }) rfl (fun K hK => ?_))
      go_simp
      (try rw [eX])
      refine ⟨trivial, fun h => (by cases h), (callsIn_wide.2 hu).mono ?_⟩
      rintro r w3 ⟨rfl, rfl⟩
      clear hu
      refine hK _ _ ⟨⟨yS', yJ', y2'⟩, ?_⟩
      clear hK K
      refine AnyS.one (i := 13) (by kernel_rfl) (wpOpIn_step (o := { dst := some 25, op := Op.call { callee := Callee.value (Operand.tmp 12), args := #[Operand.tmp 13, Operand.tmp 24], argTypes := #[3, 66] }, type := 4, pos := "sign.go:83", after := #[{ on := 0, ground := Ground.data }, { on := 1, ground := Ground.data }, { on := 12, ground := Ground.data }, { on := 12, ground := Ground.chain }], guard := none }) rfl (fun K hK => ?_))
      go_simp
      refine ⟨fun h => (by cases h), hR.mono ?_⟩
      rintro e W3 (⟨rfl, hJ3, hk3⟩ | ⟨rfl, hJx3, hk3⟩)
      · have S3 : W3.cell? ⟨bS, 0, none⟩ = some (Pt b) ∧ W3.cell? ⟨bJ, 0, none⟩ = some (.int .i64 jj) ∧ W3.cell? ⟨b, 2, none⟩ = some (.int .u64 sd) := ⟨hk3.cell n1 yS', hk3.cell n2 yJ', hk3.cell n3 y2'⟩
        refine hK _ _ ⟨S3, ?_⟩
        clear hK K
        refine AnyS.take (i := 14) (oi := { dst := some 26, op := Op.unOp UnOp.not 4 (Operand.tmp 25), type := 4, pos := "sign.go:83", after := #[{ on := 13, ground := Ground.data }], guard := none }) (v := ?vj114) (by kernel_rfl) rfl (by kernel_rfl) (by kernel_rfl) (by kernel_rfl) (fun _ _ _ h => h) ⟨Or.inl ⟨by kernel_rfl, fun w' hS => ?yj114⟩, fun _ => rfl⟩ S3 ?_
        case yj114 => clear hS; go_simp; rfl
        simp only [Act.put, List.setIfInBounds_toArray, List.set_cons_zero, List.set_cons_succ]
        refine AnyS.done (by kernel_rfl) ?_
        have hk5 : k < 1024 := HH.out.2.2.2.1
        have hk6 := HH.out.2.2.1
        gi_wp2
        go_roundw
        case rel => exact ⟨k + 1, HH.out.2.2.1, by go_num, by rw [List.range_succ]; exact hJ3, S3.1, S3.2.1, S3.2.2⟩
        case measure => simp [intOf]; omega
      · have S3 : W3.cell? ⟨bS, 0, none⟩ = some (Pt b) ∧ W3.cell? ⟨bJ, 0, none⟩ = some (.int .i64 jj) ∧ W3.cell? ⟨b, 2, none⟩ = some (.int .u64 sd) := ⟨hk3.cell n1 yS', hk3.cell n2 yJ', hk3.cell n3 y2'⟩
        refine hK _ _ ⟨S3, ?_⟩
        clear hK K
        refine AnyS.take (i := 14) (oi := { dst := some 26, op := Op.unOp UnOp.not 4 (Operand.tmp 25), type := 4, pos := "sign.go:83", after := #[{ on := 13, ground := Ground.data }], guard := none }) (v := ?vj214) (by kernel_rfl) rfl (by kernel_rfl) (by kernel_rfl) (by kernel_rfl) (fun _ _ _ h => h) ⟨Or.inl ⟨by kernel_rfl, fun w' hS => ?yj214⟩, fun _ => rfl⟩ S3 ?_
        case yj214 => clear hS; go_simp; rfl
        simp only [Act.put, List.setIfInBounds_toArray, List.set_cons_zero, List.set_cons_succ]
        refine AnyS.done (by kernel_rfl) ?_
        gi_wp2
        refine bodyPost_ret (results_none rfl _ _ _) rfl ?_
        exact ⟨⟨_, rfl⟩, .inr ⟨_, _, trivial, hJx3⟩⟩
    · have e : k = dm := by omega
      rw [e] at hJk
      have H2 := Hid.mk hJk
      clear e hJk
      gi_wp2
      go_end0
      exact ⟨⟨_, rfl⟩, .inl ⟨_, (), rfl, H2.out⟩⟩
end Go.Proofs.Ytmdmjjobhkpojaa
