/-
  DERIVED. JLook1b, as one text.
-/
import Derived.Test.YtjkhhjboejkafaaDoorLzAQ
set_option linter.unusedVariables false
set_option linter.unusedSimpArgs false
namespace Go.Proofs.YtjkhhjboejkafaaDoor
open Go.RowKit Go.Shelf Go.Proofs.SealMath
/-- Marks of loops among the deferred calls. -/
def markL (ds : List Nat) : List Deferred := ds.map fun D => { target := .collected D, args := #[] }
theorem stay_put {F : Nat → Prop} (w : World) (D : Nat) (o : Obj) (h : F D) : Stay F w (w.putObj D o) := ⟨rfl, rfl, rfl, by simp, fun k _ hn => World.putObj_heap_other (fun e => hn (e ▸ h))⟩
theorem leaves_marks {F : Fence} {n : Nat} {fn : Func} {tmps : Array Value} {R : Ending → World → Prop} (v : Value) :
    ∀ (ds : List Nat) (w : World), (∀ D ∈ ds, w.heap[D]? = some (.deferred (some []))) → ds.Nodup → (∀ w', Stay (fun k => k ∈ ds) w w' → (results fn tmps).run Tryd.prog w' = .ok v w' ∧ R (.returned v) w') → LeavesInM F n Tryd.prog fn tmps R (markL ds) .returning w
  | [], w, _, _, h => ⟨v, (h w (.refl _ _)).1, (h w (.refl _ _)).2⟩
  | D :: ds, w, hd, hn, h => by
    rw [List.nodup_cons] at hn
    have s1 : Stay (fun k => k ∈ D :: ds) w (w.putObj D (.deferred none)) := stay_put w D _ (by simp)
    refine ⟨by simp, .inl ⟨D, _, rfl, run_takeDeferred (hd D (by simp)), leaves_marks v ds _ (fun D' h' => ?_) hn.2 (fun w' s2 => h w' (s1.trans (s2.mono (fun k _ e => List.mem_cons_of_mem _ e))))⟩⟩
    have hne : D' ≠ D := fun e => hn.1 (by rw [← e]; exact h')
    exact (World.putObj_heap_other hne).trans (hd D' (List.mem_cons_of_mem _ h'))
theorem num_any (x : Int) (w : World) : Calls Tryd.prog 14 #[.int .i64 x] w fun e w' => e = .returned (.int .i64 x) ∧ w' = w := by
  go_enter Tryd.func14, Tryd.ntmps14
  go_wp2
  go_ret
  exact ⟨rfl, rfl⟩
theorem Pow.lat {w w' : World} (h : Pow w) (hb : Below w.heap.size w w') : Pow w' := by
  have hgn : Tryd.prog.globalNamed "internal/strconv.uint64pow10" = some 1 := by kernel_rfl
  unfold Pow Lib.TabIs World.var? at h ⊢
  rw [hgn] at h ⊢
  simp only [Option.bind_some] at h ⊢
  have hlt : 1 < w.heap.size := by
    rcases Nat.lt_or_ge 1 w.heap.size with h' | h'
    · exact h'
    · rw [Array.getElem?_eq_none h'] at h; cases h
  rw [hb.block 1 hlt]
  exact h
set_option maxRecDepth 100000 in
/-- Look's results are read out of their boxes. -/
theorem look_leaves (tmps : Array Value) (a8 a9 a10 : Nat) (v : Value) (g e : Int) (ds : List Nat) (A : World) {R : Ending → World → Prop} (t8 : tmps.getD 8 undef = .pointer (some ⟨a8, 0, none⟩)) (t9 : tmps.getD 9 undef = .pointer (some ⟨a9, 0, none⟩)) (t10 : tmps.getD 10 undef = .pointer (some ⟨a10, 0, none⟩))
    (b8 : A.heap[a8]? = some (.cells #[v] 32 (0, 0))) (b9 : A.heap[a9]? = some (.cells #[.int .i64 g] 3 (0, 0))) (b10 : A.heap[a10]? = some (.cells #[.int .i64 e] 26 (0, 0))) (hd : ∀ D ∈ ds, A.heap[D]? = some (.deferred (some []))) (hn : ds.Nodup)
    (hR : ∀ w', Stay (fun k => k ∈ ds) A w' → R (.returned (.tuple #[v, .int .i64 g, .int .i64 e])) w') : LeavesInM Fence.wide 9 Tryd.prog Tryd.f11 tmps R (markL ds) .returning A :=
  leaves_marks _ ds A hd hn fun w' st => ⟨by
    have k8 : w'.heap[a8]? = _ := (st.block a8 (Array.getElem?_eq_some_iff.1 b8).1 (fun h => by rw [hd a8 h] at b8; cases b8)).trans b8
    have k9 : w'.heap[a9]? = _ := (st.block a9 (Array.getElem?_eq_some_iff.1 b9).1 (fun h => by rw [hd a9 h] at b9; cases b9)).trans b9
    have k10 : w'.heap[a10]? = _ := (st.block a10 (Array.getElem?_eq_some_iff.1 b10).1 (fun h => by rw [hd a10 h] at b10; cases b10)).trans b10
    have c8 : w'.cell? ⟨a8, 0, none⟩ = some v := by rw [cell_of_row _ _ 0 _ _ (0, 0) k8]; rfl
    have c9 : w'.cell? ⟨a9, 0, none⟩ = some (.int .i64 g) := by rw [cell_of_row _ _ 0 _ _ (0, 0) k9]; rfl
    have c10 : w'.cell? ⟨a10, 0, none⟩ = some (.int .i64 e) := by rw [cell_of_row _ _ 0 _ _ (0, 0) k10]; rfl
    rw [Array.getD_eq_getD_getElem?] at t8 t9 t10
    simp [results, Tryd.results11, go_sem, t8, t9, t10, c8, c9, c10], hR w' st⟩
theorem wpListIn_append_eq {F : Fence} {n : Nat} {P : Program} {w : World} {ops : Array Oper} {rest : List Oper} {o : Oper} {a : Act} {Q : Exit → Act → World → Prop} (hgd : o.guard = none) (s x : Operand) (t u : TypeId)
    (ho : o.op = .call { callee := .builtin .append, args := #[s, x], argTypes := #[t, u] }) (v xv v' : Value) (w' : World) (hs : a.eval s = v) (hx : a.eval x = xv) (hr : (Builtin.append_ #[t, u] o.type #[v, xv]).run P w = .ok v' w')
    (h : wpListIn F n P ops Q rest (a.put o.dst v') w') : wpListIn F n P ops Q (o :: rest) a w := by
  refine wpListIn_plain hgd fun K hK => ?_
  unfold Oper.wpIn
  refine ⟨by simp [Oper.about, ho, resolve, Target.leads, Sem.run_pure], ?_⟩
  rw [Oper.semAt_plain F _ _ (by rw [ho]; intro c hc'; cases hc')]
  unfold execOp
  simp only [ho, resolve, invoke, builtin, Sem.run_bind, Sem.run_pure, Result.andThen_ok, List.map_toArray, List.map_cons, List.map_nil, hs, hx, hr, Oper.uponIn]
  exact hK _ _ h
theorem tab_cells {w : World} (h : Tab w) : ∃ c t m, w.heap[0]? = some (.cells c t m) := by
  have h1 := h 0 (by omega)
  unfold World.cell? at h1
  cases hh : w.heap[0]? with
  | none => simp [hh] at h1
  | some o => cases o <;> simp [hh] at h1 <;> exact ⟨_, _, _, rfl⟩
/-- Three boxes are written. -/
theorem three_set {V : World} (a b c : Nat) (x y z x' y' z' : Value) (ta tb tc : TypeId) (ha : V.heap[a]? = some (.cells #[x] ta (0, 0))) (hb : V.heap[b]? = some (.cells #[y] tb (0, 0))) (hc : V.heap[c]? = some (.cells #[z] tc (0, 0))) (n1 : a ≠ b) (n2 : a ≠ c) (n3 : b ≠ c) :
    (((V.setCell ⟨a, 0, none⟩ x').setCell ⟨b, 0, none⟩ y').setCell ⟨c, 0, none⟩ z').heap[a]? = some (.cells #[x'] ta (0, 0)) ∧ (((V.setCell ⟨a, 0, none⟩ x').setCell ⟨b, 0, none⟩ y').setCell ⟨c, 0, none⟩ z').heap[b]? = some (.cells #[y'] tb (0, 0)) ∧ (((V.setCell ⟨a, 0, none⟩ x').setCell ⟨b, 0, none⟩ y').setCell ⟨c, 0, none⟩ z').heap[c]? = some (.cells #[z'] tc (0, 0)) ∧ Stay (fun k => k = a ∨ k = b ∨ k = c) V (((V.setCell ⟨a, 0, none⟩ x').setCell ⟨b, 0, none⟩ y').setCell ⟨c, 0, none⟩ z') := by
  obtain ⟨V1, hV1⟩ : ∃ V1, V1 = V.setCell ⟨a, 0, none⟩ x' := ⟨_, rfl⟩
  obtain ⟨V2, hV2⟩ : ∃ V2, V2 = V1.setCell ⟨b, 0, none⟩ y' := ⟨_, rfl⟩
  obtain ⟨V3, hV3⟩ : ∃ V3, V3 = V2.setCell ⟨c, 0, none⟩ z' := ⟨_, rfl⟩
  rw [← hV1, ← hV2, ← hV3]
  have s1 : Stay (fun k => k = a) V V1 := by rw [hV1]; exact stayO _ _ _ _ _ (.refl _ _)
  have s2 : Stay (fun k => k = b) V1 V2 := by rw [hV2]; exact stayO _ _ _ _ _ (.refl _ _)
  have s3 : Stay (fun k => k = c) V2 V3 := by rw [hV3]; exact stayO _ _ _ _ _ (.refl _ _)
  have a1 : V1.heap[a]? = some (.cells #[x'] ta (0, 0)) := by rw [hV1, heap_setCell_same V a 0 _ _ _ ha]; rfl
  have a2 : V2.heap[a]? = _ := (s2.block a (Array.getElem?_eq_some_iff.1 a1).1 n1).trans a1
  have a3 : V3.heap[a]? = _ := (s3.block a (Array.getElem?_eq_some_iff.1 a2).1 n2).trans a2
  have b1 : V1.heap[b]? = _ := (s1.block b (Array.getElem?_eq_some_iff.1 hb).1 n1.symm).trans hb
  have b2 : V2.heap[b]? = some (.cells #[y'] tb (0, 0)) := by rw [hV2, heap_setCell_same V1 b 0 _ _ _ b1]; rfl
  have b3 : V3.heap[b]? = _ := (s3.block b (Array.getElem?_eq_some_iff.1 b2).1 n3).trans b2
  have c1 : V1.heap[c]? = _ := (s1.block c (Array.getElem?_eq_some_iff.1 hc).1 n2.symm).trans hc
  have c2 : V2.heap[c]? = _ := (s2.block c (Array.getElem?_eq_some_iff.1 c1).1 n3.symm).trans c1
  have c3 : V3.heap[c]? = some (.cells #[z'] tc (0, 0)) := by rw [hV3, heap_setCell_same V2 c 0 _ _ _ c2]; rfl
  exact ⟨a3, b3, c3, ((s1.mono (fun k _ e => .inl e)).trans (s2.mono (fun k _ e => .inr (.inl e)))).trans (s3.mono (fun k _ e => .inr (.inr e)))⟩
end Go.Proofs.YtjkhhjboejkafaaDoor
