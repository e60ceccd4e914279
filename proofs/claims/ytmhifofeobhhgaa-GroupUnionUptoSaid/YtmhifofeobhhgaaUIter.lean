/-
  DERIVED. slices.Values over ints, AppendSeq, Collect, Sorted.
-/
import Derived.Test.YtmhifofeobhhgaaUNew1
import Derived.Test.YtmhifofeobhhgaaBRange
import Derived.Test.YtmhifofeobhhgaaShelf
import Derived.RangeFuncBox
import Derived.RangeFuncKeeps
import Derived.Sort.OwnSorted
set_option linter.unusedVariables false
set_option linter.unusedSimpArgs false
namespace Go.Proofs.Ytmhifofeobhhgaa
open Go.RowKit Go.Shelf Go.Sort Go.Proofs.UnionMath
attribute [local go_sem] Oper.semAt_some
def encI (x : Int) : Array Value := #[.int .i64 x]
/-- What the iterator does by itself: nothing. -/
def TrI (_ : Unit) (A : World) (_ : Unit) (B : World) : Prop := Below A.heap.size A B
theorem TrI.others {s s' : Unit} {A B : World} (h : TrI s A s' B) : KeepsOthers A B := ⟨h.size, fun k o hk _ => (h.block k (Array.getElem?_eq_some_iff.1 hk).1).trans hk⟩
/-- Blocks of cells below K lie as they lay. -/
def KeepB (K : Nat) (A B : World) : Prop := ∀ k o, k < K → A.heap[k]? = some o → o.isCells = true → B.heap[k]? = some o
theorem keepB_t {K : Nat} {A B C : World} (h : KeepB K A B) (k : KeepB K B C) : KeepB K A C := fun i o hi ho hc => k i o hi (h i o hi ho hc) hc
theorem keepB_b {K : Nat} (W : World) (l : Nat) (o o' : Obj) (hl : W.heap[l]? = some o) (ho : o.isCells = false) : KeepB K W (W.putObj l o') := fun i q _ hq hc => by
  have hne : i ≠ l := fun e => by subst e; rw [hl] at hq; cases hq; rw [ho] at hc; cases hc
  exact (World.putObj_heap_other (by omega)).trans hq
theorem KeepB.cell {K : Nat} {W W' : World} (h : KeepB K W W') {a : Addr} {v : Value} (ha : a.block < K) (hv : W.cell? a = some v) : W'.cell? a = some v := by
  cases ho : W.heap[a.block]? with
  | none => simp [World.cell?, ho] at hv
  | some o =>
    have hc : o.isCells = true := by
      cases o <;> simp [World.cell?, ho] at hv <;> rfl
    exact (World.cell?_of_block ((h a.block o ha ho hc).trans ho.symm)).trans hv
theorem At_keepB {K : Nat} {W W' : World} {la : Option Addr} {l : List Int} (h : iE.At W la l) (k : KeepB K W W') (hK : ∀ a, la = some a → a.block < K) : iE.At W' la l := ⟨fun hn => by
  obtain ⟨g, off, e, hr⟩ := h.at' hn
  exact ⟨g, off, e, fun j x hx => k.cell (show g < K from hK _ e) (hr j x hx)⟩⟩
theorem values_any (la : Option Addr) (n cap : Nat) (w : World) :
    Calls Try.prog 15 #[.slice la n cap] w fun e w' => e = .returned (.func (.func 23) #[] #[Pt w.heap.size]) ∧ w' = w.alloc (.cells #[.slice la n cap] 22) := by
  go_enter Try.func15, Try.ntmps15
  go_wp2
  go_ret
  exact ⟨rfl, rfl⟩
set_option maxRecDepth 100000 in
set_option maxHeartbeats 4000000 in
theorem values_st (bS n K m : Nat) (la : Option Addr) (cap : Nat) (l : List Int) (w : World) (hS : w.cell? ⟨bS, 0, none⟩ = some (.slice la m cap)) (hm : l.length = m) (hA : iE.At w la l) (hK : ∀ a, la = some a → a.block < K) (hl : m ≤ 1048576) :
    SeqSt Fence.wide n Try.prog 23 #[Pt bS] encI (fun p x => l[p.length]? = some x) TrI (fun _ => KeepB K) (fun p => p = l) (fun _ => True) () w := fun lp J Jx W hW hJ _ hY h0 => by
  have xS : W.cell? ⟨bS, 0, none⟩ = some (.slice la m cap) := (hW.cell (World.block_lt_of_cell? w _ hS)).trans hS
  have xA : iE.At W la l := hA.below hW
  have HK := Hid.mk (And.intro hK hm)
  clear hS hA hK hm
  refine callsIn_of_wp Try.func23 rfl trivial ?_ rfl
  simp only [Try.ntmps23, List.size_toArray, List.length_cons, List.length_nil, Nat.reduceAdd, Nat.reduceSub, Array.replicate_succ, Array.replicate_zero, List.push_toArray, List.append_toArray, List.nil_append, List.cons_append]
  gi_wp2
  gi_loopw [7] (fun i wr => ∃ (k : Nat), k ≤ m ∧ i = .int .i64 k ∧ Hid (J (l.take k) () wr ∧ iE.At wr la l)) (fun i _ => m - (intOf i).toNat)
  case atStart => exact ⟨0, Nat.zero_le _, rfl, by simpa using h0, xA⟩
  case round =>
    obtain ⟨k, hk, rfl, HJ⟩ := hrel
    clear xS xA h0
    by_cases hlt : k < m
    · have hkl : k < l.length := by rw [HK.out.2]; exact hlt
      have hlt' : (k : Int) < (m : Int) := by omega
      have hx : l[(l.take k).length]? = some l[k] := by rw [List.length_take, Nat.min_eq_left (by omega), List.getElem?_eq_getElem hkl]
      obtain ⟨g, off, hla, hr⟩ := HJ.out.2.at' (fun e => by rw [e] at hkl; simp at hkl)
      have k0 := hr k (.int .i64 l[k]) (by rw [iCells, List.getElem?_map, List.getElem?_eq_getElem hkl]; rfl)
      obtain ⟨fn, tmps, assign, body, hy, hR⟩ := hY _ l[k] () _ HJ.out.1 hx
      have htk : l.take k ++ [l[k]] = l.take (k + 1) := by rw [List.take_add_one, List.getElem?_eq_getElem hkl]; rfl
      rw [htk] at hR
      subst hla
      dsimp only [encI] at hy
      obtain ⟨x, ex⟩ : ∃ x, x = l[k] := ⟨_, rfl⟩
      rw [← ex] at hy k0
      clear hY hx htk ex hkl hr
      have wi : IntKind.i64.wrap ((k : Int) + 1) = ((k + 1 : Nat) : Int) := i64_in _ (by omega) (by omega)
      gi_wp2
      refine ⟨fun h => (by cases h), hR.mono ?_⟩
      clear hR
      rintro e W3 (⟨rfl, hJ3, hk3⟩ | ⟨rfl, hJx3, hk3⟩)
      · have H3 : Hid (J (l.take (k + 1)) () W3 ∧ iE.At W3 (some ⟨g, off, none⟩) l) := ⟨hJ3, At_keepB HJ.out.2 hk3 HK.out.1⟩
        gi_wp2
        go_roundw
        case rel => exact ⟨k + 1, hlt, by go_num, H3⟩
        case measure => simp [intOf]; omega
      · gi_wp2
        refine bodyPost_ret (results_none rfl _ _ _) rfl ?_
        exact ⟨⟨_, rfl⟩, .inr ⟨_, _, trivial, hJx3⟩⟩
    · have hlt' : ¬ (k : Int) < (m : Int) := by omega
      have H2 : Hid (J l () wr) := Hid.mk (by
        have := HJ.out.1
        rw [List.take_of_length_le (by rw [HK.out.2]; omega)] at this
        exact this)
      gi_wp2
      go_end0
      exact ⟨⟨_, rfl⟩, .inl ⟨(), H2.out⟩⟩
theorem wpListIn_append_eq {F : Fence} {n : Nat} {P : Program} {w : World} {ops : Array Oper} {rest : List Oper} {o : Oper} {a : Act} {Q : Exit → Act → World → Prop} (hgd : o.guard = none) (s x : Operand) (t u : TypeId)
    (ho : o.op = .call { callee := .builtin .append, args := #[s, x], argTypes := #[t, u] }) (v xv v' : Value) (w' : World) (hs : a.eval s = v) (hx : a.eval x = xv) (hr : (Builtin.append_ #[t, u] o.type #[v, xv]).run P w = .ok v' w')
    (h : wpListIn F n P ops Q rest (a.put o.dst v') w') : wpListIn F n P ops Q (o :: rest) a w := by
  refine wpListIn_plain hgd fun K hK => ?_
  unfold Oper.wpIn
  refine ⟨by simp [Oper.about, ho, resolve, Target.leads, Sem.run_pure], ?_⟩
  rw [Oper.semAt_plain F _ _ (by rw [ho]; intro c hc'; cases hc')]
  simp [execOp, ho, resolve, invoke, builtin, hs, hx, hr, Result.andThen]
  exact hK _ _ h
/-- What AppendSeq keeps from round to round. -/
structure ASI (w A : World) (p : List Int) (v : Value) : Prop where
  bx : Boxed A w.heap.size 22 v
  row : iE.Row A v p
  own : ∀ k, v.ownBlock = some k → w.heap.size < k
  bl : Below w.heap.size w A
theorem ASI.below {w A B : World} {p : List Int} {v : Value} (h : ASI w A p v) (b : Below A.heap.size A B) : ASI w B p v :=
  ⟨(b.block _ h.bx.lt).trans h.bx, El.Row.below h.row b, h.own, chain h.bl b (Nat.le_refl _)⟩
theorem ASI.grown {w A B : World} {p : List Int} {v : Value} (h : ASI w A p v) {row : Option Nat} (hg : A.grownBy B row) (hr : ∀ r, row = some r → w.heap.size < r ∧ ∃ o : Obj, A.heap[r]? = some o ∧ o.isCells = false) : ASI w B p v := by
  refine ⟨h.bx.kept hg (fun e => by have := (hr _ e.symm).1; omega), row_kept (F := fun k => row = some k) h.row (.grown hg (fun k hk => hk.symm ▸ rfl)) (fun k hk e => ?_), h.own, h.bl.trans ((Stay.grown (F := fun k => row = some k) hg (fun k hk => hk.symm ▸ rfl)).toBelow (fun k hk e => by have := (hr _ e).1; omega) h.bl.size)⟩
  obtain ⟨cur, hc⟩ := row_block h.row hk
  obtain ⟨_, o, ho, hf⟩ := hr _ e
  rw [hc] at ho
  cases ho
  cases hf
theorem ASI.app {w A : World} {p : List Int} {v : Value} (h : ASI w A p v) (x : Int) (hp : p.length < 1048576) :
    ∃ v' w1, (Builtin.append_ #[22, 22] 22 #[v, .slice (some ⟨A.heap.size, 0, none⟩) 1 1]).run Try.prog (A.alloc (.cells #[.int .i64 x] 3)) = .ok v' w1 ∧ ASI w (w1.setCell ⟨w.heap.size, 0, none⟩ v') (p ++ [x]) v' ∧ w1.cell? ⟨w.heap.size, 0, none⟩ = some v ∧ w1.frozen? ⟨w.heap.size, 0, none⟩ = false ∧ KeepB w.heap.size A (w1.setCell ⟨w.heap.size, 0, none⟩ v') ∧ ∀ lo, KeepsFrom lo A (w1.setCell ⟨w.heap.size, 0, none⟩ v') := by
  obtain ⟨v', w1, hr, ho, st, loc⟩ := El.app1 iOk A p v h.row x (by show (p.length + 1) * 8 ≤ _; omega) (by omega)
  have n1 : ¬ v.ownBlock = some w.heap.size := fun e => by have := h.own _ e; omega
  have hlt := h.bx.lt
  have b1 : Boxed w1 w.heap.size 22 v := (st.block _ hlt n1).trans h.bx
  have ow : ∀ k, v'.ownBlock = some k → w.heap.size < k := fun k hk => by
    rcases loc k hk with q | q
    · exact h.own k q
    · omega
  have s2 : Stay (fun k => k = w.heap.size) w1 (w1.setCell ⟨w.heap.size, 0, none⟩ v') := Stay.setCell (F := fun k => k = w.heap.size) (p := ⟨w.heap.size, 0, none⟩) (Stay.refl _ w1) (fun _ => rfl) _
  refine ⟨v', w1, hr, ⟨b1.set v', row_kept ho s2 (fun k hk e => by have := ow k hk; omega), ow, (h.bl.trans (st.toBelow (fun k hk q => by have := h.own k q; omega) h.bl.size)).setCell (Nat.le_refl _) _⟩, b1.cell, b1.frozen, fun k o hk ho' hc => ?_, fun lo => ⟨Nat.le_trans st.size s2.size, fun k o _ hk hc => ?_⟩⟩
  · have hl := (Array.getElem?_eq_some_iff.1 ho').1
    have h1 : ¬ v.ownBlock = some k := fun e => by have := h.own k e; omega
    have e1 := (st.block k hl h1).trans ho'
    exact (s2.block k (Array.getElem?_eq_some_iff.1 e1).1 (by omega)).trans e1
  · have hl := (Array.getElem?_eq_some_iff.1 hk).1
    have h1 : ¬ v.ownBlock = some k := fun e => by
      obtain ⟨cur, hc'⟩ := row_block h.row e
      rw [hc'] at hk; cases hk; cases hc
    have e1 := (st.block k hl h1).trans hk
    refine (s2.block k (Array.getElem?_eq_some_iff.1 e1).1 (fun e => ?_)).trans e1
    subst e
    have := h.bx
    unfold Boxed at this
    rw [this] at hk; cases hk; cases hc
set_option maxRecDepth 100000 in
set_option maxHeartbeats 4000000 in
theorem append_any (bS m : Nat) (la : Option Addr) (cap : Nat) (l : List Int) (w : World) (hS : w.cell? ⟨bS, 0, none⟩ = some (.slice la m cap)) (hm : l.length = m) (hA : iE.At w la l) (hK : ∀ a, la = some a → a.block < w.heap.size) (hl : m ≤ 1048576) :
    Calls Try.prog 26 #[.slice none 0 0, .func (.func 23) #[] #[Pt bS]] w fun e w' => ∃ v, e = .returned v ∧ iE.Row w' v l ∧ (∀ k, v.ownBlock = some k → w.heap.size ≤ k) ∧ Below w.heap.size w w' := by
  have HH := Hid.mk (And.intro hS (And.intro hm (And.intro hA hK)))
  clear hS hm hA hK
  refine (callsIn_wide (n := 9)).1 ?_
  refine callsIn_of_wp_marks Try.func26 rfl trivial ?_ rfl
  simp only [Try.ntmps26, List.size_toArray, List.length_cons, List.length_nil, Nat.reduceAdd, Nat.reduceSub, Array.replicate_succ, Array.replicate_zero, List.push_toArray, List.append_toArray, List.nil_append, List.cons_append]
  gi_wp2_with fail
  obtain ⟨W0, hW0⟩ : ∃ W0, W0 = w.alloc (.cells #[.slice none 0 0] 22) := ⟨_, rfl⟩
  have B0 : Below w.heap.size w W0 := by rw [hW0]; exact (Below.refl _ w).alloc (Nat.le_refl _) _
  have sz : W0.heap.size = w.heap.size + 1 := by rw [hW0]; simp
  have I0 : ASI w W0 [] (.slice none 0 0) := by rw [hW0]; exact ⟨Boxed.new w _ _, El.Row.nil iE _, (fun k hk => by cases hk), (Below.refl _ w).alloc (Nat.le_refl _) _⟩
  rw [← hW0]
  have hseq := values_st bS (9 - 1) w.heap.size m la cap l W0 (cell_lat B0 HH.out.1) HH.out.2.1 (HH.out.2.2.1.below B0) HH.out.2.2.2 hl
  clear hW0
  refine wpIn_rangeFunc_st rfl (by omega) (gf := 23) (lb := #[Pt bS]) rfl trivial (enters_of Try.func23 (by kernel_rfl) rfl) hseq (fun _ _ _ _ h => TrI.others h) keepB_t (fun s A l o o' h1 h2 h3 h4 => keepB_b A l o o' h2 h3) (fun _ => rfl)
    (fun p s A => ∃ v, ASI w A p v)
    (fun _ _ _ _ => False)
    (fun p s A s' B h ht => by
      obtain ⟨v, h⟩ := h
      exact ⟨v, h.below ht⟩)
    (fun _ _ _ _ _ _ h _ => h.elim)
    (fun z A B row h hg hr => by
      obtain ⟨v, h⟩ := h
      exact ⟨v, h.grown hg (fun r e => ⟨by have := (hr r e).1; omega, (hr r e).2⟩)⟩)
    (fun _ _ _ _ _ h _ _ => h)
    ⟨_, I0⟩
    (fun x a' A => a' = { tmps := #[.slice none 0 0, .func (.func 23) #[] #[Pt bS], .pointer (some ⟨w.heap.size, 0, none⟩), undef, .slice none 0 0, .int .i64 x, .func (.func 23) #[] #[Pt bS], .int .i64 x, undef, undef, undef, undef, undef], defers := [] })
    (fun x a' s A B row h hg hr => h) ?assign ?body ?done ?stop
  case assign =>
    intro lp p x s A K hI hx hK
    clear hx
    simp only [encI]
    gi_wp2
    exact hK _ _ (KeepsFrom.refl _ _) (fun _ _ _ h _ => h) hI rfl
  case body =>
    rintro lp p x s a' A hlp ⟨rc, hrc⟩ ⟨v, hI⟩ rfl hx
    have hpl : p.length < 1048576 := by
      have : p.length < l.length := by
        by_cases q : p.length < l.length
        · exact q
        · rw [List.getElem?_eq_none (by omega)] at hx; cases hx
      have := HH.out.2.1
      omega
    obtain ⟨v', w1, hap, I1, c1, f1, kb, kf⟩ := hI.app x hpl
    obtain ⟨a1, n1, hv1, -⟩ := I1.row.form
    obtain ⟨q1, hq1⟩ : ∃ q1, q1 = (p ++ [x]).length := ⟨_, rfl⟩
    rw [← hq1] at hv1
    subst hv1
    clear hq1
    obtain ⟨a0, n0, hv0, -⟩ := hI.row.form
    have c0 := hI.bx.cell
    rw [hv0] at c0 c1 hap
    have HF := Hid.mk (And.intro I1 (And.intro kb (kf W0.heap.size)))
    clear I1 kb kf hx hrc hlp hseq I0 hpl hI
    gi_wp2_with (gi_at_builtin; refine wpListIn_append_eq rfl _ _ _ _ rfl _ _ _ _ rfl rfl hap ?_; clear hap)
    exact ⟨HF.out.2.2, HF.out.2.1, _, HF.out.1⟩
  case done =>
    rintro D ys s A hD hys ⟨v, hI⟩ hK
    have hys' : ys = l := hys
    clear hys
    subst hys'
    have hc := hI.bx.cell
    have HI := Hid.mk (hI.grown (grownBy_putObj' A D (.deferred none)) (fun r e => by cases e; exact ⟨by omega, _, hK, rfl⟩))
    obtain ⟨a0, n0, hv0, -⟩ := hI.row.form
    clear hI
    subst hv0
    gi_wp2
    refine ⟨by simp, .inl ⟨_, _, rfl, run_takeDeferred hK, ?_⟩⟩
    refine ⟨_, results_tmp rfl _ _ _, ?_⟩
    exact ⟨_, rfl, HI.out.row, fun k hk => Nat.le_of_lt (HI.out.own k hk), HI.out.bl⟩
  case stop =>
    intro D c pre s A _ _ h _
    exact h.elim
end Go.Proofs.Ytmhifofeobhhgaa
