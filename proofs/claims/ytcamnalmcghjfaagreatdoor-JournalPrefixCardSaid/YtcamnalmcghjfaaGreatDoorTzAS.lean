/-
  DERIVED. JLook1, JLook1b, as one text.
-/
import Derived.Test.YtcamnalmcghjfaaGreatDoorTzAR
set_option linter.unusedVariables false
set_option linter.unusedSimpArgs false
namespace Go.Proofs.YtcamnalmcghjfaaGreatDoor
open Go.RowKit Go.Shelf Go.Proofs.SealMath
theorem infoUd : (Tryz.prog.info? 32).map (fun i => (i.zero, i.size, i.bytes)) = some (some (.agg #[.int .i64 0, .int .i64 0, .int .i64 0, .string ⟨#[]⟩]), 4, 40) := by kernel_rfl
theorem new_cellU (W : World) (cs : List Value) (t : TypeId) (j : Nat) (u : Value) (hu : cs[j]? = some u) : (W.alloc (.cells cs.toArray t)).cell? ((⟨W.heap.size, 0, none⟩ : Addr).add j) = some u := by
  have e : (⟨W.heap.size, 0, none⟩ : Addr).add j = ⟨W.heap.size, j, none⟩ := by unfold Addr.add; split <;> simp_all
  rw [e, cell_of_row _ _ j _ t (0, 0) (heap_alloc_last W _)]
  simpa using hu
theorem lsU_app (p : List (Up × Nat)) (z : Up × Nat) : lsU (p ++ [z]) = lsU p ++ uL z.1 := by unfold lsU; rw [List.flatMap_append]; simp
theorem up_app (W : World) (p : List (Up × Nat)) (lv : Value) (h : W.ownsRow 0 32 4 lv p.length (lsU p)) (z : Up × Nat) (hb : p.length + 1 ≤ 1099511627776) :
    ∃ v' w', (Builtin.append_ #[33, 33] 33 #[lv, .slice (some ⟨W.heap.size, 0, none⟩) 1 1]).run Tryz.prog (W.alloc (.cells (upV z.1) 32)) = .ok v' w' ∧ w'.ownsRow 0 32 4 v' (p.length + 1) (lsU (p ++ [z])) ∧ Stay (fun k => lv.ownBlock = some k) W w' ∧
      (∀ k, v'.ownBlock = some k → lv.ownBlock = some k ∨ W.heap.size ≤ k) := by
  obtain ⟨i0, hi, hz0, hz1, hz2⟩ := info_parts infoUd
  have st0 : Stay (fun k => lv.ownBlock = some k) W (W.alloc (.cells (upV z.1) 32)) := (Stay.refl _ W).alloc _
  have h' : (W.alloc (.cells (upV z.1) 32)).ownsRow 0 32 4 lv p.length (lsU p) := h.alloc _
  have h1c : ∀ u ∈ uL z.1, u.oneCell' = true := fun u hu => by
    simp [uL, upV, uC] at hu
    rcases hu with rfl | rfl | rfl | rfl <;> rfl
  obtain ⟨v', w', hr, ho, hg, _, hloc⟩ := run_append_own_at (P := Tryz.prog) (W.alloc (.cells (upV z.1) 32)) 0 33 33 32 i0 _ 4 40 Tryz.underlying33 hi hz0 hz1 hz2 rfl (by decide) lv p.length _ h' ⟨W.heap.size, 0, none⟩ 1 1 (uL z.1) rfl (new_cellU W (uL z.1) 32) h1c (by unfold maxLen; omega) (by omega) (Nat.zero_le _)
  refine ⟨v', w', hr, by rw [lsU_app]; exact ho, st0.trans (.grown hg (fun k hk => hk)), fun k hk => ?_⟩
  rcases hloc with hl | hl
  · exact .inl (hl ▸ hk)
  · rw [hl] at hk; cases hk; exact .inr (by simp)
/-- What Look keeps while it goes through: the list's box, the end's, the number's. -/
structure GU (U : World) (lb gb sb : Nat) (s0 : Nat) (p : List (Up × Nat)) (lv : Value) (A : World) : Prop where
  ltl : lb < U.heap.size
  ltg : gb < U.heap.size
  lts : sb < U.heap.size
  box : A.heap[lb]? = some (.cells #[lv] 33 (0, 0))
  gbx : A.heap[gb]? = some (.cells #[.int .i64 (endU p : Nat)] 3 (0, 0))
  sbx : A.heap[sb]? = some (.cells #[.int .i64 ((s0 + p.length : Nat) : Int)] 3 (0, 0))
  row : A.ownsRow 0 32 4 lv p.length (lsU p)
  stay : Stay (fun k => k = lb ∨ k = gb ∨ k = sb) U A
  loc : ∀ k, lv.ownBlock = some k → U.heap.size ≤ k
  ok : okU s0 p
  ne : gb ≠ sb
section
variable {U A B V : World} {lb gb sb s0 : Nat} {p : List (Up × Nat)} {lv lv' : Value} {z : Up × Nat}
theorem GU.kept {F : Nat → Prop} (h : GU U lb gb sb s0 p lv A) (s : Stay F A B) (h1 : ¬ F lb ∧ ¬ F gb ∧ ¬ F sb) (h2 : ∀ k, lv.ownBlock = some k → ¬ F k) (h3 : ∀ k, k < U.heap.size → ¬ F k) : GU U lb gb sb s0 p lv B where
  ltl := h.ltl
  ltg := h.ltg
  lts := h.lts
  box := (s.block lb (Array.getElem?_eq_some_iff.1 h.box).1 h1.1).trans h.box
  gbx := (s.block gb (Array.getElem?_eq_some_iff.1 h.gbx).1 h1.2.1).trans h.gbx
  sbx := (s.block sb (Array.getElem?_eq_some_iff.1 h.sbx).1 h1.2.2).trans h.sbx
  row := row_kept h.row s h2
  stay := h.stay.andThen s (fun k hk e => absurd e (h3 k hk))
  loc := h.loc
  ok := h.ok
  ne := h.ne
theorem GU.below (h : GU U lb gb sb s0 p lv A) (b : Below A.heap.size A B) : GU U lb gb sb s0 p lv B :=
  h.kept (F := fun _ => False) (.below b) ⟨fun h => h, fun h => h, fun h => h⟩ (fun _ _ h => h) (fun _ _ h => h)
theorem GU.grown {row : Option Nat} (h : GU U lb gb sb s0 p lv A) (hg : A.grownBy B row) (hr : ∀ r, row = some r → U.heap.size ≤ r ∧ ∃ o : Obj, A.heap[r]? = some o ∧ o.isCells = false) : GU U lb gb sb s0 p lv B := by
  have h1 := h.ltl
  have h2 := h.ltg
  have h3 := h.lts
  refine h.kept (F := fun k => row = some k) (.grown hg (fun k hk => hk)) ⟨fun e => ?_, fun e => ?_, fun e => ?_⟩ (fun k hk e => ?_) (fun k hk e => ?_)
  · have := (hr lb e).1; omega
  · have := (hr gb e).1; omega
  · have := (hr sb e).1; omega
  · obtain ⟨-, o, ho, hc⟩ := hr k e
    obtain ⟨c, hc'⟩ := row_block h.row hk
    rw [hc'] at ho; cases ho; cases hc
  · have := (hr k e).1; omega
theorem GU.row_ne (h : GU U lb gb sb s0 p lv A) {k : Nat} (hk : lv.ownBlock = some k) : k ≠ lb ∧ k ≠ gb ∧ k ≠ sb := by
  have h0 := h.loc k hk
  have h1 := h.ltl
  have h2 := h.ltg
  have h3 := h.lts
  exact ⟨by omega, by omega, by omega⟩
theorem stayO (W V : World) (g o : Nat) (u : Value) (h : Stay (fun k => k = g) W V) : Stay (fun k => k = g) W (V.setCell ⟨g, o, none⟩ u) := Stay.setCell (F := fun k => k = g) h (p := ⟨g, o, none⟩) (fun _ => rfl) u
/-- One more. -/
theorem GU.app (h : GU U lb gb sb s0 p lv A) (hl : lb ≠ gb ∧ lb ≠ sb) (hz : z.1.s = s0 + p.length + 1) (hr : V.ownsRow 0 32 4 lv' (p.length + 1) (lsU (p ++ [z]))) (st : Stay (fun k => lv.ownBlock = some k) A V) (hloc : ∀ k, lv'.ownBlock = some k → lv.ownBlock = some k ∨ A.heap.size ≤ k) :
    GU U lb gb sb s0 (p ++ [z]) lv' (((V.setCell ⟨lb, 0, none⟩ lv').setCell ⟨sb, 0, none⟩ (.int .i64 z.1.s)).setCell ⟨gb, 0, none⟩ (.int .i64 z.2)) ∧ Stay (fun k => k = lb ∨ k = gb ∨ k = sb ∨ lv.ownBlock = some k) A (((V.setCell ⟨lb, 0, none⟩ lv').setCell ⟨sb, 0, none⟩ (.int .i64 z.1.s)).setCell ⟨gb, 0, none⟩ (.int .i64 z.2)) := by
  have hb : V.heap[lb]? = _ := (st.block lb (Array.getElem?_eq_some_iff.1 h.box).1 (fun e => (h.row_ne e).1 rfl)).trans h.box
  have hg : V.heap[gb]? = _ := (st.block gb (Array.getElem?_eq_some_iff.1 h.gbx).1 (fun e => (h.row_ne e).2.1 rfl)).trans h.gbx
  have hs : V.heap[sb]? = _ := (st.block sb (Array.getElem?_eq_some_iff.1 h.sbx).1 (fun e => (h.row_ne e).2.2 rfl)).trans h.sbx
  obtain ⟨V1, hV1⟩ : ∃ V1, V1 = V.setCell ⟨lb, 0, none⟩ lv' := ⟨_, rfl⟩
  obtain ⟨V2, hV2⟩ : ∃ V2, V2 = V1.setCell ⟨sb, 0, none⟩ (.int .i64 z.1.s) := ⟨_, rfl⟩
  obtain ⟨V3, hV3⟩ : ∃ V3, V3 = V2.setCell ⟨gb, 0, none⟩ (.int .i64 z.2) := ⟨_, rfl⟩
  rw [← hV1, ← hV2, ← hV3]
  have s1 : Stay (fun k => k = lb) V V1 := by rw [hV1]; exact stayO _ _ _ _ _ (.refl _ _)
  have s2 : Stay (fun k => k = sb) V1 V2 := by rw [hV2]; exact stayO _ _ _ _ _ (.refl _ _)
  have s3 : Stay (fun k => k = gb) V2 V3 := by rw [hV3]; exact stayO _ _ _ _ _ (.refl _ _)
  have b1 : V1.heap[lb]? = some (.cells #[lv'] 33 (0, 0)) := by rw [hV1, heap_setCell_same V lb 0 _ _ _ hb]; rfl
  have b2 : V2.heap[lb]? = _ := (s2.block lb (Array.getElem?_eq_some_iff.1 b1).1 hl.2).trans b1
  have b3 : V3.heap[lb]? = _ := (s3.block lb (Array.getElem?_eq_some_iff.1 b2).1 hl.1).trans b2
  have c1 : V1.heap[sb]? = _ := (s1.block sb (Array.getElem?_eq_some_iff.1 hs).1 hl.2.symm).trans hs
  have c2 : V2.heap[sb]? = some (.cells #[.int .i64 z.1.s] 3 (0, 0)) := by rw [hV2, heap_setCell_same V1 sb 0 _ _ _ c1]; rfl
  have c3 : V3.heap[sb]? = _ := (s3.block sb (Array.getElem?_eq_some_iff.1 c2).1 (fun e => h.ne e.symm)).trans c2
  have d1 : V1.heap[gb]? = _ := (s1.block gb (Array.getElem?_eq_some_iff.1 hg).1 hl.1.symm).trans hg
  have d2 : V2.heap[gb]? = _ := (s2.block gb (Array.getElem?_eq_some_iff.1 d1).1 h.ne).trans d1
  have d3 : V3.heap[gb]? = some (.cells #[.int .i64 z.2] 3 (0, 0)) := by rw [hV3, heap_setCell_same V2 gb 0 _ _ _ d2]; rfl
  have sV : Stay (fun k => k = lb ∨ k = gb ∨ k = sb) V V3 := ((s1.mono (fun k _ e => .inl e)).trans (s2.mono (fun k _ e => .inr (.inr e)))).trans (s3.mono (fun k _ e => .inr (.inl e)))
  have sA : Stay (fun k => k = lb ∨ k = gb ∨ k = sb ∨ lv.ownBlock = some k) A V3 := (st.mono (fun k _ e => .inr (.inr (.inr e)))).trans (sV.mono (fun k _ e => by
    rcases e with e | e | e
    · exact .inl e
    · exact .inr (.inl e)
    · exact .inr (.inr (.inl e))))
  have hlen : (p ++ [z]).length = p.length + 1 := by simp
  have hlv : ∀ k, lv'.ownBlock = some k → U.heap.size ≤ k := fun k hk => by
    rcases hloc k hk with e | e
    · exact h.loc k e
    · exact Nat.le_trans h.stay.size e
  refine ⟨{ ltl := h.ltl, ltg := h.ltg, lts := h.lts, box := b3, gbx := by rw [endU_snoc]; exact d3, sbx := by rw [c3, hlen, show s0 + (p.length + 1) = z.1.s by omega], row := by
              rw [hlen]
              exact row_kept hr sV (fun k hk e => by
                have h0 := hlv k hk
                have h1 := h.ltl
                have h2 := h.ltg
                have h3 := h.lts
                omega)
            stay := h.stay.andThen sA (fun k hk e => ?_), loc := hlv, ok := okU_snoc h.ok hz, ne := h.ne }, sA⟩
  rcases e with e | e | e | e
  · exact .inl e
  · exact .inr (.inl e)
  · exact .inr (.inr e)
  · have := h.loc k e; omega
/-- What a body keeps. -/
theorem GU.kp {K : Nat → Prop} (h : GU U lb gb sb s0 p lv A) (st : Stay (fun k => k = lb ∨ k = gb ∨ k = sb ∨ lv.ownBlock = some k) A B) (hK : ∀ k, K k → k ≠ lb ∧ k ≠ gb ∧ k ≠ sb ∧ k < U.heap.size) : KpN K () A B ∧ KeepsOthers A B := by
  have hc : ∀ k, (k = lb ∨ k = gb ∨ k = sb ∨ lv.ownBlock = some k) → ∃ c t m, A.heap[k]? = some (.cells c t m) := fun k e => by
    rcases e with rfl | rfl | rfl | e
    · exact ⟨_, _, _, h.box⟩
    · exact ⟨_, _, _, h.gbx⟩
    · exact ⟨_, _, _, h.sbx⟩
    · obtain ⟨c, hc⟩ := row_block h.row e; exact ⟨_, _, _, hc⟩
  refine ⟨⟨st.size, fun k c t m hk hh => (st.block k (Array.getElem?_eq_some_iff.1 hh).1 (fun e => ?_)).trans hh⟩, ⟨st.size, fun k o hk ho => (st.block k (Array.getElem?_eq_some_iff.1 hk).1 (fun e => ?_)).trans hk⟩⟩
  · obtain ⟨k1, k2, k3, k4⟩ := hK k hk
    rcases e with e | e | e | e
    · exact k1 e
    · exact k2 e
    · exact k3 e
    · have := h.loc k e; omega
  · obtain ⟨c, t, m, h1⟩ := hc k e
    rw [hk] at h1; cases h1; cases ho
end
end Go.Proofs.YtcamnalmcghjfaaGreatDoor
set_option linter.unusedVariables false
set_option linter.unusedSimpArgs false
namespace Go.Proofs.YtcamnalmcghjfaaGreatDoor
open Go.RowKit Go.Shelf Go.Proofs.SealMath
/-- Marks of loops among the deferred calls. -/
def markL (ds : List Nat) : List Deferred := ds.map fun D => { target := .collected D, args := #[] }
theorem stay_put {F : Nat → Prop} (w : World) (D : Nat) (o : Obj) (h : F D) : Stay F w (w.putObj D o) := ⟨rfl, rfl, rfl, by simp, fun k _ hn => World.putObj_heap_other (fun e => hn (e ▸ h))⟩
theorem leaves_marks {F : Fence} {n : Nat} {fn : Func} {tmps : Array Value} {R : Ending → World → Prop} (v : Value) :
    ∀ (ds : List Nat) (w : World), (∀ D ∈ ds, w.heap[D]? = some (.deferred (some []))) → ds.Nodup → (∀ w', Stay (fun k => k ∈ ds) w w' → (results fn tmps).run Tryz.prog w' = .ok v w' ∧ R (.returned v) w') → LeavesInM F n Tryz.prog fn tmps R (markL ds) .returning w
  | [], w, _, _, h => ⟨v, (h w (.refl _ _)).1, (h w (.refl _ _)).2⟩
  | D :: ds, w, hd, hn, h => by
    rw [List.nodup_cons] at hn
    have s1 : Stay (fun k => k ∈ D :: ds) w (w.putObj D (.deferred none)) := stay_put w D _ (by simp)
    refine ⟨by simp, .inl ⟨D, _, rfl, run_takeDeferred (hd D (by simp)), leaves_marks v ds _ (fun D' h' => ?_) hn.2 (fun w' s2 => h w' (s1.trans (s2.mono (fun k _ e => List.mem_cons_of_mem _ e))))⟩⟩
    have hne : D' ≠ D := fun e => hn.1 (by rw [← e]; exact h')
    exact (World.putObj_heap_other hne).trans (hd D' (List.mem_cons_of_mem _ h'))
theorem num_any (x : Int) (w : World) : Calls Tryz.prog 7 #[.int .i64 x] w fun e w' => e = .returned (.int .i64 x) ∧ w' = w := by
  go_enter Tryz.func7, Tryz.ntmps7
  go_wp2
  go_ret
  exact ⟨rfl, rfl⟩
theorem Pow.lat {w w' : World} (h : Pow w) (hb : Below w.heap.size w w') : Pow w' := by
  have hgn : Tryz.prog.globalNamed "internal/strconv.uint64pow10" = some 2 := by kernel_rfl
  unfold Pow Lib.TabIs World.var? at h ⊢
  rw [hgn] at h ⊢
  simp only [Option.bind_some] at h ⊢
  have hlt : 2 < w.heap.size := by
    rcases Nat.lt_or_ge 2 w.heap.size with h' | h'
    · exact h'
    · rw [Array.getElem?_eq_none h'] at h; cases h
  rw [hb.block 2 hlt]
  exact h
set_option maxRecDepth 100000 in
/-- Look's results are read out of their boxes. -/
theorem look_leaves (tmps : Array Value) (a8 a9 a10 : Nat) (v : Value) (g e : Int) (ds : List Nat) (A : World) {R : Ending → World → Prop} (t8 : tmps.getD 8 undef = .pointer (some ⟨a8, 0, none⟩)) (t9 : tmps.getD 9 undef = .pointer (some ⟨a9, 0, none⟩)) (t10 : tmps.getD 10 undef = .pointer (some ⟨a10, 0, none⟩))
    (b8 : A.heap[a8]? = some (.cells #[v] 33 (0, 0))) (b9 : A.heap[a9]? = some (.cells #[.int .i64 g] 3 (0, 0))) (b10 : A.heap[a10]? = some (.cells #[.int .i64 e] 27 (0, 0))) (hd : ∀ D ∈ ds, A.heap[D]? = some (.deferred (some []))) (hn : ds.Nodup)
    (hR : ∀ w', Stay (fun k => k ∈ ds) A w' → R (.returned (.tuple #[v, .int .i64 g, .int .i64 e])) w') : LeavesInM Fence.wide 9 Tryz.prog Tryz.f34 tmps R (markL ds) .returning A :=
  leaves_marks _ ds A hd hn fun w' st => ⟨by
    have k8 : w'.heap[a8]? = _ := (st.block a8 (Array.getElem?_eq_some_iff.1 b8).1 (fun h => by rw [hd a8 h] at b8; cases b8)).trans b8
    have k9 : w'.heap[a9]? = _ := (st.block a9 (Array.getElem?_eq_some_iff.1 b9).1 (fun h => by rw [hd a9 h] at b9; cases b9)).trans b9
    have k10 : w'.heap[a10]? = _ := (st.block a10 (Array.getElem?_eq_some_iff.1 b10).1 (fun h => by rw [hd a10 h] at b10; cases b10)).trans b10
    have c8 : w'.cell? ⟨a8, 0, none⟩ = some v := by rw [cell_of_row _ _ 0 _ _ (0, 0) k8]; rfl
    have c9 : w'.cell? ⟨a9, 0, none⟩ = some (.int .i64 g) := by rw [cell_of_row _ _ 0 _ _ (0, 0) k9]; rfl
    have c10 : w'.cell? ⟨a10, 0, none⟩ = some (.int .i64 e) := by rw [cell_of_row _ _ 0 _ _ (0, 0) k10]; rfl
    rw [Array.getD_eq_getD_getElem?] at t8 t9 t10
    simp [results, Tryz.results34, go_sem, t8, t9, t10, c8, c9, c10], hR w' st⟩
theorem wpListIn_append_eq {F : Fence} {n : Nat} {P : Program} {w : World} {ops : Array Oper} {rest : List Oper} {o : Oper} {a : Act} {Q : Exit → Act → World → Prop} (hgd : o.guard = none) (s x : Operand) (t u : TypeId)
    (ho : o.op = .call { callee := .builtin .append, args := #[s, x], argTypes := #[t, u] }) (v xv v' : Value) (w' : World) (hs : a.eval s = v) (hx : a.eval x = xv) (hr : (Builtin.append_ #[t, u] o.type #[v, xv]).run P w = .ok v' w')
    (h : wpListIn F n P ops Q rest (a.put o.dst v') w') : wpListIn F n P ops Q (o :: rest) a w := by
  refine wpListIn_plain hgd fun K hK => ?_
  unfold Oper.wpIn
  refine ⟨by simp [Oper.about, ho, resolve, Target.leads, Sem.run_pure], ?_⟩
  rw [Oper.semAt_plain F _ _ (by rw [ho]; intro c hc'; cases hc')]
  unfold execOp
  simp only [ho, resolve, invoke, builtin, Sem.run_bind, Sem.run_pure, Result.andThen_ok, List.map_toArray, List.map_cons, List.map_nil, hs, hx, hr, Oper.uponIn]
  exact hK _ _ h
theorem tab_cells {w : World} (h : Tab w) : ∃ c t m, w.heap[0]? = some (.cells c t m) := by
  have h1 := h 0 (by omega)
  unfold World.cell? at h1
  cases hh : w.heap[0]? with
  | none => simp [hh] at h1
  | some o => cases o <;> simp [hh] at h1 <;> exact ⟨_, _, _, rfl⟩
/-- Three boxes are written. -/
theorem three_set {V : World} (a b c : Nat) (x y z x' y' z' : Value) (ta tb tc : TypeId) (ha : V.heap[a]? = some (.cells #[x] ta (0, 0))) (hb : V.heap[b]? = some (.cells #[y] tb (0, 0))) (hc : V.heap[c]? = some (.cells #[z] tc (0, 0))) (n1 : a ≠ b) (n2 : a ≠ c) (n3 : b ≠ c) :
    (((V.setCell ⟨a, 0, none⟩ x').setCell ⟨b, 0, none⟩ y').setCell ⟨c, 0, none⟩ z').heap[a]? = some (.cells #[x'] ta (0, 0)) ∧ (((V.setCell ⟨a, 0, none⟩ x').setCell ⟨b, 0, none⟩ y').setCell ⟨c, 0, none⟩ z').heap[b]? = some (.cells #[y'] tb (0, 0)) ∧ (((V.setCell ⟨a, 0, none⟩ x').setCell ⟨b, 0, none⟩ y').setCell ⟨c, 0, none⟩ z').heap[c]? = some (.cells #[z'] tc (0, 0)) ∧ Stay (fun k => k = a ∨ k = b ∨ k = c) V (((V.setCell ⟨a, 0, none⟩ x').setCell ⟨b, 0, none⟩ y').setCell ⟨c, 0, none⟩ z') := by
  obtain ⟨V1, hV1⟩ : ∃ V1, V1 = V.setCell ⟨a, 0, none⟩ x' := ⟨_, rfl⟩
  obtain ⟨V2, hV2⟩ : ∃ V2, V2 = V1.setCell ⟨b, 0, none⟩ y' := ⟨_, rfl⟩
  obtain ⟨V3, hV3⟩ : ∃ V3, V3 = V2.setCell ⟨c, 0, none⟩ z' := ⟨_, rfl⟩
  rw [← hV1, ← hV2, ← hV3]
  have s1 : Stay (fun k => k = a) V V1 := by rw [hV1]; exact stayO _ _ _ _ _ (.refl _ _)
  have s2 : Stay (fun k => k = b) V1 V2 := by rw [hV2]; exact stayO _ _ _ _ _ (.refl _ _)
  have s3 : Stay (fun k => k = c) V2 V3 := by rw [hV3]; exact stayO _ _ _ _ _ (.refl _ _)
  have a1 : V1.heap[a]? = some (.cells #[x'] ta (0, 0)) := by rw [hV1, heap_setCell_same V a 0 _ _ _ ha]; rfl
  have a2 : V2.heap[a]? = _ := (s2.block a (Array.getElem?_eq_some_iff.1 a1).1 n1).trans a1
  have a3 : V3.heap[a]? = _ := (s3.block a (Array.getElem?_eq_some_iff.1 a2).1 n2).trans a2
  have b1 : V1.heap[b]? = _ := (s1.block b (Array.getElem?_eq_some_iff.1 hb).1 n1.symm).trans hb
  have b2 : V2.heap[b]? = some (.cells #[y'] tb (0, 0)) := by rw [hV2, heap_setCell_same V1 b 0 _ _ _ b1]; rfl
  have b3 : V3.heap[b]? = _ := (s3.block b (Array.getElem?_eq_some_iff.1 b2).1 n3).trans b2
  have c1 : V1.heap[c]? = _ := (s1.block c (Array.getElem?_eq_some_iff.1 hc).1 n2.symm).trans hc
  have c2 : V2.heap[c]? = _ := (s2.block c (Array.getElem?_eq_some_iff.1 c1).1 n3.symm).trans c1
  have c3 : V3.heap[c]? = some (.cells #[z'] tc (0, 0)) := by rw [hV3, heap_setCell_same V2 c 0 _ _ _ c2]; rfl
  exact ⟨a3, b3, c3, ((s1.mono (fun k _ e => .inl e)).trans (s2.mono (fun k _ e => .inr (.inl e)))).trans (s3.mono (fun k _ e => .inr (.inr e)))⟩
end Go.Proofs.YtcamnalmcghjfaaGreatDoor
