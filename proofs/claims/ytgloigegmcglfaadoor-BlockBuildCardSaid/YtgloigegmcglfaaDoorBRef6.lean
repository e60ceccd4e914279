/-
  DERIVED. What holds while the document's own file is written.
-/
import Derived.Test.YtgloigegmcglfaaDoorBRef5
import Derived.Test.YtgloigegmcglfaaDoorBRef3
set_option linter.unusedVariables false
set_option linter.unusedSimpArgs false
namespace Go.Proofs.YtgloigegmcglfaaDoor
open Go.RowKit Go.Proofs.SealMath
theorem infoS9 : (Tryd.prog.info? 9).map (fun i => (i.zero, i.size, i.bytes)) = some (some (.string ⟨#[]⟩), 1, 16) := by kernel_rfl
/-- A text is put behind others. -/
theorem str_app (W : World) (ts : List (List UInt8)) (v : Value) (h : TAt W v ts) (y : List UInt8) (hb : ts.length + 1 ≤ 4194304) :
    ∃ v' w', (Builtin.append_ #[66, 66] 66 #[v, .slice (some ⟨W.heap.size, 0, none⟩) 1 1]).run Tryd.prog (W.alloc (.cells #[TV y] 9)) = .ok v' w' ∧ TAt w' v' (ts ++ [y]) ∧ Stay (fun k => v.ownBlock = some k) W w' ∧
      (∀ k, v'.ownBlock = some k → v.ownBlock = some k ∨ W.heap.size ≤ k) := by
  obtain ⟨i0, hi, hz0, hz1, hz2⟩ := info_parts infoS9
  have st0 : Stay (fun k => v.ownBlock = some k) W (W.alloc (.cells #[TV y] 9)) := (Stay.refl _ W).alloc _
  obtain ⟨v', w', hr, ho, hg, _, hloc⟩ := run_append_own_at (P := Tryd.prog) (W.alloc (.cells #[TV y] 9)) 0 66 66 9 i0 _ 1 16 Tryd.underlying66 hi hz0 hz1 hz2 rfl (by decide) v ts.length _ (h.row.alloc _) ⟨W.heap.size, 0, none⟩ 1 1 [TV y] rfl (new_cells W [TV y] 9) (fun u hu => by simp at hu; subst hu; rfl) (by unfold maxLen; omega) (by omega) (Nat.zero_le _)
  refine ⟨v', w', hr, ⟨by rw [List.length_append, List.map_append]; exact ho⟩, st0.trans (.grown hg (fun k hk => hk)), fun k hk => ?_⟩
  rcases hloc with hl | hl
  · exact .inl (hl ▸ hk)
  · rw [hl] at hk; cases hk; exact .inr (by simp)
theorem WRow.block {w : World} {v : Value} {l : List UInt8} (h : WRow w v l) {k : Nat} (hk : v.ownBlock = some k) : ∃ c m, w.heap[k]? = some (.cells c 5 m) := by
  obtain ⟨g, cap, cur, fz, rfl, h2, h3⟩ := h
  cases hk; exact ⟨_, _, h2⟩
/-- The rows of the call. -/
structure RS (w W : World) (tv bv sv lv : Value) (T : List (List UInt8)) (B : List UInt8) (S : List Nat) (Ls : List (List UInt8)) : Prop where
  t : TAt W tv T
  b : WRow W bv B
  s : W.ownsRow 0 3 1 sv S.length (S.map IV)
  l : TAt W lv Ls
  bel : Below w.heap.size w W
  lo : ∀ k, (tv.ownBlock = some k ∨ bv.ownBlock = some k ∨ sv.ownBlock = some k ∨ lv.ownBlock = some k) → w.heap.size ≤ k
  ap : ∀ k, tv.ownBlock = some k → lv.ownBlock ≠ some k
section
variable {w W X : World} {tv bv sv lv : Value} {T : List (List UInt8)} {B : List UInt8} {S : List Nat} {Ls : List (List UInt8)}
theorem RS.below (h : RS w W tv bv sv lv T B S Ls) (hb : Below W.heap.size W X) : RS w X tv bv sv lv T B S Ls :=
  { h with
    t := h.t.kept (F := fun _ => False) (.below hb) (fun _ _ e => e)
    b := h.b.kept (F := fun _ => False) (.below hb) (fun _ _ e => e)
    s := row_kept (F := fun _ => False) h.s (.below hb) (fun _ _ e => e)
    l := h.l.kept (F := fun _ => False) (.below hb) (fun _ _ e => e)
    bel := chain h.bel hb (Nat.le_refl _) }
theorem RS.putB (h : RS w W tv bv sv lv T B S Ls) {v' : Value} {B' : List UInt8} (hw : WRow X v' B') (st : Stay (fun k => bv.ownBlock = some k) W X) (hloc : ∀ k, v'.ownBlock = some k → bv.ownBlock = some k ∨ W.heap.size ≤ k) : RS w X tv v' sv lv T B' S Ls := by
  have ht : ∀ k, tv.ownBlock = some k → ¬ bv.ownBlock = some k := fun k hk e => by
    obtain ⟨c, h1⟩ := row_block h.t.row hk; obtain ⟨c', m, h2⟩ := h.b.block e; rw [h1] at h2; cases h2
  have hs : ∀ k, sv.ownBlock = some k → ¬ bv.ownBlock = some k := fun k hk e => by
    obtain ⟨c, h1⟩ := row_block h.s hk; obtain ⟨c', m, h2⟩ := h.b.block e; rw [h1] at h2; cases h2
  have hl : ∀ k, lv.ownBlock = some k → ¬ bv.ownBlock = some k := fun k hk e => by
    obtain ⟨c, h1⟩ := row_block h.l.row hk; obtain ⟨c', m, h2⟩ := h.b.block e; rw [h1] at h2; cases h2
  refine ⟨h.t.kept st ht, hw, row_kept h.s st hs, h.l.kept st hl, h.bel.trans (st.toBelow (fun k hk e => ?_) h.bel.size), fun k hk => ?_, h.ap⟩
  · have := h.lo k (.inr (.inl e)); omega
  · rcases hk with e | e | e | e
    · exact h.lo k (.inl e)
    · rcases hloc k e with e | e
      · exact h.lo k (.inr (.inl e))
      · have := h.bel.size; omega
    · exact h.lo k (.inr (.inr (.inl e)))
    · exact h.lo k (.inr (.inr (.inr e)))
theorem RS.putL (h : RS w W tv bv sv lv T B S Ls) {v' : Value} {Ls' : List (List UInt8)} (hw : TAt X v' Ls') (st : Stay (fun k => lv.ownBlock = some k) W X) (hloc : ∀ k, v'.ownBlock = some k → lv.ownBlock = some k ∨ W.heap.size ≤ k) : RS w X tv bv sv v' T B S Ls' := by
  have hb : ∀ k, bv.ownBlock = some k → ¬ lv.ownBlock = some k := fun k hk e => by
    obtain ⟨c, h1⟩ := row_block h.l.row e; obtain ⟨c', m, h2⟩ := h.b.block hk; rw [h1] at h2; cases h2
  have hs : ∀ k, sv.ownBlock = some k → ¬ lv.ownBlock = some k := fun k hk e => by
    obtain ⟨c, h1⟩ := row_block h.s hk; obtain ⟨c', h2⟩ := row_block h.l.row e; rw [h1] at h2; cases h2
  refine ⟨h.t.kept st (fun k hk e => h.ap k hk e), h.b.kept st hb, row_kept h.s st hs, hw, h.bel.trans (st.toBelow (fun k hk e => ?_) h.bel.size), fun k hk => ?_, fun k hk e => ?_⟩
  · have := h.lo k (.inr (.inr (.inr e))); omega
  · rcases hk with e | e | e | e
    · exact h.lo k (.inl e)
    · exact h.lo k (.inr (.inl e))
    · exact h.lo k (.inr (.inr (.inl e)))
    · rcases hloc k e with e | e
      · exact h.lo k (.inr (.inr (.inr e)))
      · have := h.bel.size; omega
  · rcases hloc k e with e | e
    · exact h.ap k hk e
    · have := row_lt h.t.row hk; omega
end
theorem step_append_eq {P : Program} {ops : Array Oper} {o : Oper} {a : Act} {w : World} {K : Act → World → Prop} {Q : Exit → Act → World → Prop} {E : Prop}
    (hg : o.guard = none) (s x : Operand) (t u : TypeId) (hop : o.op = Op.call { callee := Callee.builtin Builtin.append, args := #[s, x], argTypes := #[t, u] })
    (v xv v' : Value) (w' : World) (hs : a.eval s = v) (hx : a.eval x = xv) (hrun : (Builtin.append_ #[t, u] o.type #[v, xv]).run P w = .ok v' w') (hK : K (a.put o.dst v') w') :
    if Region.wanted o (yielded ops a.tmps) = true then Oper.wp P o a w K Q else E := by
  have hw : Region.wanted o (yielded ops a.tmps) = true := by simp [Region.wanted, hg]
  rw [if_pos hw]
  unfold Oper.wp
  simp [execOp, hop, resolve, invoke, builtin, hs, hx, hrun, Result.andThen]
  exact hK
/-- A number of a row of the call's own. -/
theorem int_at {W : World} {v : Value} {S : List Nat} (h : W.ownsRow 0 3 1 v S.length (S.map IV)) : ∃ a cap, v = .slice a S.length cap ∧ ∀ j (hj : j < S.length), ∃ g, a = some ⟨g, 0, none⟩ ∧ W.cell? ⟨g, j, none⟩ = some (.int .i64 S[j]) := by
  rcases h.2 with ⟨rfl, h0⟩ | ⟨g, cap, cur, rfl, h3, h4, h5, h6⟩
  · exact ⟨none, 0, by rw [h0], fun j hj => by omega⟩
  · refine ⟨_, cap, rfl, fun j hj => ⟨g, rfl, ?_⟩⟩
    have h7 := h.cells (g := g) rfl j (IV S[j]) (by rw [List.getElem?_map, List.getElem?_eq_getElem hj]; rfl)
    have e1 : (⟨g, 0, none⟩ : Addr).add j = ⟨g, j, none⟩ := by unfold Addr.add; split <;> simp_all
    rw [e1] at h7; exact h7
theorem cell_stay {F : Nat → Prop} {A B : World} {k o : Nat} {v : Value} (s : Stay F A B) (h : A.cell? ⟨k, o, none⟩ = some v) (hn : ¬ F k) : B.cell? ⟨k, o, none⟩ = some v := by
  have hb := s.block k (World.block_lt_of_cell? A _ h) hn
  rw [← h]; simp [World.cell?, hb]
/-- One part after the other. -/
theorem pk_at (l : List En) (k : Nat) (hk : k < (pk enB l).length) : (pk enB l).take (k + 1) = (pk enB l).take k ++ [(pk enB l)[k]] ∧ (pk enB l)[k].1 = (((pk enB l).take k).map (·.2.length)).sum ∧ (pk enB l).take k ++ [(pk enB l)[k]] <+: pk enB l := by
  have h1 : (pk enB l).take (k + 1) = (pk enB l).take k ++ [(pk enB l)[k]] := List.take_succ_eq_append_getElem hk
  refine ⟨h1, ?_, h1 ▸ List.take_prefix _ _⟩
  have h2 : pk enB l = (pk enB l).take k ++ (pk enB l)[k] :: (pk enB l).drop (k + 1) := by rw [← List.drop_eq_getElem_cons hk, List.take_append_drop]
  have h3 := pkA_at enB l 0 [] _ _ _ h2
  rw [h3]; omega
theorem pk_atL (l : List Ln) (k : Nat) (hk : k < (pk lnB l).length) : (pk lnB l).take (k + 1) = (pk lnB l).take k ++ [(pk lnB l)[k]] ∧ (pk lnB l)[k].1 = (((pk lnB l).take k).map (·.2.length)).sum ∧ (pk lnB l).take k ++ [(pk lnB l)[k]] <+: pk lnB l := by
  have h1 : (pk lnB l).take (k + 1) = (pk lnB l).take k ++ [(pk lnB l)[k]] := List.take_succ_eq_append_getElem hk
  refine ⟨h1, ?_, h1 ▸ List.take_prefix _ _⟩
  have h2 : pk lnB l = (pk lnB l).take k ++ (pk lnB l)[k] :: (pk lnB l).drop (k + 1) := by rw [← List.drop_eq_getElem_cons hk, List.take_append_drop]
  have h3 := pkA_at lnB l 0 [] _ _ _ h2
  rw [h3]; omega
end Go.Proofs.YtgloigegmcglfaaDoor
