/-
  DERIVED. A line is put behind the index.
-/
import Derived.Test.YtdegclccbgpgiaaDoorBWrite0
set_option linter.unusedVariables false
set_option linter.unusedSimpArgs false
namespace Go.Proofs.YtdegclccbgpgiaaDoor
open Go.RowKit Go.Shelf Go.Proofs.SealMath
theorem stepIn_append_eq {F : Fence} {n : Nat} {P : Program} {ops : Array Oper} {o : Oper} {a : Act} {w : World} {K : Act → World → Prop} {Q : Exit → Act → World → Prop} {E : Prop} (hgd : o.guard = none) (s x : Operand) (t u : TypeId)
    (ho : o.op = .call { callee := .builtin .append, args := #[s, x], argTypes := #[t, u] }) (v xv v' : Value) (w' : World) (hs : a.eval s = v) (hx : a.eval x = xv) (hr : (Builtin.append_ #[t, u] o.type #[v, xv]).run P w = .ok v' w')
    (h : K (a.put o.dst v') w') : if Region.wanted o (yielded ops a.tmps) = true then Oper.wpIn F n P o a w K Q else E := by
  have hw : Region.wanted o (yielded ops a.tmps) = true := by simp [Region.wanted, hgd]
  rw [if_pos hw]
  unfold Oper.wpIn
  refine ⟨by simp [Oper.about, ho, resolve, Target.leads, Sem.run_pure], ?_⟩
  rw [Oper.semAt_plain F _ _ (by rw [ho]; intro c hc'; cases hc')]
  unfold execOp
  simp only [ho, resolve, invoke, builtin, Sem.run_bind, Sem.run_pure, Result.andThen_ok, List.map_toArray, List.map_cons, List.map_nil, hs, hx, hr, Oper.uponIn]
  exact h
theorem infoLn : (Tryd.prog.info? 104).map (fun i => (i.zero, i.size, i.bytes)) = some (some (.agg #[.int .i64 0, .string ⟨#[]⟩, .int .i64 0, .int .i64 0, .bool false, .int .i64 0, .int .i64 0]), 7, 64) := by kernel_rfl
theorem new_cells (W : World) (cs : List Value) (t : TypeId) (j : Nat) (u : Value) (hu : cs[j]? = some u) : (W.alloc (.cells cs.toArray t)).cell? ((⟨W.heap.size, 0, none⟩ : Addr).add j) = some u := by
  have e : (⟨W.heap.size, 0, none⟩ : Addr).add j = ⟨W.heap.size, j, none⟩ := by unfold Addr.add; split <;> simp_all
  rw [e, cell_of_row _ _ j _ t (0, 0) (heap_alloc_last W _)]
  simpa using hu
theorem line_app (W : World) (ls : List Ln) (lv : Value) (h : W.ownsRow 0 104 7 lv ls.length (ls.flatMap lnC)) (y : Ln) (hb : ls.length + 1 ≤ 4194304) :
    ∃ v' w', (Builtin.append_ #[96, 96] 96 #[lv, .slice (some ⟨W.heap.size, 0, none⟩) 1 1]).run Tryd.prog (W.alloc (.cells (lnC y).toArray 104)) = .ok v' w' ∧ w'.ownsRow 0 104 7 v' (ls ++ [y]).length ((ls ++ [y]).flatMap lnC) ∧ Stay (fun k => lv.ownBlock = some k) W w' ∧
      (∀ k, v'.ownBlock = some k → lv.ownBlock = some k ∨ W.heap.size ≤ k) := by
  obtain ⟨i0, hi, hz0, hz1, hz2⟩ := info_parts infoLn
  have st0 : Stay (fun k => lv.ownBlock = some k) W (W.alloc (.cells (lnC y).toArray 104)) := (Stay.refl _ W).alloc _
  have h' : (W.alloc (.cells (lnC y).toArray 104)).ownsRow 0 104 7 lv ls.length (ls.flatMap lnC) := h.alloc _
  have h1c : ∀ u ∈ lnC y, u.oneCell' = true := fun u hu => by
    simp [lnC, enC] at hu
    rcases hu with rfl | rfl | rfl | rfl | rfl | rfl | rfl <;> rfl
  obtain ⟨v', w', hr, ho, hg, _, hloc⟩ := run_append_own_at (P := Tryd.prog) (W.alloc (.cells (lnC y).toArray 104)) 0 96 96 104 i0 _ 7 64 Tryd.underlying96 hi hz0 hz1 hz2 rfl (by decide) lv ls.length _ h' ⟨W.heap.size, 0, none⟩ 1 1 (lnC y) rfl (new_cells W (lnC y) 104) h1c (by unfold maxLen; omega) (by omega) (Nat.zero_le _)
  refine ⟨v', w', hr, by rw [List.length_append, List.flatMap_append]; simpa using ho, st0.trans (.grown hg (fun k hk => hk)), fun k hk => ?_⟩
  rcases hloc with hl | hl
  · exact .inl (hl ▸ hk)
  · rw [hl] at hk; cases hk; exact .inr (by simp)
theorem WC_mono {fb lb sb : Nat} {v lv v' lv' : Value} {N : Nat} (h1 : ∀ k, v'.ownBlock = some k → v.ownBlock = some k ∨ N ≤ k) (h2 : ∀ k, lv'.ownBlock = some k → lv.ownBlock = some k ∨ N ≤ k) : ∀ k, k < N → WC fb lb sb v' lv' k → WC fb lb sb v lv k := by
  rintro k hk (e | e | e | e | e)
  · exact .inl e
  · exact .inr (.inl e)
  · exact .inr (.inr (.inl e))
  · rcases h1 k e with e | e
    · exact .inr (.inr (.inr (.inl e)))
    · omega
  · rcases h2 k e with e | e
    · exact .inr (.inr (.inr (.inr e)))
    · omega
/-- The first of a part. -/
theorem part_first {l : List En} {p : List (Nat × List En)} {x : Nat × List En} (h : p ++ [x] <+: pk enB l) (hok : ∀ e ∈ l, Ok e) : ∃ hx : x.1 < l.length, x.2.headD e0 = l[x.1] ∧ 0 < x.2.length ∧ x.1 + x.2.length ≤ l.length ∧ ln enB x.2 ≤ 4096 := by
  have hm : x ∈ pk enB l := h.subset (by simp)
  obtain ⟨h1, h2, h3, h4⟩ := pk_spec enB l (fun e he => by have := (enB_len e).1; have := (hok e he).c; omega) x hm
  have hp : 0 < x.2.length := List.length_pos_iff.2 h1
  refine ⟨by omega, ?_, hp, h3, h2⟩
  have hd : l.drop x.1 = l[x.1]'(by omega) :: l.drop (x.1 + 1) := List.drop_eq_getElem_cons (by omega)
  rw [hd] at h4
  obtain ⟨m, hm⟩ : ∃ m, x.2.length = m + 1 := ⟨x.2.length - 1, by omega⟩
  rw [hm, List.take_succ_cons] at h4
  rw [← h4]; rfl
/-- The sum over what was put. -/
def smP (pre : List (Nat × List En)) : Nat := crc 0 (pre.flatMap fun p => p.2.flatMap enB)
theorem smP_snoc (pre : List (Nat × List En)) (x : Nat × List En) : smP (pre ++ [x]) = crc (smP pre) (x.2.flatMap enB) := by unfold smP; rw [List.flatMap_append, crc_append]; simp
theorem smP_lt (pre : List (Nat × List En)) : smP pre < 4294967296 := crc_lt _ (by omega)
theorem smP_all (l : List En) : smP (pk enB l) = crc 0 (l.flatMap enB) := by
  unfold smP
  congr 1
  have h := pk_flat enB l
  have e : ∀ ps : List (Nat × List En), (ps.flatMap fun p => p.2.flatMap enB) = ((ps.map (·.2)).flatten).flatMap enB := fun ps => by
    induction ps with
    | nil => rfl
    | cons p ps ih => simp [ih]
  rw [e, h]
attribute [local go_sem] Oper.semAt_some
set_option maxRecDepth 100000 in
set_option maxHeartbeats 1000000 in
theorem packE_nil (la : Option Addr) (g off cap Bl Bf n : Nat) (K : Nat → Prop) (w : World) (hl : w.heap[Bl]? = some (.cells #[.slice la 0 cap] 24 (0, 0))) :
    SeqSt Fence.wide n Tryd.prog 82 #[Pt Bl, Pt Bf] (encP enB g off 5 cap) (fun p x => p ++ [x] <+: pk enB []) TrB (KpB K) (fun p => p = pk enB []) (fun _ => True) none w := fun lp J Jx W hW hJ hJx hY h0 => by
  have hX := box_cell hl (hW.block Bl (Array.getElem?_eq_some_iff.1 hl).1)
  refine callsIn_of_wp Tryd.func82 rfl trivial ?_ rfl
  simp only [Tryd.ntmps82, List.size_toArray, List.length_cons, List.length_nil, Nat.reduceAdd, Nat.reduceSub, Array.replicate_succ, Array.replicate_zero, List.push_toArray, List.append_toArray, List.nil_append, List.cons_append]
  gi_wp2
  gi_loopw [4, 5, 11] (fun pv fv iv wr => fv = .int .i64 0 ∧ iv = .int .i64 0 ∧ wr = W) (fun _ _ iv _ => 0)
  case atStart => exact ⟨rfl, rfl, rfl⟩
  case round =>
    obtain ⟨rfl, rfl, rfl⟩ := hrel
    gi_wp2
    go_end0
    exact ⟨⟨_, rfl⟩, .inl ⟨[], none, rfl, h0⟩⟩
theorem packL_nil (la : Option Addr) (g off cap Bl Bf n : Nat) (K : Nat → Prop) (w : World) (hl : w.heap[Bl]? = some (.cells #[.slice la 0 cap] 96 (0, 0))) :
    SeqSt Fence.wide n Tryd.prog 84 #[Pt Bl, Pt Bf] (encP lnB g off 7 cap) (fun p x => p ++ [x] <+: pk lnB []) TrB (KpB K) (fun p => p = pk lnB []) (fun _ => True) none w := fun lp J Jx W hW hJ hJx hY h0 => by
  have hX := box_cell hl (hW.block Bl (Array.getElem?_eq_some_iff.1 hl).1)
  refine callsIn_of_wp Tryd.func84 rfl trivial ?_ rfl
  simp only [Tryd.ntmps84, List.size_toArray, List.length_cons, List.length_nil, Nat.reduceAdd, Nat.reduceSub, Array.replicate_succ, Array.replicate_zero, List.push_toArray, List.append_toArray, List.nil_append, List.cons_append]
  gi_wp2
  gi_loopw [4, 5, 11] (fun pv fv iv wr => fv = .int .i64 0 ∧ iv = .int .i64 0 ∧ wr = W) (fun _ _ iv _ => 0)
  case atStart => exact ⟨rfl, rfl, rfl⟩
  case round =>
    obtain ⟨rfl, rfl, rfl⟩ := hrel
    gi_wp2
    go_end0
    exact ⟨⟨_, rfl⟩, .inl ⟨[], none, rfl, h0⟩⟩
end Go.Proofs.YtdegclccbgpgiaaDoor
