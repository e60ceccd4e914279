/-
  DERIVED. The merger's heap of sources: Push, Pop.
-/
import Derived.Test.YtchikfabfhjkgaaMHeap2
set_option linter.unusedVariables false
set_option linter.unusedSimpArgs false
namespace Go.Proofs.Ytchikfabfhjkgaa
open Go.RowKit
/-- A merger in its block. -/
def Mb (W : World) (m : Nat) (c0 av c2 c3 : Value) : Prop := W.heap[m]? = some (.cells #[c0, av, c2, c3] 81 (0, 0))
theorem Mb.cell {W : World} {m : Nat} {c0 av c2 c3 : Value} (h : Mb W m c0 av c2 c3) : W.cell? ⟨m, 1, none⟩ = some av ∧ W.frozen? ⟨m, 1, none⟩ = false := ⟨by rw [cell_of_row _ _ 1 _ _ (0, 0) h]; rfl, frozen_of_row _ _ _ _ _ h⟩
theorem step_append_eq {P : Program} {ops : Array Oper} {o : Oper} {a : Act} {w : World} {K : Act → World → Prop} {Q : Exit → Act → World → Prop} {E : Prop}
    (hg : o.guard = none) (s x : Operand) (t u : TypeId) (hop : o.op = Op.call { callee := Callee.builtin Builtin.append, args := #[s, x], argTypes := #[t, u] })
    (v xv v' : Value) (w' : World) (hs : a.eval s = v) (hx : a.eval x = xv) (hrun : (Builtin.append_ #[t, u] o.type #[v, xv]).run P w = .ok v' w') (hK : K (a.put o.dst v') w') :
    if Region.wanted o (yielded ops a.tmps) = true then Oper.wp P o a w K Q else E := by
  have hw : Region.wanted o (yielded ops a.tmps) = true := by simp [Region.wanted, hg]
  rw [if_pos hw]
  unfold Oper.wp
  simp [execOp, hop, resolve, invoke, builtin, hs, hx, hrun, Result.andThen]
  exact hK
/-- A number of a row of the call's own. -/
theorem infoPs : (Try.prog.info? 94).map (fun i => (i.zero, i.size, i.bytes)) = some (some (.pointer none), 1, 8) := by kernel_rfl
/-- What a call may write that changes the merger's heap alone, and where the heap lies then. -/
structure HSt (m : Nat) (av v' : Value) (w w' : World) : Prop where
  stay : Stay (fun k => k = m ∨ av.ownBlock = some k) w w'
  loc : ∀ k, v'.ownBlock = some k → av.ownBlock = some k ∨ w.heap.size ≤ k
theorem Mb.apart {W : World} {m : Nat} {c0 av c2 c3 : Value} (h : Mb W m c0 av c2 c3) {v : Value} {n : Nat} {xs : List Value} (ho : W.ownsRow 0 94 1 v n xs) {k : Nat} (hk : v.ownBlock = some k) : k ≠ m := fun e => by
  obtain ⟨cur, hc⟩ := row_block ho hk
  unfold Mb at h
  rw [← e, hc] at h
  simp at h
theorem Mb.st {W : World} {m : Nat} {c0 av c2 c3 : Value} (h : Mb W m c0 av c2 c3) {s : St} (hs : StAt W s) : s.a ≠ m := fun e => by
  unfold Mb at h
  unfold StAt at hs
  rw [e, h] at hs
  simp [stC] at hs
theorem Mb.set {W : World} {m : Nat} {c0 av c2 c3 : Value} (h : Mb W m c0 av c2 c3) (v' : Value) : Mb (W.setCell ⟨m, 1, none⟩ v') m c0 v' c2 c3 := by
  unfold Mb
  rw [heap_setCell_same W m 1 _ _ _ h]; rfl
set_option maxRecDepth 100000 in
theorem apush_any (xs : List St) (s : St) (m : Nat) (c0 av c2 c3 : Value) (w : World) (hm : Mb w m c0 av c2 c3) (h : SRow w av xs) (hs : StAt w s) (hl : xs.length < 100000) :
    Calls Try.prog 104 #[.pointer (some ⟨m, 1, none⟩), .iface 94 (Pp s)] w fun r w' => r = .returned (.tuple #[]) ∧ ∃ v', Mb w' m c0 v' c2 c3 ∧ SRow w' v' (xs ++ [s]) ∧ HSt m av v' w w' := by
  obtain ⟨i0, hi0, hz0, hz1, hz2⟩ := info_parts infoPs
  have st1 : Stay (fun k => k = m ∨ av.ownBlock = some k) w (w.alloc (.cells #[Pp s] 94)).drew := ((Stay.refl _ w).alloc _).drew
  have ho1 : (w.alloc (.cells #[Pp s] 94)).drew.ownsRow 0 94 1 av xs.length (xs.map Pp) := (h.own.alloc _).drew
  obtain ⟨v', w', hap, ho, hg, -, hloc⟩ := run_append_own_at (P := Try.prog) (w.alloc (.cells #[Pp s] 94)).drew 0 79 79 94 i0 _ 1 8 Try.underlying79 hi0 hz0 hz1 hz2 rfl (by decide) av xs.length _ ho1 ⟨w.heap.size, 0, none⟩ 1 1 [Pp s] rfl (new_cells w [Pp s] 94) (by simp [Value.oneCell']) (by unfold maxLen; omega) (by omega) (Nat.zero_le _)
  have st2 : Stay (fun k => k = m ∨ av.ownBlock = some k) w w' := st1.trans ((Stay.grown (F := fun k => av.ownBlock = some k) hg (fun k hk => hk)).mono (fun k _ hk => .inr hk))
  have hloc' : ∀ k, v'.ownBlock = some k → av.ownBlock = some k ∨ w.heap.size ≤ k := fun k hk => by
    rcases hloc with e | e
    · exact .inl (e ▸ hk)
    · rw [e] at hk; cases hk; right; simp
  have hm1 : Mb w' m c0 av c2 c3 := by
    have hlt : m < w.heap.size := (Array.getElem?_eq_some_iff.1 hm).1
    have e1 : (w.alloc (.cells #[Pp s] 94)).drew.heap[m]? = w.heap[m]? := by
      show (w.alloc _).heap[m]? = _
      exact ((Below.refl _ w).alloc (Nat.le_refl _) (.cells #[Pp s] 94)).block m hlt
    have e2 : w'.heap[m]? = (w.alloc (.cells #[Pp s] 94)).drew.heap[m]? := hg.block m (by show m < (w.alloc _).heap.size; simp; omega) (fun e => (hm.apart h.own e.symm) rfl)
    exact (e2.trans e1).trans hm
  have hst : ∀ x, StAt w x → StAt w' x := fun x hx => by
    refine (st2.block x.a (Array.getElem?_eq_some_iff.1 hx).1 ?_).trans hx
    rintro (e | e)
    · exact hm.st hx e
    · exact h.apart e hx rfl
  obtain ⟨p1, f1⟩ := hm1.cell
  obtain ⟨p0, f0⟩ := hm.cell
  have st3 : Stay (fun k => k = m) w' (w'.setCell ⟨m, 1, none⟩ v') := stay_one _ _ _ _ _ (.refl _ _)
  have fin : ∃ u, Mb (w'.setCell ⟨m, 1, none⟩ v') m c0 u c2 c3 ∧ SRow (w'.setCell ⟨m, 1, none⟩ v') u (xs ++ [s]) ∧ HSt m av u w (w'.setCell ⟨m, 1, none⟩ v') := by
    refine ⟨v', hm1.set v', ⟨?_, fun x hx => ?_⟩, ⟨st2.trans (st3.mono (fun k _ e => .inl e)), hloc'⟩⟩
    · have hrow : w'.ownsRow 0 94 1 v' (xs ++ [s]).length ((xs ++ [s]).map Pp) := by rw [List.length_append, List.map_append]; exact ho
      exact row_kept hrow st3 (fun k hk e => hm1.apart hrow hk e)
    · have hx' : StAt w x := by
        rcases List.mem_append.1 hx with h1 | h1
        · exact h.st x h1
        · simp at h1; subst h1; exact hs
      exact (st3.block x.a (Array.getElem?_eq_some_iff.1 (hst x hx')).1 (hm1.st (hst x hx'))).trans (hst x hx')
  have HF := Hid.mk fin
  obtain ⟨a, c, hav, -⟩ := slice_form h.own
  subst hav
  obtain ⟨a2, cc2, hav2, -⟩ := slice_form ho
  subst hav2
  have p2 : (w.alloc (.cells #[.pointer (some ⟨s.a, 0, none⟩)] 94)).cell? ⟨m, 1, none⟩ = some (.slice a xs.length c) := cell_lat ((Below.refl _ w).alloc (Nat.le_refl _) _) p0
  have hta : ∀ (W : World), (Instr.typeAssert (.iface 94 (.pointer (some ⟨s.a, 0, none⟩))) 20 94 false).run Try.prog W = .ok (.pointer (some ⟨s.a, 0, none⟩)) W := fun W => by kernel_rfl
  clear st1 ho1 ho hg hloc st2 hloc' hm1 hst st3 fin hi0 hz0 hz1 hz2 h hs hm
  go_enter Try.func104, Try.ntmps104
  go_wp2
  go_region_law (refine step_append_eq rfl _ _ _ _ rfl _ _ _ _ rfl rfl hap ?_)
  all_goals
    go_end0
    exact ⟨rfl, HF.out⟩
theorem row_drop {W : World} {b cap n : Nat} {xs : List St} {x : St} (h : W.ownsRow 0 94 1 (.slice (some ⟨b, 0, none⟩) (n + 1) cap) (n + 1) ((xs ++ [x]).map Pp)) (hn : n = xs.length) : (W.setCell ⟨b, n, none⟩ (.pointer none)).ownsRow 0 94 1 (.slice (some ⟨b, 0, none⟩) n cap) n (xs.map Pp) := by
  have h1 := (World.ownsRow.stored h n (.pointer none)).1
  rcases h1.2 with ⟨h0, _⟩ | ⟨g, c, cur, hv, k1, k2, k3, k4, k5, k6⟩
  · simp at h0
  · simp only [Value.slice.injEq, Option.some.injEq, Addr.mk.injEq] at hv
    obtain ⟨⟨rfl, -, -⟩, -, rfl⟩ := hv
    refine ⟨by simp [hn], .inr ⟨b, cap, cur, rfl, k1, k2, by omega, k4, k5, ?_⟩⟩
    have e : (cur.toList.take ((n + 1) * 1)).take (n * 1) = cur.toList.take (n * 1) := by rw [List.take_take]; congr 1; omega
    rw [← e, k6, hn, List.map_append, Nat.mul_one, List.take_set_of_le (by simp), List.take_left' (by simp)]
set_option maxRecDepth 100000 in
theorem apop_any (xs : List St) (s : St) (m : Nat) (c0 av c2 c3 : Value) (w : World) (hm : Mb w m c0 av c2 c3) (h : SRow w av (xs ++ [s])) (hl : xs.length < 100000) :
    Calls Try.prog 103 #[.pointer (some ⟨m, 1, none⟩)] w fun r w' => r = .returned (.iface 94 (Pp s)) ∧ ∃ v', Mb w' m c0 v' c2 c3 ∧ SRow w' v' xs ∧ HSt m av v' w w' := by
  obtain ⟨n, hn⟩ : ∃ n, n = xs.length := ⟨_, rfl⟩
  obtain ⟨b, cap, hav, p1, f1⟩ := h.at' n (by simp; omega)
  have hlen : (xs ++ [s]).length = n + 1 := by simp; omega
  have hat : (xs ++ [s])[n]'(by omega) = s := by subst hn; simp
  rw [hat] at p1
  rw [hlen] at hav
  subst hav
  obtain ⟨p0, f0⟩ := hm.cell
  have hcap : n + 1 ≤ cap := by
    obtain ⟨a, c, hh, hc⟩ := slice_form h.own
    simp only [Value.slice.injEq] at hh
    obtain ⟨-, -, rfl⟩ := hh
    omega
  have ho : w.ownsRow 0 94 1 (.slice (some ⟨b, 0, none⟩) (n + 1) cap) (n + 1) ((xs ++ [s]).map Pp) := by have := h.own; rw [hlen] at this; exact this
  have hbm : b ≠ m := hm.apart ho rfl
  have st1 : Stay (fun k => k = b) w (w.setCell ⟨b, n, none⟩ (.pointer none)) := stay_one _ _ _ _ _ (.refl _ _)
  have hm1 : Mb (w.setCell ⟨b, n, none⟩ (.pointer none)) m c0 (.slice (some ⟨b, 0, none⟩) (n + 1) cap) c2 c3 := (st1.block m (Array.getElem?_eq_some_iff.1 hm).1 (fun e => hbm e.symm)).trans hm
  obtain ⟨p2, f2⟩ := hm1.cell
  have hr1 := row_drop ho hn
  have st2 : Stay (fun k => k = m) (w.setCell ⟨b, n, none⟩ (.pointer none)) ((w.setCell ⟨b, n, none⟩ (.pointer none)).setCell ⟨m, 1, none⟩ (.slice (some ⟨b, 0, none⟩) n cap)) := stay_one _ _ _ _ _ (.refl _ _)
  have fin : ∃ v', Mb ((w.setCell ⟨b, n, none⟩ (.pointer none)).setCell ⟨m, 1, none⟩ (.slice (some ⟨b, 0, none⟩) n cap)) m c0 v' c2 c3 ∧ SRow ((w.setCell ⟨b, n, none⟩ (.pointer none)).setCell ⟨m, 1, none⟩ (.slice (some ⟨b, 0, none⟩) n cap)) v' xs ∧ HSt m (.slice (some ⟨b, 0, none⟩) (n + 1) cap) v' w ((w.setCell ⟨b, n, none⟩ (.pointer none)).setCell ⟨m, 1, none⟩ (.slice (some ⟨b, 0, none⟩) n cap)) := by
    refine ⟨_, hm1.set _, ⟨?_, fun x hx => ?_⟩, ⟨(st1.mono (fun k _ e => .inr (by rw [e]; rfl))).trans (st2.mono (fun k _ e => .inl e)), fun k hk => .inl hk⟩⟩
    · subst hn
      exact row_kept hr1 st2 (fun k hk e => by cases hk; exact hbm e)
    · have hx' := h.st x (List.mem_append_left _ hx)
      have h1 : StAt (w.setCell ⟨b, n, none⟩ (.pointer none)) x := (st1.block x.a (Array.getElem?_eq_some_iff.1 hx').1 (h.apart rfl hx')).trans hx'
      exact (st2.block x.a (Array.getElem?_eq_some_iff.1 h1).1 (hm1.st h1)).trans h1
  have HF := Hid.mk fin
  have hmi : ∀ (W : World), (Instr.makeInterface 94 (.pointer (some ⟨s.a, 0, none⟩))).run Try.prog W = .ok (.iface 94 (.pointer (some ⟨s.a, 0, none⟩))) W := fun W => by kernel_rfl
  obtain ⟨hw1, hw2⟩ := wr_n (n := n) (by omega)
  have i1 : (n : Int) < ((n + 1 : Nat) : Int) := by omega
  have i1' : (n : Int) < (n : Int) + 1 := by omega
  have i2 : (n : Int) ≤ (cap : Int) := by omega
  have i0 : (0 : Int) ≤ (n : Int) := by omega
  clear st1 hm1 hr1 st2 fin hm h ho hlen hat hn hl
  go_enter Try.func103, Try.ntmps103
  go_wp2
  go_ret
  exact ⟨rfl, HF.out⟩
/-- The merger's heap holds these, in this order. -/
def HM (m : Nat) (c0 c2 c3 : Value) (xs : List St) (W : World) : Prop := ∃ av, Mb W m c0 av c2 c3 ∧ SRow W av xs ∧ xs.length ≤ 4096
/-- What stays while the heap is worked on: all blocks but the merger's and its row's. -/
structure FrM (m : Nat) (A B : World) : Prop where
  os : B.os = A.os
  tape : B.tape = A.tape
  output : B.output = A.output
  size : A.heap.size ≤ B.heap.size
  block : ∀ k, k < A.heap.size → k ≠ m → (∀ av, A.cell? ⟨m, 1, none⟩ = some av → av.ownBlock ≠ some k) → B.heap[k]? = A.heap[k]?
  loc : ∀ k av, B.cell? ⟨m, 1, none⟩ = some av → av.ownBlock = some k → (∃ av', A.cell? ⟨m, 1, none⟩ = some av' ∧ av'.ownBlock = some k) ∨ A.heap.size ≤ k
theorem FrM.refl (m : Nat) (A : World) : FrM m A A := ⟨rfl, rfl, rfl, Nat.le_refl _, fun _ _ _ _ => rfl, fun k av h1 h2 => .inl ⟨av, h1, h2⟩⟩
theorem FrM.trans {m : Nat} {A B C : World} (h : FrM m A B) (k : FrM m B C) : FrM m A C :=
  ⟨k.os.trans h.os, k.tape.trans h.tape, k.output.trans h.output, Nat.le_trans h.size k.size,
    fun i hi hm hA => (k.block i (Nat.lt_of_lt_of_le hi h.size) hm (fun av hB he => by
      rcases h.loc i av hB he with ⟨av', h1, h2⟩ | h1
      · exact hA av' h1 h2
      · omega)).trans (h.block i hi hm hA),
    fun i av hC he => by
      rcases k.loc i av hC he with ⟨av', h1, h2⟩ | h1
      · exact h.loc i av' h1 h2
      · exact .inr (Nat.le_trans h.size h1)⟩
theorem FrM.of {m : Nat} {c0 av c2 c3 v' : Value} {w w' : World} (hm : Mb w m c0 av c2 c3) (hm' : Mb w' m c0 v' c2 c3) (h : HSt m av v' w w') : FrM m w w' :=
  ⟨h.stay.os, h.stay.tape, h.stay.output, h.stay.size, fun k hk hne hA => h.stay.block k hk (fun e => e.elim hne (fun e => hA av hm.cell.1 e)),
    fun k u hu he => by
      rw [hm'.cell.1] at hu; cases hu
      exact (h.loc k he).imp (fun e => ⟨av, hm.cell.1, e⟩) id⟩
theorem FrM.below {m : Nat} {c0 av c2 c3 : Value} {w w' : World} (hm : Mb w m c0 av c2 c3) (h : Below w.heap.size w w') : FrM m w w' :=
  ⟨h.os, h.tape, h.output, h.size, fun k hk _ _ => h.block k hk, fun k u hu he => by
    rw [cell_lat h hm.cell.1] at hu; cases hu
    exact .inl ⟨av, hm.cell.1, he⟩⟩
theorem Mb.below {w w' : World} {m : Nat} {c0 av c2 c3 : Value} (hm : Mb w m c0 av c2 c3) (h : Below w.heap.size w w') : Mb w' m c0 av c2 c3 := (h.block m (Array.getElem?_eq_some_iff.1 hm).1).trans hm
theorem SRow.below {w w' : World} {v : Value} {xs : List St} (hs : SRow w v xs) (h : Below w.heap.size w w') : SRow w' v xs := hs.keep (F := fun _ => False) (.below h) (fun _ _ h => h) (fun _ _ h => h)
theorem ltAt_two (xs : List St) (i j : Nat) (hi : i < xs.length) (hj : j < xs.length) : ltAt ltS xs i j = ltS xs[i] xs[j] := ltAt_eq ltS xs i j hi hj
/-- The library's heap works on the merger's. -/
theorem hops (m : Nat) (c0 c2 c3 : Value) : HOps (.pointer (some ⟨m, 1, none⟩)) ltS (HM m c0 c2 c3) (FrM m) where
  refl := FrM.refl m
  trans := FrM.trans
  small := fun xs W ⟨av, _, _, h⟩ => by omega
  less := fun xs W i j ⟨av, hm, hr, hl⟩ hi hj => ⟨av, meth_less _ W av hm.cell.1, by
    rw [ltAt_two xs i j hi hj]
    exact (less_any xs av i j W hr hi hj (by omega)).mono fun r W' ⟨e, b⟩ => ⟨e, ⟨av, hm.below b, hr.below b, hl⟩, FrM.below hm b⟩⟩
  swap := fun xs W i j ⟨av, hm, hr, hl⟩ hi hj => ⟨av, meth_swap _ W av hm.cell.1, (swap_any xs av i j W hr hi hj (by omega)).mono fun r W' ⟨e, h1, h2⟩ => by
    have hm' : Mb W' m c0 av c2 c3 := (h2.block m (Array.getElem?_eq_some_iff.1 hm).1 (fun e => hm.apart hr.own e rfl)).trans hm
    exact ⟨e, ⟨av, hm', h1, by rw [swapL_len]; exact hl⟩, FrM.of hm hm' ⟨h2.mono (fun k _ e => .inr e), fun k hk => .inl hk⟩⟩⟩
  len := fun xs W ⟨av, hm, hr, hl⟩ => ⟨av, meth_len _ W av hm.cell.1, (len_any xs av W hr).mono fun r W' ⟨e, e2⟩ => by
    subst e2; exact ⟨e, ⟨av, hm, hr, hl⟩, FrM.refl _ _⟩⟩
theorem hops2 (m : Nat) (c0 c2 c3 : Value) : HOps2 (.pointer (some ⟨m, 1, none⟩)) (HM m c0 c2 c3) (FrM m) (fun s => .iface 94 (Pp s)) (fun s xs W => StAt W s ∧ xs.length < 4096) where
  push := fun xs W x ⟨av, hm, hr, hl⟩ ⟨hp, hq⟩ => ⟨_, meth_push _ W, (apush_any xs x m c0 av c2 c3 W hm hr hp (by omega)).mono fun r W' ⟨e, v', h1, h2, h3⟩ => ⟨e, ⟨v', h1, h2, by simp; omega⟩, FrM.of hm h1 h3⟩⟩
  pop := fun xs W x ⟨av, hm, hr, hl⟩ => ⟨_, meth_pop _ W, (apop_any xs x m c0 av c2 c3 W hm hr (by simp at hl; omega)).mono fun r W' ⟨e, v', h1, h2, h3⟩ => ⟨e, ⟨v', h1, h2, by simp at hl; omega⟩, FrM.of hm h1 h3⟩⟩
end Go.Proofs.Ytchikfabfhjkgaa
