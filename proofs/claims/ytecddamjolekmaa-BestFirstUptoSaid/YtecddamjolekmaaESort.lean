/-
  DERIVED. What is kept, told in order: slices.Clone, slices.SortFunc, list.
-/
import Derived.Test.YtecddamjolekmaaEKept
import Derived.Test.YtecddamjolekmaaSort
set_option linter.unusedVariables false
set_option linter.unusedSimpArgs false
namespace Go.Proofs.Ytecddamjolekmaa
open Go.RowKit Go.Shelf Go.Lib Go.Sort
theorem sw_heap {α : Type} [Inhabited α] (enc : α → Value) (w : World) (blk m : Nat) (d : Array α) (os : Array Obj) (k : Nat) (hk : k < w.heap.size) (hne : k ≠ blk) : (sortWorld enc w blk 0 m d os).heap[k]? = w.heap[k]? := by
  unfold sortWorld grow putRow mapBlock Sort.ahead
  show ((w.heap.modify blk _) ++ os)[k]? = _
  rw [Array.getElem?_append_left (by simpa using hk), Array.getElem?_modify, if_neg (fun h => hne h.symm)]
theorem sw_row {α : Type} [Inhabited α] (enc : α → Value) (w : World) (blk m : Nat) (d : Array α) (os : Array Obj) {cur : Array Value} {t : TypeId} {fr : Nat × Nat} (h : w.heap[blk]? = some (.cells cur t fr)) : (sortWorld enc w blk 0 m d os).heap[blk]? = some (.cells (putCells enc 0 d cur) t fr) := by
  unfold sortWorld grow putRow mapBlock Sort.ahead
  show ((w.heap.modify blk _) ++ os)[blk]? = _
  rw [Array.getElem?_append_left (by simpa using (Array.getElem?_eq_some_iff.1 h).1), Array.getElem?_modify, if_pos rfl, h]
  rfl
theorem sw_size {α : Type} [Inhabited α] (enc : α → Value) (w : World) (blk m : Nat) (d : Array α) (os : Array Obj) : w.heap.size ≤ (sortWorld enc w blk 0 m d os).heap.size := by
  unfold sortWorld grow putRow mapBlock Sort.ahead
  show _ ≤ ((w.heap.modify blk _) ++ os).size
  simp
theorem sw_stay {α : Type} [Inhabited α] (enc : α → Value) (w : World) (blk m : Nat) (d : Array α) (os : Array Obj) : Stay (fun k => k = blk) w (sortWorld enc w blk 0 m d os) :=
  ⟨rfl, rfl, rfl, sw_size enc w blk m d os, fun k hk hne => sw_heap enc w blk m d os k hk hne⟩
theorem flatK_list [Inhabited Ht] (d : Array Ht) : (flatK hC 3 d).toList = d.toList.flatMap hC := by
  apply List.ext_getElem?
  intro t
  by_cases ht : t < d.size * 3
  · have h1 : t / 3 < d.toList.length := by simp; omega
    have h2 := flat_at hC 3 enC_len d.toList (t / 3) (t % 3) h1 (by omega)
    have h3 : t / 3 * 3 + t % 3 = t := by omega
    rw [h3] at h2
    rw [h2]
    have h4 := get_flatK hC 3 d t ht
    have h5 : t < (flatK hC 3 d).size := by rw [size_flatK]; exact ht
    rw [getElem!_pos _ t h5, getElem!_pos d (t / 3) (by simpa using h1)] at h4
    rw [Array.getElem?_toList, Array.getElem?_eq_getElem h5, h4]
    have h6 : t % 3 < (hC d[t / 3]).length := by rw [enC_len]; omega
    rw [getElem!_pos _ (t % 3) h6]
    simp
  · rw [List.getElem?_eq_none (by simp; omega), List.getElem?_eq_none (by rw [flat_len3]; simp; omega)]
theorem cmp_lays [Inhabited Ht] (b : Nat) (w : World) (n : Nat) : CmpLays Try.prog 27 #[] hC 3 cpH b 0 n w := fun m os dk hs x y => (compare_any x y _).mono fun r w' ⟨e, e2⟩ => ⟨e, 0, #[.cells (hC x).toArray 28, .cells (hC y).toArray 28], by
  subst e2
  show _ = grow _ _
  unfold grow World.alloc
  simp [World.drewN]
  apply Array.ext'
  simp⟩
theorem swoH : SWO (ltOf cpH) := ⟨fun x => by unfold ltOf; rw [cpH_self]; rfl, fun x y z h1 h2 => by unfold ltOf at *; simp at *; exact cpH_tr h1 h2, fun x y z h1 h2 => by
  unfold ltOf at *
  simp at *
  have r1 := cpH_rev x y
  have r2 := cpH_rev y z
  have r3 := cpH_rev x z
  have := cpH_le (a := z) (b := y) (c := x) (by omega) (by omega)
  omega⟩
set_option maxHeartbeats 1000000 in
theorem sort_any (L X : List Ht) (v : Value) (w : World) (h : HRow w v L) (hp : L.Perm X) (hX : Srt X) (hne : L ≠ []) (hl : L.length ≤ LIM) :
    Calls Try.prog 34 #[v, cmpF] w fun r w' => r = .returned (.tuple #[]) ∧ HRow w' v X ∧ Stay (fun k => v.ownBlock = some k) w w' := by
  haveI : Inhabited Ht := ⟨e0⟩
  have hpos : 0 < L.length := List.length_pos_iff.2 hne
  obtain ⟨b, cap, rfl, -, -, -, fz⟩ := HRow.at' h 0 hpos
  let d : Array Ht := L.toArray
  have hds : d.size = L.length := by simp [d]
  have hdl : d.toList = L := by simp [d]
  have hH : HoldsK hC 3 w b 0 d := fun j hj => by
    have hfl := flatK_list d
    rw [hdl] at hfl
    rw [size_flatK, hds] at hj
    have hj2 : j < (flatK hC 3 d).size := by rw [size_flatK, hds]; exact hj
    rw [Nat.zero_add]
    refine ⟨?_, fz j⟩
    rw [World.ownsRow.cellAt h j hj, ← hfl, Array.getElem?_toList, getElem!_pos _ j hj2, Array.getElem?_eq_getElem hj2]
    rfl
  have hblk : b < w.heap.size := row_lt h rfl
  have hc := AnyQ.slices_SortFunc (P := Try.prog) Try.sortL 3 (fun w => by kernel_rfl) (fun w => by kernel_rfl) hC enC_len (fun x u hu => by
    simp [hC] at hu
    rcases hu with rfl | rfl | rfl <;> rfl) cpH swoH 27 #[] b 0 cap d w (fun args W => by kernel_rfl) (cmp_lays b w d.size) hH hblk (by rw [hds]; unfold LIM at hl; omega)
  rw [hds] at hc
  refine hc.mono ?_
  rintro r w' ⟨rfl, d', n, os, hpm, hsrt, rfl⟩
  have hsz : d'.size = L.length := hpm.1.trans hds
  have hperm : d'.toList.Perm L := by
    have h1 := hpm.2.2
    have e1 : d'.extract 0 L.length = d' := by rw [← hsz]; simp
    have e2 : d.extract 0 L.length = d := by rw [← hds]; simp
    rw [e1, e2, hdl] at h1
    exact h1
  have hnd : d'.toList.Nodup := ((hperm.trans hp).nodup_iff).2 hX.nodup
  have hs' : Srt d'.toList := by
    unfold Srt
    rw [List.pairwise_iff_getElem]
    intro i j hi hj hij
    have hj' : j < d'.size := by simpa using hj
    have := hsrt i j (Nat.zero_le _) hij (by rw [← hsz]; exact hj')
    rw [getElem!_pos d' i (by omega), getElem!_pos d' j hj'] at this
    unfold ltOf at this
    simp at this
    have hne' : d'.toList[i] ≠ d'.toList[j] := (List.pairwise_iff_getElem.1 hnd) i j hi hj hij
    have z := cpH_zero d'.toList[i] d'.toList[j]
    have r := cpH_rev d'.toList[i] d'.toList[j]
    have : 0 ≤ cpH d'.toList[j] d'.toList[i] := by simpa using this
    have : cpH d'.toList[i] d'.toList[j] ≠ 0 := fun e => hne' (z.1 e)
    omega
  have hx : d'.toList = X := srt_ext hs' hX (fun x => (hperm.trans hp).mem_iff)
  refine ⟨rfl, ?_, Stay.mono (sw_stay id w b n (flatK hC 3 d') os) (fun k _ e => by rw [e]; rfl)⟩
  show World.ownsRow _ 0 28 3 _ X.length _
  have hXl : X.length = L.length := hp.length_eq.symm
  rcases h.2 with ⟨h0, _⟩ | ⟨g, c, cur, hv, k1, k2, k3, k4, k5, k6⟩
  · simp at h0
  · simp only [Value.slice.injEq, Option.some.injEq, Addr.mk.injEq] at hv
    obtain ⟨⟨rfl, -, -⟩, -, rfl⟩ := hv
    rw [hXl]
    refine ⟨by rw [flat_len3, hXl], .inr ⟨b, cap, putCells id 0 (flatK hC 3 d') cur, rfl, k1, sw_row id w b n (flatK hC 3 d') os k2, k3, k4, by simp [putCells, k5], ?_⟩⟩
    have hfl := flatK_list d'
    rw [hx] at hfl
    apply List.ext_getElem?
    intro t
    by_cases ht : t < L.length * 3
    · have htc : t < cur.size := by rw [k5]; omega
      have htd : t < (flatK hC 3 d').size := by rw [size_flatK, hsz]; exact ht
      rw [List.getElem?_take_of_lt (by omega), ← hfl]
      simp only [putCells, Array.toList_mapIdx, List.getElem?_mapIdx, Nat.zero_le, true_and, Nat.zero_add, Nat.sub_zero]
      rw [Array.getElem?_toList, Array.getElem?_eq_getElem htc]
      simp only [Option.map_some, htd, if_true]
      rw [Array.getElem?_toList, Array.getElem?_eq_getElem htd, getElem!_pos _ t htd]
      rfl
    · rw [List.getElem?_eq_none (by rw [List.length_take]; omega), List.getElem?_eq_none (by rw [flat_len3, hXl]; omega)]
theorem wpList_append_eq {P : Program} {w : World} {ops : Array Oper} {rest : List Oper} {o : Oper} {a : Act} {Q : Exit → Act → World → Prop} (hgd : o.guard = none) (s x : Operand) (t u : TypeId)
    (ho : o.op = .call { callee := .builtin .append, args := #[s, x], argTypes := #[t, u] }) (v xv v' : Value) (w' : World) (hs : a.eval s = v) (hx : a.eval x = xv) (hr : (Builtin.append_ #[t, u] o.type #[v, xv]).run P w = .ok v' w')
    (h : wpList P ops Q rest (a.put o.dst v') w') : wpList P ops Q (o :: rest) a w := by
  refine wpList_plain hgd fun K hK => ?_
  unfold Oper.wp execOp
  simp only [ho, resolve, invoke, builtin, Sem.run_bind, Sem.run_pure, Result.andThen_ok, List.map_toArray, List.map_cons, List.map_nil, hs, hx, hr]
  exact hK _ _ h
set_option maxRecDepth 100000 in
theorem clone_hits (xs : List Ht) (v : Value) (w : World) (h : HRow w v xs) (hl : xs.length ≤ LIM) :
    Calls Try.prog 33 #[v] w fun r w' => ∃ v', r = .returned v' ∧ HRow w' v' xs ∧ (∀ k, v'.ownBlock = some k → w.heap.size ≤ k) ∧ Below w.heap.size w w' := by
  obtain ⟨i0, hi0, hz0, hz1, hz2⟩ := info_parts infoHt
  rcases h.2 with ⟨h0, hn⟩ | ⟨sb, c, cur, hv, k1, k2, k3, k4, k5, k6⟩
  · subst h0
    have hx : xs = [] := List.eq_nil_of_length_eq_zero hn
    subst hx
    have hq : ∀ (w : World), (binOp .eql 24 (.slice none 0 0) (.slice none 0 0)).run Try.prog w = .ok (.bool true) w := fun w => Lib.run_eql_slice_nil w _ _ none 0 0 0 0 Try.underlying24
    have HH := Hid.mk h
    clear h hn hi0 hz0 hz1 hz2
    go_enter Try.func33, Try.ntmps33
    go_wp2
    go_ret
    exact ⟨_, rfl, HH.out, fun k hk => (by cases hk), Below.refl _ _⟩
  · subst hv
    obtain ⟨n, hn⟩ : ∃ n, n = xs.length := ⟨_, rfl⟩
    have hq : ∀ (w : World), (binOp .eql 24 (.slice (some ⟨sb, 0, none⟩) n c) (.slice none 0 0)).run Try.prog w = .ok (.bool false) w := fun w => Lib.run_eql_slice_nil w _ _ (some ⟨sb, 0, none⟩) n c 0 0 Try.underlying24
    have b0 : Below w.heap.size w (w.alloc (.cells #[] 28)) := (Below.refl _ w).alloc (Nat.le_refl _) _
    have ho0 : (w.alloc (.cells #[] 28)).ownsRow 0 28 3 (.slice (some ⟨w.heap.size, 0, none⟩) 0 0) 0 [] := ⟨rfl, .inr ⟨w.heap.size, 0, #[], rfl, Nat.zero_le _, heap_alloc_last w _, Nat.le_refl _, Nat.zero_le _, rfl, rfl⟩⟩
    unfold LIM at hl
    obtain ⟨v', w', hap, ho, hg, -, hloc⟩ := run_append_own_at (P := Try.prog) (w.alloc (.cells #[] 28)) 0 24 24 28 i0 _ 3 32 Try.underlying24 hi0 hz0 hz1 hz2 rfl (by decide) _ 0 _ ho0 ⟨sb, 0, none⟩ xs.length c (xs.flatMap hC) h.1 (fun j u hu => by
      have h2 := World.ownsRow.cells h (g := sb) rfl j u hu
      exact cell_lat b0 h2) (one3 xs) (by unfold maxLen; omega) (by omega) (Nat.zero_le _)
    have st : Stay (fun k => k = w.heap.size) (w.alloc (.cells #[] 28)) w' := .grown hg (fun k hk => by cases hk; rfl)
    have bb : Below w.heap.size w w' := b0.trans (st.toBelow (fun k hk e => by omega) b0.size)
    have hl : ∀ k, v'.ownBlock = some k → w.heap.size ≤ k := fun k hk => by
      rcases hloc with e | e
      · rw [e] at hk; cases hk; exact Nat.le_refl _
      · rw [e] at hk; cases hk; exact b0.size
    rw [Nat.zero_add, List.nil_append] at ho
    have HH := Hid.mk (And.intro ho (And.intro hl bb))
    rw [← hn] at hap ⊢
    clear h b0 ho0 ho hg hloc st bb hl hi0 hz0 hz1 hz2 k6 hn k1 k2 k3 k4 k5
    go_enter Try.func33, Try.ntmps33
    go_wp2_with (at_builtin; refine wpList_append_eq rfl _ _ _ _ rfl _ _ _ _ rfl rfl hap ?_; clear hap)
    go_ret
    exact ⟨v', rfl, HH.out⟩
end Go.Proofs.Ytecddamjolekmaa
