/-
  DERIVED. The document's own counts: how many texts each block has.
-/
import Derived.Test.YtgloigegmcglfaaDoorBRef4
import Derived.Test.YtgloigegmcglfaaDoorBWrite1
set_option linter.unusedVariables false
set_option linter.unusedSimpArgs false
namespace Go.Proofs.YtgloigegmcglfaaDoor
open Go.RowKit Go.Proofs.SealMath
def IV (n : Nat) : Value := .int .i64 n
abbrev tid : List UInt8 → List UInt8 := fun t => t
/-- What is known at place i. -/
def FS (T : List (List UInt8)) (i : Nat) (outs : List Nat) (room : Nat) : Prop :=
  (i = 0 ∧ outs = [] ∧ room = 0) ∨ ∃ pre a cur, cur ≠ [] ∧ pk tid T = pre ++ pkA tid a cur (T.drop i) ∧ ln tid cur ≤ 4096 ∧ room = 4096 - ln tid cur ∧ outs = pre.map (·.2.length) ++ [cur.length]
theorem FS.next {T : List (List UInt8)} {i : Nat} {outs : List Nat} {room : Nat} (h : FS T i outs room) (hi : i < T.length) (h1 : 1 ≤ T[i].length) (h2 : T[i].length ≤ 4096) (hr : room < T[i].length) : FS T (i + 1) (outs ++ [1]) (4096 - T[i].length) := by
  have hd : T.drop i = T[i] :: T.drop (i + 1) := List.drop_eq_getElem_cons hi
  have ht : (tid T[i]).length = T[i].length := rfl
  right
  rcases h with ⟨rfl, rfl, rfl⟩ | ⟨pre, a, cur, hne, heq, hle, rfl, rfl⟩
  · refine ⟨[], 0, [T[0]], by simp, ?_, by simpa [ln] using h2, by simp [ln], by simp⟩
    unfold pk
    have : T = T[0] :: T.drop 1 := by simpa using hd
    conv => lhs; rw [this]
    rw [pkA, if_neg (by simp [ln]; omega)]; rfl
  · refine ⟨pre ++ [(a, cur)], a + cur.length, [T[i]], by simp, ?_, by simpa [ln] using h2, by simp [ln], by simp⟩
    rw [heq, hd, pkA, if_pos (by omega)]; simp
theorem FS.more {T : List (List UInt8)} {i : Nat} {outs : List Nat} {room : Nat} (h : FS T i outs room) (hi : i < T.length) (h1 : 1 ≤ T[i].length) (hr : T[i].length ≤ room) : ∃ xs m, outs = xs ++ [m] ∧ m ≤ T.length ∧ FS T (i + 1) (xs ++ [m + 1]) (room - T[i].length) := by
  have hd : T.drop i = T[i] :: T.drop (i + 1) := List.drop_eq_getElem_cons hi
  have ht : (tid T[i]).length = T[i].length := rfl
  rcases h with ⟨rfl, rfl, rfl⟩ | ⟨pre, a, cur, hne, heq, hle, rfl, rfl⟩
  · omega
  · have hm : cur.length ≤ T.length := by
      have h1 := pk_flat tid T
      rw [heq, List.map_append, List.flatten_append, pkA_flat] at h1
      have h2 := congrArg List.length h1
      simp only [List.length_append] at h2
      omega
    refine ⟨_, _, rfl, hm, .inr ⟨pre, a, cur ++ [T[i]], by simp, ?_, by rw [ln_snoc]; omega, by rw [ln_snoc]; omega, by simp⟩⟩
    rw [heq, hd, pkA, if_neg (by omega)]
theorem FS.end {T : List (List UInt8)} {outs : List Nat} {room : Nat} (h : FS T T.length outs room) : outs = (pk tid T).map (·.2.length) := by
  rcases h with ⟨h0, rfl, rfl⟩ | ⟨pre, a, cur, hne, heq, hle, rfl, rfl⟩
  · have : T = [] := List.eq_nil_of_length_eq_zero h0
    rw [this]; rfl
  · rw [heq, List.drop_length, pkA]
    have : cur.isEmpty = false := by cases cur <;> simp_all
    rw [this]; simp
theorem FS.len {T : List (List UInt8)} {i : Nat} {outs : List Nat} {room : Nat} (h : FS T i outs room) (hl : ∀ t ∈ T, t.length ≤ 4096) : outs.length ≤ T.length ∧ room ≤ 4096 := by
  rcases h with ⟨rfl, rfl, rfl⟩ | ⟨pre, a, cur, hne, heq, hle, rfl, rfl⟩
  · exact ⟨by simp, by omega⟩
  · refine ⟨?_, by omega⟩
    have h1 := pk_len tid T hl
    have h2 : pkA tid a cur (T.drop i) ≠ [] := fun e => by
      have := pkA_flat tid (T.drop i) a cur
      rw [e] at this
      simp at this
      exact hne this.1
    have h3 : 0 < (pkA tid a cur (T.drop i)).length := List.length_pos_iff.2 h2
    rw [heq, List.length_append] at h1
    simp; omega
theorem infoI3 : (Tryd.prog.info? 3).map (fun i => (i.zero, i.size, i.bytes)) = some (some (.int .i64 0), 1, 8) := by kernel_rfl
theorem int_app (W : World) (xs : List Nat) (v : Value) (h : W.ownsRow 0 3 1 v xs.length (xs.map IV)) (y : Nat) (hb : xs.length + 1 ≤ 4194304) :
    ∃ v' w', (Builtin.append_ #[38, 38] 38 #[v, .slice (some ⟨W.heap.size, 0, none⟩) 1 1]).run Tryd.prog (W.alloc (.cells #[IV y] 3)) = .ok v' w' ∧ w'.ownsRow 0 3 1 v' (xs ++ [y]).length ((xs ++ [y]).map IV) ∧ Stay (fun k => v.ownBlock = some k) W w' ∧
      (∀ k, v'.ownBlock = some k → v.ownBlock = some k ∨ W.heap.size ≤ k) := by
  obtain ⟨i0, hi, hz0, hz1, hz2⟩ := info_parts infoI3
  have st0 : Stay (fun k => v.ownBlock = some k) W (W.alloc (.cells #[IV y] 3)) := (Stay.refl _ W).alloc _
  obtain ⟨v', w', hr, ho, hg, _, hloc⟩ := run_append_own_at (P := Tryd.prog) (W.alloc (.cells #[IV y] 3)) 0 38 38 3 i0 _ 1 8 Tryd.underlying38 hi hz0 hz1 hz2 rfl (by decide) v xs.length _ (h.alloc _) ⟨W.heap.size, 0, none⟩ 1 1 [IV y] rfl (new_cells W [IV y] 3) (fun u hu => by simp at hu; subst hu; rfl) (by unfold maxLen; omega) (by omega) (Nat.zero_le _)
  refine ⟨v', w', hr, by rw [List.length_append, List.map_append]; exact ho, st0.trans (.grown hg (fun k hk => hk)), fun k hk => ?_⟩
  rcases hloc with hl | hl
  · exact .inl (hl ▸ hk)
  · rw [hl] at hk; cases hk; exact .inr (by simp)
theorem int_set {W : World} {xs : List Nat} {m : Nat} {g cap : Nat} (h : W.ownsRow 0 3 1 (.slice (some ⟨g, 0, none⟩) (xs.length + 1) cap) (xs.length + 1) ((xs ++ [m]).map IV)) (y : Nat) :
    (W.setCell ⟨g, xs.length, none⟩ (IV y)).ownsRow 0 3 1 (.slice (some ⟨g, 0, none⟩) (xs.length + 1) cap) (xs.length + 1) ((xs ++ [y]).map IV) ∧ W.cell? ⟨g, xs.length, none⟩ = some (IV m) ∧ W.frozen? ⟨g, xs.length, none⟩ = false := by
  have hc := h.cells (g := g) rfl xs.length (IV m) (by simp)
  have e1 : (⟨g, 0, none⟩ : Addr).add xs.length = ⟨g, xs.length, none⟩ := by unfold Addr.add; split <;> simp_all
  rw [e1] at hc
  rcases h.2 with ⟨h1, h2⟩ | ⟨g', cap', cur, h1, h2, h3, h4, h5, h6, h7⟩
  · cases h1
  · simp only [Value.slice.injEq, Option.some.injEq, Addr.mk.injEq] at h1
    obtain ⟨⟨rfl, -, -⟩, -, rfl⟩ := h1
    refine ⟨⟨by simp, .inr ⟨g, cap, _, rfl, h2, heap_setCell_same W g xs.length _ _ _ h3, h4, h5, by simpa using h6, ?_⟩⟩, hc, by simp [World.frozen?, h3]⟩
    have h8 : cur.toList.take (xs.length + 1) = xs.map IV ++ [IV m] := by simpa using h7
    rw [Array.toList_setIfInBounds, Nat.mul_one, List.take_set, h8, List.set_append_right _ _ (by simp)]
    simp
set_option maxRecDepth 100000 in
set_option maxHeartbeats 1000000 in
theorem filled_any (T : List (List UInt8)) (v : Value) (w : World) (h : TAt w v T) (hl : T.length ≤ 4000000) (hT : ∀ t ∈ T, 1 ≤ t.length ∧ t.length ≤ 4096) :
    Calls Tryd.prog 38 #[v] w fun r w' => ∃ v', r = .returned v' ∧ w'.ownsRow 0 3 1 v' ((pk tid T).map (·.2.length)).length (((pk tid T).map (·.2.length)).map IV) ∧ (∀ k, v'.ownBlock = some k → w.heap.size ≤ k) ∧ Below w.heap.size w w' := by
  obtain ⟨va, cap, rfl, hcap, hc⟩ := h.form
  have HC := Hid.mk hc
  have HT := Hid.mk hT
  clear h hc hT
  go_enter Tryd.func38, Tryd.ntmps38
  go_wp2
  go_loopw [3, 4, 5] (fun ov rv iv wr => ∃ (i room : Nat) (outs : List Nat), i ≤ T.length ∧ iv = .int .i64 i ∧ rv = .int .i64 room ∧ FS T i outs room ∧ wr.ownsRow 0 3 1 ov outs.length (outs.map IV) ∧ (∀ j, ov.ownBlock = some j → w.heap.size ≤ j) ∧ Below w.heap.size w wr) (fun _ _ iv _ => T.length - (intOf iv).toNat)
  case atStart => exact ⟨0, 0, [], Nat.zero_le _, rfl, rfl, .inl ⟨rfl, rfl, rfl⟩, ⟨rfl, .inl ⟨rfl, rfl⟩⟩, (fun j h => by cases h), Below.refl _ _⟩
  case round =>
    obtain ⟨i, room, outs, hi1, rfl, rfl, hFS, hrow, hlo, hb⟩ := hrel
    by_cases hlt : i < T.length
    · obtain ⟨g, hg, hcg⟩ := HC.out i hlt
      subst hg
      obtain ⟨ht1, ht2⟩ := HT.out T[i] (List.getElem_mem hlt)
      obtain ⟨hol, hroom⟩ := hFS.len (fun t ht => (HT.out t ht).2)
      have hcw : wr.cell? ⟨g, i, none⟩ = some (.string ⟨T[i].toArray⟩) := cell_lat hb hcg
      have hn := fun hr => hFS.next hlt ht1 ht2 hr
      have hm := fun hr => hFS.more hlt ht1 hr
      obtain ⟨X, hX⟩ : ∃ X, X = T[i] := ⟨_, rfl⟩
      rw [← hX] at hcw hn hm ht1 ht2
      have hXs : (⟨X.toArray⟩ : ByteArray).size = X.length := by show X.toArray.size = _; simp
      have i1 : (i : Int) < (T.length : Int) := by omega
      have hgw : g < w.heap.size := World.block_lt_of_cell? w _ hcg
      clear hX hcg hFS
      by_cases hr : room < X.length
      · have hF := hn hr
        have hr' : (room : Int) < (X.length : Int) := by omega
        obtain ⟨v', W4, hr4, ho4, s4, hloc4⟩ := int_app wr outs _ hrow 0 (by omega)
        have b4 : Below w.heap.size w W4 := hb.trans (s4.toBelow (fun k hk e => by have := hlo k e; omega) hb.size)
        have hlo4 : ∀ k, v'.ownBlock = some k → w.heap.size ≤ k := fun k hk => by
          rcases hloc4 k hk with h1 | h1
          · exact hlo k h1
          · have := hb.size; omega
        have hll : (outs ++ [0]).length = outs.length + 1 := by simp
        rw [hll] at ho4
        obtain ⟨g4, c4, rfl⟩ : ∃ g4 c4, v' = .slice (some ⟨g4, 0, none⟩) (outs.length + 1) c4 := by
          rcases ho4.2 with ⟨_, h2⟩ | ⟨g4, c4, _, h1, _⟩
          · omega
          · exact ⟨g4, c4, h1⟩
        obtain ⟨row5, cl5, fz5⟩ := int_set ho4 1
        have hg4 := hlo4 g4 rfl
        have s5 : Stay (· = g4) W4 (W4.setCell ⟨g4, outs.length, none⟩ (IV 1)) := (Stay.refl (· = g4) W4).setCell (p := ⟨g4, outs.length, none⟩) (fun _ => rfl) _
        have b5 : Below w.heap.size w (W4.setCell ⟨g4, outs.length, none⟩ (IV 1)) := b4.trans (s5.toBelow (fun k hk e => by omega) b4.size)
        have hcw0 := (hb.cell (p := ⟨g, i, none⟩) hgw).symm.trans hcw
        have hcw5 := (b5.cell (p := ⟨g, i, none⟩) hgw).trans hcw0
        have e0 : IV 0 = .int .i64 0 := rfl
        have e1 : IV 1 = .int .i64 1 := rfl
        rw [e0] at hr4 cl5
        rw [e1] at hcw5
        have hw3 : IntKind.i64.wrap (outs.length : Int) = outs.length := by rw [IntKind.wrap_i64]; omega
        have hw4 : (outs.length : Int) < (outs.length : Int) + 1 := by omega
        obtain ⟨oa, oc, hov, -⟩ := slice_form hrow
        rw [hov] at hr4 ⊢
        have HR := Hid.mk (And.intro row5 (And.intro hlo4 b5))
        have HF := Hid.mk hF
        clear row5 hlo4 b5 b4 s4 s5 hloc4 ho4 hn hm hF hov hrow hlo hb hll hg4 hcw0 e0 e1
        have hXl : X.length ≤ 4096 := ht2
        go_wp2_with (at_builtin; refine wpList_append_eq rfl _ _ _ _ rfl _ _ _ _ rfl rfl hr4 ?_)
        clear hw3 hw4
        refine ⟨⟨i + 1, 4096 - X.length, outs ++ [1], hlt, ival (by omega), ival (by omega), HF.out, by rw [List.length_append]; exact HR.out.1, HR.out.2.1, HR.out.2.2⟩, by simp only [intOf]; omega⟩
      · obtain ⟨xs, m, hxm, hmT, hF⟩ := hm (by omega)
        subst hxm
        have hr' : (X.length : Int) ≤ (room : Int) := by omega
        have hll : (xs ++ [m]).length = xs.length + 1 := by simp
        rw [hll] at hrow hol
        obtain ⟨g4, c4, hov⟩ : ∃ g4 c4, u3 = .slice (some ⟨g4, 0, none⟩) (xs.length + 1) c4 := by
          rcases hrow.2 with ⟨_, h2⟩ | ⟨g4, c4, _, h1, _⟩
          · omega
          · exact ⟨g4, c4, h1⟩
        subst hov
        obtain ⟨row5, cl5, fz5⟩ := int_set hrow (m + 1)
        have hg4 := hlo g4 rfl
        have s5 : Stay (· = g4) wr (wr.setCell ⟨g4, xs.length, none⟩ (IV (m + 1))) := (Stay.refl (· = g4) wr).setCell (p := ⟨g4, xs.length, none⟩) (fun _ => rfl) _
        have b5 : Below w.heap.size w (wr.setCell ⟨g4, xs.length, none⟩ (IV (m + 1))) := hb.trans (s5.toBelow (fun k hk e => by omega) hb.size)
        have hcw0 := (hb.cell (p := ⟨g, i, none⟩) hgw).symm.trans hcw
        have hcw5 := (b5.cell (p := ⟨g, i, none⟩) hgw).trans hcw0
        have e0 : IV m = .int .i64 m := rfl
        have e1 : IV (m + 1) = .int .i64 ((m : Int) + 1) := rfl
        rw [e0] at cl5
        rw [e1] at hcw5 b5 row5
        have hw3 : IntKind.i64.wrap (xs.length : Int) = xs.length := by rw [IntKind.wrap_i64]; omega
        have hw4 : (xs.length : Int) < (xs.length : Int) + 1 := by omega
        have hmi : (m : Int) ≤ 4000000 := by omega
        have HR := Hid.mk (And.intro row5 (And.intro hlo b5))
        have HF := Hid.mk hF
        clear row5 hlo b5 s5 hn hm hF hrow hb hll hg4 hcw0 e0 e1
        have hXl : X.length ≤ 4096 := ht2
        go_wp2
        clear hw3 hw4
        refine ⟨⟨i + 1, room - X.length, xs ++ [m + 1], hlt, ival (by omega), ival (by omega), HF.out, by rw [List.length_append]; exact HR.out.1, HR.out.2.1, HR.out.2.2⟩, by simp only [intOf]; omega⟩
    · have e1 : i = T.length := by omega
      subst e1
      have ho := hFS.end
      obtain ⟨oa, oc, hov, -⟩ := slice_form hrow
      rw [ho] at hrow
      have HR := Hid.mk (And.intro hrow (And.intro hlo hb))
      have HV := Hid.mk hov
      rw [hov]
      clear hFS ho hrow hlo hb hov
      go_wp2
      go_ret
      exact ⟨_, rfl, by rw [← HV.out]; exact HR.out.1, by rw [← HV.out]; exact HR.out.2.1, HR.out.2.2⟩
end Go.Proofs.YtgloigegmcglfaaDoor
