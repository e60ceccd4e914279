/-
  DERIVED. Lists of pairs in memory; the laws' width and fit.
-/
import Derived.Test.YtekgppmhcbmpeaaDoorGIns
set_option linter.unusedVariables false
set_option linter.unusedSimpArgs false
namespace Go.Proofs.YtekgppmhcbmpeaaDoor
open Go.RowKit
theorem pC_len (e : Pr) : (pC e).length = 2 := rfl
theorem row_pr {w : World} {g off : Nat} {l : List Pr} (h : RowAt w g off (l.flatMap pC)) {A : World} (hA : A.heap[g]? = w.heap[g]?) (i : Nat) (hi : i < l.length) :
    A.cell? ⟨g, off + i * 2, none⟩ = some (.int .i64 l[i].i) ∧ A.cell? ⟨g, off + i * 2 + 1, none⟩ = some (.string l[i].c) := by
  have hc : ∀ o, A.cell? ⟨g, o, none⟩ = w.cell? ⟨g, o, none⟩ := fun o => by simp [World.cell?, hA]
  have hj : ∀ j v, j < 2 → (pC l[i])[j]? = some v → A.cell? ⟨g, off + i * 2 + j, none⟩ = some v := fun j v hj hv => by
    rw [hc, Nat.add_assoc]
    exact h _ _ (by rw [flat_at pC 2 pC_len l i j hi hj]; exact hv)
  exact ⟨hj 0 _ (by omega) rfl, hj 1 _ (by omega) rfl⟩
/-- A list of pairs, as a slice that may lie anywhere. -/
structure PLAt (w : World) (la : Option Addr) (l : List Pr) : Prop where
  at' : l ≠ [] → ∃ g off, la = some ⟨g, off, none⟩ ∧ RowAt w g off (l.flatMap pC)
theorem PLAt.below {w w' : World} {la : Option Addr} {l : List Pr} (h : PLAt w la l) (b : Below w.heap.size w w') : PLAt w' la l := ⟨fun hn => by
  obtain ⟨g, off, e, hr⟩ := h.at' hn
  exact ⟨g, off, e, fun j x hx => cell_lat b (hr j x hx)⟩⟩
theorem PLAt.pr {w W : World} {la : Option Addr} {l : List Pr} (h : PLAt w la l) (b : Below w.heap.size w W) (i : Nat) (hi : i < l.length) : ∃ g off, la = some ⟨g, off, none⟩ ∧ W.cell? ⟨g, off + i * 2, none⟩ = some (.int .i64 l[i].i) ∧ W.cell? ⟨g, off + i * 2 + 1, none⟩ = some (.string l[i].c) := by
  obtain ⟨g, off, e, hr⟩ := h.at' (fun e => by rw [e] at hi; simp at hi)
  have hlt : g < w.heap.size := by
    obtain ⟨c0, -⟩ := row_pr hr (A := w) rfl i hi
    exact World.block_lt_of_cell? w _ c0
  obtain ⟨c0, c1⟩ := row_pr hr (b.block g hlt) i hi
  exact ⟨g, off, e, c0, c1⟩
theorem infoPr : (Tryd.prog.info? 56).map (fun i => (i.zero, i.size, i.bytes)) = some (some (.agg #[.int .i64 0, .string ⟨#[]⟩]), 2, 24) := by kernel_rfl
theorem flat_len2 (l : List Pr) : (l.flatMap pC).length = l.length * 2 := by
  induction l with
  | nil => rfl
  | cons x l ih => rw [List.flatMap_cons, List.length_append, ih, pC_len, List.length_cons]; omega
theorem one2 (l : List Pr) : ∀ u ∈ l.flatMap pC, u.oneCell' = true := fun u hu => by
  obtain ⟨e, _, he⟩ := List.mem_flatMap.1 hu
  simp [pC] at he
  rcases he with rfl | rfl <;> rfl
/-- A list of pairs of the call's own. -/
def PRow (W : World) (v : Value) (L : List Pr) : Prop := W.ownsRow 0 56 2 v L.length (L.flatMap pC)
theorem PRow.below {w w' : World} {v : Value} {L : List Pr} (h : PRow w v L) (b : Below w.heap.size w w') : PRow w' v L := row_kept (F := fun _ => False) h (.below b) (fun _ _ h => h)
theorem PRow.nil (W : World) : PRow W (.slice none 0 0) [] := ⟨by simp, .inl ⟨rfl, rfl⟩⟩
/-- One pair, written out in a new block, is put behind. -/
theorem pair_app1 (W : World) (l : List Pr) (v : Value) (h : PRow W v l) (x : Pr) (hb : (l.length + 1) * 24 ≤ 140737488355328) :
    ∃ a c w', (Builtin.append_ #[22, 22] 22 #[v, .slice (some ⟨W.heap.size, 0, none⟩) 1 1]).run Tryd.prog (W.alloc (.cells (pC x).toArray 56)) = .ok (.slice a (l.length + 1) c) w' ∧ PRow w' (.slice a (l.length + 1) c) (l ++ [x]) ∧ Stay (fun k => v.ownBlock = some k) W w' ∧ (∀ k, (Value.slice a (l.length + 1) c).ownBlock = some k → v.ownBlock = some k ∨ W.heap.size ≤ k) := by
  obtain ⟨i0, hi, hz0, hz1, hz2⟩ := info_parts infoPr
  have h' : (W.alloc (.cells (pC x).toArray 56)).ownsRow 0 56 2 v l.length (l.flatMap pC) := World.ownsRow.alloc h _
  obtain ⟨v', w', hrun, ho, hg, _, hloc⟩ := run_append_own_at (P := Tryd.prog) (W.alloc (.cells (pC x).toArray 56)) 0 22 22 56 i0 _ 2 24 Tryd.underlying22 hi hz0 hz1 hz2 rfl (by decide) v l.length _ h' ⟨W.heap.size, 0, none⟩ 1 1 (pC x) rfl (fun j u hu => new_cells W (pC x) 56 j u hu) (fun u hu => by
    simp [pC] at hu
    rcases hu with rfl | rfl <;> rfl) (by unfold maxLen; omega) (by omega) (Nat.zero_le _)
  obtain ⟨a, c, hv, -⟩ := slice_form ho
  subst hv
  refine ⟨a, c, w', hrun, ?_, ((Stay.refl _ W).alloc _).trans (.grown hg (fun k hk => hk)), fun k hk => ?_⟩
  · unfold PRow
    rw [List.length_append, List.flatMap_append]
    simpa using ho
  · rcases hloc with hl | hl
    · exact .inl (hl ▸ hk)
    · rw [hl] at hk; cases hk; exact .inr (by simp)
theorem PRow.cells {W : World} {v : Value} {L : List Pr} (h : PRow W v L) (i : Nat) (hi : i < L.length) : ∃ g c, v = .slice (some ⟨g, 0, none⟩) L.length c ∧ W.cell? ⟨g, i * 2, none⟩ = some (.int .i64 L[i].i) ∧ W.cell? ⟨g, i * 2 + 1, none⟩ = some (.string L[i].c) := by
  rcases h.2 with ⟨rfl, h0⟩ | ⟨g, cap, cur, rfl, _, hg, _, _, _, hcur⟩
  · omega
  · have hr : RowAt W g 0 (L.flatMap pC) := fun j x hx => by
      rw [Nat.zero_add, cell_of_row _ _ j _ _ (0, 0) hg]
      have hj : j < (L.flatMap pC).length := (List.getElem?_eq_some_iff.1 hx).1
      rw [flat_len2] at hj
      rw [← hx, ← hcur, List.getElem?_take_of_lt (by omega)]
      simp
    obtain ⟨c0, c1⟩ := row_pr hr (A := W) rfl i hi
    rw [Nat.zero_add] at c0 c1
    exact ⟨g, cap, rfl, c0, c1⟩
/-- The width that a law takes. -/
def wOf (w : Int) : Int := if w < 64 ∨ 1024 < w ∨ w % 64 ≠ 0 then 64 else w
theorem wOf_isW (w : Int) : isW (wOf w) = true := by
  unfold wOf
  split
  · rfl
  · rename_i h
    simp [isW]; omega
set_option maxRecDepth 100000 in
theorem width_any (x : Int) (w : World) :
    Calls Tryd.prog 8 #[.int .i64 x] w fun e w' => e = .returned (.int .i64 (wOf x)) ∧ w' = w := by
  go_enter Tryd.func8, Tryd.ntmps8
  go_wp2
  all_goals go_ret
  all_goals exact ⟨ret_int (by unfold wOf; split <;> simp_all <;> omega), rfl⟩
/-- A text brought to n bytes. -/
def fitL (s : List UInt8) (n : Nat) : List UInt8 := s.take n ++ List.replicate (n - s.length) 0
def fitC (s : ByteArray) (n : Nat) : ByteArray := ⟨(fitL s.data.toList n).toArray⟩
theorem fitC_size (s : ByteArray) (n : Nat) : (fitC s n).size = n := by
  show (fitL s.data.toList n).toArray.size = n
  rw [List.size_toArray]
  unfold fitL
  rw [List.length_append, List.length_take, List.length_replicate]
  omega
theorem fit_set (s : List UInt8) (n k : Nat) (hk : k < n) (hs : k < s.length) : (s.take k ++ List.replicate (n - k) 0).set k s[k] = s.take (k + 1) ++ List.replicate (n - (k + 1)) 0 := by
  have e1 : (s.take k).length = k := by rw [List.length_take]; omega
  rw [List.set_append_right _ _ (by omega), e1, Nat.sub_self]
  obtain ⟨m, hm⟩ : ∃ m, n - k = m + 1 := ⟨n - k - 1, by omega⟩
  rw [hm, List.replicate_succ, List.set_cons_zero, List.take_succ_eq_append_getElem hs, show n - (k + 1) = m by omega, List.append_assoc]
  rfl
set_option maxHeartbeats 400000 in
set_option maxRecDepth 100000 in
theorem fit_any (s : ByteArray) (n : Nat) (wd : Int) (w : World) (hs : s.size ≤ 140737488351232) (hn : n ≤ 1024) (hwd : wd / 8 = n) (h0 : 0 ≤ wd) :
    Calls Tryd.prog 9 #[.string s, .int .i64 wd] w fun e w' => e = .returned (.string (fitC s n)) ∧ Below w.heap.size w w' := by
  obtain ⟨i0, hi, hz0, hz1, hz2⟩ := info_parts Tryd.info5
  have hwd' : wd.tdiv 8 = (n : Int) := by rw [Int.tdiv_eq_ediv_of_nonneg h0]; exact hwd
  clear hwd
  go_enter Tryd.func9, Tryd.ntmps9
  go_wp2_with (at_make; refine wpList_make_full _ rfl _ _ 62 rfl w.heap.size 5 i0 (.int .u8 0) 1 Tryd.underlying62 hi hz0 hz1 _ _ _ _ n rfl rfl rfl rfl (by rw [hz2]; omega) (by unfold maxLen; omega) (Nat.le_refl _) ?_; intro w1 hown hgr)
  have hown1 := made_bytes n ▸ hown
  clear hown
  have hb1 : Below w.heap.size w w1 := (Below.refl _ _).grown hgr (Nat.le_refl _) (fun k h => by cases h)
  clear hgr
  obtain ⟨S, hS⟩ : ∃ S, S = s.data.toList := ⟨_, rfl⟩
  have hSl : S.length = s.size := by rw [hS]; simp
  have HF : Hid (fitC s n = ⟨(fitL S n).toArray⟩) := by rw [hS]; rfl
  have hSk : ∀ k (h1 : k < s.size) (h2 : k < S.length), S[k] = s[k] := fun k h1 h2 => by subst hS; rfl
  have HSk := Hid.mk hSk
  clear hS hSk
  go_loopw [6] (fun i wr => ∃ (k : Nat) (l : List UInt8), k ≤ n ∧ k ≤ s.size ∧ i = .int .i64 k ∧ Hid (l = S.take k ++ List.replicate (n - k) 0) ∧ wr.ownsRow w.heap.size 5 1 (.slice (some ⟨w.heap.size, 0, none⟩) n n) n (l.map BV) ∧ Below w.heap.size w wr) (fun i _ => n - (intOf i).toNat)
  case atStart => exact ⟨0, List.replicate n 0, Nat.zero_le _, Nat.zero_le _, rfl, by show _ = _; simp, hown1, hb1⟩
  case round =>
    obtain ⟨k, l, hk, hks, rfl, hl, hown, hb⟩ := hrel
    have Hl : Hid (l.length = n) := by show _ = _; rw [hl.out, List.length_append, List.length_take, List.length_replicate]; omega
    clear hown1 hb1
    by_cases hlt : k < n ∧ k < s.size
    · obtain ⟨h1, h2⟩ := hlt
      have hc : wr.cell? ⟨w.heap.size, k, none⟩ = some (BV (l[k]'(by rw [Hl.out]; exact h1))) := by
        rw [hown.cellAt k (by omega), List.getElem?_map, List.getElem?_eq_getElem (by rw [Hl.out]; exact h1)]; rfl
      have hf := hown.frozenAt k
      have hst := hown.stored k (.int .u8 s[k].toNat)
      have HST : Hid _ := hst
      have HN : Hid (l.set k s[k] = S.take (k + 1) ++ List.replicate (n - (k + 1)) 0) := by
        show _ = _
        rw [hl.out, ← HSk.out k h2 (by omega)]
        exact fit_set S n k h1 (by omega)
      clear hst hown hl
      go_wp2
      refine ⟨⟨k + 1, l.set k s[k], h1, h2, by go_num, HN, ?_, (hb.grown HST.out.2 (by have := hb.size; omega) (fun j h => by cases h; exact Nat.le_refl _))⟩, by simp [intOf]; omega⟩
      rw [List.map_set]; exact HST.out.1
    · have hcv := conv_row (w := wr) (g := w.heap.size) (cap := n) l (by rw [Hl.out]; exact hown)
      rw [Hl.out] at hcv
      have HE : Hid (fitC s n = ⟨l.toArray⟩) := by
        show _ = _
        rw [HF.out, hl.out]
        congr 2
        unfold fitL
        by_cases h1 : k < n
        · have : k = S.length := by omega
          rw [this, List.take_of_length_le (Nat.le_refl _), List.take_of_length_le (by omega)]
        · have : k = n := by omega
          rw [this, show n - n = n - S.length by omega]
      clear hl
      by_cases h1 : k < n
      all_goals
        go_wp2
        go_ret
        exact ⟨by rw [HE.out]; rfl, hb⟩
end Go.Proofs.YtekgppmhcbmpeaaDoor
