/-
  DERIVED. Two lists of entries held against each other.
-/
import Derived.Test.YtgloigegmcglfaaDoorBBuildF
import Derived.Test.YtgloigegmcglfaaDoorBWrite1
set_option linter.unusedVariables false
set_option linter.unusedSimpArgs false
namespace Go.Proofs.YtgloigegmcglfaaDoor
open Go.RowKit Go.Proofs.SealMath
set_option maxRecDepth 100000 in
set_option maxHeartbeats 2000000 in
theorem same6_any (l : List En) (la lb : Option Addr) (ca cb : Nat) (w : World) (ha : LAt w la l) (hb : LAt w lb l) (hl : l.length < 4611686018427387904) :
    Calls Tryd.prog 13 #[.slice la l.length ca, .slice lb l.length cb] w fun e w' => e = .returned (.bool true) ∧ Drew w w' := by
  obtain ⟨n, hn⟩ : ∃ n, n = l.length := ⟨_, rfl⟩
  have HA := Hid.mk (And.intro ha (And.intro hb hn))
  rw [← hn] at hl ⊢
  clear ha hb hn
  go_enter Tryd.func13, Tryd.ntmps13
  go_wp2
  go_loopw [5] (fun u wr => ∃ i : Nat, u = .int .i64 i ∧ i ≤ n ∧ Drew w wr) (fun u _ => n - (intOf u).toNat)
  case atStart => exact ⟨0, rfl, Nat.zero_le _, Drew.refl _⟩
  case round =>
    obtain ⟨i, rfl, hi, hd⟩ := hrel
    by_cases hlt : i < n
    · have hln : i < l.length := by have := HA.out.2.2; omega
      have hne : l ≠ [] := fun h => by rw [h] at hln; simp at hln
      obtain ⟨g1, o1, e1, r1⟩ := HA.out.1.at' hne
      obtain ⟨g2, o2, e2, r2⟩ := HA.out.2.1.at' hne
      subst e1
      subst e2
      have hh : ∀ k : Nat, wr.heap[k]? = w.heap[k]? := fun k => by obtain ⟨m, rfl⟩ := hd; rfl
      obtain ⟨x0, x1, x2, x3, x4⟩ := row_en r1 (hh g1) i hln
      obtain ⟨y0, y1, y2, y3, y4⟩ := row_en r2 (hh g2) i hln
      obtain ⟨e, he⟩ : ∃ e, e = l[i] := ⟨_, rfl⟩
      rw [← he] at x0 x1 x2 x3 x4 y0 y1 y2 y3 y4
      have i1 : (i : Int) < (n : Int) := by omega
      have i2 : 0 ≤ (i : Int) := by omega
      clear he hh r1 r2 hne hln
      go_wp2
      go_quiet (fail)
      go_wp2
      refine ⟨⟨i + 1, rfl, hlt, hd.more _⟩, by simp only [intOf]; omega⟩
    · go_wp2
      go_ret
      exact ⟨rfl, hd⟩
theorem infoEn : (Tryd.prog.info? 40).map (fun i => (i.zero, i.size, i.bytes)) = some (some (.agg #[.int .i64 0, .string ⟨#[]⟩, .int .i64 0, .int .i64 0, .bool false]), 5, 48) := by kernel_rfl
theorem flat_len5 (l : List En) : (l.flatMap enC).length = l.length * 5 := by
  induction l with
  | nil => rfl
  | cons x l ih => rw [List.flatMap_cons, List.length_append, ih, enC_len, List.length_cons]; omega
theorem one5 (l : List En) : ∀ u ∈ l.flatMap enC, u.oneCell' = true := fun u hu => by
  obtain ⟨e, _, he⟩ := List.mem_flatMap.1 hu
  simp [enC] at he
  rcases he with rfl | rfl | rfl | rfl | rfl <;> rfl
/-- Entries that lie somewhere are put behind entries of the call's own. -/
theorem ent_app (W : World) (l m : List En) (v : Value) (h : W.ownsRow 0 40 5 v l.length (l.flatMap enC)) (a : Option Addr) (c : Nat) (hm : m ≠ [] → ∃ g off, a = some ⟨g, off, none⟩ ∧ RowAt W g off (m.flatMap enC)) (hb : (l.length + m.length) * 48 ≤ 140737488355328) :
    ∃ v' w', (Builtin.append_ #[24, 24] 24 #[v, .slice a m.length c]).run Tryd.prog W = .ok v' w' ∧ w'.ownsRow 0 40 5 v' (l ++ m).length ((l ++ m).flatMap enC) ∧ Stay (fun k => v.ownBlock = some k) W w' ∧ (∀ k, v'.ownBlock = some k → v.ownBlock = some k ∨ W.heap.size ≤ k) := by
  obtain ⟨i0, hi, hz0, hz1, hz2⟩ := info_parts infoEn
  by_cases h0 : m = []
  · subst h0
    obtain ⟨a0, c0, hv, hc0⟩ := slice_form h
    refine ⟨v, W, ?_, by simpa using h, .refl _ _, fun k hk => .inl hk⟩
    subst hv
    have hf : (Builtin.firstCells 5 0 (.slice a 0 c)).run Tryd.prog W = .ok #[] W := by cases a <;> simp [Builtin.firstCells, loadCells, loadCellsFrom]
    simp [Builtin.append_, run_underlying Tryd.underlying24, sizeOf, typeInfo, hi, hz1, Builtin.lenOf, hf, hc0]
    cases a0 <;> simp [storeCells]
  · obtain ⟨g, off, rfl, hr⟩ := hm h0
    obtain ⟨v', w', hrun, ho, hg, _, hloc⟩ := run_append_own_at (P := Tryd.prog) W 0 24 24 40 i0 _ 5 48 Tryd.underlying24 hi hz0 hz1 hz2 rfl (by decide) v l.length _ h ⟨g, off, none⟩ m.length c (m.flatMap enC) (flat_len5 m) (fun j u hu => by
      have e1 : (⟨g, off, none⟩ : Addr).add j = ⟨g, off + j, none⟩ := by unfold Addr.add; split <;> simp_all
      rw [e1]; exact hr j u hu) (one5 m) (by unfold maxLen; omega) (by omega) (Nat.zero_le _)
    refine ⟨v', w', hrun, by rw [List.length_append, List.flatMap_append]; exact ho, .grown hg (fun k hk => hk), fun k hk => ?_⟩
    rcases hloc with hl | hl
    · exact .inl (hl ▸ hk)
    · rw [hl] at hk; cases hk; exact .inr (Nat.le_refl _)
def mk9 : En := ⟨-9, ⟨#[]⟩, 0, 0, false⟩
set_option maxRecDepth 100000 in
set_option maxHeartbeats 2000000 in
theorem twin_any (l : List En) (la : Option Addr) (c : Nat) (w : World) (h : LAt w la l) (hl : (l.length + 1) * 48 ≤ 140737488355328) :
    Calls Tryd.prog 19 #[.slice la l.length c] w fun r w' => ∃ g cap, r = .returned (.slice (some ⟨g, 0, none⟩) l.length cap) ∧ w.heap.size ≤ g ∧ w'.ownsRow 0 40 5 (.slice (some ⟨g, 0, none⟩) (l.length + 1) cap) (l.length + 1) ((l ++ [mk9]).flatMap enC) ∧ Below w.heap.size w w' := by
  obtain ⟨v1, w1, hr1, ho1, s1, hloc1⟩ := ent_app w [] l (.slice none 0 0) ⟨rfl, .inl ⟨rfl, rfl⟩⟩ la c h.at' (by simp; omega)
  rw [List.nil_append] at ho1
  have b1 : Below w.heap.size w w1 := s1.toBelow (fun k _ e => by cases e) (Nat.le_refl _)
  have hlo1 : ∀ k, v1.ownBlock = some k → w.heap.size ≤ k := fun k hk => by rcases hloc1 k hk with e | e; cases e; exact e
  have ho1' : (w1.alloc (.cells (enC mk9).toArray 40)).ownsRow 0 40 5 v1 l.length (l.flatMap enC) := ho1.alloc _
  obtain ⟨v2, w2, hr2, ho2, s2, hloc2⟩ := ent_app (w1.alloc (.cells (enC mk9).toArray 40)) l [mk9] v1 ho1' (some ⟨w1.heap.size, 0, none⟩) 1 (fun _ => ⟨w1.heap.size, 0, rfl, fun j u hu => by
    have h1 := new_cells w1 (enC mk9) 40 j u (by simpa using hu)
    have e1 : (⟨w1.heap.size, 0, none⟩ : Addr).add j = ⟨w1.heap.size, 0 + j, none⟩ := by unfold Addr.add; split <;> simp_all
    rw [e1] at h1; exact h1⟩) (by simp; omega)
  have b2 : Below w.heap.size w w2 := (b1.alloc b1.size _).trans (s2.toBelow (fun k hk e => by have := hlo1 k e; omega) (by have := b1.size; simp; omega))
  obtain ⟨g2, c2, rfl⟩ : ∃ g2 c2, v2 = .slice (some ⟨g2, 0, none⟩) (l.length + 1) c2 := by
    rcases ho2.2 with ⟨_, h2⟩ | ⟨g4, c4, _, h1, _⟩
    · simp at h2
    · exact ⟨g4, c4, by rw [h1]; simp⟩
  have hg2 : w.heap.size ≤ g2 := by
    rcases hloc2 g2 rfl with e | e
    · exact hlo1 g2 e
    · have := b1.size; simp at e; omega
  have hle2 : l.length + 1 ≤ c2 := by
    obtain ⟨a, c, hh, hc⟩ := slice_form ho2
    simp only [Value.slice.injEq] at hh
    obtain ⟨-, -, rfl⟩ := hh
    simpa using hc
  obtain ⟨a1, c1, hv1, -⟩ := slice_form ho1
  rw [hv1] at hr1 hr2
  have hll : (l ++ [mk9]).length = l.length + 1 := by simp
  rw [hll] at ho2
  have HE := Hid.mk (And.intro hg2 (And.intro ho2 b2))
  have i1 : (l.length : Int) ≤ (c2 : Int) := by omega
  have i0 : (0 : Int) ≤ (l.length : Int) := by omega
  have hc2 : ¬ (c2 = 0) := by omega
  clear ho1 ho1' s1 s2 hloc1 hloc2 b1 b2 hlo1 ho2 hg2 hv1 hll h
  go_enter Tryd.func19, Tryd.ntmps19
  go_wp2_with first
    | (at_builtin; refine wpList_append_eq rfl _ _ _ _ rfl _ _ _ _ rfl rfl hr1 ?_; clear hr1)
    | (at_builtin; refine wpList_append_eq rfl _ _ _ _ rfl _ _ _ _ rfl rfl hr2 ?_; clear hr2)
  go_ret
  exact ⟨g2, c2, rfl, HE.out.1, HE.out.2.1, HE.out.2.2⟩
end Go.Proofs.YtgloigegmcglfaaDoor
