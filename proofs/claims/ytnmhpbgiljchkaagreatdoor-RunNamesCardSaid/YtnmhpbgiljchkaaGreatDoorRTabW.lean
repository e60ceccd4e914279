/-
  DERIVED. A run's tables: the walk.
-/
import Derived.Test.YtnmhpbgiljchkaaGreatDoorRTab
set_option linter.unusedVariables false
set_option linter.unusedSimpArgs false
namespace Go.Proofs.YtnmhpbgiljchkaaGreatDoor
open Go.RowKit Go.Proofs.BitMath
section
variable {P : Program} (w : World) {ops : Array Oper} {rest : List Oper} {o : Oper} {a : Act} {Q : Exit → Act → World → Prop}
theorem wpList_make_run (hg : o.guard = none) (t : TypeId) (l c : Operand) (hop : o.op = Op.makeSlice t l c) (v : Value) (w' : World) (hrun : (Instr.makeSlice t (a.eval l) (a.eval c)).run P w = .ok v w') (hK : wpList P ops Q rest (a.put o.dst v) w') : wpList P ops Q (o :: rest) a w := by
  refine wpList_plain hg fun K' hK' => ?_
  unfold Oper.wp
  simp [execOp, hop, hrun, Result.andThen]
  exact hK' _ _ hK
end
/-- make, of any kind. -/
theorem El.make {α : Type} {E : El α} {P : Program} (ok : E.Ok P) (W : World) (x : α) (hx : E.z.cells = (E.f x).toArray) (n : Nat) (hn : n ≤ 1099511627776) :
    ∃ w', (Instr.makeSlice E.sl (.int .i64 n) (.int .i64 n)).run P W = .ok (.slice (some ⟨W.heap.size, 0, none⟩) n n) w' ∧ E.Row w' (.slice (some ⟨W.heap.size, 0, none⟩) n n) (List.replicate n x) ∧ Below W.heap.size W w' ∧ w'.heap.size = W.heap.size + 1 := by
  obtain ⟨i0, hi, hz0, hz1, hz2⟩ := info_parts ok.info
  have hby := ok.by1
  have h1 : n * E.by' ≤ n * 64 := Nat.mul_le_mul_left _ hby
  have hrun := run_make W E.sl E.ty i0 E.z ok.und hi hz0 .i64 .i64 (n : Int) (n : Int) (by omega) (by omega) (by rw [hz2, ← Int.natCast_mul, Nat.mul_comm]; omega) (by omega)
  rw [hz1, Int.toNat_natCast] at hrun
  exact ⟨_, hrun, El.made ok W x hx n (by omega), (Below.refl _ _).alloc (Nat.le_refl _) _, by simp⟩
theorem chAt2 {W : World} {v : Value} {X : List (Int × Int)} (h : EC.Row W v X) (i : Nat) (hi : i < X.length) : ∃ g cap, v = .slice (some ⟨g, 0, none⟩) X.length cap ∧ W.cell? ⟨g, i * 2, none⟩ = some (.int .i64 (X.getD i (0, 0)).1) ∧ W.cell? ⟨g, i * 2 + 1, none⟩ = some (.int .i64 (X.getD i (0, 0)).2) := by
  obtain ⟨g, cap, e, h1, -⟩ := El.cells okC h i hi
  have e1 : X.getD i (0, 0) = X[i] := by simp [hi]
  exact ⟨g, cap, e, by rw [e1]; exact h1 0 _ rfl, by rw [e1]; exact h1 1 _ rfl⟩
theorem Pow.lat {w w' : World} (h : Pow w) (hb : Below w.heap.size w w') : Pow w' := by
  have hgn : Tryz.prog.globalNamed "internal/strconv.uint64pow10" = some 2 := by kernel_rfl
  unfold Pow Lib.TabIs World.var? at h ⊢
  rw [hgn] at h ⊢
  simp only [Option.bind_some] at h ⊢
  have hlt : 2 < w.heap.size := by
    rcases Nat.lt_or_ge 2 w.heap.size with h' | h'
    · exact h'
    · rw [Array.getElem?_eq_none h'] at h; cases h
  rw [hb.block 2 hlt]
  exact h
theorem EC_below {W w' : World} {v : Value} {X : List (Int × Int)} (h : EC.Row W v X) (b : Below W.heap.size W w') : EC.Row w' v X := El.Row.below h b
theorem tab_lat {wr w5 w6 : World} {c1 c2 : Int} {gl i : Nat} {v0 v1 v2 v3 v4 : Value} (h : wr.cell? ⟨gl, i * ET.sz + 0, none⟩ = some v0 ∧ wr.cell? ⟨gl, i * ET.sz + 1, none⟩ = some v1 ∧ wr.cell? ⟨gl, i * ET.sz + 2, none⟩ = some v2 ∧ wr.cell? ⟨gl, i * ET.sz + 3, none⟩ = some v3 ∧ wr.cell? ⟨gl, i * ET.sz + 4, none⟩ = some v4 ∧ ∀ j, wr.frozen? ⟨gl, j, none⟩ = false) (hgl : gl < wr.heap.size)
    (b5 : Below (wr.alloc (.cells #[.int .i64 c1, .int .i64 c2] 38)).heap.size (wr.alloc (.cells #[.int .i64 c1, .int .i64 c2] 38)) w5) (b6 : Below w5.heap.size w5 w6) :
    Below wr.heap.size wr w6 ∧ w6.cell? ⟨wr.heap.size, 0, none⟩ = some (.int .i64 c1) ∧ w6.cell? ⟨wr.heap.size, 1, none⟩ = some (.int .i64 c2) ∧ w6.cell? ⟨gl, i * 5, none⟩ = some v0 ∧ w6.cell? ⟨gl, i * 5 + 1, none⟩ = some v1 ∧ w6.cell? ⟨gl, i * 5 + 2, none⟩ = some v2 ∧ w6.cell? ⟨gl, i * 5 + 3, none⟩ = some v3 ∧ w6.cell? ⟨gl, i * 5 + 4, none⟩ = some v4 ∧ ∀ j, w6.frozen? ⟨gl, j, none⟩ = false := by
  have bA := chain b5 b6 (Nat.le_refl _)
  have b0 : Below wr.heap.size wr w6 := chain ((Below.refl _ wr).alloc (Nat.le_refl _) _) bA (Nat.le_refl _)
  obtain ⟨y0, y1, y2, y3, y4, fz⟩ := h
  refine ⟨b0, cell_lat bA (by go_simp), cell_lat bA (by go_simp), cell_lat b0 y0, cell_lat b0 y1, cell_lat b0 y2, cell_lat b0 y3, cell_lat b0 y4, fun j => ?_⟩
  have := fz j
  unfold World.frozen? at this ⊢
  rw [b0.block gl hgl]
  exact this
/-- What stands while the tables are made. -/
structure TJ (W wr : World) (n : Int) (L : List (Int × Int)) (cv lv : Value) (j : Nat) : Prop where
  ch : EC.Row wr cv L
  tr : ET.Row wr lv (tbJ n L j)
  ap : ∀ k, lv.ownBlock = some k → W.heap.size ≤ k ∧ cv.ownBlock ≠ some k
  be : Below W.heap.size W wr
theorem TJ.step {w wr w6 : World} {n : Int} {L : List (Int × Int)} {cv : Value} {g i : Nat} (h : TJ w wr n L cv (.slice (some ⟨g, 0, none⟩) L.length L.length) i) (hi : i < L.length) (b : Below wr.heap.size wr w6) : TJ w (putL w6 g (i * ET.sz) (ET.f (tb n L i))) n L cv (.slice (some ⟨g, 0, none⟩) L.length L.length) (i + 1) := by
  refine ⟨row_kept (El.Row.below h.ch b) (putL_stay _ _ _ _) (fun k hk e => by subst e; exact (h.ap k rfl).2 hk), ?_, h.ap, ?_⟩
  · rw [← tbJ_set n L i hi]
    exact El.set okT (El.Row.below h.tr b) (tbJ_len _ _ _).symm i (by rw [tbJ_len]; exact hi) _
  · have hb := chain h.be b (Nat.le_refl _)
    exact hb.trans ((putL_stay _ w6 g _).toBelow (fun k hk e => by have := (h.ap g rfl).1; omega) hb.size)
set_option maxHeartbeats 1000000 in
set_option maxRecDepth 100000 in
theorem tables_any (n W C M : Int) (w : World) (ht : Pow w) : Calls Tryz.prog 8 #[.int .i64 n, optV W C M] w fun e w' => ∃ v, e = .returned (.tuple #[v, .int .i64 (tbE n W C M)]) ∧ ET.Row w' v (tbL n W C M) ∧ (∀ k, v.ownBlock = some k → w.heap.size ≤ k) ∧ Below w.heap.size w w' := by
  by_cases hN : 1 ≤ n ∧ n ≤ 1099511627776
  · have hN' : isN n = true := decide_eq_true hN
    have hE : tbE n W C M = goE W C M := by unfold tbE; rw [if_pos hN']
    have hL : tbL n W C M = if goE W C M = 0 then tbJ n (goL W C M) (goL W C M).length else [] := by unfold tbL; rw [hE]
    rw [hE, hL]
    obtain ⟨n1, n2⟩ := hN
    have hc := fun w => chunksOf_any W C M w
    have hlen := goL_len W C M
    have hbt := goL_bits W C M
    obtain ⟨E, hE2⟩ : ∃ E, E = goE W C M := ⟨_, rfl⟩
    obtain ⟨L, hL2⟩ : ∃ L, L = goL W C M := ⟨_, rfl⟩
    rw [← hE2] at hc ⊢
    rw [← hL2] at hc hlen hbt ⊢
    clear hN' hE hL hE2 hL2
    have HT := Hid.mk ht
    clear ht
    by_cases hE0 : E = 0
    · subst hE0
      rw [if_pos rfl]
      go_enter Tryz.func8, Tryz.ntmps8
      go_wp2_with first
        | (go_at_call 16; refine (hc _).mono ?_; clear hc; rintro e w1 ⟨cv, rfl, hr, hn, hb'⟩; have hb := chain ((Below.refl _ w).alloc (Nat.le_refl _) _) hb' (Nat.le_refl _); obtain ⟨ca, cc, rfl, hcl⟩ := El.Row.form hr; obtain ⟨w2, hmk, hrow, hb2, hs2⟩ := El.make okT w1 zTb rfl L.length (by omega); have HM := Hid.mk hmk; clear hmk)
        | (at_make; refine wpList_make_run _ rfl _ _ _ rfl _ _ HM.out ?_)
        | go_in
      have HI := Hid.mk (TJ.mk (EC_below hr hb2) (by rw [← tbJ_zero n L]; exact hrow) (fun k hk => ⟨by cases hk; exact hb.size, fun e => by have h3 := row_lt hr e; simp only [Value.ownBlock] at hk; cases hk; exact absurd h3 (Nat.lt_irrefl _)⟩) (chain hb hb2 (Nat.le_refl _)) : TJ w w2 n L (.slice ca L.length cc) (.slice (some ⟨w1.heap.size, 0, none⟩) L.length L.length) 0)
      clear hr hb hb2 hrow hs2
      go_loopw [31] (fun u wr => ∃ i : Nat, u = .int .i64 i ∧ i ≤ L.length ∧ Hid (TJ w wr n L (.slice ca L.length cc) (.slice (some ⟨w1.heap.size, 0, none⟩) L.length L.length) i)) (fun u _ => L.length - (intOf u).toNat)
      case atStart => exact ⟨0, rfl, Nat.zero_le _, HI⟩
      case round =>
        obtain ⟨i, rfl, hi, HJ⟩ := hrel
        by_cases hlt : i < L.length
        · have i1 : (i : Int) < (L.length : Int) := by omega
          have i2 : (0 : Int) ≤ (i : Int) := by omega
          obtain ⟨g, cap, e, x0, x1⟩ := chAt2 HJ.out.ch i hlt
          cases e
          have hcb := hbt (L.getD i (0, 0)) (by rw [List.getD_eq_getElem?_getD, List.getElem?_eq_getElem hlt]; exact List.getElem_mem hlt)
          obtain ⟨c1, hc1⟩ : ∃ x, x = (L.getD i (0, 0)).1 := ⟨_, rfl⟩
          obtain ⟨c2, hc2⟩ : ∃ x, x = (L.getD i (0, 0)).2 := ⟨_, rfl⟩
          rw [← hc1] at x0
          rw [← hc2] at x1 hcb
          obtain ⟨gl, capl, e, y, fz⟩ := El.cells okT HJ.out.tr i (by rw [tbJ_len]; exact hlt)
          rw [tbJ_len] at e
          cases e
          have y0 := y 0 _ rfl
          have y1 := y 1 _ rfl
          have y2 := y 2 _ rfl
          have y3 := y 3 _ rfl
          have y4 := y 4 _ rfl
          have hgl : w1.heap.size < wr.heap.size := World.block_lt_of_cell? wr _ y0
          have hwi : IntKind.i64.wrap ((i : Int) + 1) = ((i + 1 : Nat) : Int) := by rw [IntKind.wrap_i64]; omega
          have HC := Hid.mk (And.intro hc1 hc2)
          have HY := Hid.mk (And.intro y0 (And.intro y1 (And.intro y2 (And.intro y3 (And.intro y4 fz)))))
          clear hc1 hc2 y y0 y1 y2 y3 y4 fz
          have d1 := dg_sz n (by omega) n2
          have d2 := dg_sz (i : Int) i2 (by omega)
          have HB := Hid.mk HJ.out.be
          have HP := Hid.mk ((HT.out.lat HJ.out.be).lat ((Below.refl _ wr).alloc (Nat.le_refl _) (.cells #[.int .i64 c1, .int .i64 c2] 38)))
          go_wp2_with first
            | (go_at_call 17; refine (itoa_any n _ (by omega) n2 HP.out).mono ?_; rintro e w5 ⟨rfl, b5⟩; have HP5 := Hid.mk (HP.out.lat b5))
            | (go_at_call 17; refine (itoa_any (i : Int) _ i2 (by omega) HP5.out).mono ?_; rintro e w6 ⟨rfl, b6⟩; obtain ⟨b56, z0, z1, y0, y1, y2, y3, y4, fz⟩ := tab_lat HY.out hgl b5 b6; clear b5 b6)
            | go_in
          refine ⟨⟨i + 1, by push_cast; rfl, hlt, Hid.mk ?_⟩, by simp only [intOf]; omega⟩
          have := TJ.step HJ.out hlt b56
          unfold tb at this
          rw [← HC.out.1, ← HC.out.2] at this
          exact this
        · have i1 : ¬ (i : Int) < (L.length : Int) := by omega
          have hiL : i = L.length := by omega
          subst hiL
          go_wp2
          go_ret2
          exact ⟨_, rfl, HJ.out.tr, fun k hk => (HJ.out.ap k hk).1, HJ.out.be⟩
    · have hE1 : (E != 0) = true := by simpa using hE0
      rw [if_neg hE0]
      go_enter Tryz.func8, Tryz.ntmps8
      go_wp2_with first
        | (go_at_call 16; refine (hc _).mono ?_; clear hc; rintro e w1 ⟨cv, rfl, hr, hn, hb'⟩; have hb := chain ((Below.refl _ w).alloc (Nat.le_refl _) _) hb' (Nat.le_refl _))
        | go_in
      go_ret2
      exact ⟨_, rfl, El.Row.nil _ _, fun k hk => (by cases hk), hb⟩
  · have hN' : isN n = false := decide_eq_false hN
    have hE : tbE n W C M = 13 := by unfold tbE; rw [hN']; rfl
    have hL : tbL n W C M = [] := by unfold tbL; rw [hE]; rfl
    rw [hE, hL]
    clear hN' hE hL
    go_enter Tryz.func8, Tryz.ntmps8
    go_wp2
    all_goals first
      | (exfalso; omega)
      | (go_ret2; exact ⟨_, rfl, El.Row.nil _ _, fun k hk => (by cases hk), (Below.refl _ _).alloc (Nat.le_refl _) _⟩)
/-- The names of a run's files. -/
def nmL (n W C M : Int) : List ByteArray := (tbL n W C M).map Tb.nm
theorem tbL_len (n W C M : Int) : (tbL n W C M).length ≤ 128 := by
  unfold tbL
  split
  · rw [tbJ_len]; exact goL_len W C M
  · simp
structure NJ (W wr : World) (X : List Tb) (tv lv : Value) (j : Nat) : Prop where
  tr : ET.Row wr tv X
  nm : ES.Row wr lv (nmJ X j)
  ap : ∀ k, lv.ownBlock = some k → W.heap.size ≤ k ∧ tv.ownBlock ≠ some k
  be : Below W.heap.size W wr
theorem NJ.below {w wr w6 : World} {X : List Tb} {tv lv : Value} {j : Nat} (h : NJ w wr X tv lv j) (b : Below wr.heap.size wr w6) : NJ w w6 X tv lv j := ⟨El.Row.below h.tr b, El.Row.below h.nm b, h.ap, chain h.be b (Nat.le_refl _)⟩
theorem NJ.step {w wr w6 : World} {X : List Tb} {tv : Value} {g j : Nat} (h : NJ w wr X tv (.slice (some ⟨g, 0, none⟩) X.length X.length) j) (hj : j < X.length) (b : Below wr.heap.size wr w6) : NJ w (w6.setCell ⟨g, j, none⟩ (.string (X.getD j zTb).nm)) X tv (.slice (some ⟨g, 0, none⟩) X.length X.length) (j + 1) := by
  have e : w6.setCell ⟨g, j, none⟩ (.string (X.getD j zTb).nm) = putL w6 g (j * ES.sz) (ES.f (X.getD j zTb).nm) := by simp [putL]
  rw [e]
  refine ⟨row_kept (El.Row.below h.tr b) (putL_stay _ _ _ _) (fun k hk e => by subst e; exact (h.ap k rfl).2 hk), ?_, h.ap, ?_⟩
  · rw [← nmJ_set X j hj]
    exact El.set okS (El.Row.below h.nm b) (nmJ_len _ _).symm j (by rw [nmJ_len]; exact hj) _
  · have hb := chain h.be b (Nat.le_refl _)
    exact hb.trans ((putL_stay _ w6 g _).toBelow (fun k hk e => by have := (h.ap g rfl).1; omega) hb.size)
set_option maxHeartbeats 1000000 in
set_option maxRecDepth 100000 in
theorem names_any (n W C M : Int) (w : World) (ht : Pow w) : Calls Tryz.prog 4 #[.int .i64 n, optV W C M] w fun e w' => ∃ v, e = .returned v ∧ ES.Row w' v (nmL n W C M) ∧ (∀ k, v.ownBlock = some k → w.heap.size ≤ k) ∧ Below w.heap.size w w' := by
  have hc := fun w h => tables_any n W C M w h
  have hlen := tbL_len n W C M
  unfold nmL
  obtain ⟨E, hE⟩ : ∃ E, E = tbE n W C M := ⟨_, rfl⟩
  obtain ⟨X, hX⟩ : ∃ X, X = tbL n W C M := ⟨_, rfl⟩
  rw [← hE] at hc
  rw [← hX] at hc hlen ⊢
  have HT := Hid.mk ht
  clear ht hE hX
  go_enter Tryz.func4, Tryz.ntmps4
  go_wp2_with first
    | (go_at_call 8; refine (hc _ (HT.out.lat ((Below.refl _ _).alloc (Nat.le_refl _) _))).mono ?_; clear hc; rintro e w1 ⟨tv, rfl, hr, hn, hb'⟩; have hb := chain ((Below.refl _ w).alloc (Nat.le_refl _) _) hb' (Nat.le_refl _); obtain ⟨ta, tc, rfl, htl⟩ := El.Row.form hr; obtain ⟨w2, hmk, hrow, hb2, hs2⟩ := El.make okS w1 (⟨#[]⟩ : ByteArray) rfl X.length (by omega); have HM := Hid.mk hmk; clear hmk)
    | (at_make; refine wpList_make_run _ rfl _ _ _ rfl _ _ HM.out ?_)
    | go_in
  have HI := Hid.mk (NJ.mk (El.Row.below hr hb2) (by rw [← nmJ_zero X]; exact hrow) (fun k hk => ⟨by cases hk; exact hb.size, fun e => by have h3 := row_lt hr e; simp only [Value.ownBlock] at hk; cases hk; exact absurd h3 (Nat.lt_irrefl _)⟩) (chain hb hb2 (Nat.le_refl _)) : NJ w w2 X (.slice ta X.length tc) (.slice (some ⟨w1.heap.size, 0, none⟩) X.length X.length) 0)
  clear hr hb hb2 hrow hs2
  go_loopw [21] (fun u wr => ∃ i : Nat, u = .int .i64 i ∧ i ≤ X.length ∧ Hid (NJ w wr X (.slice ta X.length tc) (.slice (some ⟨w1.heap.size, 0, none⟩) X.length X.length) i)) (fun u _ => X.length - (intOf u).toNat)
  case atStart => exact ⟨0, rfl, Nat.zero_le _, HI⟩
  case round =>
    obtain ⟨i, rfl, hi, HJ⟩ := hrel
    by_cases hlt : i < X.length
    · have i1 : (i : Int) < (X.length : Int) := by omega
      have i2 : (0 : Int) ≤ (i : Int) := by omega
      have hiX : X[i] = X.getD i zTb := by simp [hlt]
      obtain ⟨g, cap, e, x, -⟩ := El.cells okT HJ.out.tr i hlt
      cases e
      rw [hiX] at x
      have x0 := x 0 _ rfl
      have x1 := x 1 _ rfl
      have x2 := x 2 _ rfl
      have x3 := x 3 _ rfl
      have x4 := x 4 _ rfl
      simp only [Nat.add_zero] at x0
      obtain ⟨gl, capl, e, y, fz⟩ := El.cells okS HJ.out.nm i (by rw [nmJ_len]; exact hlt)
      rw [nmJ_len] at e
      cases e
      have y0 := y 0 _ rfl
      rw [show i * ES.sz + 0 = i from by show i * 1 + 0 = i; omega] at y0
      have f0 : wr.frozen? ⟨w1.heap.size, i, none⟩ = false := fz i
      have hgl : w1.heap.size < wr.heap.size := World.block_lt_of_cell? wr _ y0
      have hne : ¬ w1.heap.size = wr.heap.size := by omega
      obtain ⟨t, htb⟩ : ∃ t, t = X.getD i zTb := ⟨_, rfl⟩
      rw [← htb] at x0 x1 x2 x3 x4
      have hwi : IntKind.i64.wrap ((i : Int) + 1) = ((i + 1 : Nat) : Int) := by rw [IntKind.wrap_i64]; omega
      have HC := Hid.mk htb
      clear htb x y hiX
      go_wp2
      refine ⟨⟨i + 1, by push_cast; rfl, hlt, Hid.mk ?_⟩, by simp only [intOf]; omega⟩
      have := NJ.below (NJ.step HJ.out hlt (Below.refl _ wr)) ((Below.refl _ _).alloc (Nat.le_refl _) (.cells #[.string t.nm, .int .i64 t.j, .int .i64 t.fr, .int .i64 t.bt, .int .i64 t.b1] 40))
      rw [← HC.out] at this
      exact this
    · have i1 : ¬ (i : Int) < (X.length : Int) := by omega
      have hiL : i = X.length := by omega
      subst hiL
      go_wp2
      go_ret
      exact ⟨_, rfl, by rw [← nmJ_all]; exact HJ.out.nm, fun k hk => (HJ.out.ap k hk).1, HJ.out.be⟩
end Go.Proofs.YtnmhpbgiljchkaaGreatDoor
