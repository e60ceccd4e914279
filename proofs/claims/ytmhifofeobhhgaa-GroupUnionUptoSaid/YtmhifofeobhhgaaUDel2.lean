/-
  DERIVED. slices.DeleteFunc at groups: the groups that stay.
-/
import Derived.Test.YtmhifofeobhhgaaUDel
set_option linter.unusedVariables false
set_option linter.unusedSimpArgs false
namespace Go.Proofs.Ytmhifofeobhhgaa
open Go.RowKit Go.Proofs.UnionMath
theorem GL.slen {B : Nat} {w : World} {v : Value} {ss : List Sl} {L : List (List Int)} (h : GL B w v ss L) {z : Sl × List Int} (hz : z ∈ ss.zip L) : iE.Row w (sV z.1) z.2 ∧ z.1.2.1 = z.2.length ∧ ∀ b, (sV z.1).ownBlock = some b → B ≤ b := by
  obtain ⟨j, hj, e⟩ := List.mem_iff_getElem.1 hz
  rw [List.getElem_zip] at e
  have hj1 : j < ss.length := by simp at hj; omega
  have hj2 : j < L.length := by simp at hj; omega
  have r := h.each j hj1 hj2
  subst e
  refine ⟨r, ?_, h.los j hj1⟩
  obtain ⟨a, c, e, -⟩ := El.Row.form r
  injection e
theorem GL.pairs {B : Nat} {w : World} {v : Value} {ss : List Sl} {L : List (List Int)} (h : GL B w v ss L) : (ss.zip L).Pairwise (fun x y => ∀ b, (sV x.1).ownBlock = some b → ¬ (sV y.1).ownBlock = some b) := by
  rw [List.pairwise_iff_getElem]
  intro i j hi hj hij b hb hb'
  rw [List.getElem_zip] at hb hb'
  have := h.ap i j (by simp at hi; omega) (by simp at hj; omega) b hb hb'
  omega
/-- Of the groups some stay. -/
theorem GL.filter {B : Nat} {w w' : World} {v v' : Value} {ss : List Sl} {L : List (List Int)} (h : GL B w v ss L) (least : Int) (row : gE.Row w' v' (ss.filter (kp least))) (st : Stay (fun k => v.ownBlock = some k) w w') (hv : ∀ b, v'.ownBlock = some b → B ≤ b) :
    GL B w' v' (ss.filter (kp least)) (L.filter (fun X => decide (least ≤ (X.length : Int)))) := by
  obtain ⟨Z, hZ⟩ : ∃ Z, Z = ss.zip L := ⟨_, rfl⟩
  have e1 : ss = Z.map Prod.fst := by rw [hZ, List.map_fst_zip]; rw [h.len]; exact Nat.le_refl _
  have e2 : L = Z.map Prod.snd := by rw [hZ, List.map_snd_zip]; rw [h.len]; exact Nat.le_refl _
  have hs : ∀ z ∈ Z, iE.Row w (sV z.1) z.2 ∧ z.1.2.1 = z.2.length ∧ ∀ b, (sV z.1).ownBlock = some b → B ≤ b := fun z hz => h.slen (hZ ▸ hz)
  have hp := h.pairs
  rw [← hZ] at hp
  obtain ⟨Y, hY⟩ : ∃ Y, Y = Z.filter (fun z => kp least z.1) := ⟨_, rfl⟩
  have f1 : ss.filter (kp least) = Y.map Prod.fst := by rw [hY, e1, List.filter_map]; rfl
  have f2 : L.filter (fun X => decide (least ≤ (X.length : Int))) = Y.map Prod.snd := by
    rw [hY, e2, List.filter_map]
    congr 1
    apply List.filter_congr
    intro z hz
    have := (hs z hz).2.1
    simp only [Function.comp, kp, this]
    by_cases q : (z.2.length : Int) < least
    · rw [decide_eq_false (by omega), decide_eq_true q]; rfl
    · rw [decide_eq_true (by omega), decide_eq_false q]; rfl
  have hYs : ∀ z ∈ Y, z ∈ Z := fun z hz => by rw [hY] at hz; exact (List.mem_filter.1 hz).1
  have hYp : Y.Pairwise (fun x y => ∀ b, (sV x.1).ownBlock = some b → ¬ (sV y.1).ownBlock = some b) := by rw [hY]; exact hp.filter _
  rw [f1] at row ⊢
  rw [f2]
  refine ⟨row, by simp, fun j q q' => ?_, hv, fun j q b hb => ?_, fun j l q q' b hb hb' => ?_⟩
  · rw [List.getElem_map, List.getElem_map]
    have r := (hs _ (hYs _ (List.getElem_mem (by simpa using q)))).1
    exact row_kept r st (fun k hk e => g_ne h.row r e hk)
  · rw [List.getElem_map] at hb
    exact (hs _ (hYs _ (List.getElem_mem (by simpa using q)))).2.2 b hb
  · rw [List.getElem_map] at hb hb'
    have hq := List.pairwise_iff_getElem.1 hYp
    rcases Nat.lt_trichotomy j l with g | g | g
    · exact absurd hb' (hq j l (by simpa using q) (by simpa using q') g b hb)
    · exact g
    · exact absurd hb (hq l j (by simpa using q') (by simpa using q) g b hb')
/-- What DeleteFunc comes to. -/
def DeO (B : Nat) (w : World) (L : List (List Int)) (e : Ending) (w' : World) : Prop := ∃ v ss, e = .returned v ∧ GL B w' v ss L ∧ Below B w w'
/-- What stands while groups are struck out: the first i are those that stay of the first j, behind j all is as it was. -/
structure DI (w wr : World) (g n c : Nat) (least : Int) (ss X : List Sl) (i j : Nat) : Prop where
  row : gE.Row wr (.slice (some ⟨g, 0, none⟩) n c) X
  len : X.length = n
  fst : X.take i = (ss.take j).filter (kp least)
  il : ((ss.take j).filter (kp least)).length = i
  rst : X.drop j = ss.drop j
  ij : i < j
  st : Stay (fun k => k = g) w wr
theorem DI.skip {w wr w1 : World} {g n c : Nat} {least : Int} {ss X : List Sl} {i j : Nat} (h : DI w wr g n c least ss X i j) (hj : j < ss.length) (hk : kp least ss[j] = false) (b : Below wr.heap.size wr w1) : DI w w1 g n c least ss X i (j + 1) := by
  have e : (ss.take (j + 1)).filter (kp least) = (ss.take j).filter (kp least) := by rw [List.take_succ_eq_append_getElem hj, List.filter_append]; simp [hk]
  exact ⟨El.Row.below h.row b, h.len, by rw [e]; exact h.fst, by rw [e]; exact h.il, by have := congrArg (List.drop 1) h.rst; rw [List.drop_drop, List.drop_drop] at this; exact this, by have := h.ij; omega, h.st.trans (.below b)⟩
theorem DI.keep {w wr w1 : World} {g n c : Nat} {least : Int} {ss X : List Sl} {i j : Nat} (h : DI w wr g n c least ss X i j) (hj : j < ss.length) (hn : n = ss.length) (hk : kp least ss[j] = true) (b : Below wr.heap.size wr w1) : DI w (w1.setCell ⟨g, i, none⟩ (sV ss[j])) g n c least ss (X.set i ss[j]) (i + 1) (j + 1) := by
  have e : (ss.take (j + 1)).filter (kp least) = (ss.take j).filter (kp least) ++ [ss[j]] := by rw [List.take_succ_eq_append_getElem hj, List.filter_append]; simp [hk]
  have hi : i < X.length := by have := h.ij; have := h.len; omega
  have r1 := El.Row.below h.row b
  have r2 : gE.Row (w1.setCell ⟨g, i, none⟩ (sV ss[j])) (.slice (some ⟨g, 0, none⟩) n c) (X.set i ss[j]) := by
    have := El.set gOk r1 (by rw [h.len]) i hi ss[j]
    simpa [gE, putL] using this
  refine ⟨r2, by rw [List.length_set]; exact h.len, ?_, by rw [e, List.length_append, h.il]; rfl, ?_, by have := h.ij; omega, (h.st.trans (.below b)).andThen (Stay.setCell (F := fun k => k = g) (p := ⟨g, i, none⟩) (Stay.refl _ w1) (fun _ => rfl) _) (fun _ _ h => h)⟩
  · rw [e, ← h.fst, List.take_succ_eq_append_getElem (by rw [List.length_set]; exact hi), List.take_set_of_le (Nat.le_refl i)]; simp
  · rw [List.drop_set_of_lt (by have := h.ij; omega)]
    have := congrArg (List.drop 1) h.rst; rw [List.drop_drop, List.drop_drop] at this; exact this
theorem setCells_putL (W : World) (g : Nat) : ∀ (us : List Value) (o : Nat), W.setCells g o us = putL W g o us := by
  intro us
  induction us generalizing W with
  | nil => intro o; rfl
  | cons u us ih => intro o; exact ih (W.setCell ⟨g, o, none⟩ u) (o + 1)
theorem setL_take : ∀ (us xs : List Value) (o i : Nat), i ≤ o → (setL xs o us).take i = xs.take i
  | [], xs, o, i, h => rfl
  | u :: us, xs, o, i, h => by
    show (setL (xs.set o u) (o + 1) us).take i = _
    rw [setL_take us _ (o + 1) i (by omega), List.take_set_of_le h]
/-- What is cut off is cleared; the first stay. -/
theorem g_cut {W : World} {g n c i : Nat} {X : List Sl} (h : gE.Row W (.slice (some ⟨g, 0, none⟩) n c) X) (hl : X.length = n) (hi : i ≤ n) (us : List Value) : gE.Row (W.setCells g i us) (.slice (some ⟨g, 0, none⟩) i c) (X.take i) := by
  rw [setCells_putL]
  have h1 : W.ownsRow 0 53 1 (.slice (some ⟨g, 0, none⟩) n c) n (X.flatMap gE.f) := by have := h; unfold El.Row at this; rw [hl] at this; exact this
  have h2 := own_putL (P := fun _ => True) us W i _ h1
  rcases h2.2 with ⟨e, -⟩ | ⟨g', cap, cur, e, a1, a2, a3, a4, a5, a6⟩
  · cases e
  · injection e with e1 e2 e3
    injection e1 with e1
    injection e1 with e1
    subst e1 e3
    have fl : ∀ (Y : List Sl), Y.flatMap gE.f = Y.map sV := fun Y => by
      induction Y with
      | nil => rfl
      | cons y Y ih => rw [List.flatMap_cons, ih]; rfl
    have ht : (X.take i).length = i := by rw [List.length_take, hl]; omega
    refine ⟨by rw [fl, List.length_map, ht]; show i = i * 1; omega, .inr ⟨g, c, cur, by rw [ht], a1, a2, by rw [ht]; omega, a4, a5, ?_⟩⟩
    rw [ht, fl]
    have e5 : cur.toList.take i = (cur.toList.take (n * 1)).take i := by rw [List.take_take]; congr 1; omega
    show cur.toList.take (i * 1) = _
    rw [Nat.mul_one, e5, a6, setL_take us _ i i (Nat.le_refl _), fl, List.map_take]
theorem HC_new (w : World) (s : Sl) : (w.alloc (.cells #[sV s] 53)).cell? ⟨w.heap.size, 0, none⟩ = some (sV s) := by
  have hb := heap_alloc_last w (.cells #[sV s] 53)
  unfold World.cell?
  simp only
  rw [hb]
  rfl
theorem fz_lat {w w' : World} {g o : Nat} (b : Below w.heap.size w w') (hg : g < w.heap.size) (h : w.frozen? ⟨g, o, none⟩ = false) : w'.frozen? ⟨g, o, none⟩ = false := (b.frozen (p := ⟨g, o, none⟩) hg).trans h
theorem filter_all {least : Int} {ss : List Sl} (h : ∀ s ∈ ss, kp least s = true) : ss.filter (kp least) = ss := List.filter_eq_self.2 h
set_option maxHeartbeats 8000000 in
set_option maxRecDepth 100000 in
theorem delete_any (B : Nat) (least : Int) (lb : Nat) (v : Value) (ss : List Sl) (L : List (List Int)) (w : World) (h : GL B w v ss L) (hc : w.cell? ⟨lb, 0, none⟩ = some (.int .i64 least)) (hlb : lb < B) (hBw : B ≤ w.heap.size) (hf : ss.length ≤ 1048577) :
    Calls Try.prog 17 #[v, delF lb] w (DeO B w (L.filter (fun X => decide (least ≤ (X.length : Int))))) := by
  have hIx := index_any least lb v ss w h.row hc hf
  obtain ⟨a, c, hv, hnc⟩ := h.row.form
  obtain ⟨n, hn⟩ : ∃ n, ss.length = n := ⟨_, rfl⟩
  rw [hn] at hv hf hnc
  subst hv
  have HG := Hid.mk (And.intro h (And.intro hn hc))
  clear h hn hc
  go_enter Try.func17, Try.ntmps17
  go_wp2_with fail
  refine hIx.mono ?_
  clear hIx
  intro e w1 hO
  unfold IxO at hO
  obtain ⟨r, rfl, hr, b1⟩ := hO
  rcases hr with ⟨rfl, hall⟩ | ⟨j0, hj0, rfl, hk0, hall⟩
  · have HD : Hid (GL B w1 (.slice a n c) ss (L.filter (fun X => decide (least ≤ (X.length : Int))))) := Hid.mk (by
      have := HG.out.1.filter (w' := w1) (v' := .slice a n c) least (by rw [filter_all hall]; exact El.Row.below HG.out.1.row b1) (.below b1) HG.out.1.lo
      rw [filter_all hall] at this; exact this)
    have HB := Hid.mk (show Below B w w1 from b1.mono hBw)
    clear hall b1
    go_wp2
    go_ret
    unfold DeO
    exact ⟨_, ss, rfl, HD.out, HB.out⟩
  · obtain ⟨g, hg⟩ : ∃ g, a = some ⟨g, 0, none⟩ := by
      obtain ⟨g', cap', e', -⟩ := El.cells gOk HG.out.1.row j0 hj0
      injection e' with e1; exact ⟨g', e1⟩
    subst hg
    have hgB : B ≤ g := HG.out.1.lo g rfl
    have hglt : g < w.heap.size := row_lt HG.out.1.row (k := g) rfl
    have hjn : j0 < n := by rw [← HG.out.2.1]; exact hj0
    have D0 : DI w w1 g n c least ss ss j0 (j0 + 1) := by
      have e1 : (ss.take j0).filter (kp least) = ss.take j0 := filter_all hall
      have e2 : (ss.take (j0 + 1)).filter (kp least) = ss.take j0 := by rw [List.take_succ_eq_append_getElem hj0, List.filter_append, e1]; simp [hk0]
      exact ⟨El.Row.below HG.out.1.row b1, HG.out.2.1, by rw [e2], by rw [e2, List.length_take]; omega, rfl, by omega, .below b1⟩
    have H0 := Hid.mk D0
    have hne1 : ((j0 : Int) == -1) = false := beq_eq_false_iff_ne.2 (by omega)
    have wj0 : IntKind.i64.wrap ((j0 : Int) + 1) = ((j0 + 1 : Nat) : Int) := i64_in _ (by omega) (by omega)
    clear D0 hall hk0 hj0 b1
    go_wp2_with fail
    go_loopw [5, 6] (fun u x wr => ∃ (i j : Nat) (X : List Sl), u = .int .i64 i ∧ x = .int .i64 j ∧ j ≤ n ∧ Hid (DI w wr g n c least ss X i j)) (fun _ x _ => n - (intOf x).toNat)
    case atStart => exact ⟨j0, j0 + 1, ss, rfl, by go_num, by omega, H0⟩
    case round =>
      obtain ⟨i, j, X, rfl, rfl, hj, HI⟩ := hrel
      clear H0 wj0 hne1
      have hij := HI.out.ij
      by_cases hlt : j < n
      · have hlt' : (j : Int) < (n : Int) := by omega
        have hjl : j < ss.length := by rw [HG.out.2.1]; exact hlt
        have hXj : X[j]'(by rw [HI.out.len]; exact hlt) = ss[j] := by
          have e := HI.out.rst
          have h1 := List.drop_eq_getElem_cons (show j < X.length by rw [HI.out.len]; exact hlt)
          have h2 := List.drop_eq_getElem_cons hjl
          rw [h1, h2] at e
          exact (List.cons.inj e).1
        have cj := (g_cell HI.out.row j (by rw [HI.out.len]; exact hlt)).1
        rw [hXj] at cj
        obtain ⟨ci, fi⟩ := g_cell HI.out.row i (by rw [HI.out.len]; omega)
        have bb : Below wr.heap.size wr (wr.alloc (.cells #[sV ss[j]] 53)) := (Below.refl _ wr).alloc (Nat.le_refl _) _
        have lw : wr.cell? ⟨lb, 0, none⟩ = some (.int .i64 least) := cell_stay HI.out.st (fun e => by omega) HG.out.2.2
        have hS := small_any least ss[j] lb (wr.alloc (.cells #[sV ss[j]] 53)) (cell_lat bb lw)
        have HKp := Hid.mk (fun w2 (b2 : Below wr.heap.size wr w2) => And.intro (fun hk => HI.out.keep hjl HG.out.2.1.symm hk b2) (fun hk => HI.out.skip hjl hk b2))
        have bx := HC_new wr ss[j]
        have wj : IntKind.i64.wrap ((j : Int) + 1) = ((j + 1 : Nat) : Int) := i64_in _ (by omega) (by omega)
        have wi : IntKind.i64.wrap ((i : Int) + 1) = ((i + 1 : Nat) : Int) := i64_in _ (by omega) (by omega)
        have hin : (i : Int) < (n : Int) := by omega
        obtain ⟨x, hx⟩ : ∃ x, x = ss[j] := ⟨_, rfl⟩
        rw [← hx] at cj hS HKp bb bx
        obtain ⟨y, hy⟩ : ∃ y, y = X[i]'(by rw [HI.out.len]; omega) := ⟨_, rfl⟩
        rw [← hy] at ci
        obtain ⟨xa, xl, xc⟩ := x
        obtain ⟨ya, yl, yc⟩ := y
        simp only [sV] at cj ci hS bb bx HKp
        have HBB := Hid.mk (And.intro bb bx)
        have HCI := Hid.mk (And.intro ci (And.intro fi (show g < wr.heap.size from Nat.lt_of_lt_of_le hglt HI.out.st.size)))
        cases hk : kp least (xa, xl, xc) with
        | true =>
          rw [hk] at hS
          simp only [Bool.not_true] at hS
          have HK2 := Hid.mk (fun w2 b2 => (HKp.out w2 b2).1 hk)
          clear hk hx hy hXj hjl HKp bb bx lw ci fi HI hlt
          go_wp2_with (first
            | (go_at_call 18; refine hS.mono ?_; clear hS; rintro e w2 ⟨rfl, b2⟩; have z0 : w2.cell? ⟨wr.heap.size, 0, none⟩ = some (.slice xa xl xc) := cell_lat b2 HBB.out.2; have zc : w2.cell? ⟨g, i, none⟩ = some (.slice ya yl yc) := cell_lat b2 (cell_lat HBB.out.1 HCI.out.1); have zf : w2.frozen? ⟨g, i, none⟩ = false := fz_lat (chain HBB.out.1 b2 (Nat.le_refl _)) HCI.out.2.2 HCI.out.2.1; have H2 := Hid.mk (HK2.out w2 (chain HBB.out.1 b2 (Nat.le_refl _))); clear b2)
            | fail)
          go_roundw
          case rel => exact ⟨i + 1, j + 1, _, by go_num, by go_num, by omega, H2⟩
          case measure => simp [intOf]; omega
        | false =>
          rw [hk] at hS
          simp only [Bool.not_false] at hS
          have HK2 := Hid.mk (fun w2 b2 => (HKp.out w2 b2).2 hk)
          clear hk hx hy hXj hjl HKp bb bx lw ci fi HI hlt
          go_wp2_with (first
            | (go_at_call 18; refine hS.mono ?_; clear hS; rintro e w2 ⟨rfl, b2⟩; have H2 := Hid.mk (HK2.out w2 (chain HBB.out.1 b2 (Nat.le_refl _))); clear b2)
            | fail)
          go_roundw
          case rel => exact ⟨i, j + 1, X, rfl, by go_num, by omega, H2⟩
          case measure => simp [intOf]; omega
      · have hlt' : ¬ (j : Int) < (n : Int) := by omega
        have hin : i < n := by omega
        have hcl : ∀ ty, (Builtin.clear_ #[33] ty #[.slice (some ⟨g, i, none⟩) (n - i) (c - i)]).run Try.prog wr = .ok (.tuple #[]) (wr.setCells g i (List.replicate (n - i) (.slice none 0 0))) := fun ty => clear_groups wr ty g i (n - i) (c - i) (by omega) (fun t ht => by rw [(g_cell HI.out.row (i + t) (by rw [HI.out.len]; omega)).1]; rfl) (fun t ht => (g_cell HI.out.row (i + t) (by rw [HI.out.len]; omega)).2)
        have r5 := g_cut HI.out.row HI.out.len (i := i) (by omega) (List.replicate (n - i) (.slice none 0 0))
        have e5 : X.take i = ss.filter (kp least) := by have := HI.out.fst; rw [List.take_of_length_le (show ss.length ≤ j by rw [HG.out.2.1]; omega)] at this; exact this
        rw [e5] at r5
        obtain ⟨V, hV⟩ : ∃ V, V = wr.setCells g i (List.replicate (n - i) (.slice none 0 0)) := ⟨_, rfl⟩
        have sV5 : Stay (fun k => k = g) w V := by rw [hV, setCells_putL]; exact HI.out.st.andThen (putL_stay _ _ _ _) (fun _ _ h => h)
        rw [← hV] at r5
        have HD : Hid (GL B V (.slice (some ⟨g, 0, none⟩) i c) (ss.filter (kp least)) (L.filter (fun X => decide (least ≤ (X.length : Int))))) := Hid.mk (HG.out.1.filter least r5 (sV5.mono (fun k _ e => by rw [e]; rfl)) (fun b hb => by cases hb; exact hgB))
        have HB : Hid (Below B w V) := Hid.mk (Stay.toBelow sV5 (fun k hk e => by omega) hBw)
        simp only [← hV] at hcl
        have hi1 : (i : Int) ≤ (n : Int) := by omega
        have hi2 : (i : Int) ≤ (c : Int) := by omega
        have hi3 : (n : Int) ≤ (c : Int) := by omega
        clear r5 e5 sV5 hV hlt HI
        go_wp2
        go_ret
        unfold DeO
        exact ⟨_, _, rfl, HD.out, HB.out⟩
end Go.Proofs.Ytmhifofeobhhgaa
