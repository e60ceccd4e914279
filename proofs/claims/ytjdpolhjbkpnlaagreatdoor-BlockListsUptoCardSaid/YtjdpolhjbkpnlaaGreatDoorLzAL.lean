/-
  DERIVED. BHead, BFile, as one text.
-/
import Derived.Test.YtjdpolhjbkpnlaaGreatDoorLzAK
import Derived.Test.YtjdpolhjbkpnlaaGreatDoorLzAD
set_option linter.unusedVariables false
set_option linter.unusedSimpArgs false
namespace Go.Proofs.YtjdpolhjbkpnlaaGreatDoor
open Go.RowKit Go.Proofs.SealMath
/-- Numbers that were read, and noughts behind them. -/
def nsC (l : List Nat) : List Value := (l ++ List.replicate (6 - l.length) 0).map fun x => .int .i64 (w64 x)
theorem nsC_set (l : List Nat) (v : Nat) (h : l.length < 6) : (nsC l).toArray.setIfInBounds l.length (.int .i64 (w64 v)) = (nsC (l ++ [v])).toArray := by
  unfold nsC
  rw [List.setIfInBounds_toArray]
  congr 1
  have e : 6 - l.length = (6 - (l ++ [v]).length) + 1 := by simp; omega
  rw [e, List.replicate_succ, List.map_append, List.map_cons, List.set_append_right _ _ (by simp)]
  simp
theorem nsC_len (l : List Nat) (h : l.length ≤ 6) : (nsC l).length = 6 := by simp [nsC]; omega
def hdM (o : Option (List Nat)) : Hd := match o with
  | some [a, c, d, e, f, g] => ⟨w64 a, w64 c, w64 d, w64 e, w64 f, w64 g⟩
  | _ => h0
theorem hdR_M (b : ByteArray) : hdR b = hdM (nsA b 6 0) := rfl
theorem six_of (l : List Nat) (h : l.length = 6) : ∃ a c d e f g, l = [a, c, d, e, f, g] := by
  match l, h with
  | [a, c, d, e, f, g], _ => exact ⟨a, c, d, e, f, g, rfl⟩
set_option maxHeartbeats 4000000 in
set_option maxRecDepth 100000 in
theorem readHead_any (b : ByteArray) (w : World) (hb : b.size < 4611686018427387904) :
    Calls Tryz.prog 34 #[.string b] w fun r w' => r = .returned (.agg (hdC (hdR b)).toArray) ∧ Below w.heap.size w w' := by
  obtain ⟨W0, hW0⟩ : ∃ W0, W0 = (w.alloc (.cells #[.int .i64 0, .int .i64 0, .int .i64 0, .int .i64 0, .int .i64 0, .int .i64 0] 31)).alloc (.cells #[.int .i64 0, .int .i64 0, .int .i64 0, .int .i64 0, .int .i64 0, .int .i64 0] 117) := ⟨_, rfl⟩
  have hA : W0.heap[w.heap.size + 1]? = some (.cells (nsC []).toArray 117 (0, 0)) := by
    have := heap_alloc_last (w.alloc (.cells #[.int .i64 0, .int .i64 0, .int .i64 0, .int .i64 0, .int .i64 0, .int .i64 0] 31)) (.cells #[.int .i64 0, .int .i64 0, .int .i64 0, .int .i64 0, .int .i64 0, .int .i64 0] 117)
    rw [World.size_alloc] at this
    rw [hW0, this]; rfl
  have bW0 : Below w.heap.size w W0 := by rw [hW0]; exact ((Below.refl _ w).alloc (Nat.le_refl _) _).alloc (by simp) _
  have hR : W0.heap[w.heap.size]? = some (.cells #[.int .i64 0, .int .i64 0, .int .i64 0, .int .i64 0, .int .i64 0, .int .i64 0] 31 (0, 0)) := by
    have h1 := heap_alloc_last w (.cells #[.int .i64 0, .int .i64 0, .int .i64 0, .int .i64 0, .int .i64 0, .int .i64 0] 31)
    have b2 : Below (w.alloc (.cells #[.int .i64 0, .int .i64 0, .int .i64 0, .int .i64 0, .int .i64 0, .int .i64 0] 31)).heap.size (w.alloc (.cells #[.int .i64 0, .int .i64 0, .int .i64 0, .int .i64 0, .int .i64 0, .int .i64 0] 31)) W0 := by rw [hW0]; exact (Below.refl _ _).alloc (Nat.le_refl _) _
    exact (b2.block _ (by simp)).trans h1
  have HW0 := Hid.mk hW0
  clear hW0
  rw [hdR_M]
  obtain ⟨G, hG⟩ : ∃ G, G = nsA b 6 0 := ⟨_, rfl⟩
  rw [← hG]
  go_enter Tryz.func34, Tryz.ntmps34
  go_wp2
  rw [← HW0.out]
  go_loopw [4, 9] (fun pv iv wr => ∃ (l : List Nat) (p : Nat), iv = .int .i64 l.length ∧ pv = .int .i64 p ∧ l.length ≤ 6 ∧ G = (nsA b (6 - l.length) p).map (l ++ ·) ∧ wr.heap[w.heap.size + 1]? = some (.cells (nsC l).toArray 117 (0, 0)) ∧ Stay (fun k => k = w.heap.size + 1) W0 wr) (fun _ iv _ => 6 - (intOf iv).toNat)
  case atStart => exact ⟨[], 0, rfl, rfl, Nat.zero_le _, by rw [hG]; simp, hA, Stay.refl _ _⟩
  case round =>
    obtain ⟨l, p, rfl, rfl, hl, hN, hC, hS⟩ := hrel
    clear hG
    have hRr : wr.heap[w.heap.size]? = _ := (hS.block w.heap.size (Array.getElem?_eq_some_iff.1 hR).1 (by omega)).trans hR
    have bwr : Below w.heap.size w wr := bW0.trans (hS.toBelow (fun k hk e => by omega) bW0.size)
    by_cases hlt : l.length < 6
    · obtain ⟨⟨v, q, e⟩, hv⟩ : ∃ r, vA b (p : Int) = r := ⟨_, rfl⟩
      have c1 := fun W => var_read b p W hb v q e hv
      have kv := vA_at b p
      rw [hv] at kv
      dsimp only at kv
      have e6 : 6 - l.length = (6 - (l.length + 1)) + 1 := by omega
      rw [e6, nsA, hv] at hN
      dsimp only at hN
      have hl6 : (l.length : Int) < 6 := by omega
      by_cases he : e = 0
      · subst he
        rw [if_pos rfl] at hN
        have wv := w64_wrap v (kv rfl).1
        have hcell : wr.cell? ⟨w.heap.size + 1, l.length, none⟩ = some ((nsC l)[l.length]'(by rw [nsC_len l hl]; exact hlt)) := by
          rw [cell_of_row _ _ l.length _ _ (0, 0) hC]
          simp [nsC_len l hl, hlt]
        have hfr : wr.frozen? ⟨w.heap.size + 1, l.length, none⟩ = false := frozen_of_row _ _ _ _ _ hC
        have hset := heap_setCell_same wr (w.heap.size + 1) l.length _ _ (.int .i64 (w64 v)) hC
        rw [nsC_set l v hlt] at hset
        have HH := Hid.mk (And.intro hN (And.intro hset (And.intro hS hRr)))
        clear hN hset hS hRr hC kv hv
        generalize w64 v = V at *
        go_wp2_with (go_at_call 39; refine (c1 _).mono ?_; rintro r w' ⟨rfl, rfl⟩; clear c1)
        obtain ⟨k1, k2, k3, k4⟩ := HH.out
        refine ⟨⟨l ++ [v], q, ival (by simp), rfl, by simp; omega, ?_, k2, Stay.setCell (F := fun k => k = w.heap.size + 1) k3 (p := ⟨w.heap.size + 1, l.length, none⟩) (fun _ => rfl) _⟩, by simp only [intOf]; simp; omega⟩
        rw [k1]
        rw [show 6 - (l ++ [v]).length = 6 - (l.length + 1) by simp]
        cases nsA b (6 - (l.length + 1)) q with
        | none => rfl
        | some m => simp
      · rw [if_neg he] at hN
        have hE : hdM G = h0 := by rw [hN]; rfl
        have hne : (e != 0) = true := by simpa using he
        have r0 : wr.cell? ⟨w.heap.size, 0, none⟩ = some (.int .i64 0) := by rw [cell_of_row _ _ 0 _ _ (0, 0) hRr]; rfl
        have r1 : wr.cell? ⟨w.heap.size, 1, none⟩ = some (.int .i64 0) := by rw [cell_of_row _ _ 1 _ _ (0, 0) hRr]; rfl
        have r2 : wr.cell? ⟨w.heap.size, 2, none⟩ = some (.int .i64 0) := by rw [cell_of_row _ _ 2 _ _ (0, 0) hRr]; rfl
        have r3 : wr.cell? ⟨w.heap.size, 3, none⟩ = some (.int .i64 0) := by rw [cell_of_row _ _ 3 _ _ (0, 0) hRr]; rfl
        have r4 : wr.cell? ⟨w.heap.size, 4, none⟩ = some (.int .i64 0) := by rw [cell_of_row _ _ 4 _ _ (0, 0) hRr]; rfl
        have r5 : wr.cell? ⟨w.heap.size, 5, none⟩ = some (.int .i64 0) := by rw [cell_of_row _ _ 5 _ _ (0, 0) hRr]; rfl
        have fz : ∀ j, wr.frozen? ⟨w.heap.size, j, none⟩ = false := fun j => frozen_of_row _ _ _ _ _ hRr
        have f0 := fz 0
        have f1 := fz 1
        have f2 := fz 2
        have f3 := fz 3
        have f4 := fz 4
        have f5 := fz 5
        have HE := Hid.mk (And.intro hE bwr)
        clear hE hN he hv kv hRr hS hC hA hR bW0 HW0 fz bwr
        go_wp2_with (go_at_call 39; refine (c1 _).mono ?_; rintro r w' ⟨rfl, rfl⟩; clear c1)
        refine bodyPost_ret (v := .agg (hdC h0).toArray) (by simp [results, Tryz.results34, go_sem, hdC, h0, r0, r1, r2, r3, r4, r5]; try rfl) rfl ?_
        rw [HE.out.1]
        exact ⟨rfl, (((((HE.out.2.setCell (p := ⟨w.heap.size, 0, none⟩) (Nat.le_refl _) _).setCell (p := ⟨w.heap.size, 1, none⟩) (Nat.le_refl _) _).setCell (p := ⟨w.heap.size, 2, none⟩) (Nat.le_refl _) _).setCell (p := ⟨w.heap.size, 3, none⟩) (Nat.le_refl _) _).setCell (p := ⟨w.heap.size, 4, none⟩) (Nat.le_refl _) _).setCell (p := ⟨w.heap.size, 5, none⟩) (Nat.le_refl _) _⟩
    · have hl6 : l.length = 6 := by omega
      obtain ⟨a, c, d, e, f, g, rfl⟩ := six_of l hl6
      have hE : hdM G = ⟨w64 a, w64 c, w64 d, w64 e, w64 f, w64 g⟩ := by rw [hN]; rfl
      have x0 : wr.cell? ⟨w.heap.size + 1, 0, none⟩ = some (.int .i64 (w64 a)) := by rw [cell_of_row _ _ 0 _ _ (0, 0) hC]; rfl
      have x1 : wr.cell? ⟨w.heap.size + 1, 1, none⟩ = some (.int .i64 (w64 c)) := by rw [cell_of_row _ _ 1 _ _ (0, 0) hC]; rfl
      have x2 : wr.cell? ⟨w.heap.size + 1, 2, none⟩ = some (.int .i64 (w64 d)) := by rw [cell_of_row _ _ 2 _ _ (0, 0) hC]; rfl
      have x3 : wr.cell? ⟨w.heap.size + 1, 3, none⟩ = some (.int .i64 (w64 e)) := by rw [cell_of_row _ _ 3 _ _ (0, 0) hC]; rfl
      have x4 : wr.cell? ⟨w.heap.size + 1, 4, none⟩ = some (.int .i64 (w64 f)) := by rw [cell_of_row _ _ 4 _ _ (0, 0) hC]; rfl
      have x5 : wr.cell? ⟨w.heap.size + 1, 5, none⟩ = some (.int .i64 (w64 g)) := by rw [cell_of_row _ _ 5 _ _ (0, 0) hC]; rfl
      have r0 : wr.cell? ⟨w.heap.size, 0, none⟩ = some (.int .i64 0) := by rw [cell_of_row _ _ 0 _ _ (0, 0) hRr]; rfl
      have r1 : wr.cell? ⟨w.heap.size, 1, none⟩ = some (.int .i64 0) := by rw [cell_of_row _ _ 1 _ _ (0, 0) hRr]; rfl
      have r2 : wr.cell? ⟨w.heap.size, 2, none⟩ = some (.int .i64 0) := by rw [cell_of_row _ _ 2 _ _ (0, 0) hRr]; rfl
      have r3 : wr.cell? ⟨w.heap.size, 3, none⟩ = some (.int .i64 0) := by rw [cell_of_row _ _ 3 _ _ (0, 0) hRr]; rfl
      have r4 : wr.cell? ⟨w.heap.size, 4, none⟩ = some (.int .i64 0) := by rw [cell_of_row _ _ 4 _ _ (0, 0) hRr]; rfl
      have r5 : wr.cell? ⟨w.heap.size, 5, none⟩ = some (.int .i64 0) := by rw [cell_of_row _ _ 5 _ _ (0, 0) hRr]; rfl
      have fz : ∀ j, wr.frozen? ⟨w.heap.size, j, none⟩ = false := fun j => frozen_of_row _ _ _ _ _ hRr
      have f0 := fz 0
      have f1 := fz 1
      have f2 := fz 2
      have f3 := fz 3
      have f4 := fz 4
      have f5 := fz 5
      have hz : w.heap.size + 1 < wr.heap.size := World.block_lt_of_cell? wr _ x0
      have HE := Hid.mk bwr
      have HEE := Hid.mk hE
      clear hE hN hRr hS hC hA hR bW0 HW0 fz bwr hl
      generalize w64 a = A0 at *
      generalize w64 c = A1 at *
      generalize w64 d = A2 at *
      generalize w64 e = A3 at *
      generalize w64 f = A4 at *
      generalize w64 g = A5 at *
      simp only [List.length_cons, List.length_nil, Nat.reduceAdd]
      go_wp2
      refine bodyPost_ret (v := .agg #[.int .i64 A0, .int .i64 A1, .int .i64 A2, .int .i64 A3, .int .i64 A4, .int .i64 A5]) (by simp [results, Tryz.results34, go_sem, r0, r1, r2, r3, r4, r5]; try rfl) rfl ?_
      rw [HEE.out]
      exact ⟨rfl, (((((HE.out.setCell (p := ⟨w.heap.size, 0, none⟩) (Nat.le_refl _) _).setCell (p := ⟨w.heap.size, 1, none⟩) (Nat.le_refl _) _).setCell (p := ⟨w.heap.size, 2, none⟩) (Nat.le_refl _) _).setCell (p := ⟨w.heap.size, 3, none⟩) (Nat.le_refl _) _).setCell (p := ⟨w.heap.size, 4, none⟩) (Nat.le_refl _) _).setCell (p := ⟨w.heap.size, 5, none⟩) (Nat.le_refl _) _⟩
end Go.Proofs.YtjdpolhjbkpnlaaGreatDoor
set_option linter.unusedVariables false
set_option linter.unusedSimpArgs false
namespace Go.Proofs.YtjdpolhjbkpnlaaGreatDoor
open Go.RowKit Go.Proofs.SealMath
theorem infoStr : (Tryz.prog.info? 9).map (fun i => (i.zero, i.size, i.bytes)) = some (some (.string ⟨#[]⟩), 1, 16) := by kernel_rfl
theorem infoEn : (Tryz.prog.info? 38).map (fun i => (i.zero, i.size, i.bytes)) = some (some (.agg #[.int .i64 0, .string ⟨#[]⟩, .int .i64 0, .int .i64 0, .bool false]), 5, 48) := by kernel_rfl
theorem new_cell (W : World) (cs : List Value) (t : TypeId) (j : Nat) (u : Value) (hu : cs[j]? = some u) : (W.alloc (.cells cs.toArray t)).cell? ((⟨W.heap.size, 0, none⟩ : Addr).add j) = some u := by
  have e : (⟨W.heap.size, 0, none⟩ : Addr).add j = ⟨W.heap.size, j, none⟩ := by unfold Addr.add; split <;> simp_all
  rw [e, cell_of_row _ _ j _ t (0, 0) (heap_alloc_last W _)]
  simpa using hu
/-- A text. -/
abbrev sv (p : List UInt8) : Value := .string ⟨p.toArray⟩
theorem str_app (W : World) (ls : List (List UInt8)) (lv : Value) (h : W.ownsRow 0 9 1 lv ls.length (ls.map sv)) (y : List UInt8) (hb : ls.length + 1 ≤ 1099511627776) :
    ∃ v' w', (Builtin.append_ #[52, 52] 52 #[lv, .slice (some ⟨W.heap.size, 0, none⟩) 1 1]).run Tryz.prog (W.alloc (.cells #[sv y] 9)) = .ok v' w' ∧ w'.ownsRow 0 9 1 v' (ls ++ [y]).length ((ls ++ [y]).map sv) ∧ Stay (fun k => lv.ownBlock = some k) W w' ∧
      (∀ k, v'.ownBlock = some k → lv.ownBlock = some k ∨ W.heap.size ≤ k) := by
  obtain ⟨i0, hi, hz0, hz1, hz2⟩ := info_parts infoStr
  have st0 : Stay (fun k => lv.ownBlock = some k) W (W.alloc (.cells #[sv y] 9)) := (Stay.refl _ W).alloc _
  have h' : (W.alloc (.cells #[sv y] 9)).ownsRow 0 9 1 lv ls.length (ls.map sv) := h.alloc _
  have h1c : ∀ u ∈ [sv y], u.oneCell' = true := fun u hu => by
    simp at hu
    rcases hu with rfl; rfl
  obtain ⟨v', w', hr, ho, hg, _, hloc⟩ := run_append_own_at (P := Tryz.prog) (W.alloc (.cells #[sv y] 9)) 0 52 52 9 i0 _ 1 16 Tryz.underlying52 hi hz0 hz1 hz2 rfl (by decide) lv ls.length _ h' ⟨W.heap.size, 0, none⟩ 1 1 [sv y] rfl (new_cell W [sv y] 9) h1c (by unfold maxLen; omega) (by omega) (Nat.zero_le _)
  refine ⟨v', w', hr, by rw [List.length_append, List.map_append]; simpa using ho, st0.trans (.grown hg (fun k hk => hk)), fun k hk => ?_⟩
  rcases hloc with hl | hl
  · exact .inl (hl ▸ hk)
  · rw [hl] at hk; cases hk; exact .inr (by simp)
theorem en_app (W : World) (ls : List En) (lv : Value) (h : W.ownsRow 0 38 5 lv ls.length (ls.flatMap enC)) (y : En) (hb : ls.length + 1 ≤ 1099511627776) :
    ∃ v' w', (Builtin.append_ #[34, 34] 34 #[lv, .slice (some ⟨W.heap.size, 0, none⟩) 1 1]).run Tryz.prog (W.alloc (.cells (enV y) 38)) = .ok v' w' ∧ w'.ownsRow 0 38 5 v' (ls ++ [y]).length ((ls ++ [y]).flatMap enC) ∧ Stay (fun k => lv.ownBlock = some k) W w' ∧
      (∀ k, v'.ownBlock = some k → lv.ownBlock = some k ∨ W.heap.size ≤ k) := by
  obtain ⟨i0, hi, hz0, hz1, hz2⟩ := info_parts infoEn
  have st0 : Stay (fun k => lv.ownBlock = some k) W (W.alloc (.cells (enV y) 38)) := (Stay.refl _ W).alloc _
  have h' : (W.alloc (.cells (enV y) 38)).ownsRow 0 38 5 lv ls.length (ls.flatMap enC) := h.alloc _
  have h1c : ∀ u ∈ enC y, u.oneCell' = true := fun u hu => by
    simp [enC] at hu
    rcases hu with rfl | rfl | rfl | rfl | rfl <;> rfl
  obtain ⟨v', w', hr, ho, hg, _, hloc⟩ := run_append_own_at (P := Tryz.prog) (W.alloc (.cells (enV y) 38)) 0 34 34 38 i0 _ 5 48 Tryz.underlying34 hi hz0 hz1 hz2 rfl (by decide) lv ls.length _ h' ⟨W.heap.size, 0, none⟩ 1 1 (enC y) rfl (new_cell W (enC y) 38) h1c (by unfold maxLen; omega) (by omega) (Nat.zero_le _)
  refine ⟨v', w', hr, by rw [List.length_append, List.flatMap_append]; simpa using ho, st0.trans (.grown hg (fun k hk => hk)), fun k hk => ?_⟩
  rcases hloc with hl | hl
  · exact .inl (hl ▸ hk)
  · rw [hl] at hk; cases hk; exact .inr (by simp)
/-- A file's cells. -/
abbrev flV (h : Hd) (bv iv : Value) (rd : Nat) : Array Value := #[.int .i64 h.w, .int .i64 h.t, .int .i64 h.b, .int .i64 h.lo, .int .i64 h.hi, .int .i64 h.n, bv, iv, .int .i64 rd]
/-- A file in memory: its head, its blocks' bytes, its index, how many blocks were read. -/
structure FA (W : World) (fb : Nat) (h : Hd) (bl : List (List UInt8)) (ix : List En) (bv iv : Value) (rd : Nat) : Prop where
  box : W.heap[fb]? = some (.cells (flV h bv iv rd) 54 (0, 0))
  row : W.ownsRow 0 9 1 bv bl.length (bl.map sv)
  idx : W.ownsRow 0 38 5 iv ix.length (ix.flatMap enC)
theorem FA.kept {W W' : World} {F : Nat → Prop} {fb : Nat} {h : Hd} {bl : List (List UInt8)} {ix : List En} {bv iv : Value} {rd : Nat} (H : FA W fb h bl ix bv iv rd) (s : Stay F W W') (h1 : ¬ F fb) (h2 : ∀ k, bv.ownBlock = some k → ¬ F k) (h3 : ∀ k, iv.ownBlock = some k → ¬ F k) : FA W' fb h bl ix bv iv rd :=
  ⟨(s.block fb (Array.getElem?_eq_some_iff.1 H.box).1 h1).trans H.box, row_kept H.row s h2, row_kept H.idx s h3⟩
theorem FA.below {W W' : World} {fb : Nat} {h : Hd} {bl : List (List UInt8)} {ix : List En} {bv iv : Value} {rd : Nat} (H : FA W fb h bl ix bv iv rd) (b : Below W.heap.size W W') : FA W' fb h bl ix bv iv rd :=
  H.kept (F := fun _ => False) (.below b) (fun h => h) (fun _ _ h => h) (fun _ _ h => h)
theorem FA.lt {W : World} {fb : Nat} {h : Hd} {bl : List (List UInt8)} {ix : List En} {bv iv : Value} {rd : Nat} (H : FA W fb h bl ix bv iv rd) : fb < W.heap.size := (Array.getElem?_eq_some_iff.1 H.box).1
theorem FA.row_ne {W : World} {fb : Nat} {h : Hd} {bl : List (List UInt8)} {ix : List En} {bv iv : Value} {rd : Nat} (H : FA W fb h bl ix bv iv rd) {k : Nat} (hk : bv.ownBlock = some k) : k ≠ fb := fun e => by
  obtain ⟨c, hc⟩ := row_block H.row hk
  have := H.box
  rw [← e, hc] at this; simp at this
theorem FA.idx_ne {W : World} {fb : Nat} {h : Hd} {bl : List (List UInt8)} {ix : List En} {bv iv : Value} {rd : Nat} (H : FA W fb h bl ix bv iv rd) {k : Nat} (hk : iv.ownBlock = some k) : k ≠ fb := fun e => by
  obtain ⟨c, hc⟩ := row_block H.idx hk
  have := H.box
  rw [← e, hc] at this; simp at this
theorem FA.apart {W : World} {fb : Nat} {h : Hd} {bl : List (List UInt8)} {ix : List En} {bv iv : Value} {rd : Nat} (H : FA W fb h bl ix bv iv rd) {k : Nat} (hk : bv.ownBlock = some k) : ¬ iv.ownBlock = some k := fun e => by
  obtain ⟨c, hc⟩ := row_block H.row hk
  obtain ⟨d, hd⟩ := row_block H.idx e
  rw [hc] at hd; simp at hd
/-- A file's cells, one by one. -/
theorem fl9 {W : World} {fb : Nat} {h : Hd} {bv iv : Value} {rd : Nat} (hb : W.heap[fb]? = some (.cells (flV h bv iv rd) 54 (0, 0))) :
    (W.cell? ⟨fb, 0, none⟩ = some (.int .i64 h.w) ∧ W.cell? ⟨fb, 1, none⟩ = some (.int .i64 h.t) ∧ W.cell? ⟨fb, 2, none⟩ = some (.int .i64 h.b) ∧ W.cell? ⟨fb, 3, none⟩ = some (.int .i64 h.lo) ∧ W.cell? ⟨fb, 4, none⟩ = some (.int .i64 h.hi) ∧ W.cell? ⟨fb, 5, none⟩ = some (.int .i64 h.n)) ∧ W.cell? ⟨fb, 6, none⟩ = some bv ∧ W.cell? ⟨fb, 7, none⟩ = some iv ∧ W.cell? ⟨fb, 8, none⟩ = some (.int .i64 rd) ∧ ∀ j, W.frozen? ⟨fb, j, none⟩ = false :=
  ⟨⟨by rw [cell_of_row _ _ 0 _ _ (0, 0) hb]; rfl, by rw [cell_of_row _ _ 1 _ _ (0, 0) hb]; rfl, by rw [cell_of_row _ _ 2 _ _ (0, 0) hb]; rfl, by rw [cell_of_row _ _ 3 _ _ (0, 0) hb]; rfl, by rw [cell_of_row _ _ 4 _ _ (0, 0) hb]; rfl, by rw [cell_of_row _ _ 5 _ _ (0, 0) hb]; rfl⟩, by rw [cell_of_row _ _ 6 _ _ (0, 0) hb]; rfl, by rw [cell_of_row _ _ 7 _ _ (0, 0) hb]; rfl, by rw [cell_of_row _ _ 8 _ _ (0, 0) hb]; rfl, fun j => frozen_of_row _ _ _ _ _ hb⟩
theorem fl_set6 {W : World} {fb : Nat} {h : Hd} {bv iv : Value} {rd : Nat} (hb : W.heap[fb]? = some (.cells (flV h bv iv rd) 54 (0, 0))) (v : Value) : (W.setCell ⟨fb, 6, none⟩ v).heap[fb]? = some (.cells (flV h v iv rd) 54 (0, 0)) := heap_setCell_same W fb 6 _ _ v hb
theorem fl_set7 {W : World} {fb : Nat} {h : Hd} {bv iv : Value} {rd : Nat} (hb : W.heap[fb]? = some (.cells (flV h bv iv rd) 54 (0, 0))) (v : Value) : (W.setCell ⟨fb, 7, none⟩ v).heap[fb]? = some (.cells (flV h bv v rd) 54 (0, 0)) := heap_setCell_same W fb 7 _ _ v hb
theorem fl_set8 {W : World} {fb : Nat} {h : Hd} {bv iv : Value} {rd : Nat} (hb : W.heap[fb]? = some (.cells (flV h bv iv rd) 54 (0, 0))) (v : Nat) : (W.setCell ⟨fb, 8, none⟩ (.int .i64 v)).heap[fb]? = some (.cells (flV h bv iv v) 54 (0, 0)) := heap_setCell_same W fb 8 _ _ _ hb
set_option maxRecDepth 100000 in
theorem codeBytes_any (fb : Nat) (h : Hd) (bv iv : Value) (rd : Nat) (w : World) (hb : w.heap[fb]? = some (.cells (flV h bv iv rd) 54 (0, 0))) (hw : 64 ≤ h.w ∧ h.w ≤ 1024) :
    Calls Tryz.prog 23 #[Pt fb] w fun r w' => r = .returned (.int .i64 (cbH h : Nat)) ∧ w' = w := by
  obtain ⟨⟨y0, -⟩, -⟩ := fl9 hb
  have e : ((cbH h : Nat) : Int) = h.w / 8 := by unfold cbH; omega
  rw [e]
  clear hb e
  go_enter Tryz.func23, Tryz.ntmps23
  obtain ⟨x, hx⟩ : ∃ x, x = h.w := ⟨_, rfl⟩
  rw [← hx] at y0 hw ⊢
  clear hx
  go_wp2
  go_ret
  exact ⟨ret_int (by omega), rfl⟩
set_option maxRecDepth 100000 in
theorem entries_any (b : ByteArray) (cb : Nat) (w : World) :
    Calls Tryz.prog 28 #[.string b, .int .i64 cb] w fun r w' => r = .returned (.func (.func 53) #[] #[Pt w.heap.size, Pt (w.heap.size + 1)]) ∧ w' = (w.alloc (.cells #[.string b] 9)).alloc (.cells #[.int .i64 cb] 3) := by
  have hmf : ∀ (fn : Fn) (first cap : Array Value) (w : World), (Instr.makeFunc fn first cap).run Tryz.prog w = .ok (.func fn first cap) w := fun _ _ _ _ => rfl
  go_enter Tryz.func28, Tryz.ntmps28
  go_wp2
  go_ret
  exact ⟨rfl, rfl⟩
end Go.Proofs.YtjdpolhjbkpnlaaGreatDoor
