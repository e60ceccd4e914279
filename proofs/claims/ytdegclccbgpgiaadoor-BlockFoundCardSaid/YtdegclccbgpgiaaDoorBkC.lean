/-
  DERIVED. BLit, BLawH, BLawBk, BFew, BOpen, BOpen2, as one text.
-/
import Derived.Test.YtdegclccbgpgiaaDoorBkB
import Derived.Deep.RegionHeldLaw
import Derived.Deep.RegionHeld
import Derived.Deep.Slices
import Derived.WideShapes
import Derived.ChangeShapes
import Derived.ProofKit
import Derived.SizedLaws
import Derived.OpenShut
import Derived.ChangeSlices
set_option linter.unusedVariables false
set_option linter.unusedSimpArgs false
namespace Go.Proofs.YtdegclccbgpgiaaDoor
open Go.RowKit Go.Proofs.SealMath
theorem hits_len (cb : Nat) (x : Int) : ∀ C : List (List UInt8), (∀ y ∈ C, ∃ e ∈ ents ⟨y.toArray⟩ 0 cb, e.v = x) → C.length ≤ (hitV x (alA cb C)).length
  | [], _ => Nat.zero_le _
  | y :: C, h => by
    have ih := hits_len cb x C fun z hz => h z (List.mem_cons_of_mem _ hz)
    obtain ⟨e, he, hv⟩ := h y List.mem_cons_self
    have e1 : alA cb (y :: C) = ents ⟨y.toArray⟩ 0 cb ++ alA cb C := by unfold alA; rw [List.flatMap_cons]
    rw [e1, hitV_app, List.length_append, List.length_cons]
    have h1 : 0 < (hitV x (ents ⟨y.toArray⟩ 0 cb)).length := List.length_pos_of_mem (a := e) (by unfold hitV; rw [List.mem_filter]; exact ⟨he, by simpa using hv⟩)
    omega
theorem rF_next {ix : List En} (p : En) (h : rF ix p < ix.length) : 0 < cpE ix[rF ix p] p := by
  have h1 := List.takeWhile_append_dropWhile (p := fun e => decide (¬ 0 < cpE e p)) (l := ix)
  cases hd : ix.dropWhile (fun e => decide (¬ 0 < cpE e p)) with
  | nil =>
    rw [hd, List.append_nil] at h1
    unfold rF at h
    rw [h1] at h
    omega
  | cons a r =>
    have h2 := List.head_dropWhile_not (fun e => decide (¬ 0 < cpE e p)) (l := ix) (by rw [hd]; simp)
    have h3 : ix[rF ix p] = a := by
      rw [hd] at h1
      have : ix[rF ix p]? = some a := by
        obtain ⟨n, hn⟩ : ∃ n, n = rF ix p := ⟨_, rfl⟩
        rw [← hn]
        have hn2 : n = (ix.takeWhile fun e => decide (¬ 0 < cpE e p)).length := hn
        rw [← h1, List.getElem?_append_right (by omega), hn2]
        simp
      rw [List.getElem?_eq_getElem h] at this
      exact Option.some.inj this
    simp only [hd, List.head_cons] at h2
    rw [h3]
    simpa using h2
theorem cpE_ge {a p : En} (h : 0 < cpE a p) : p.v ≤ a.v := by
  unfold cpE at h
  split at h
  · omega
  · have := (cmpI a.v p.v).2.2.1 h
    omega
section
variable {cb : Nat} {l : List En} {bl : List (List UInt8)} {ix : List En}
/-- The blocks behind the first begin no lower than the place. -/
theorem Pts.high (P : Pts cb l bl ix) (p : En) {j : Nat} (hj : j < bl.length) (h : rF ix p ≤ j) : ∃ e ∈ ents ⟨bl[j].toArray⟩ 0 cb, p.v ≤ e.v := by
  have hl := P.len
  have hj' : j < ix.length := by omega
  refine ⟨ix[j], P.head hj hj', ?_⟩
  have h1 := cpE_ge (rF_next p (show rF ix p < ix.length by omega))
  rcases Nat.eq_or_lt_of_le h with e | e
  · subst e; exact h1
  · have hu := P.upix
    unfold Up at hu
    have h2 := cpE_v (List.pairwise_iff_getElem.1 hu _ _ (by omega) hj' e)
    omega
/-- A Find that finds n entries reads n + 2 blocks at most, and one at least where there is one. -/
theorem Pts.little (P : Pts cb l bl ix) {x : Int} {t : Nat} {L : List En} (h : FndO cb x (bl.drop (rF ix ⟨x, ⟨#[]⟩, -1, 0, false⟩ - 1)) t L) : t ≤ L.length + 2 ∧ (l ≠ [] → 1 ≤ t) := by
  have hl := P.len
  have hr := rF_le ix ⟨x, ⟨#[]⟩, -1, 0, false⟩
  have hne : l ≠ [] → 0 < bl.length := fun h => by
    rcases Nat.eq_zero_or_pos bl.length with h0 | h0
    · rw [List.length_eq_zero_iff] at h0
      have := P.al
      rw [h0] at this
      exact absurd this.symm h
    · exact h0
  have hB : ∀ C : List (List UInt8), C <+: bl.drop (rF ix ⟨x, ⟨#[]⟩, -1, 0, false⟩ - 1) → (∀ e ∈ alA cb C, e.v ≤ x) → C.length ≤ (hitV x (alA cb C)).length + 1 := fun C hC hle => by
    cases C with
    | nil => simp
    | cons y D =>
      have h1 := hits_len cb x D fun z hz => by
        obtain ⟨i, hi, rfl⟩ := List.mem_iff_getElem.1 hz
        obtain ⟨T, hT⟩ := hC
        have hlen : (y :: D ++ T).length = bl.length - (rF ix ⟨x, ⟨#[]⟩, -1, 0, false⟩ - 1) := by rw [hT, List.length_drop]
        simp only [List.length_append, List.length_cons] at hlen
        have hjb : rF ix ⟨x, ⟨#[]⟩, -1, 0, false⟩ - 1 + (i + 1) < bl.length := by omega
        have hz2 : bl[rF ix ⟨x, ⟨#[]⟩, -1, 0, false⟩ - 1 + (i + 1)] = D[i] := by
          have h3 : (bl.drop (rF ix ⟨x, ⟨#[]⟩, -1, 0, false⟩ - 1))[i + 1]? = some D[i] := by
            rw [← hT, List.cons_append, List.getElem?_cons_succ, List.getElem?_append_left hi, List.getElem?_eq_getElem hi]
          rw [List.getElem?_drop, List.getElem?_eq_getElem hjb] at h3
          exact Option.some.inj h3
        obtain ⟨e, he, hv⟩ := P.high ⟨x, ⟨#[]⟩, -1, 0, false⟩ hjb (by omega)
        rw [hz2] at he
        refine ⟨e, he, ?_⟩
        have := hle e (List.mem_flatMap.2 ⟨_, List.mem_cons_of_mem _ hz, he⟩)
        dsimp only at hv
        omega
      have e1 : alA cb (y :: D) = ents ⟨y.toArray⟩ 0 cb ++ alA cb D := by unfold alA; rw [List.flatMap_cons]
      rw [e1, hitV_app, List.length_append, List.length_cons]
      omega
  rcases h with ⟨h1, h2, h3⟩ | ⟨pre, y, q, rest, h1, h2, h3, -, h6, h7⟩
  · have h4 := hB _ (List.prefix_refl _) h2
    rw [← h3] at h4
    refine ⟨by omega, fun h => ?_⟩
    have := hne h
    rw [h1, List.length_drop]
    omega
  · have h4 := hB pre (List.IsPrefix.trans (List.prefix_append _ _) h1) fun e he => h6 e (List.mem_append_left _ he)
    rw [h7, hitV_app, List.length_append]
    exact ⟨by omega, fun _ => by omega⟩
end
end Go.Proofs.YtdegclccbgpgiaaDoor
set_option linter.unusedVariables false
set_option linter.unusedSimpArgs false
namespace Go.Proofs.YtdegclccbgpgiaaDoor
open Go.RowKit Go.Proofs.SealMath
set_option maxHeartbeats 1000000 in
set_option maxRecDepth 100000 in
theorem less6_any (a b : En) (w : World) :
    Calls Tryd.prog 15 #[.agg (enC a).toArray, .agg (enC b).toArray] w fun r w' => r = .returned (.bool (lsB a b)) ∧ Below w.heap.size w w' := by
  obtain ⟨v, c, i, s, d⟩ := a
  obtain ⟨v', c', i', s', d'⟩ := b
  have bA : Below w.heap.size w ((w.alloc (.cells #[.int .i64 v, .string c, .int .i64 i, .int .i64 s, .bool d] 40)).alloc (.cells #[.int .i64 v', .string c', .int .i64 i', .int .i64 s', .bool d'] 40)) := ((Below.refl _ w).alloc (Nat.le_refl _) _).alloc (by simp) _
  unfold lsB
  simp only [enC]
  by_cases h1 : v = v'
  · rw [if_pos h1]
    have h1' : (v != v') = false := by simp [h1]
    by_cases h2 : c = c'
    · rw [if_pos h2]
      subst h2
      clear h1
      have h2' : (c.toList == c.toList) = true := by simp
      have h2'' : (c.toList != c.toList) = false := by simp
      go_enter Tryd.func15, Tryd.ntmps15
      go_wp2
      go_ret
      exact ⟨ret_bool rfl, bA⟩
    · rw [if_neg h2]
      have h2' : (c.toList == c'.toList) = false := by
        rw [ByteArray.toList_eq, ByteArray.toList_eq]
        exact beq_false_of_ne (fun h => h2 (ba_ext h))
      have h2'' : (c.toList != c'.toList) = true := by rw [bne, h2']; rfl
      have h3 : Op.bytesLess c.data.toList c'.data.toList = Op.bytesLess c.toList c'.toList := by rw [ByteArray.toList_eq, ByteArray.toList_eq]
      rw [h3]
      clear h1 h2 h3
      go_enter Tryd.func15, Tryd.ntmps15
      go_wp2
      go_ret
      exact ⟨ret_bool rfl, bA⟩
  · rw [if_neg h1]
    have h1' : (v != v') = true := by simpa using h1
    clear h1
    go_enter Tryd.func15, Tryd.ntmps15
    go_wp2
    go_ret
    exact ⟨ret_bool rfl, bA⟩
set_option maxRecDepth 100000 in
set_option maxHeartbeats 1000000 in
theorem reads_any (fb : Nat) (h : Hd) (bv iv : Value) (rd : Nat) (w : World) (hb : w.heap[fb]? = some (.cells (flV h bv iv rd) 64 (0, 0))) :
    Calls Tryd.prog 17 #[Pt fb] w fun r w' => r = .returned (.int .i64 rd) ∧ Below w.heap.size w w' := by
  have y8 : w.cell? ⟨fb, 8, none⟩ = some (.int .i64 rd) := by rw [cell_of_row w _ 8 _ _ (0, 0) hb]; rfl
  have hz : fb < w.heap.size := World.block_lt_of_cell? w _ y8
  clear hb
  go_enter Tryd.func17, Tryd.ntmps17
  go_wp2
  refine bodyPost_ret (v := .int .i64 rd) (by simp [results, Tryd.results17, go_sem]; try rfl) rfl ?_
  exact ⟨rfl, Below.refl _ w⟩
set_option maxRecDepth 100000 in
set_option maxHeartbeats 1000000 in
theorem from_none (fb : Nat) (pl : En) (m : Int) (w : World) (hm : m < 1) :
    Calls Tryd.prog 16 #[Pt fb, .agg (enV pl), .int .i64 m] w fun r w' => r = .returned (.slice none 0 0) ∧ Below w.heap.size w w' := by
  have hd : decide (m < 1) = true := by simpa using hm
  have bA : Below w.heap.size w ((((w.alloc (.cells #[Pt fb] 30)).alloc (.cells (enV pl) 40)).alloc (.cells #[.int .i64 m] 3)).alloc (.cells #[.slice none 0 0] 24)) := ((((Below.refl _ w).alloc (Nat.le_refl _) _).alloc (by simp) _).alloc (by simp; omega) _).alloc (by simp; omega) _
  obtain ⟨v, c, i, s, d⟩ := pl
  simp only [enV] at bA ⊢
  clear hm
  go_enter Tryd.func16, Tryd.ntmps16
  go_wp2
  refine bodyPost_ret (v := .slice none 0 0) (by simp [results, Tryd.results16, go_sem]; try rfl) rfl ?_
  exact ⟨rfl, by first | exact bA | exact bA.setCell (by simp; omega) _⟩
end Go.Proofs.YtdegclccbgpgiaaDoor
set_option linter.unusedVariables false
set_option linter.unusedSimpArgs false
namespace Go.Proofs.YtdegclccbgpgiaaDoor
open Go.RowKit Go.Proofs.SealMath
set_option maxRecDepth 100000 in
set_option maxHeartbeats 1000000 in
theorem fhead_any (fb : Nat) (h : Hd) (bv iv : Value) (rd : Nat) (w : World) (hb : w.heap[fb]? = some (.cells (flV h bv iv rd) 64 (0, 0))) :
    Calls Tryd.prog 11 #[Pt fb] w fun r w' => r = .returned (.agg #[.int .i64 h.w, .int .i64 h.t, .int .i64 h.b, .int .i64 h.lo, .int .i64 h.hi, .int .i64 h.n]) ∧ Below w.heap.size w w' := by
  obtain ⟨⟨y0, y1, y2, y3, y4, y5⟩, -⟩ := fl9 hb
  have hz : fb < w.heap.size := World.block_lt_of_cell? w _ y0
  clear hb
  go_enter Tryd.func11, Tryd.ntmps11
  go_wp2
  refine bodyPost_ret (v := .agg #[.int .i64 h.w, .int .i64 h.t, .int .i64 h.b, .int .i64 h.lo, .int .i64 h.hi, .int .i64 h.n]) (by simp [results, Tryd.results11, go_sem]; try rfl) rfl ?_
  exact ⟨rfl, (Below.refl _ w).alloc (Nat.le_refl _) _⟩
/-- All entries of a file that was opened. -/
theorem all_open (fb : Nat) (h : Hd) (b : ByteArray) (bl : List (List UInt8)) (ix : List En) (bv iv : Value) (rd : Nat) (w : World) (H : FA w fb h bl ix bv iv rd) (e : opA b = some (h, bl)) (hb : b.size ≤ 1099511627776) :
    Calls Tryd.prog 13 #[Pt fb] w fun r w' => ∃ la cap, r = .returned (.slice la (alA (cbH h) bl).length cap) ∧ (alA (cbH h) bl).length ≤ cap ∧ LAt w' la (alA (cbH h) bl) ∧ Below w.heap.size w w' := by
  obtain ⟨r1, r2, -⟩ := opA_some e
  obtain ⟨q1, q2, q3, q4⟩ := rdA_some r1
  have hw := isW_bd (hdE0 q1).1
  have hn : h.n ≤ (b.size : Int) := Int.le_trans q3 (Int.ediv_le_self _ (by omega))
  refine (all_any fb h bl ix bv iv rd w H hw ⟨q2, by omega⟩ (by omega)).mono ?_
  rintro r w' ⟨v, rfl, hr, -, hb'⟩
  obtain ⟨la, cap, rfl, hc, hL⟩ := lat_row hr
  exact ⟨la, cap, rfl, hc, hL, hb'⟩
set_option maxHeartbeats 8000000 in
set_option maxRecDepth 100000 in
theorem law_back (h : Hd) (l : List En) (la : Option Addr) (cap : Nat) (b : ByteArray) (w : World) (ht : Tab w) (hg : 0 < w.heap.size) (hl : LAt w la l) (hcap : l.length ≤ cap) (hb : b.size ≤ 1099511627776) :
    Calls Tryd.prog 4 #[.agg (hdC h).toArray, .slice la l.length cap, .string b] w fun r w' => r = .returned (.bool true) ∧ Below w.heap.size w w' := by
  obtain ⟨W, hW⟩ : ∃ W, W = w.alloc (.cells (hdC h).toArray 23) := ⟨_, rfl⟩
  have bW : Below w.heap.size w W := by rw [hW]; exact (Below.refl _ w).alloc (Nat.le_refl _) _
  have hH : W.heap[w.heap.size]? = some (.cells (hdC h).toArray 23 (0, 0)) := by rw [hW]; exact heap_alloc_last w _
  obtain ⟨htW, hgW⟩ := ht.blk hg bW
  have hbg := begun6_any W htW hgW
  have HL := Hid.mk (And.intro ht (And.intro hg (And.intro hl (And.intro hcap hb))))
  obtain ⟨n, hn⟩ : ∃ n, n = l.length := ⟨_, rfl⟩
  rw [← hn]
  have HN := Hid.mk hn
  clear ht hg hl hcap hb htW hgW hn
  obtain ⟨wd, t, bt, lo, hi, cn⟩ := h
  simp only [hdC] at hW hH ⊢
  have HW := Hid.mk hW
  clear hW
  go_enter Tryd.func4, Tryd.ntmps4
  go_wp2_with fail
  rw [← HW.out]
  refine hbg.mono ?_
  clear hbg
  rintro r w1 ⟨rfl, b1⟩
  have hH1 : w1.heap[w.heap.size]? = _ := (b1.block _ (Array.getElem?_eq_some_iff.1 hH).1).trans hH
  have bw1 := chain bW b1 (Nat.le_refl _)
  obtain ⟨ht1, hg1⟩ := HL.out.1.blk HL.out.2.1 bw1
  have hbd := build_any ⟨wd, t, bt, lo, hi, cn⟩ l la cap w1 ht1 (HL.out.2.2.1.below bw1) HL.out.2.2.2.1
  simp only [hdC] at hbd
  rw [← HN.out] at hbd
  have S1 := SAt.new w [] 23
  have x0 : w1.cell? ⟨w.heap.size, 0, none⟩ = some (.int .i64 wd) := by rw [cell_of_row _ _ 0 _ _ (0, 0) hH1]; rfl
  have x1 : w1.cell? ⟨w.heap.size, 1, none⟩ = some (.int .i64 t) := by rw [cell_of_row _ _ 1 _ _ (0, 0) hH1]; rfl
  have x2 : w1.cell? ⟨w.heap.size, 2, none⟩ = some (.int .i64 bt) := by rw [cell_of_row _ _ 2 _ _ (0, 0) hH1]; rfl
  have x3 : w1.cell? ⟨w.heap.size, 3, none⟩ = some (.int .i64 lo) := by rw [cell_of_row _ _ 3 _ _ (0, 0) hH1]; rfl
  have x4 : w1.cell? ⟨w.heap.size, 4, none⟩ = some (.int .i64 hi) := by rw [cell_of_row _ _ 4 _ _ (0, 0) hH1]; rfl
  have x5 : w1.cell? ⟨w.heap.size, 5, none⟩ = some (.int .i64 cn) := by rw [cell_of_row _ _ 5 _ _ (0, 0) hH1]; rfl
  have H1 := Hid.mk (And.intro hH1 bw1)
  clear hH1 bw1 ht1 hg1 b1 bW hH S1 HW
  by_cases hE : bdE ⟨wd, t, bt, lo, hi, cn⟩ l = 0
  · have hT2 : bdT ⟨wd, t, bt, lo, hi, cn⟩ l = fileT ⟨wd, t, bt, lo, hi, cn⟩ l := by unfold bdT; rw [if_pos hE]
    rw [hE, hT2] at hbd
    have HE := Hid.mk hE
    clear hE hT2
    go_wp2_with fail
    refine hbd.mono ?_
    clear hbd
    rintro r w2 ⟨rfl, b2⟩
    have bw2 := chain H1.out.2 b2 (Nat.le_refl _)
    obtain ⟨ht2, hg2⟩ := HL.out.1.blk HL.out.2.1 bw2
    have hop := open_built ⟨wd, t, bt, lo, hi, cn⟩ l w2 ht2 hg2 HE.out (file_len _ _ HE.out)
    clear ht2 hg2
    go_wp2_with fail
    refine hop.mono ?_
    clear hop
    rintro r w3 ⟨b3, fb, bv, iv, bl, ix, rfl, hfw, hF, -, -, P, hsm⟩
    have bw3 := chain bw2 b3 (Nat.le_refl _)
    have b13 := chain b2 b3 (Nat.le_refl _)
    have hH3 : w3.heap[w.heap.size]? = _ := (b13.block _ (Array.getElem?_eq_some_iff.1 H1.out.1).1).trans H1.out.1
    have hlt : w.heap.size < fb := by
      have h1 := (Array.getElem?_eq_some_iff.1 H1.out.1).1
      have h2 := b2.size
      omega
    have st4 : Stay (fun k => k = w.heap.size) w3 (w3.setCell ⟨w.heap.size, 5, none⟩ (.int .i64 n)) := stay1 _ _ _ _ _ (.refl _ _)
    have hH4 : (w3.setCell ⟨w.heap.size, 5, none⟩ (.int .i64 n)).heap[w.heap.size]? = some (.cells #[.int .i64 wd, .int .i64 t, .int .i64 bt, .int .i64 lo, .int .i64 hi, .int .i64 n] 23 (0, 0)) := by rw [heap_setCell_same w3 _ 5 _ _ _ hH3]; rfl
    have F4 : FA (w3.setCell ⟨w.heap.size, 5, none⟩ (.int .i64 n)) fb { (⟨wd, t, bt, lo, hi, cn⟩ : Hd) with n := l.length } bl ix bv iv 0 := hF.kept st4 (by omega) (fun k hk e => by
      obtain ⟨c, hc⟩ := row_block hF.row hk
      rw [e, hH3] at hc; simp at hc) (fun k hk e => by
      obtain ⟨c, hc⟩ := row_block hF.idx hk
      rw [e, hH3] at hc; simp at hc)
    have bw4 : Below w.heap.size w (w3.setCell ⟨w.heap.size, 5, none⟩ (.int .i64 n)) := bw3.setCell (p := ⟨w.heap.size, 5, none⟩) (Nat.le_refl _) _
    have z5 : w3.cell? ⟨w.heap.size, 5, none⟩ = some (.int .i64 cn) := by rw [cell_of_row _ _ 5 _ _ (0, 0) hH3]; rfl
    have zf : w3.frozen? ⟨w.heap.size, 5, none⟩ = false := frozen_of_row _ _ _ _ _ hH3
    obtain ⟨V, hV⟩ : ∃ V, V = w3.setCell ⟨w.heap.size, 5, none⟩ (.int .i64 n) := ⟨_, rfl⟩
    rw [← hV] at hH4 F4 bw4
    have y0 : V.drew.cell? ⟨w.heap.size, 0, none⟩ = some (.int .i64 wd) := by rw [cell_of_row V.drew _ 0 _ _ (0, 0) hH4]; rfl
    have y1 : V.drew.cell? ⟨w.heap.size, 1, none⟩ = some (.int .i64 t) := by rw [cell_of_row V.drew _ 1 _ _ (0, 0) hH4]; rfl
    have y2 : V.drew.cell? ⟨w.heap.size, 2, none⟩ = some (.int .i64 bt) := by rw [cell_of_row V.drew _ 2 _ _ (0, 0) hH4]; rfl
    have y3 : V.drew.cell? ⟨w.heap.size, 3, none⟩ = some (.int .i64 lo) := by rw [cell_of_row V.drew _ 3 _ _ (0, 0) hH4]; rfl
    have y4 : V.drew.cell? ⟨w.heap.size, 4, none⟩ = some (.int .i64 hi) := by rw [cell_of_row V.drew _ 4 _ _ (0, 0) hH4]; rfl
    have y5 : V.drew.cell? ⟨w.heap.size, 5, none⟩ = some (.int .i64 n) := by rw [cell_of_row V.drew _ 5 _ _ (0, 0) hH4]; rfl
    have F4d := F4.below (b_drew V)
    have hhd := fhead_any fb _ bv iv 0 V.drew F4d.box
    dsimp only at hhd
    rw [← HN.out] at hhd
    have hok := bdE_ok HE.out
    have hw := isW_bd (hdE0 hok.1).1
    have hall := fun W (b5 : Below V.drew.heap.size V.drew W) => all_any fb _ bl ix bv iv 0 W (F4d.below b5) hw ⟨by show (0 : Int) ≤ (l.length : Int); omega, by have := hok.2.1; show (l.length : Int) ≤ 1099511627776; omega⟩ (Nat.le_trans hsm (file_len _ _ HE.out))
    rw [show cbH { (⟨wd, t, bt, lo, hi, cn⟩ : Hd) with n := (l.length : Int) } = cbH ⟨wd, t, bt, lo, hi, cn⟩ from rfl, P.al] at hall
    have hsame := fun W la2 ca2 (L2 : LAt W la2 l) (b5 : Below V.drew.heap.size V.drew W) => same6_any l la2 la ca2 cap W L2 (HL.out.2.2.1.below (chain (chain bw4 (b_drew V) (Nat.le_refl _)) b5 (Nat.le_refl _))) (by have := hok.2.1; omega)
    rw [← HN.out] at hsame
    have hHH := Hid.mk (And.intro bw4 hV)
    clear hF P hsm hok hw F4 F4d hH3 hH4 st4 b3 b2 b13 bw2 bw3 bw4 x0 x1 x2 x3 x4 x5 hfw H1
    go_wp2_with fail
    rw [← hV]
    clear hV z5 zf
    refine wp_region_held_drew (S := fun w' => w'.cell? ⟨w.heap.size, 0, none⟩ = some (.int .i64 wd) ∧ w'.cell? ⟨w.heap.size, 1, none⟩ = some (.int .i64 t) ∧ w'.cell? ⟨w.heap.size, 2, none⟩ = some (.int .i64 bt) ∧ w'.cell? ⟨w.heap.size, 3, none⟩ = some (.int .i64 lo) ∧ w'.cell? ⟨w.heap.size, 4, none⟩ = some (.int .i64 hi) ∧ w'.cell? ⟨w.heap.size, 5, none⟩ = some (.int .i64 n)) (by kernel_rfl) ?_ (fun hHeld => ?_)
    · exact ⟨y0, y1, y2, y3, y4, y5⟩
    refine wpAnyH_take (i := 0) (oi := { dst := some 39, op := Op.move (Operand.tmp 10), type := 30, pos := "plain.go:46", after := #[], guard := none }) (v := ?vr0) rfl (by kernel_rfl) (by kernel_rfl) (by kernel_rfl) (fun _ _ _ h => h) (Or.inl ⟨by rfl, ?hr0⟩) (by assumption) ?rr0
    case hr0 => (intro w0 hSw; (try dsimp only at hSw); go_simp; try (with_reducible rfl))
    simp only [Act.put, List.setIfInBounds_toArray, List.set_cons_zero, List.set_cons_succ]
    refine wpAnyH_take (i := 2) (oi := { dst := some 41, op := Op.load 23 (Operand.tmp 3), type := 23, pos := "plain.go:46", after := #[], guard := none }) (v := ?vr2) rfl (by kernel_rfl) (by kernel_rfl) (by kernel_rfl) (fun _ _ _ h => h) (Or.inl ⟨by rfl, ?hr2⟩) (by assumption) ?rr2
    case hr2 => (intro w0 hSw; (try dsimp only at hSw); go_simp; try (with_reducible rfl))
    simp only [Act.put, List.setIfInBounds_toArray, List.set_cons_zero, List.set_cons_succ]
    refine wpAnyH_ready (rs := [1]) (by kernel_rfl) (by simp) ?_
    refine AllReadyH.cons rfl (fun K hK => ?_) AllReadyH.nil
    go_simp
    go_wp2_with (first | (go_at_call 11; refine hhd.mono ?_; clear hhd; rintro r w4 ⟨rfl, b4⟩; have bb4 : Below V.drew.heap.size V.drew w4 := b4) | (go_at_call 13; refine (hall w4 bb4).mono ?_; clear hall; rintro r w5 ⟨v5, rfl, rw5, -, b5⟩; have bb5 := chain bb4 b5 (Nat.le_refl _); obtain ⟨la5, ca5, rfl, hc5, LA5⟩ := lat_row rw5; rw [← HN.out]) | (go_at_call 12; refine (hsame w5 la5 ca5 LA5 bb5).mono ?_; clear hsame; rintro r w6 ⟨rfl, d6⟩; have bb6 := chain bb5 (d6.below w5.heap.size) (Nat.le_refl _)))
    refine hK.out _ _ ?_ (fun hHeld => ?_)
    · first | exact ⟨cell_lat bb6 y0, cell_lat bb6 y1, cell_lat bb6 y2, cell_lat bb6 y3, cell_lat bb6 y4, cell_lat bb6 y5⟩ | exact ⟨cell_lat bb5 y0, cell_lat bb5 y1, cell_lat bb5 y2, cell_lat bb5 y3, cell_lat bb5 y4, cell_lat bb5 y5⟩ | exact ⟨cell_lat bb4 y0, cell_lat bb4 y1, cell_lat bb4 y2, cell_lat bb4 y3, cell_lat bb4 y4, cell_lat bb4 y5⟩
    clear hK K
    refine wpAnyH_take (i := 3) (oi := { dst := some 42, op := Op.binOp BinOp.neq 23 (Operand.tmp 40) (Operand.tmp 41) 23, type := 4, pos := "plain.go:46", after := #[{ on := 1, ground := Ground.data }, { on := 2, ground := Ground.data }], guard := none }) (v := ?vr3) rfl (by kernel_rfl) (by kernel_rfl) (by kernel_rfl) (fun _ _ _ h => h) (Or.inl ⟨by rfl, ?hr3⟩) (by assumption) ?rr3
    case hr3 => (intro w0 hSw; (try dsimp only at hSw); go_simp; try (with_reducible rfl))
    simp only [Act.put, List.setIfInBounds_toArray, List.set_cons_zero, List.set_cons_succ]
    refine wpAnyH_take (i := 4) (oi := { dst := some 43, op := Op.move (Operand.tmp 42), type := 4, pos := "plain.go:46", after := #[{ on := 3, ground := Ground.data }, { on := 1, ground := Ground.chain }], guard := none }) (v := ?vr4) rfl (by kernel_rfl) (by kernel_rfl) (by kernel_rfl) (fun _ _ _ h => h) (Or.inl ⟨by rfl, ?hr4⟩) (by assumption) ?rr4
    case hr4 => (intro w0 hSw; (try dsimp only at hSw); go_simp; try (with_reducible rfl))
    simp only [Act.put, List.setIfInBounds_toArray, List.set_cons_zero, List.set_cons_succ]
    refine wpAnyH_take (i := 5) (oi := { dst := some 44, op := Op.move (Operand.tmp 10), type := 30, pos := "plain.go:46", after := #[{ on := 4, ground := Ground.guard }], guard := some (4, false) }) (v := ?vr5) rfl (by kernel_rfl) (by kernel_rfl) (by kernel_rfl) (fun _ _ _ h => h) (Or.inl ⟨by rfl, ?hr5⟩) (by assumption) ?rr5
    case hr5 => (intro w0 hSw; (try dsimp only at hSw); go_simp; try (with_reducible rfl))
    simp only [Act.put, List.setIfInBounds_toArray, List.set_cons_zero, List.set_cons_succ]
    refine wpAnyH_take (i := 7) (oi := { dst := some 46, op := Op.move (Operand.tmp 1), type := 24, pos := "plain.go:46", after := #[{ on := 4, ground := Ground.guard }], guard := some (4, false) }) (v := ?vr7) rfl (by kernel_rfl) (by kernel_rfl) (by kernel_rfl) (fun _ _ _ h => h) (Or.inl ⟨by rfl, ?hr7⟩) (by assumption) ?rr7
    case hr7 => (intro w0 hSw; (try dsimp only at hSw); go_simp; try (with_reducible rfl))
    simp only [Act.put, List.setIfInBounds_toArray, List.set_cons_zero, List.set_cons_succ]
    refine wpAnyH_ready (rs := [6]) (by kernel_rfl) (by simp) ?_
    refine AllReadyH.cons rfl (fun K hK => ?_) AllReadyH.nil
    go_simp
    go_wp2_with (first | (go_at_call 11; refine hhd.mono ?_; clear hhd; rintro r w4 ⟨rfl, b4⟩; have bb4 : Below V.drew.heap.size V.drew w4 := b4) | (go_at_call 13; refine (hall w4 bb4).mono ?_; clear hall; rintro r w5 ⟨v5, rfl, rw5, -, b5⟩; have bb5 := chain bb4 b5 (Nat.le_refl _); obtain ⟨la5, ca5, rfl, hc5, LA5⟩ := lat_row rw5; rw [← HN.out]) | (go_at_call 12; refine (hsame w5 la5 ca5 LA5 bb5).mono ?_; clear hsame; rintro r w6 ⟨rfl, d6⟩; have bb6 := chain bb5 (d6.below w5.heap.size) (Nat.le_refl _)))
    refine hK.out _ _ ?_ (fun hHeld => ?_)
    · first | exact ⟨cell_lat bb6 y0, cell_lat bb6 y1, cell_lat bb6 y2, cell_lat bb6 y3, cell_lat bb6 y4, cell_lat bb6 y5⟩ | exact ⟨cell_lat bb5 y0, cell_lat bb5 y1, cell_lat bb5 y2, cell_lat bb5 y3, cell_lat bb5 y4, cell_lat bb5 y5⟩ | exact ⟨cell_lat bb4 y0, cell_lat bb4 y1, cell_lat bb4 y2, cell_lat bb4 y3, cell_lat bb4 y4, cell_lat bb4 y5⟩
    clear hK K
    refine wpAnyH_ready (rs := [8]) (by kernel_rfl) (by simp) ?_
    refine AllReadyH.cons rfl (fun K hK => ?_) AllReadyH.nil
    go_simp
    go_wp2_with (first | (go_at_call 11; refine hhd.mono ?_; clear hhd; rintro r w4 ⟨rfl, b4⟩; have bb4 : Below V.drew.heap.size V.drew w4 := b4) | (go_at_call 13; refine (hall w4 bb4).mono ?_; clear hall; rintro r w5 ⟨v5, rfl, rw5, -, b5⟩; have bb5 := chain bb4 b5 (Nat.le_refl _); obtain ⟨la5, ca5, rfl, hc5, LA5⟩ := lat_row rw5; rw [← HN.out]) | (go_at_call 12; refine (hsame w5 la5 ca5 LA5 bb5).mono ?_; clear hsame; rintro r w6 ⟨rfl, d6⟩; have bb6 := chain bb5 (d6.below w5.heap.size) (Nat.le_refl _)))
    refine hK.out _ _ ?_ (fun hHeld => ?_)
    · first | exact ⟨cell_lat bb6 y0, cell_lat bb6 y1, cell_lat bb6 y2, cell_lat bb6 y3, cell_lat bb6 y4, cell_lat bb6 y5⟩ | exact ⟨cell_lat bb5 y0, cell_lat bb5 y1, cell_lat bb5 y2, cell_lat bb5 y3, cell_lat bb5 y4, cell_lat bb5 y5⟩ | exact ⟨cell_lat bb4 y0, cell_lat bb4 y1, cell_lat bb4 y2, cell_lat bb4 y3, cell_lat bb4 y4, cell_lat bb4 y5⟩
    clear hK K
    refine wpAnyH_take (i := 9) (oi := { dst := some 48, op := Op.unOp UnOp.not 4 (Operand.tmp 47), type := 4, pos := "plain.go:46", after := #[{ on := 8, ground := Ground.data }, { on := 4, ground := Ground.guard }], guard := some (4, false) }) (v := ?vr9) rfl (by kernel_rfl) (by kernel_rfl) (by kernel_rfl) (fun _ _ _ h => h) (Or.inl ⟨by rfl, ?hr9⟩) (by assumption) ?rr9
    case hr9 => (intro w0 hSw; (try dsimp only at hSw); go_simp; try (with_reducible rfl))
    simp only [Act.put, List.setIfInBounds_toArray, List.set_cons_zero, List.set_cons_succ]
    refine wpAnyH_take (i := 10) (oi := { dst := some 49, op := Op.pick (Operand.tmp 43) (Operand.const (Value.bool true)) (Operand.tmp 48), type := 4, pos := "plain.go:46", after := #[{ on := 4, ground := Ground.data }, { on := 9, ground := Ground.data }], guard := none }) (v := ?vr10) rfl (by kernel_rfl) (by kernel_rfl) (by kernel_rfl) (fun _ _ _ h => h) (Or.inl ⟨by rfl, ?hr10⟩) (by assumption) ?rr10
    case hr10 => (intro w0 hSw; (try dsimp only at hSw); go_simp; try (with_reducible rfl))
    simp only [Act.put, List.setIfInBounds_toArray, List.set_cons_zero, List.set_cons_succ]
    refine wpAnyH_done (by kernel_rfl) ?_ _
    have bT := (chain (chain hHH.out.1 (b_drew V) (Nat.le_refl _)) bb6 (Nat.le_refl _))
    obtain ⟨htT, hgT⟩ := HL.out.1.blk HL.out.2.1 bT
    have hop := open_any b w6 htT hgT HL.out.2.2.2.2
    clear htT hgT
    go_wp2_with fail
    refine hop.mono ?_
    clear hop
    rintro r w7 ⟨b7, hR7⟩
    have bw7 := chain bT b7 (Nat.le_refl _)
    clear b7 bT
    cases hO : opA b with
    | none =>
      rw [hO] at hR7
      simp only [] at hR7
      subst hR7
      clear hO
      go_wp2
      go_ret
      exact ⟨rfl, bw7⟩
    | some x =>
      obtain ⟨h7, bl7⟩ := x
      rw [hO] at hR7
      simp only [] at hR7
      obtain ⟨fb7, bv7, iv7, rfl, hf7, F7, -, -⟩ := hR7
      obtain ⟨-, hz, hfT⟩ := opA_some hO
      have hhd := fhead_any fb7 h7 bv7 iv7 0 w7 F7.box
      have hall := fun W (b8 : Below w7.heap.size w7 W) => all_open fb7 h7 b bl7 _ bv7 iv7 0 W (F7.below b8) hO HL.out.2.2.2.2
      obtain ⟨AE, hAE⟩ : ∃ AE, AE = alA (cbH h7) bl7 := ⟨_, rfl⟩
      rw [← hAE] at hall hz hfT
      have hbT : (⟨(bdT h7 AE).toArray⟩ : ByteArray) = b := by
        apply ba_ext
        unfold bdT
        rw [if_pos hz]
        exact hfT
      have HZ := Hid.mk (And.intro hz hbT)
      clear hO hz hfT hbT hAE F7
      obtain ⟨wd7, t7, bt7, lo7, hi7, cn7⟩ := h7
      go_wp2_with fail
      refine hhd.mono ?_
      clear hhd
      rintro r w8 ⟨rfl, b8⟩
      go_wp2_with fail
      refine (hall w8 b8).mono ?_
      clear hall
      rintro r w9 ⟨la9, cap9, rfl, hc9, L9, b9⟩
      have bw9 := chain (chain bw7 b8 (Nat.le_refl _)) b9 (Nat.le_refl _)
      obtain ⟨ht9, hg9⟩ := HL.out.1.blk HL.out.2.1 bw9
      have hb9 := build_any ⟨wd7, t7, bt7, lo7, hi7, cn7⟩ AE la9 cap9 w9 ht9 L9 hc9
      rw [HZ.out.1, HZ.out.2] at hb9
      simp only [hdC] at hb9
      clear ht9 hg9 L9 hc9 b8 b9 bw7 hf7
      have hself : (b.toList == b.toList) = true := by simp
      go_wp2_with (go_at_call 9; refine hb9.mono ?_; clear hb9; rintro r w10 ⟨rfl, b10⟩)
      go_ret
      exact ⟨rfl, chain bw9 b10 (Nat.le_refl _)⟩
  · have hne : (bdE ⟨wd, t, bt, lo, hi, cn⟩ l == 0) = false := beq_false_of_ne hE
    generalize bdE ⟨wd, t, bt, lo, hi, cn⟩ l = E at *
    clear hE
    go_wp2_with (go_at_call 9; refine hbd.mono ?_; clear hbd; rintro r w2 ⟨rfl, b2⟩)
    have bT := (chain H1.out.2 b2 (Nat.le_refl _))
    obtain ⟨htT, hgT⟩ := HL.out.1.blk HL.out.2.1 bT
    have hop := open_any b w2 htT hgT HL.out.2.2.2.2
    clear htT hgT
    go_wp2_with fail
    refine hop.mono ?_
    clear hop
    rintro r w7 ⟨b7, hR7⟩
    have bw7 := chain bT b7 (Nat.le_refl _)
    clear b7 bT
    cases hO : opA b with
    | none =>
      rw [hO] at hR7
      simp only [] at hR7
      subst hR7
      clear hO
      go_wp2
      go_ret
      exact ⟨rfl, bw7⟩
    | some x =>
      obtain ⟨h7, bl7⟩ := x
      rw [hO] at hR7
      simp only [] at hR7
      obtain ⟨fb7, bv7, iv7, rfl, hf7, F7, -, -⟩ := hR7
      obtain ⟨-, hz, hfT⟩ := opA_some hO
      have hhd := fhead_any fb7 h7 bv7 iv7 0 w7 F7.box
      have hall := fun W (b8 : Below w7.heap.size w7 W) => all_open fb7 h7 b bl7 _ bv7 iv7 0 W (F7.below b8) hO HL.out.2.2.2.2
      obtain ⟨AE, hAE⟩ : ∃ AE, AE = alA (cbH h7) bl7 := ⟨_, rfl⟩
      rw [← hAE] at hall hz hfT
      have hbT : (⟨(bdT h7 AE).toArray⟩ : ByteArray) = b := by
        apply ba_ext
        unfold bdT
        rw [if_pos hz]
        exact hfT
      have HZ := Hid.mk (And.intro hz hbT)
      clear hO hz hfT hbT hAE F7
      obtain ⟨wd7, t7, bt7, lo7, hi7, cn7⟩ := h7
      go_wp2_with fail
      refine hhd.mono ?_
      clear hhd
      rintro r w8 ⟨rfl, b8⟩
      go_wp2_with fail
      refine (hall w8 b8).mono ?_
      clear hall
      rintro r w9 ⟨la9, cap9, rfl, hc9, L9, b9⟩
      have bw9 := chain (chain bw7 b8 (Nat.le_refl _)) b9 (Nat.le_refl _)
      obtain ⟨ht9, hg9⟩ := HL.out.1.blk HL.out.2.1 bw9
      have hb9 := build_any ⟨wd7, t7, bt7, lo7, hi7, cn7⟩ AE la9 cap9 w9 ht9 L9 hc9
      rw [HZ.out.1, HZ.out.2] at hb9
      simp only [hdC] at hb9
      clear ht9 hg9 L9 hc9 b8 b9 bw7 hf7
      have hself : (b.toList == b.toList) = true := by simp
      go_wp2_with (go_at_call 9; refine hb9.mono ?_; clear hb9; rintro r w10 ⟨rfl, b10⟩)
      go_ret
      exact ⟨rfl, chain bw9 b10 (Nat.le_refl _)⟩
end Go.Proofs.YtdegclccbgpgiaaDoor
set_option linter.unusedVariables false
set_option linter.unusedSimpArgs false
namespace Go.Proofs.YtdegclccbgpgiaaDoor
open Go.RowKit Go.Proofs.SealMath
def IAt (W : World) (la : Option Addr) (l : List Int) : Prop := ∀ j q, l[j]? = some q → ∃ g off, la = some ⟨g, off, none⟩ ∧ W.cell? ⟨g, off + j, none⟩ = some (.int .i64 q)
theorem IAt.below {w w' : World} {la : Option Addr} {l : List Int} (h : IAt w la l) (b : Below w.heap.size w w') : IAt w' la l := fun j q hq => by
  obtain ⟨g, off, e, hc⟩ := h j q hq
  exact ⟨g, off, e, cell_lat b hc⟩
section
variable {T : Type} (f : T → List UInt8)
theorem ln_cons (x : T) (r : List T) : ln f (x :: r) = (f x).length + ln f r := by simp [ln]
theorem ln_one (x : T) : ln f [x] = (f x).length := by simp [ln]
theorem pkA_few (m k : Nat) (hk : m + k = 4097) : ∀ (r : List T) (a : Nat) (cur : List T), (∀ x ∈ r, (f x).length ≤ m) → k * (pkA f a cur r).length ≤ ln f cur + ln f r + k := by
  intro r
  induction r with
  | nil =>
    intro a cur h
    unfold pkA
    cases cur <;> simp
  | cons x r ih =>
    intro a cur h
    have hx := h x (by simp)
    have hr := fun y hy => h y (List.mem_cons_of_mem _ hy)
    unfold pkA
    rw [ln_cons]
    split
    · rename_i hb
      have h1 := ih (a + cur.length) [x] hr
      rw [ln_one] at h1
      rw [List.length_cons, Nat.mul_add, Nat.mul_one]
      omega
    · have h1 := ih a (cur ++ [x]) hr
      rw [ln_snoc] at h1
      omega
theorem pk_few (l : List T) (h : ∀ x ∈ l, (f x).length ≤ 153) (hl : l.length ≤ 2097152) : (pk f l).length ≤ 131072 := by
  have h1 := pkA_few f 153 3944 (by omega) l 0 [] h
  have h2 := ln_le f 153 l h
  have h3 : ln f ([] : List T) = 0 := by simp [ln]
  unfold pk
  omega
end
/-- A file that was built, opened: it has few blocks. -/
theorem open_few (h : Hd) (l : List En) (w : World) (ht : Tab w) (hg : 0 < w.heap.size) (e : bdE h l = 0) :
    Calls Tryd.prog 10 #[.string ⟨(fileT h l).toArray⟩] w fun r w' => Below w.heap.size w w' ∧ ∃ fb bv iv bl ix, r = .returned (.tuple #[Pt fb, .int .i64 0]) ∧ w.heap.size ≤ fb ∧ FA w' fb { h with n := l.length } bl ix bv iv 0 ∧ Pts (cbH h) l bl ix ∧ (bl.map (·.length + 14)).sum ≤ 1099511627776 ∧ bl.length ≤ 131072 := by
  obtain ⟨h1, h2⟩ := op_file h l e
  obtain ⟨r1, -⟩ := opA_some h1
  obtain ⟨-, -, -, r4⟩ := rdA_some r1
  have hs := file_len h l e
  refine (open_any _ w ht hg (by rw [ba_len]; exact hs)).mono ?_
  rintro r w' ⟨b, hR⟩
  rw [h1] at hR
  simp only [] at hR
  obtain ⟨fb, bv, iv, rfl, hf, hF, hv, hi⟩ := hR
  rw [ba_len] at r4
  have hok := bdE_ok e
  refine ⟨b, fb, bv, iv, _, _, rfl, hf, hF, Pts.of e, Nat.le_trans r4 hs, ?_⟩
  rw [List.length_map]
  exact pk_few enB l (fun x hx => by have := (enB_len x).1; have := (hok.2.2.2 x hx).c; omega) hok.2.1
end Go.Proofs.YtdegclccbgpgiaaDoor
set_option linter.unusedVariables false
set_option linter.unusedSimpArgs false
namespace Go.Proofs.YtdegclccbgpgiaaDoor
open Go.RowKit Go.ChangeShapes Go.WideShapes Go.Deep
theorem add_plain (b off j : Nat) : (⟨b, off, none⟩ : Addr).add j = ⟨b, off + j, none⟩ := by unfold Addr.add; split <;> simp_all
theorem cellsEn : Tryd.prog.cellsOf 40 = 5 := by kernel_rfl
theorem bytesEn : Tryd.prog.bytesOf 40 = 48 := by kernel_rfl
theorem cells3 : Tryd.prog.cellsOf 3 = 1 := by kernel_rfl
theorem cells4 : Tryd.prog.cellsOf 4 = 1 := by kernel_rfl
theorem cells9 : Tryd.prog.cellsOf 9 = 1 := by kernel_rfl
theorem laidOut : laidOutB Tryd.prog = true := by kernel_rfl
set_option maxRecDepth 100000 in
/-- What an entry reads as. -/
theorem en_trod {H : Type} {enc : TypeId × Value → H} {W : World} {base : Nat} {spare : Nat → Bool} {held : Bool} {fuel : Nat} {cs : List Value} {x : DataW H × List MemPlace}
    (h : DataW.trod enc Tryd.prog W base spare held fuel 40 cs = some x) : ∃ e : En, cs = enC e := by
  obtain ⟨xs, k, hk, hxy, hlen, hxl, hf⟩ := DataW.trod_struct Tryd.underlying40 h
  rw [cellsEn] at hlen
  match xs, hxl, cs, hlen with
  | [y0, y1, y2, y3, y4], _, [v0, v1, v2, v3, v4], _ =>
    have g0 := hf 0 _ rfl
    have g1 := hf 1 _ rfl
    have g2 := hf 2 _ rfl
    have g3 := hf 3 _ rfl
    have g4 := hf 4 _ rfl
    simp [cells3] at g0 g2 g3
    simp [cells9] at g1
    simp [cells4] at g4
    obtain ⟨z0, hz0, _⟩ := DataW.trod_int Tryd.underlying3 g0
    obtain ⟨z1, hz1, _⟩ := DataW.trod_string Tryd.underlying9 g1
    obtain ⟨z2, hz2, _⟩ := DataW.trod_int Tryd.underlying3 g2
    obtain ⟨z3, hz3, _⟩ := DataW.trod_int Tryd.underlying3 g3
    obtain ⟨z4, hz4, _⟩ := DataW.trod_bool Tryd.underlying4 g4
    simp at hz0 hz1 hz2 hz3 hz4
    subst hz0 hz1 hz2 hz3 hz4
    exact ⟨⟨z0, z1, z2, z3, z4⟩, rfl⟩
set_option maxRecDepth 100000 in
theorem open_en {H : Type} {enc : TypeId × Value → H} {W : World} {base b0 : Nat} {r : Reach} {spare : Nat → Bool} {held : Bool} {v : Value} {d : DataW H} {ps : List MemPlace}
    (hv : Value.okWide Tryd.prog W r b0 40 v) (h : DataW.Trod enc Tryd.prog W base spare held 40 v d ps) : ∃ e : En, v = .agg (enC e).toArray := by
  obtain ⟨cs, rfl, hsz⟩ := okWide_struct Tryd.underlying40 hv
  obtain ⟨fuel, hf⟩ := h
  obtain ⟨e, he⟩ := en_trod hf
  refine ⟨e, ?_⟩
  have : cs.toList = enC e := by simpa [Value.cells] using he
  rw [← this]
theorem flat_to {W : World} {b off : Nat} {l : List En} (h : ∀ i (hi : i < l.length) j v, (enC l[i])[j]? = some v → W.cell? ⟨b, off + (i * 5 + j), none⟩ = some v) : RowAt W b off (l.flatMap enC) := fun j x hx => by
  have hj : j < l.length * 5 := by rw [← flat_len5]; exact (List.getElem?_eq_some_iff.1 hx).1
  have hi : j / 5 < l.length := by omega
  have hr : j % 5 < 5 := by omega
  have e : j / 5 * 5 + j % 5 = j := by omega
  have h1 := flat_at enC 5 enC_len l (j / 5) (j % 5) hi hr
  rw [e, hx] at h1
  have h2 := h (j / 5) hi (j % 5) x h1.symm
  rw [e] at h2
  exact h2
set_option maxRecDepth 100000 in
/-- What a list of entries reads as. -/
theorem open_ens {H : Type} {enc : TypeId × Value → H} {W : World} {base : Nat} {spare : Nat → Bool} {held : Bool} {fuel : Nat} {a0 : Option Addr} {len cap : Nat} {d : DataW H} {ps : List MemPlace}
    (h : DataW.trod enc Tryd.prog W base spare held fuel 24 [.slice a0 len cap] = some (d, ps)) :
    (a0 = none ∧ len = 0) ∨ ((∃ l : List En, l.length = len ∧ LAt W a0 l) ∧ ∃ elems sp, d = .slice elems sp ∧ elems.length = len) := by
  rcases open_slice Tryd.underlying24 h with ⟨hcs, _⟩ | ⟨a, len', cap', m, n, D, Pl, hcs, _, _, _, hm, hx, hel⟩
  · simp at hcs; exact .inl ⟨hcs.1, hcs.2.1⟩
  · right
    simp at hcs
    obtain ⟨rfl, rfl, rfl⟩ := hcs
    have hlm : len ≤ m := by rw [hm]; split <;> omega
    simp only [Prod.mk.injEq] at hx
    obtain ⟨hd, hps⟩ := hx
    refine ⟨?_, _, _, hd, by simp⟩
    have each : ∀ i, i < len → ∃ e : En, ∀ j v, (enC e)[j]? = some v → W.cell? ((a.add (i * 5)).add j) = some v := by
      intro i hi
      obtain ⟨cs', h1, h2⟩ := hel i (by omega)
      rw [cellsEn] at h1
      obtain ⟨_, hlen, hcell⟩ := World.cells?_some h1
      obtain ⟨e, rfl⟩ := en_trod h2
      refine ⟨e, fun j v hv => ?_⟩
      have hj : j < 5 := by have := (List.getElem?_eq_some_iff.1 hv).1; simpa [enC] using this
      rw [hcell j hj, hv]
    haveI : Inhabited En := ⟨e0⟩
    obtain ⟨F, hF⟩ := choose_lt each
    refine ⟨(List.range len).map F, by simp, ⟨fun hne => ?_⟩⟩
    have hl0 : 0 < len := by
      rcases Nat.eq_zero_or_pos len with h0 | h0
      · subst h0; simp at hne
      · exact h0
    obtain ⟨b, off, spot⟩ := a
    have hsp : spot = none := by
      have := World.cell?_spot (hF 0 hl0 0 _ rfl)
      simpa [Addr.add] using this
    subst hsp
    refine ⟨b, off, rfl, flat_to fun i hi j v hv => ?_⟩
    have hi' : i < len := by simpa using hi
    have h1 := hF i hi' j v (by simpa using hv)
    rw [add_plain, add_plain, Nat.add_assoc] at h1
    exact h1
theorem open_enc {H : Type} {enc : TypeId × Value → H} {W : World} {base : Nat} {spare : Nat → Bool} {held : Bool} {fuel : Nat} {a0 : Option Addr} {len cap : Nat} {x : DataW H × List MemPlace}
    (h : DataW.trod enc Tryd.prog W base spare held fuel 24 [.slice a0 len cap] = some x) : len ≤ cap := by
  rcases open_slice Tryd.underlying24 h with ⟨hcs, _⟩ | ⟨a, len', cap', m, n, D, Pl, hcs, _, hl, _⟩
  · simp at hcs; omega
  · simp at hcs
    obtain ⟨-, rfl, rfl⟩ := hcs
    exact hl
theorem cellsHd : Tryd.prog.cellsOf 23 = 6 := by kernel_rfl
set_option maxRecDepth 100000 in
/-- What a head reads as. -/
theorem open_hd {H : Type} {enc : TypeId × Value → H} {W : World} {base b0 : Nat} {r : Reach} {spare : Nat → Bool} {held : Bool} {v : Value} {d : DataW H} {ps : List MemPlace}
    (hv : Value.okWide Tryd.prog W r b0 23 v) (h : DataW.Trod enc Tryd.prog W base spare held 23 v d ps) : ∃ e : Hd, v = .agg (hdC e).toArray := by
  obtain ⟨cs, rfl, hsz⟩ := okWide_struct Tryd.underlying23 hv
  obtain ⟨fuel, hf⟩ := h
  obtain ⟨xs, k, hk, hxy, hlen, hxl, hf⟩ := DataW.trod_struct Tryd.underlying23 hf
  rw [cellsHd] at hlen
  have hcs : (Value.agg cs).cells.toList = cs.toList := rfl
  rw [hcs] at hlen hf
  obtain ⟨cs⟩ := cs
  dsimp only at hlen hf ⊢
  match xs, hxl, cs, hlen with
  | [y0, y1, y2, y3, y4, y5], _, [v0, v1, v2, v3, v4, v5], _ =>
    have g0 := hf 0 _ rfl
    have g1 := hf 1 _ rfl
    have g2 := hf 2 _ rfl
    have g3 := hf 3 _ rfl
    have g4 := hf 4 _ rfl
    have g5 := hf 5 _ rfl
    simp [cells3] at g0 g1 g2 g3 g4 g5
    obtain ⟨z0, hz0, _⟩ := DataW.trod_int Tryd.underlying3 g0
    obtain ⟨z1, hz1, _⟩ := DataW.trod_int Tryd.underlying3 g1
    obtain ⟨z2, hz2, _⟩ := DataW.trod_int Tryd.underlying3 g2
    obtain ⟨z3, hz3, _⟩ := DataW.trod_int Tryd.underlying3 g3
    obtain ⟨z4, hz4, _⟩ := DataW.trod_int Tryd.underlying3 g4
    obtain ⟨z5, hz5, _⟩ := DataW.trod_int Tryd.underlying3 g5
    simp at hz0 hz1 hz2 hz3 hz4 hz5
    subst hz0 hz1 hz2 hz3 hz4 hz5
    exact ⟨⟨z0, z1, z2, z3, z4, z5⟩, rfl⟩
end Go.Proofs.YtdegclccbgpgiaaDoor
set_option linter.unusedVariables false
set_option linter.unusedSimpArgs false
namespace Go.Proofs.YtdegclccbgpgiaaDoor
open Go.ChangeShapes Go.WideShapes Go.ChangeAt Go.WideMaps Go.WideElems Go.RowKit Go.Deep
theorem open_ints2 {H : Type} {enc : TypeId × Value → H} {W : World} {base : Nat} {spare : Nat → Bool} {held : Bool} {fuel : Nat} {a0 : Option Addr} {len cap : Nat} {d : DataW H} {ps : List MemPlace}
    (h : DataW.trod enc Tryd.prog W base spare held fuel 38 [.slice a0 len cap] = some (d, ps)) (hsz : ∀ n ∈ d.weights Tryd.prog 38, n ≤ reachBytes) :
    ∃ l : List Int, l.length = len ∧ IAt W a0 l ∧ l.length ≤ 17592186044416 := by
  rcases open_ints Tryd.underlying38 Tryd.underlying3 cells3 h with ⟨hcs, hx⟩ | ⟨a, len', cap', zs, hcs, _, hl, hm, hz, hx, hcell, hwz⟩
  · simp at hcs
    obtain ⟨rfl, rfl, rfl⟩ := hcs
    exact ⟨[], rfl, fun j q hq => by simp at hq, by simp⟩
  · simp at hcs
    obtain ⟨rfl, rfl, rfl⟩ := hcs
    have hlz : len ≤ zs.length := by rw [hz]; split <;> omega
    simp only [Prod.mk.injEq] at hx
    have hb : Tryd.prog.bytesOf 3 = 8 := by kernel_rfl
    have hlen : len ≤ 17592186044416 := by
      have hw := hsz (((lits .i64 (zs.take len) : List (DataW H)).length + (lits .i64 (zs.drop len) : List (DataW H)).length) * Tryd.prog.bytesOf 3) (by
        rw [hx.1]
        unfold DataW.weights
        rw [Tryd.underlying38]
        exact List.mem_cons_self)
      rw [hb] at hw
      have h1 : (lits .i64 (zs.take len) : List (DataW H)).length = len := by simp [lits]; omega
      rw [h1] at hw
      have : reachBytes = 140737488351232 := by decide
      omega
    refine ⟨zs.take len, by simp; omega, fun j q hq => ?_, by simp; omega⟩
    obtain ⟨hj, hjq⟩ := List.getElem?_eq_some_iff.1 hq
    have hj' : j < zs.length := by rw [List.length_take] at hj; omega
    obtain ⟨b, off, spot⟩ := a
    have hspot : spot = none := by simpa [Addr.add] using World.cell?_spot (hcell 0 (by omega))
    subst hspot
    refine ⟨b, off, rfl, ?_⟩
    have := hcell j hj'
    rw [add_plain, List.getD_eq_getElem?_getD, List.getElem?_eq_getElem hj'] at this
    rw [List.getElem_take] at hjq
    rw [← hjq]
    simpa using this
end Go.Proofs.YtdegclccbgpgiaaDoor
