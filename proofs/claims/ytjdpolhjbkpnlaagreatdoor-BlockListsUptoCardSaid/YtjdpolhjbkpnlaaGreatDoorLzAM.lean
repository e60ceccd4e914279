/-
  DERIVED. BX3, as one text.
-/
import Derived.Test.YtjdpolhjbkpnlaaGreatDoorLzAK
import Derived.Test.YtjdpolhjbkpnlaaGreatDoorLzAL
import Derived.BigRegion
import Derived.BigQuiet
import Derived.Deep.Cut
import Derived.Laws.IdiomCopy
set_option linter.unusedVariables false
set_option linter.unusedSimpArgs false
namespace Go.Proofs.YtjdpolhjbkpnlaaGreatDoor.Dx
open Go.RowKit Go.Proofs.SealMath
open Go.Proofs.YtjdpolhjbkpnlaaGreatDoor.Rb
/-- A head is written into a block. -/
def set6 (W : World) (a : Nat) (h : Hd) : World := (((((W.setCell ⟨a, 0, none⟩ (.int .i64 h.w)).setCell ⟨a, 1, none⟩ (.int .i64 h.t)).setCell ⟨a, 2, none⟩ (.int .i64 h.b)).setCell ⟨a, 3, none⟩ (.int .i64 h.lo)).setCell ⟨a, 4, none⟩ (.int .i64 h.hi)).setCell ⟨a, 5, none⟩ (.int .i64 h.n)
theorem set6_stay (W : World) (a : Nat) (h : Hd) : Stay (fun k => k = a) W (set6 W a h) :=
  (((((((Stay.refl (fun k => k = a) W).setCell (p := ⟨a, 0, none⟩) (fun _ => rfl) _).setCell (p := ⟨a, 1, none⟩) (fun _ => rfl) _).setCell (p := ⟨a, 2, none⟩) (fun _ => rfl) _).setCell (p := ⟨a, 3, none⟩) (fun _ => rfl) _).setCell (p := ⟨a, 4, none⟩) (fun _ => rfl) _).setCell (p := ⟨a, 5, none⟩) (fun _ => rfl) _)
theorem set6_at {W : World} {a : Nat} {h h' : Hd} (e : W.heap[a]? = some (.cells (hdC h').toArray 31 (0, 0))) : (set6 W a h).heap[a]? = some (.cells (hdC h).toArray 31 (0, 0)) := by
  have h1 := heap_setCell_same W a 0 _ _ (.int .i64 h.w) e
  have h2 := heap_setCell_same _ a 1 _ _ (.int .i64 h.t) h1
  have h3 := heap_setCell_same _ a 2 _ _ (.int .i64 h.b) h2
  have h4 := heap_setCell_same _ a 3 _ _ (.int .i64 h.lo) h3
  have h5 := heap_setCell_same _ a 4 _ _ (.int .i64 h.hi) h4
  exact heap_setCell_same _ a 5 _ _ (.int .i64 h.n) h5
theorem hd6 {W : World} {a : Nat} {h : Hd} (e : W.heap[a]? = some (.cells (hdC h).toArray 31 (0, 0))) : (W.cell? ⟨a, 0, none⟩ = some (.int .i64 h.w) ∧ W.cell? ⟨a, 1, none⟩ = some (.int .i64 h.t) ∧ W.cell? ⟨a, 2, none⟩ = some (.int .i64 h.b) ∧ W.cell? ⟨a, 3, none⟩ = some (.int .i64 h.lo) ∧ W.cell? ⟨a, 4, none⟩ = some (.int .i64 h.hi) ∧ W.cell? ⟨a, 5, none⟩ = some (.int .i64 h.n)) ∧ W.frozen? ⟨a, 0, none⟩ = false ∧ W.frozen? ⟨a, 1, none⟩ = false ∧ W.frozen? ⟨a, 2, none⟩ = false ∧ W.frozen? ⟨a, 3, none⟩ = false ∧ W.frozen? ⟨a, 4, none⟩ = false ∧ W.frozen? ⟨a, 5, none⟩ = false := by
  refine ⟨⟨?_, ?_, ?_, ?_, ?_, ?_⟩, ?_, ?_, ?_, ?_, ?_, ?_⟩ <;> first | exact frozen_of_row _ _ _ _ _ e | (rw [cell_of_row _ _ _ _ _ (0, 0) e]; rfl)
/-- What read answers where there is no file. -/
def rdN : Value := .tuple #[.agg (hdC h0).toArray, .slice none 0 0, .bool false]
/-- What read answers. -/
def RdO (fr : List Fr) (w : World) (r : Ending) (w' : World) : Prop :=
  Below w.heap.size w w' ∧ ((rdD fr = none ∧ r = .returned rdN) ∨
    ∃ h m v, rdD fr = some (h, m) ∧ r = .returned (.tuple #[.agg (hdC h).toArray, v, .bool true]) ∧ w'.ownsRow 0 38 5 v m.length (m.flatMap enC) ∧ (∀ k, v.ownBlock = some k → w.heap.size ≤ k) ∧ m.length ≤ 1099511627776)
set_option maxHeartbeats 4000000 in
set_option maxRecDepth 100000 in
theorem rread_nil (a : Option Addr) (cap : Nat) (w : World) : Calls Tryz.prog 25 #[.slice a 0 cap] w (RdO [] w) := by
  have hn : Below w.heap.size w (w.alloc (.cells #[.int .i64 0, .int .i64 0, .int .i64 0, .int .i64 0, .int .i64 0, .int .i64 0] 31)) := (Below.refl _ w).alloc (Nat.le_refl _) _
  go_enter Tryz.func25, Tryz.ntmps25
  go_wp2
  refine bodyPost_ret (v := rdN) (by simp [results, Tryz.results25, go_sem, rdN, hdC, h0]; try rfl) rfl ?_
  exact ⟨hn, .inl ⟨rfl, rfl⟩⟩
/-- The blocks' entries that are still to be read, behind those that were. -/
def Lft (cb : Nat) (r : List Fr) (m : List En) : Option (List En) := (bsD cb (pyl r)).map (m ++ ·)
theorem Lft_nil (cb : Nat) (m : List En) : Lft cb [] m = some m := by simp [Lft, pyl, bsD]
theorem Lft_other (cb : Nat) (f : Fr) (r : List Fr) (m : List En) (h : f.1 ≠ 5) : Lft cb (f :: r) m = some m := by
  have : (f.1 == 5) = false := by simpa using h
  simp [Lft, pyl, bsD, List.takeWhile_cons, this]
/-- .. within a block. -/
def Lfi (cb : Nat) (P : ByteArray) (n a : Nat) (r : List Fr) (m : List En) : Option (List En) := ((esD cb P n a).bind fun l => (bsD cb (pyl r)).map (l ++ ·)).map (m ++ ·)
theorem Lft_block (cb : Nat) (p : List UInt8) (q : Nat) (r : List Fr) (m : List En) : Lft cb ((5, p, q) :: r) m = Lfi cb ⟨p.toArray⟩ (p.length + 1) 0 r m := by
  simp [Lft, Lfi, pyl, List.takeWhile_cons, bsD]
theorem Lfi_end (cb : Nat) (P : ByteArray) (n a : Nat) (r : List Fr) (m : List En) (h : P.size ≤ a) : Lfi cb P (n + 1) a r m = Lft cb r m := by
  unfold Lfi Lft
  rw [esD, if_pos h]
  simp
theorem Lfi_none (cb : Nat) (P : ByteArray) (n a : Nat) (r : List Fr) (m : List En) (h : ¬ P.size ≤ a) (e : eaD P a cb = none) : Lfi cb P (n + 1) a r m = none := by
  unfold Lfi
  rw [esD, if_neg h, e]
  rfl
theorem Lfi_some (cb : Nat) (P : ByteArray) (n a : Nat) (r : List Fr) (m : List En) (h : ¬ P.size ≤ a) {x : En} {q : Nat} (e : eaD P a cb = some (x, q)) : Lfi cb P (n + 1) a r m = Lfi cb P n q r (m ++ [x]) := by
  unfold Lfi
  rw [esD, if_neg h, e]
  dsimp only
  cases esD cb P n q with
  | none => rfl
  | some l =>
    cases bsD cb (pyl r) with
    | none => rfl
    | some k => simp
theorem take_sum {α : Type} (f : α → Nat) : ∀ (l : List α) (i : Nat), ((l.take i).map f).sum ≤ (l.map f).sum
  | [], _ => by simp
  | x :: l, 0 => by simp
  | x :: l, i + 1 => by
    have := take_sum f l i
    simp only [List.take_succ_cons, List.map_cons, List.sum_cons]
    omega
theorem take_sum1 {α : Type} (f : α → Nat) : ∀ (l : List α) (i : Nat) (x : α), l[i]? = some x → ((l.take (i + 1)).map f).sum = ((l.take i).map f).sum + f x
  | [], i, x, h => by simp at h
  | y :: l, 0, x, h => by simp at h; subst h; simp
  | y :: l, i + 1, x, h => by
    have := take_sum1 f l i x (by simpa using h)
    simp only [List.take_succ_cons, List.map_cons, List.sum_cons] at this ⊢
    omega
def sndC : Code → Code
  | .seq _ b => b
  | c => c
def dropC : Nat → Code → Code
  | 0, c => c
  | n + 1, c => dropC n (sndC c)
set_option maxHeartbeats 8000000 in
set_option maxRecDepth 100000 in
theorem read_tail {t1 t3 t4 t5 t6 t7 t9 t10 t11 t12 t13 t14 t15 t16 t17 t18 t19 t20 t21 t22 t23 t24 t25 t26 t27 t28 t29 t30 t31 t32 t33 t34 t35 t36 t37 t38 t39 t40 t41 t42 t43 t44 t45 t46 t47 t48 t49 t50 t51 t52 t53 t54 t55 t56 t57 t58 t59 t60 t61 t62 t63 t64 t65 t66 t67 t68 t69 t70 t71 t72 t73 t74 t75 t76 t77 t78 t79 t80 t81 t82 t83 t84 t85 t86 t87 t88 t89 t90 t91 t92 t93 t94 t95 t96 t97 t98 t99 t100 t101 t102 t103 t104 t105 t106 t107 t108 t109 : Value} {p0 : List UInt8} {q0 : Nat} {r : List Fr} {g cap hb : Nat} {w V : World} (a : Nat) (HD : Hd) (BS : Option (List En))
    (hc : ∀ (i : Nat) (f : Fr), ((4, p0, q0) :: r)[i]? = some f → w.cell? ⟨g, i * 3, none⟩ = some (.int .i64 (f.1 : Nat)) ∧ w.cell? ⟨g, i * 3 + 1, none⟩ = some (.string ⟨f.2.1.toArray⟩))
    (hsum : (((4, p0, q0) :: r).map (fun f => f.2.1.length)).sum ≤ 1099511627776) (hkb : ∀ f ∈ (4, p0, q0) :: r, f.1 ≤ 255) (hrl : r.length < 4611686018427387904)
    (hB : V.heap[w.heap.size]? = some (.cells (hdC h0).toArray 31 (0, 0))) (hH : V.heap[hb]? = some (.cells (hdC HD).toArray 31 (0, 0))) (bV : Below w.heap.size w V) (hne : hb ≠ w.heap.size) (hHD : HD.w = (a : Nat)) (hBS : BS = bsD (a / 8) (pyl r))
    (hR : ∀ b : Bool, isW (a : Int) = b → rdD ((4, p0, q0) :: r) = if b = true then BS.map (fun m => (HD, m)) else none) :
    Code.wp Tryz.prog (dropC 5 (Tryz.f25.body.getD .skip)) (bodyPost Tryz.prog Tryz.f25 (RdO ((4, p0, q0) :: r) w)) { tmps := #[.slice (some ⟨g, 0, none⟩) (r.length + 1) cap, t1, .pointer (some ⟨w.heap.size, 0, none⟩), t3, t4, t5, t6, t7, .pointer (some ⟨hb, 0, none⟩), t9, t10, t11, t12, t13, t14, t15, t16, t17, t18, t19, t20, t21, t22, t23, t24, t25, t26, t27, t28, t29, t30, t31, t32, t33, t34, t35, t36, t37, t38, t39, t40, t41, t42, t43, t44, t45, t46, t47, t48, t49, t50, t51, t52, t53, t54, t55, t56, t57, t58, t59, t60, t61, t62, t63, t64, t65, t66, t67, t68, t69, t70, t71, t72, t73, t74, t75, t76, t77, t78, t79, t80, t81, t82, t83, t84, t85, t86, t87, t88, t89, t90, t91, t92, t93, t94, t95, t96, t97, t98, t99, t100, t101, t102, t103, t104, t105, t106, t107, t108, t109], defers := [] } V := by
  have hw := fun W => rwidth_any (a : Int) W
  obtain ⟨⟨i0, i1, i2, i3, i4, i5⟩, -⟩ := hd6 hH
  rw [hHD] at i0
  have hgw : g < w.heap.size := World.block_lt_of_cell? w _ (hc 0 _ rfl).1
  by_cases hW : isW (a : Int) = true
  · have hr := hR true hW
    rw [if_pos rfl] at hr
    rw [hW] at hw
    have hbd := isW_bd hW
    obtain ⟨CB, hCB⟩ : ∃ CB, CB = a / 8 := ⟨_, rfl⟩
    rw [← hCB] at hBS
    have q8 : (a : Int) / 8 = (CB : Int) := by omega
    have q9 : (a : Int).tdiv 8 = (CB : Int) := by rw [Int.tdiv_eq_ediv_of_nonneg (by omega)]; exact q8
    have hcb : CB ≤ 128 := by omega
    have wCB : IntKind.i64.wrap (CB : Int) = (CB : Int) := by rw [IntKind.wrap_i64]; omega
    have HK := Hid.mk (And.intro hc (And.intro hsum (And.intro hkb (And.intro hB (And.intro hH (And.intro bV (And.intro hBS hr)))))))
    clear hc hsum hkb hB hH bV hBS hr hR hW hCB hHD
    generalize hQ : bodyPost Tryz.prog Tryz.f25 (RdO ((4, p0, q0) :: r) w) = Q
    simp only [dropC, sndC, Tryz.f25, Option.getD_some]
    subst hQ
    go_wp2_with (go_at_call 42; refine (hw _).mono ?_; rintro e w' ⟨rfl, hx⟩; replace hx := hx.symm; subst hx; clear hw)
    go_loopw [10, 11] (fun lv iv wr => ∃ (i : Nat) (m : List En), 1 ≤ i ∧ i ≤ r.length + 1 ∧ iv = .int .i64 i ∧ Hid (BS = Lft CB (((4, p0, q0) :: r).drop i) m ∧ wr.ownsRow 0 38 5 lv m.length (m.flatMap enC) ∧ (∀ k, lv.ownBlock = some k → V.heap.size ≤ k) ∧ Below V.heap.size V wr ∧ m.length ≤ ((((4, p0, q0) :: r).take i).map (fun f => f.2.1.length)).sum)) (fun _ iv _ => r.length + 1 - (intOf iv).toNat)
    case atStart => exact ⟨1, [], Nat.le_refl _, by omega, rfl, Hid.mk ⟨by rw [HK.out.2.2.2.2.2.2.1]; simp [Lft], ⟨rfl, .inl ⟨rfl, rfl⟩⟩, (fun k h => by cases h), Below.refl _ _, by simp⟩⟩
    case round =>
      obtain ⟨i, m, hi1, hi2, rfl, HI⟩ := hrel
      obtain ⟨oa, oc, hov, -⟩ := slice_form HI.out.2.1
      have hmi : (m.length : Nat) ≤ 1099511627776 := by
        have h1 := HI.out.2.2.2.2
        have h2 := HK.out.2.1
        have h3 := take_sum (fun f : Fr => f.2.1.length) ((4, p0, q0) :: r) i
        exact Nat.le_trans h1 (Nat.le_trans h3 h2)
      have HV := Hid.mk hov
      rw [hov]
      have bV := HK.out.2.2.2.2.2.1
      have bwr : Below w.heap.size w wr := bV.trans (HI.out.2.2.2.1.mono bV.size)
      have hBr := (HI.out.2.2.2.1.block _ (Array.getElem?_eq_some_iff.1 HK.out.2.2.2.1).1).trans HK.out.2.2.2.1
      have hHr := (HI.out.2.2.2.1.block _ (Array.getElem?_eq_some_iff.1 HK.out.2.2.2.2.1).1).trans HK.out.2.2.2.2.1
      by_cases hlt : i < r.length + 1
      · obtain ⟨f, hf⟩ : ∃ f, ((4, p0, q0) :: r)[i]? = some f := ⟨_, List.getElem?_eq_getElem (by simpa using hlt)⟩
        obtain ⟨ck, cp⟩ := HK.out.1 i f hf
        have ck1 := cell_lat bwr ck
        have cp1 := cell_lat bwr cp
        have hk5 : f.1 ≤ 255 := HK.out.2.2.1 f (List.mem_of_getElem? hf)
        have hdr : ((4, p0, q0) :: r).drop i = f :: ((4, p0, q0) :: r).drop (i + 1) := by
          obtain ⟨h1, h2⟩ := List.getElem?_eq_some_iff.1 hf
          rw [List.drop_eq_getElem_cons h1, h2]
        have j1 : (i : Int) < (r.length : Int) + 1 := by omega
        have j0 : 0 ≤ (i : Int) := by omega
        by_cases h5 : f.1 = 5
        · obtain ⟨kk, P, qq⟩ := f
          dsimp only at h5 ck1 cp1 hk5
          subst h5
          obtain ⟨PA, hPA⟩ : ∃ PA : ByteArray, PA = ⟨P.toArray⟩ := ⟨_, rfl⟩
          have hPs : PA.size = P.length := by rw [hPA, ba_len]
          rw [← hPA] at cp1
          dsimp only at cp
          rw [← hPA] at cp
          have hPl : PA.size ≤ 1099511627776 := by
            have h1 := take_sum1 (fun f : Fr => f.2.1.length) ((4, p0, q0) :: r) i _ hf
            have h2 := take_sum (fun f : Fr => f.2.1.length) ((4, p0, q0) :: r) (i + 1)
            have h3 := HK.out.2.1
            have h4 : P.length ≤ ((((4, p0, q0) :: r).take (i + 1)).map (fun f : Fr => f.2.1.length)).sum := by rw [h1]; exact Nat.le_add_left _ _
            rw [hPs]
            exact Nat.le_trans h4 (Nat.le_trans h2 h3)
          obtain ⟨RS, hRS⟩ : ∃ RS, RS = ((4, p0, q0) :: r).drop (i + 1) := ⟨_, rfl⟩
          rw [← hRS] at hdr
          obtain ⟨BA, hBA⟩ : ∃ BA, BA = ((((4, p0, q0) :: r).take i).map (fun f => f.2.1.length)).sum := ⟨_, rfl⟩
          have hBA2 : BA + PA.size ≤ 1099511627776 ∧ ((((4, p0, q0) :: r).take (i + 1)).map (fun f => f.2.1.length)).sum = BA + PA.size := by
            have h1 := take_sum1 (fun f : Fr => f.2.1.length) ((4, p0, q0) :: r) i _ hf
            have h2 := take_sum (fun f : Fr => f.2.1.length) ((4, p0, q0) :: r) (i + 1)
            have h3 := HK.out.2.1
            have h4 : ((((4, p0, q0) :: r).take (i + 1)).map (fun f => f.2.1.length)).sum = BA + PA.size := by rw [hBA, hPs]; exact h1
            exact ⟨Nat.le_trans (Nat.le_of_eq h4.symm) (Nat.le_trans h2 h3), h4⟩
          have H0 := Hid.mk (show BS = Lfi CB PA (PA.size + 1) 0 RS m ∧ wr.ownsRow 0 38 5 u10 m.length (m.flatMap enC) ∧ (∀ k, u10.ownBlock = some k → V.heap.size ≤ k) ∧ Below V.heap.size V wr ∧ m.length ≤ BA + 0 from ⟨by rw [HI.out.1, hdr, Lft_block, hPs, hPA], HI.out.2.1, HI.out.2.2.1, HI.out.2.2.2.1, by rw [Nat.add_zero, hBA]; exact HI.out.2.2.2.2⟩)
          have HD5 := Hid.mk (And.intro hRS hBA2)
          obtain ⟨wO, hwO⟩ : ∃ wO, wO = wr := ⟨_, rfl⟩
          subst hwO
          rw [← hov] at *
          clear hdr ck bV hf bwr hBr hHr hBA hRS hPA hBA2 hov HV
          go_wp2
          clear ck1 cp1
          go_loopw [10, 12] (fun lv av wr => ∃ (a n : Nat) (m2 : List En), av = .int .i64 a ∧ a ≤ PA.size ∧ Hid (PA.size - a < n ∧ BS = Lfi CB PA n a RS m2 ∧ wr.ownsRow 0 38 5 lv m2.length (m2.flatMap enC) ∧ (∀ k, lv.ownBlock = some k → V.heap.size ≤ k) ∧ Below V.heap.size V wr ∧ m2.length ≤ BA + a)) (fun _ av _ => PA.size + 1 - (intOf av).toNat)
          case atStart => exact ⟨0, PA.size + 1, m, rfl, Nat.zero_le _, Hid.mk ⟨by omega, H0.out⟩⟩
          case round =>
            clear H0
            obtain ⟨a2, n2, m2, rfl, ha2, HJ⟩ := hrel
            obtain ⟨pa, pc, hpv, -⟩ := slice_form HJ.out.2.2.1
            obtain ⟨n3, rfl⟩ : ∃ n3, n2 = n3 + 1 := ⟨n2 - 1, by have := HJ.out.1; omega⟩
            have bV := HK.out.2.2.2.2.2.1
            have bj := HJ.out.2.2.2.2.1
            have bwr : Below w.heap.size w wr := bV.trans (bj.mono bV.size)
            have hB := (bj.block _ (Array.getElem?_eq_some_iff.1 HK.out.2.2.2.1).1).trans HK.out.2.2.2.1
            have cp2 := cell_lat bwr cp
            have i02 := cell_lat bj i0
            have hml := HJ.out.2.2.2.2.2
            have hm2 := HD5.out.2.1
            by_cases hl : a2 < PA.size
            · have hen := fun W => rentry_any PA a2 CB W (by omega) ha2 hcb
              have hli : (a2 : Int) < (PA.size : Int) := by omega
              cases hea : eaD PA a2 CB with
              | none =>
                have HE := Hid.mk (show rdD ((4, p0, q0) :: r) = none by rw [HK.out.2.2.2.2.2.2.2, HJ.out.2.1, Lfi_none CB PA n3 a2 RS m2 (by omega) hea]; rfl)
                rw [hea] at hen
                simp only [enA, enC, e0] at hen
                clear hea
                go_upto_region 16 with fail
                refine wp_region_held_drew (S := fun w' => w'.cell? ⟨g, i * 3 + 1, none⟩ = some (.string PA) ∧ w'.cell? ⟨hb, 0, none⟩ = some (.int .i64 a)) (by kernel_rfl) ?_ (fun hHeld => ?_)
                · exact ⟨cp2, i02⟩
                refine wpAnyH_take (i := 0) (oi := { dst := some 87, op := Op.move (Operand.tmp 0), type := 57, pos := "kindredref6.go:239", after := #[], guard := none }) (v := ?vn0) rfl (by kernel_rfl) (by kernel_rfl) (by kernel_rfl) (fun _ _ _ h => h) (Or.inl ⟨by rfl, ?hn0⟩) (by assumption) ?rn0
                case hn0 => (intro w0 hSw; (try dsimp only at hSw); go_simp; try (with_reducible rfl))
                simp only [Act.put, List.setIfInBounds_toArray, List.set_cons_zero, List.set_cons_succ]
                refine wpAnyH_take (i := 1) (oi := { dst := some 88, op := Op.move (Operand.tmp 11), type := 3, pos := "kindredref6.go:239", after := #[], guard := none }) (v := ?vn1) rfl (by kernel_rfl) (by kernel_rfl) (by kernel_rfl) (fun _ _ _ h => h) (Or.inl ⟨by rfl, ?hn1⟩) (by assumption) ?rn1
                case hn1 => (intro w0 hSw; (try dsimp only at hSw); go_simp; try (with_reducible rfl))
                simp only [Act.put, List.setIfInBounds_toArray, List.set_cons_zero, List.set_cons_succ]
                refine wpAnyH_take (i := 2) (oi := { dst := some 89, op := Op.indexAddr 57 (Operand.tmp 87) (Operand.tmp 88), type := 0, pos := "kindredref6.go:239", after := #[{ on := 0, ground := Ground.data }, { on := 1, ground := Ground.data }], guard := none }) (v := ?vn2) rfl (by kernel_rfl) (by kernel_rfl) (by kernel_rfl) (fun _ _ _ h => h) (Or.inl ⟨by rfl, ?hn2⟩) (by assumption) ?rn2
                case hn2 => (intro w0 hSw; (try dsimp only at hSw); go_simp; try (with_reducible rfl))
                simp only [Act.put, List.setIfInBounds_toArray, List.set_cons_zero, List.set_cons_succ]
                refine wpAnyH_take (i := 3) (oi := { dst := some 90, op := Op.fieldAddr 92 (Operand.tmp 89) 1, type := 0, pos := "kindredref6.go:239", after := #[{ on := 2, ground := Ground.data }], guard := none }) (v := ?vn3) rfl (by kernel_rfl) (by kernel_rfl) (by kernel_rfl) (fun _ _ _ h => h) (Or.inl ⟨by rfl, ?hn3⟩) (by assumption) ?rn3
                case hn3 => (intro w0 hSw; (try dsimp only at hSw); go_simp; try (with_reducible rfl))
                simp only [Act.put, List.setIfInBounds_toArray, List.set_cons_zero, List.set_cons_succ]
                refine wpAnyH_take (i := 4) (oi := { dst := some 91, op := Op.load 9 (Operand.tmp 90), type := 9, pos := "kindredref6.go:239", after := #[{ on := 3, ground := Ground.data }], guard := none }) (v := ?vn4) rfl (by kernel_rfl) (by kernel_rfl) (by kernel_rfl) (fun _ _ _ h => h) (Or.inl ⟨by rfl, ?hn4⟩) (by assumption) ?rn4
                case hn4 => (intro w0 hSw; (try dsimp only at hSw); go_simp; try (with_reducible rfl))
                simp only [Act.put, List.setIfInBounds_toArray, List.set_cons_zero, List.set_cons_succ]
                refine wpAnyH_take (i := 5) (oi := { dst := some 92, op := Op.move (Operand.tmp 12), type := 3, pos := "kindredref6.go:239", after := #[], guard := none }) (v := ?vn5) rfl (by kernel_rfl) (by kernel_rfl) (by kernel_rfl) (fun _ _ _ h => h) (Or.inl ⟨by rfl, ?hn5⟩) (by assumption) ?rn5
                case hn5 => (intro w0 hSw; (try dsimp only at hSw); go_simp; try (with_reducible rfl))
                simp only [Act.put, List.setIfInBounds_toArray, List.set_cons_zero, List.set_cons_succ]
                refine wpAnyH_take (i := 6) (oi := { dst := some 93, op := Op.fieldAddr 31 (Operand.tmp 8) 0, type := 0, pos := "kindredref6.go:239", after := #[], guard := none }) (v := ?vn6) rfl (by kernel_rfl) (by kernel_rfl) (by kernel_rfl) (fun _ _ _ h => h) (Or.inl ⟨by rfl, ?hn6⟩) (by assumption) ?rn6
                case hn6 => (intro w0 hSw; (try dsimp only at hSw); go_simp; try (with_reducible rfl))
                simp only [Act.put, List.setIfInBounds_toArray, List.set_cons_zero, List.set_cons_succ]
                refine wpAnyH_take (i := 7) (oi := { dst := some 94, op := Op.load 3 (Operand.tmp 93), type := 3, pos := "kindredref6.go:239", after := #[{ on := 6, ground := Ground.data }], guard := none }) (v := ?vn7) rfl (by kernel_rfl) (by kernel_rfl) (by kernel_rfl) (fun _ _ _ h => h) (Or.inl ⟨by rfl, ?hn7⟩) (by assumption) ?rn7
                case hn7 => (intro w0 hSw; (try dsimp only at hSw); go_simp; try (with_reducible rfl))
                simp only [Act.put, List.setIfInBounds_toArray, List.set_cons_zero, List.set_cons_succ]
                refine wpAnyH_take (i := 8) (oi := { dst := some 95, op := Op.binOp BinOp.quo 3 (Operand.tmp 94) (Operand.const (Value.int IntKind.i64 8)) 3, type := 3, pos := "kindredref6.go:239", after := #[{ on := 7, ground := Ground.data }], guard := none }) (v := ?vn8) rfl (by kernel_rfl) (by kernel_rfl) (by kernel_rfl) (fun _ _ _ h => h) (Or.inl ⟨by rfl, ?hn8⟩) (by assumption) ?rn8
                case hn8 => (intro w0 hSw; (try dsimp only at hSw); go_simp; try (with_reducible rfl))
                simp only [Act.put, List.setIfInBounds_toArray, List.set_cons_zero, List.set_cons_succ]
                refine wpAnyH_ready (rs := [9, 14]) (by kernel_rfl) (by simp) ?_
                clear hHeld
                refine AllReadyH.cons rfl (fun K hK => ?_) (AllReadyH.cons rfl (fun K hK => ?_) AllReadyH.nil)
                · skip
                  go_simp
                  go_at_call 43
                  refine (hen _).mono ?_
                  clear hen
                  rintro rr w4 ⟨rfl, b4⟩
                  have b4 : Below wr.heap.size wr w4 := below_d b4
                  refine hK.out _ _ ?_ (fun hHeld => ?_)
                  · exact ⟨cell_lat b4 cp2, cell_lat b4 i02⟩
                  clear hK K
                  refine wpAnyH_take (i := 10) (oi := { dst := some 86, op := Op.move (Operand.tmp 96), type := 55, pos := "kindredref6.go:239", after := #[{ on := 9, ground := Ground.data }], guard := none }) (v := ?vnA10) rfl (by kernel_rfl) (by kernel_rfl) (by kernel_rfl) (fun _ _ _ h => h) (Or.inl ⟨by rfl, ?hnA10⟩) (by assumption) ?rnA10
                  case hnA10 => (intro w0 hSw; (try dsimp only at hSw); go_simp; try (with_reducible rfl))
                  simp only [Act.put, List.setIfInBounds_toArray, List.set_cons_zero, List.set_cons_succ]
                  refine wpAnyH_take (i := 11) (oi := { dst := some 97, op := Op.extract (Operand.tmp 86) 0, type := 38, pos := "kindredref6.go:239", after := #[{ on := 10, ground := Ground.data }], guard := none }) (v := ?vnA11) rfl (by kernel_rfl) (by kernel_rfl) (by kernel_rfl) (fun _ _ _ h => h) (Or.inl ⟨by rfl, ?hnA11⟩) (by assumption) ?rnA11
                  case hnA11 => (intro w0 hSw; (try dsimp only at hSw); go_simp; try (with_reducible rfl))
                  simp only [Act.put, List.setIfInBounds_toArray, List.set_cons_zero, List.set_cons_succ]
                  refine wpAnyH_take (i := 12) (oi := { dst := some 98, op := Op.extract (Operand.tmp 86) 1, type := 3, pos := "kindredref6.go:239", after := #[{ on := 10, ground := Ground.data }, { on := 15, ground := Ground.gcOnly Departure.lateStores }], guard := none }) (v := ?vnA12) rfl (by kernel_rfl) (by kernel_rfl) (by kernel_rfl) (fun _ _ _ h => h) (Or.inl ⟨by rfl, ?hnA12⟩) (by assumption) ?rnA12
                  case hnA12 => (intro w0 hSw; (try dsimp only at hSw); go_simp; try (with_reducible rfl))
                  simp only [Act.put, List.setIfInBounds_toArray, List.set_cons_zero, List.set_cons_succ]
                  refine wpAnyH_take (i := 13) (oi := { dst := some 99, op := Op.extract (Operand.tmp 86) 2, type := 4, pos := "kindredref6.go:239", after := #[{ on := 10, ground := Ground.data }, { on := 16, ground := Ground.gcOnly Departure.lateStores }], guard := none }) (v := ?vnA13) rfl (by kernel_rfl) (by kernel_rfl) (by kernel_rfl) (fun _ _ _ h => h) (Or.inl ⟨by rfl, ?hnA13⟩) (by assumption) ?rnA13
                  case hnA13 => (intro w0 hSw; (try dsimp only at hSw); go_simp; try (with_reducible rfl))
                  simp only [Act.put, List.setIfInBounds_toArray, List.set_cons_zero, List.set_cons_succ]
                  have b5 : Below wr.heap.size wr (w4.alloc (.cells #[.int .i64 0, .string ⟨#[]⟩, .int .i64 0, .int .i64 0, .bool false] 38)) := b4.alloc b4.size _
                  clear hHeld
                  refine wpAnyH_ready (rs := [14]) (by kernel_rfl) (by simp) ?_
                  refine AllReadyH.cons rfl (fun K hK => ?_) AllReadyH.nil
                  go_simp
                  go_wp2_with (fail)
                  refine hK.out _ _ ?_ (fun hHeld => ?_)
                  · exact ⟨cell_lat b5 cp2, cell_lat b5 i02⟩
                  clear hK K hHeld b5
                  have b6 : Below wr.heap.size wr (w4.alloc (.cells (enC e0).toArray 38)) := b4.alloc b4.size _
                  have hx6 : (w4.alloc (.cells (enC e0).toArray 38)).heap[w4.heap.size]? = some (.cells (enC e0).toArray 38 (0, 0)) := heap_alloc_last w4 _
                  obtain ⟨W6, hW6⟩ : ∃ W6, W6 = w4.alloc (.cells (enC e0).toArray 38) := ⟨_, rfl⟩
                  rw [← hW6] at b6 hx6
                  have hbx : wr.heap.size ≤ w4.heap.size := b4.size
                  refine wpAnyH_ready (rs := [15]) (by kernel_rfl) (by simp) ?_
                  refine AllReadyH.cons rfl (fun K hK => ?_) AllReadyH.nil
                  go_simp
                  go_wp2_with (fail)
                  simp only [enC, e0] at hW6
                  rw [← hW6]
                  clear hW6 b4
                  refine hK.out _ _ ?_ (fun hHeld => ?_)
                  · exact ⟨cell_lat b6 cp2, cell_lat b6 i02⟩
                  clear hK K
                  refine wpAnyH_take (i := 16) (oi := { dst := some 14, op := Op.assign (Operand.tmp 98), type := 3, pos := "kindredref6.go:239", after := #[{ on := 12, ground := Ground.data }, { on := 15, ground := Ground.chain }, { on := 0, ground := Ground.phase }, { on := 1, ground := Ground.phase }, { on := 2, ground := Ground.phase }, { on := 3, ground := Ground.phase }, { on := 4, ground := Ground.phase }, { on := 5, ground := Ground.phase }, { on := 6, ground := Ground.phase }, { on := 7, ground := Ground.phase }, { on := 8, ground := Ground.phase }, { on := 9, ground := Ground.phase }, { on := 10, ground := Ground.phase }, { on := 11, ground := Ground.phase }, { on := 12, ground := Ground.phase }, { on := 13, ground := Ground.textOnly Departure.lateStores }, { on := 14, ground := Ground.phase }, { on := 15, ground := Ground.phase }], guard := none }) (v := ?vnA16) rfl (by kernel_rfl) (by kernel_rfl) (by kernel_rfl) (fun _ _ _ h => h) (Or.inl ⟨by rfl, ?hnA16⟩) (by assumption) ?rnA16
                  case hnA16 => (intro w0 hSw; (try dsimp only at hSw); go_simp; try (with_reducible rfl))
                  simp only [Act.put, List.setIfInBounds_toArray, List.set_cons_zero, List.set_cons_succ]
                  refine wpAnyH_take (i := 17) (oi := { dst := some 15, op := Op.assign (Operand.tmp 99), type := 4, pos := "kindredref6.go:239", after := #[{ on := 13, ground := Ground.data }, { on := 16, ground := Ground.chain }, { on := 0, ground := Ground.phase }, { on := 1, ground := Ground.phase }, { on := 2, ground := Ground.phase }, { on := 3, ground := Ground.phase }, { on := 4, ground := Ground.phase }, { on := 5, ground := Ground.phase }, { on := 6, ground := Ground.phase }, { on := 7, ground := Ground.phase }, { on := 8, ground := Ground.phase }, { on := 9, ground := Ground.phase }, { on := 10, ground := Ground.phase }, { on := 11, ground := Ground.phase }, { on := 12, ground := Ground.phase }, { on := 13, ground := Ground.phase }, { on := 14, ground := Ground.phase }, { on := 15, ground := Ground.phase }, { on := 16, ground := Ground.phase }], guard := none }) (v := ?vnA17) rfl (by kernel_rfl) (by kernel_rfl) (by kernel_rfl) (fun _ _ _ h => h) (Or.inl ⟨by rfl, ?hnA17⟩) (by assumption) ?rnA17
                  case hnA17 => (intro w0 hSw; (try dsimp only at hSw); go_simp; try (with_reducible rfl))
                  simp only [Act.put, List.setIfInBounds_toArray, List.set_cons_zero, List.set_cons_succ]
                  refine wpAnyH_done (by kernel_rfl) ?_ _
                  clear hHeld cp2 i02
                  replace hB := (b6.block _ (Array.getElem?_eq_some_iff.1 hB).1).trans hB
                  have bw6 := bwr.trans (b6.mono bwr.size)
                  clear hx6 b6 bwr bj bV
                  have HF := Hid.mk (And.intro (set6_at (h := h0) hB) (bw6.trans ((set6_stay W6 w.heap.size h0).toBelow (B := w.heap.size) (fun k hk e => by omega) bw6.size)))
                  obtain ⟨⟨g0, g1, g2, g3, g4, g5⟩, z0, z1, z2, z3, z4, z5⟩ := hd6 hB
                  simp only [h0] at g0 g1 g2 g3 g4 g5
                  go_wp2
                  obtain ⟨w9, hw9⟩ : ∃ w9, set6 W6 w.heap.size h0 = w9 := ⟨_, rfl⟩
                  rw [hw9] at HF
                  obtain ⟨⟨k0, k1, k2, k3, k4, k5⟩, -⟩ := hd6 HF.out.1
                  simp only [set6, h0] at hw9
                  rw [hw9]
                  refine bodyPost_ret (v := rdN) (by simp [results, Tryz.results25, go_sem, rdN, hdC, k0, k1, k2, k3, k4, k5]; try rfl) rfl ?_
                  exact ⟨HF.out.2, .inl ⟨HE.out, rfl⟩⟩
                · skip
                  obtain ⟨W3, hW3⟩ : ∃ W3, W3 = (wr.alloc (.cells #[.int .i64 0, .string ⟨#[]⟩, .int .i64 0, .int .i64 0, .bool false] 38)).drew := ⟨_, rfl⟩
                  have b3 : Below wr.heap.size wr W3 := by rw [hW3]; exact ((Below.refl _ wr).alloc (Nat.le_refl _) _).drew
                  have hx3 : W3.heap[wr.heap.size]? = some (.cells (enC e0).toArray 38 (0, 0)) := by rw [hW3]; exact heap_alloc_last wr _
                  go_simp
                  go_wp2_with (fail)
                  rw [← hW3]
                  clear hW3
                  refine hK.out _ _ ?_ (fun hHeld => ?_)
                  · exact ⟨cell_lat b3 cp2, cell_lat b3 i02⟩
                  clear hK K hHeld
                  refine wpAnyH_ready (rs := [9]) (by kernel_rfl) (by simp) ?_
                  refine AllReadyH.cons rfl (fun K hK => ?_) AllReadyH.nil
                  go_simp
                  go_at_call 43
                  refine (hen _).mono ?_
                  clear hen
                  rintro rr w4 ⟨rfl, b4⟩
                  have hx4 := (b4.block _ (Array.getElem?_eq_some_iff.1 hx3).1).trans hx3
                  have b4 : Below wr.heap.size wr w4 := chain b3 b4 (Nat.le_refl _)
                  refine hK.out _ _ ?_ (fun hHeld => ?_)
                  · exact ⟨cell_lat b4 cp2, cell_lat b4 i02⟩
                  clear hK K b3 hx3
                  refine wpAnyH_take (i := 10) (oi := { dst := some 86, op := Op.move (Operand.tmp 96), type := 55, pos := "kindredref6.go:239", after := #[{ on := 9, ground := Ground.data }], guard := none }) (v := ?vnB10) rfl (by kernel_rfl) (by kernel_rfl) (by kernel_rfl) (fun _ _ _ h => h) (Or.inl ⟨by rfl, ?hnB10⟩) (by assumption) ?rnB10
                  case hnB10 => (intro w0 hSw; (try dsimp only at hSw); go_simp; try (with_reducible rfl))
                  simp only [Act.put, List.setIfInBounds_toArray, List.set_cons_zero, List.set_cons_succ]
                  refine wpAnyH_take (i := 11) (oi := { dst := some 97, op := Op.extract (Operand.tmp 86) 0, type := 38, pos := "kindredref6.go:239", after := #[{ on := 10, ground := Ground.data }], guard := none }) (v := ?vnB11) rfl (by kernel_rfl) (by kernel_rfl) (by kernel_rfl) (fun _ _ _ h => h) (Or.inl ⟨by rfl, ?hnB11⟩) (by assumption) ?rnB11
                  case hnB11 => (intro w0 hSw; (try dsimp only at hSw); go_simp; try (with_reducible rfl))
                  simp only [Act.put, List.setIfInBounds_toArray, List.set_cons_zero, List.set_cons_succ]
                  refine wpAnyH_take (i := 12) (oi := { dst := some 98, op := Op.extract (Operand.tmp 86) 1, type := 3, pos := "kindredref6.go:239", after := #[{ on := 10, ground := Ground.data }, { on := 15, ground := Ground.gcOnly Departure.lateStores }], guard := none }) (v := ?vnB12) rfl (by kernel_rfl) (by kernel_rfl) (by kernel_rfl) (fun _ _ _ h => h) (Or.inl ⟨by rfl, ?hnB12⟩) (by assumption) ?rnB12
                  case hnB12 => (intro w0 hSw; (try dsimp only at hSw); go_simp; try (with_reducible rfl))
                  simp only [Act.put, List.setIfInBounds_toArray, List.set_cons_zero, List.set_cons_succ]
                  refine wpAnyH_take (i := 13) (oi := { dst := some 99, op := Op.extract (Operand.tmp 86) 2, type := 4, pos := "kindredref6.go:239", after := #[{ on := 10, ground := Ground.data }, { on := 16, ground := Ground.gcOnly Departure.lateStores }], guard := none }) (v := ?vnB13) rfl (by kernel_rfl) (by kernel_rfl) (by kernel_rfl) (fun _ _ _ h => h) (Or.inl ⟨by rfl, ?hnB13⟩) (by assumption) ?rnB13
                  case hnB13 => (intro w0 hSw; (try dsimp only at hSw); go_simp; try (with_reducible rfl))
                  simp only [Act.put, List.setIfInBounds_toArray, List.set_cons_zero, List.set_cons_succ]
                  clear hHeld
                  obtain ⟨g0, g1, g2, g3, g4, z0, z1, z2, z3, z4⟩ := en5 hx4
                  simp only [e0] at g0 g1 g2 g3 g4
                  have hx6 := set5_at (e := e0) hx4
                  have b6 := b4.trans ((set5_stay w4 wr.heap.size e0).toBelow (B := wr.heap.size) (fun k hk e => by omega) b4.size)
                  obtain ⟨W6, hW6⟩ : ∃ W6, set5 w4 wr.heap.size e0 = W6 := ⟨_, rfl⟩
                  rw [hW6] at b6 hx6
                  have hbx : wr.heap.size ≤ wr.heap.size := Nat.le_refl _
                  refine wpAnyH_ready (rs := [15]) (by kernel_rfl) (by simp) ?_
                  refine AllReadyH.cons rfl (fun K hK => ?_) AllReadyH.nil
                  go_simp
                  go_wp2_with (fail)
                  simp only [set5, e0] at hW6
                  rw [hW6]
                  clear hW6 b4 hx4 g0 g1 g2 g3 g4 z0 z1 z2 z3 z4
                  refine hK.out _ _ ?_ (fun hHeld => ?_)
                  · exact ⟨cell_lat b6 cp2, cell_lat b6 i02⟩
                  clear hK K
                  refine wpAnyH_take (i := 16) (oi := { dst := some 14, op := Op.assign (Operand.tmp 98), type := 3, pos := "kindredref6.go:239", after := #[{ on := 12, ground := Ground.data }, { on := 15, ground := Ground.chain }, { on := 0, ground := Ground.phase }, { on := 1, ground := Ground.phase }, { on := 2, ground := Ground.phase }, { on := 3, ground := Ground.phase }, { on := 4, ground := Ground.phase }, { on := 5, ground := Ground.phase }, { on := 6, ground := Ground.phase }, { on := 7, ground := Ground.phase }, { on := 8, ground := Ground.phase }, { on := 9, ground := Ground.phase }, { on := 10, ground := Ground.phase }, { on := 11, ground := Ground.phase }, { on := 12, ground := Ground.phase }, { on := 13, ground := Ground.textOnly Departure.lateStores }, { on := 14, ground := Ground.phase }, { on := 15, ground := Ground.phase }], guard := none }) (v := ?vnB16) rfl (by kernel_rfl) (by kernel_rfl) (by kernel_rfl) (fun _ _ _ h => h) (Or.inl ⟨by rfl, ?hnB16⟩) (by assumption) ?rnB16
                  case hnB16 => (intro w0 hSw; (try dsimp only at hSw); go_simp; try (with_reducible rfl))
                  simp only [Act.put, List.setIfInBounds_toArray, List.set_cons_zero, List.set_cons_succ]
                  refine wpAnyH_take (i := 17) (oi := { dst := some 15, op := Op.assign (Operand.tmp 99), type := 4, pos := "kindredref6.go:239", after := #[{ on := 13, ground := Ground.data }, { on := 16, ground := Ground.chain }, { on := 0, ground := Ground.phase }, { on := 1, ground := Ground.phase }, { on := 2, ground := Ground.phase }, { on := 3, ground := Ground.phase }, { on := 4, ground := Ground.phase }, { on := 5, ground := Ground.phase }, { on := 6, ground := Ground.phase }, { on := 7, ground := Ground.phase }, { on := 8, ground := Ground.phase }, { on := 9, ground := Ground.phase }, { on := 10, ground := Ground.phase }, { on := 11, ground := Ground.phase }, { on := 12, ground := Ground.phase }, { on := 13, ground := Ground.phase }, { on := 14, ground := Ground.phase }, { on := 15, ground := Ground.phase }, { on := 16, ground := Ground.phase }], guard := none }) (v := ?vnB17) rfl (by kernel_rfl) (by kernel_rfl) (by kernel_rfl) (fun _ _ _ h => h) (Or.inl ⟨by rfl, ?hnB17⟩) (by assumption) ?rnB17
                  case hnB17 => (intro w0 hSw; (try dsimp only at hSw); go_simp; try (with_reducible rfl))
                  simp only [Act.put, List.setIfInBounds_toArray, List.set_cons_zero, List.set_cons_succ]
                  refine wpAnyH_done (by kernel_rfl) ?_ _
                  clear hHeld cp2 i02
                  replace hB := (b6.block _ (Array.getElem?_eq_some_iff.1 hB).1).trans hB
                  have bw6 := bwr.trans (b6.mono bwr.size)
                  clear hx6 b6 bwr bj bV
                  have HF := Hid.mk (And.intro (set6_at (h := h0) hB) (bw6.trans ((set6_stay W6 w.heap.size h0).toBelow (B := w.heap.size) (fun k hk e => by omega) bw6.size)))
                  obtain ⟨⟨g0, g1, g2, g3, g4, g5⟩, z0, z1, z2, z3, z4, z5⟩ := hd6 hB
                  simp only [h0] at g0 g1 g2 g3 g4 g5
                  go_wp2
                  obtain ⟨w9, hw9⟩ : ∃ w9, set6 W6 w.heap.size h0 = w9 := ⟨_, rfl⟩
                  rw [hw9] at HF
                  obtain ⟨⟨k0, k1, k2, k3, k4, k5⟩, -⟩ := hd6 HF.out.1
                  simp only [set6, h0] at hw9
                  rw [hw9]
                  refine bodyPost_ret (v := rdN) (by simp [results, Tryz.results25, go_sem, rdN, hdC, k0, k1, k2, k3, k4, k5]; try rfl) rfl ?_
                  exact ⟨HF.out.2, .inl ⟨HE.out, rfl⟩⟩
              | some y =>
                obtain ⟨x, q2⟩ := y
                have hq2 := eaD_next hea
                have HX := Hid.mk (Lfi_some CB PA n3 a2 RS m2 (by omega) hea)
                rw [hea] at hen
                simp only [enA, enC] at hen
                clear hea
                go_upto_region 16 with fail
                refine wp_region_held_drew (S := fun w' => w'.cell? ⟨g, i * 3 + 1, none⟩ = some (.string PA) ∧ w'.cell? ⟨hb, 0, none⟩ = some (.int .i64 a)) (by kernel_rfl) ?_ (fun hHeld => ?_)
                · exact ⟨cp2, i02⟩
                refine wpAnyH_take (i := 0) (oi := { dst := some 87, op := Op.move (Operand.tmp 0), type := 57, pos := "kindredref6.go:239", after := #[], guard := none }) (v := ?vs0) rfl (by kernel_rfl) (by kernel_rfl) (by kernel_rfl) (fun _ _ _ h => h) (Or.inl ⟨by rfl, ?hs0⟩) (by assumption) ?rs0
                case hs0 => (intro w0 hSw; (try dsimp only at hSw); go_simp; try (with_reducible rfl))
                simp only [Act.put, List.setIfInBounds_toArray, List.set_cons_zero, List.set_cons_succ]
                refine wpAnyH_take (i := 1) (oi := { dst := some 88, op := Op.move (Operand.tmp 11), type := 3, pos := "kindredref6.go:239", after := #[], guard := none }) (v := ?vs1) rfl (by kernel_rfl) (by kernel_rfl) (by kernel_rfl) (fun _ _ _ h => h) (Or.inl ⟨by rfl, ?hs1⟩) (by assumption) ?rs1
                case hs1 => (intro w0 hSw; (try dsimp only at hSw); go_simp; try (with_reducible rfl))
                simp only [Act.put, List.setIfInBounds_toArray, List.set_cons_zero, List.set_cons_succ]
                refine wpAnyH_take (i := 2) (oi := { dst := some 89, op := Op.indexAddr 57 (Operand.tmp 87) (Operand.tmp 88), type := 0, pos := "kindredref6.go:239", after := #[{ on := 0, ground := Ground.data }, { on := 1, ground := Ground.data }], guard := none }) (v := ?vs2) rfl (by kernel_rfl) (by kernel_rfl) (by kernel_rfl) (fun _ _ _ h => h) (Or.inl ⟨by rfl, ?hs2⟩) (by assumption) ?rs2
                case hs2 => (intro w0 hSw; (try dsimp only at hSw); go_simp; try (with_reducible rfl))
                simp only [Act.put, List.setIfInBounds_toArray, List.set_cons_zero, List.set_cons_succ]
                refine wpAnyH_take (i := 3) (oi := { dst := some 90, op := Op.fieldAddr 92 (Operand.tmp 89) 1, type := 0, pos := "kindredref6.go:239", after := #[{ on := 2, ground := Ground.data }], guard := none }) (v := ?vs3) rfl (by kernel_rfl) (by kernel_rfl) (by kernel_rfl) (fun _ _ _ h => h) (Or.inl ⟨by rfl, ?hs3⟩) (by assumption) ?rs3
                case hs3 => (intro w0 hSw; (try dsimp only at hSw); go_simp; try (with_reducible rfl))
                simp only [Act.put, List.setIfInBounds_toArray, List.set_cons_zero, List.set_cons_succ]
                refine wpAnyH_take (i := 4) (oi := { dst := some 91, op := Op.load 9 (Operand.tmp 90), type := 9, pos := "kindredref6.go:239", after := #[{ on := 3, ground := Ground.data }], guard := none }) (v := ?vs4) rfl (by kernel_rfl) (by kernel_rfl) (by kernel_rfl) (fun _ _ _ h => h) (Or.inl ⟨by rfl, ?hs4⟩) (by assumption) ?rs4
                case hs4 => (intro w0 hSw; (try dsimp only at hSw); go_simp; try (with_reducible rfl))
                simp only [Act.put, List.setIfInBounds_toArray, List.set_cons_zero, List.set_cons_succ]
                refine wpAnyH_take (i := 5) (oi := { dst := some 92, op := Op.move (Operand.tmp 12), type := 3, pos := "kindredref6.go:239", after := #[], guard := none }) (v := ?vs5) rfl (by kernel_rfl) (by kernel_rfl) (by kernel_rfl) (fun _ _ _ h => h) (Or.inl ⟨by rfl, ?hs5⟩) (by assumption) ?rs5
                case hs5 => (intro w0 hSw; (try dsimp only at hSw); go_simp; try (with_reducible rfl))
                simp only [Act.put, List.setIfInBounds_toArray, List.set_cons_zero, List.set_cons_succ]
                refine wpAnyH_take (i := 6) (oi := { dst := some 93, op := Op.fieldAddr 31 (Operand.tmp 8) 0, type := 0, pos := "kindredref6.go:239", after := #[], guard := none }) (v := ?vs6) rfl (by kernel_rfl) (by kernel_rfl) (by kernel_rfl) (fun _ _ _ h => h) (Or.inl ⟨by rfl, ?hs6⟩) (by assumption) ?rs6
                case hs6 => (intro w0 hSw; (try dsimp only at hSw); go_simp; try (with_reducible rfl))
                simp only [Act.put, List.setIfInBounds_toArray, List.set_cons_zero, List.set_cons_succ]
                refine wpAnyH_take (i := 7) (oi := { dst := some 94, op := Op.load 3 (Operand.tmp 93), type := 3, pos := "kindredref6.go:239", after := #[{ on := 6, ground := Ground.data }], guard := none }) (v := ?vs7) rfl (by kernel_rfl) (by kernel_rfl) (by kernel_rfl) (fun _ _ _ h => h) (Or.inl ⟨by rfl, ?hs7⟩) (by assumption) ?rs7
                case hs7 => (intro w0 hSw; (try dsimp only at hSw); go_simp; try (with_reducible rfl))
                simp only [Act.put, List.setIfInBounds_toArray, List.set_cons_zero, List.set_cons_succ]
                refine wpAnyH_take (i := 8) (oi := { dst := some 95, op := Op.binOp BinOp.quo 3 (Operand.tmp 94) (Operand.const (Value.int IntKind.i64 8)) 3, type := 3, pos := "kindredref6.go:239", after := #[{ on := 7, ground := Ground.data }], guard := none }) (v := ?vs8) rfl (by kernel_rfl) (by kernel_rfl) (by kernel_rfl) (fun _ _ _ h => h) (Or.inl ⟨by rfl, ?hs8⟩) (by assumption) ?rs8
                case hs8 => (intro w0 hSw; (try dsimp only at hSw); go_simp; try (with_reducible rfl))
                simp only [Act.put, List.setIfInBounds_toArray, List.set_cons_zero, List.set_cons_succ]
                refine wpAnyH_ready (rs := [9, 14]) (by kernel_rfl) (by simp) ?_
                clear hHeld
                refine AllReadyH.cons rfl (fun K hK => ?_) (AllReadyH.cons rfl (fun K hK => ?_) AllReadyH.nil)
                · skip
                  go_simp
                  go_at_call 43
                  refine (hen _).mono ?_
                  clear hen
                  rintro rr w4 ⟨rfl, b4⟩
                  have b4 : Below wr.heap.size wr w4 := below_d b4
                  refine hK.out _ _ ?_ (fun hHeld => ?_)
                  · exact ⟨cell_lat b4 cp2, cell_lat b4 i02⟩
                  clear hK K
                  refine wpAnyH_take (i := 10) (oi := { dst := some 86, op := Op.move (Operand.tmp 96), type := 55, pos := "kindredref6.go:239", after := #[{ on := 9, ground := Ground.data }], guard := none }) (v := ?vsA10) rfl (by kernel_rfl) (by kernel_rfl) (by kernel_rfl) (fun _ _ _ h => h) (Or.inl ⟨by rfl, ?hsA10⟩) (by assumption) ?rsA10
                  case hsA10 => (intro w0 hSw; (try dsimp only at hSw); go_simp; try (with_reducible rfl))
                  simp only [Act.put, List.setIfInBounds_toArray, List.set_cons_zero, List.set_cons_succ]
                  refine wpAnyH_take (i := 11) (oi := { dst := some 97, op := Op.extract (Operand.tmp 86) 0, type := 38, pos := "kindredref6.go:239", after := #[{ on := 10, ground := Ground.data }], guard := none }) (v := ?vsA11) rfl (by kernel_rfl) (by kernel_rfl) (by kernel_rfl) (fun _ _ _ h => h) (Or.inl ⟨by rfl, ?hsA11⟩) (by assumption) ?rsA11
                  case hsA11 => (intro w0 hSw; (try dsimp only at hSw); go_simp; try (with_reducible rfl))
                  simp only [Act.put, List.setIfInBounds_toArray, List.set_cons_zero, List.set_cons_succ]
                  refine wpAnyH_take (i := 12) (oi := { dst := some 98, op := Op.extract (Operand.tmp 86) 1, type := 3, pos := "kindredref6.go:239", after := #[{ on := 10, ground := Ground.data }, { on := 15, ground := Ground.gcOnly Departure.lateStores }], guard := none }) (v := ?vsA12) rfl (by kernel_rfl) (by kernel_rfl) (by kernel_rfl) (fun _ _ _ h => h) (Or.inl ⟨by rfl, ?hsA12⟩) (by assumption) ?rsA12
                  case hsA12 => (intro w0 hSw; (try dsimp only at hSw); go_simp; try (with_reducible rfl))
                  simp only [Act.put, List.setIfInBounds_toArray, List.set_cons_zero, List.set_cons_succ]
                  refine wpAnyH_take (i := 13) (oi := { dst := some 99, op := Op.extract (Operand.tmp 86) 2, type := 4, pos := "kindredref6.go:239", after := #[{ on := 10, ground := Ground.data }, { on := 16, ground := Ground.gcOnly Departure.lateStores }], guard := none }) (v := ?vsA13) rfl (by kernel_rfl) (by kernel_rfl) (by kernel_rfl) (fun _ _ _ h => h) (Or.inl ⟨by rfl, ?hsA13⟩) (by assumption) ?rsA13
                  case hsA13 => (intro w0 hSw; (try dsimp only at hSw); go_simp; try (with_reducible rfl))
                  simp only [Act.put, List.setIfInBounds_toArray, List.set_cons_zero, List.set_cons_succ]
                  have b5 : Below wr.heap.size wr (w4.alloc (.cells #[.int .i64 0, .string ⟨#[]⟩, .int .i64 0, .int .i64 0, .bool false] 38)) := b4.alloc b4.size _
                  clear hHeld
                  refine wpAnyH_ready (rs := [14]) (by kernel_rfl) (by simp) ?_
                  refine AllReadyH.cons rfl (fun K hK => ?_) AllReadyH.nil
                  go_simp
                  go_wp2_with (fail)
                  refine hK.out _ _ ?_ (fun hHeld => ?_)
                  · exact ⟨cell_lat b5 cp2, cell_lat b5 i02⟩
                  clear hK K hHeld b5
                  have b6 : Below wr.heap.size wr (w4.alloc (.cells (enC x).toArray 38)) := b4.alloc b4.size _
                  have hx6 : (w4.alloc (.cells (enC x).toArray 38)).heap[w4.heap.size]? = some (.cells (enC x).toArray 38 (0, 0)) := heap_alloc_last w4 _
                  obtain ⟨W6, hW6⟩ : ∃ W6, W6 = w4.alloc (.cells (enC x).toArray 38) := ⟨_, rfl⟩
                  rw [← hW6] at b6 hx6
                  have hbx : wr.heap.size ≤ w4.heap.size := b4.size
                  refine wpAnyH_ready (rs := [15]) (by kernel_rfl) (by simp) ?_
                  refine AllReadyH.cons rfl (fun K hK => ?_) AllReadyH.nil
                  go_simp
                  go_wp2_with (fail)
                  simp only [enC, e0] at hW6
                  rw [← hW6]
                  clear hW6 b4
                  refine hK.out _ _ ?_ (fun hHeld => ?_)
                  · exact ⟨cell_lat b6 cp2, cell_lat b6 i02⟩
                  clear hK K
                  refine wpAnyH_take (i := 16) (oi := { dst := some 14, op := Op.assign (Operand.tmp 98), type := 3, pos := "kindredref6.go:239", after := #[{ on := 12, ground := Ground.data }, { on := 15, ground := Ground.chain }, { on := 0, ground := Ground.phase }, { on := 1, ground := Ground.phase }, { on := 2, ground := Ground.phase }, { on := 3, ground := Ground.phase }, { on := 4, ground := Ground.phase }, { on := 5, ground := Ground.phase }, { on := 6, ground := Ground.phase }, { on := 7, ground := Ground.phase }, { on := 8, ground := Ground.phase }, { on := 9, ground := Ground.phase }, { on := 10, ground := Ground.phase }, { on := 11, ground := Ground.phase }, { on := 12, ground := Ground.phase }, { on := 13, ground := Ground.textOnly Departure.lateStores }, { on := 14, ground := Ground.phase }, { on := 15, ground := Ground.phase }], guard := none }) (v := ?vsA16) rfl (by kernel_rfl) (by kernel_rfl) (by kernel_rfl) (fun _ _ _ h => h) (Or.inl ⟨by rfl, ?hsA16⟩) (by assumption) ?rsA16
                  case hsA16 => (intro w0 hSw; (try dsimp only at hSw); go_simp; try (with_reducible rfl))
                  simp only [Act.put, List.setIfInBounds_toArray, List.set_cons_zero, List.set_cons_succ]
                  refine wpAnyH_take (i := 17) (oi := { dst := some 15, op := Op.assign (Operand.tmp 99), type := 4, pos := "kindredref6.go:239", after := #[{ on := 13, ground := Ground.data }, { on := 16, ground := Ground.chain }, { on := 0, ground := Ground.phase }, { on := 1, ground := Ground.phase }, { on := 2, ground := Ground.phase }, { on := 3, ground := Ground.phase }, { on := 4, ground := Ground.phase }, { on := 5, ground := Ground.phase }, { on := 6, ground := Ground.phase }, { on := 7, ground := Ground.phase }, { on := 8, ground := Ground.phase }, { on := 9, ground := Ground.phase }, { on := 10, ground := Ground.phase }, { on := 11, ground := Ground.phase }, { on := 12, ground := Ground.phase }, { on := 13, ground := Ground.phase }, { on := 14, ground := Ground.phase }, { on := 15, ground := Ground.phase }, { on := 16, ground := Ground.phase }], guard := none }) (v := ?vsA17) rfl (by kernel_rfl) (by kernel_rfl) (by kernel_rfl) (fun _ _ _ h => h) (Or.inl ⟨by rfl, ?hsA17⟩) (by assumption) ?rsA17
                  case hsA17 => (intro w0 hSw; (try dsimp only at hSw); go_simp; try (with_reducible rfl))
                  simp only [Act.put, List.setIfInBounds_toArray, List.set_cons_zero, List.set_cons_succ]
                  refine wpAnyH_done (by kernel_rfl) ?_ _
                  clear hHeld cp2 i02
                  obtain ⟨d0, d1, d2, d3, d4, -⟩ := en5 hx6
                  obtain ⟨bx, hbxe⟩ : ∃ bx, w4.heap.size = bx := ⟨_, rfl⟩
                  rw [hbxe] at d0 d1 d2 d3 d4 ⊢
                  clear hbxe
                  obtain ⟨v', w7, hr7, ho7, s7, hloc7⟩ := en_app W6 m2 u10 (row_kept (F := fun _ => False) HJ.out.2.2.1 (.below b6) (fun _ _ e => e)) x (by omega)
                  have hlo7 : ∀ k, v'.ownBlock = some k → V.heap.size ≤ k := fun k hk => by
                    rcases hloc7 k hk with h1 | h1
                    · exact HJ.out.2.2.2.1 k h1
                    · have h2 := b6.size
                      have h3 := bj.size
                      omega
                  have b7 : Below V.heap.size V w7 := (bj.trans (b6.mono bj.size)).trans (s7.toBelow (fun k hk e => by have := HJ.out.2.2.2.1 k e; omega) (Nat.le_trans bj.size b6.size))
                  have HS := Hid.mk (And.intro ho7 (And.intro hlo7 b7))
                  rw [hpv] at hr7
                  dsimp only [enV] at hr7
                  clear ho7 hlo7 b7 s7 hloc7 hx6 b6 bwr bj bV hB
                  go_wp2_with (at_builtin; refine wpList_append_eq rfl _ _ _ _ rfl _ _ _ _ rfl rfl hr7 ?_)
                  refine ⟨⟨q2, n3, m2 ++ [x], rfl, hq2.2, Hid.mk ⟨by have := HJ.out.1; omega, by rw [HJ.out.2.1]; exact HX.out, HS.out.1, HS.out.2.1, HS.out.2.2, by rw [List.length_append]; simp only [List.length_cons, List.length_nil]; omega⟩⟩, by simp only [intOf]; omega⟩
                · skip
                  obtain ⟨W3, hW3⟩ : ∃ W3, W3 = (wr.alloc (.cells #[.int .i64 0, .string ⟨#[]⟩, .int .i64 0, .int .i64 0, .bool false] 38)).drew := ⟨_, rfl⟩
                  have b3 : Below wr.heap.size wr W3 := by rw [hW3]; exact ((Below.refl _ wr).alloc (Nat.le_refl _) _).drew
                  have hx3 : W3.heap[wr.heap.size]? = some (.cells (enC e0).toArray 38 (0, 0)) := by rw [hW3]; exact heap_alloc_last wr _
                  go_simp
                  go_wp2_with (fail)
                  rw [← hW3]
                  clear hW3
                  refine hK.out _ _ ?_ (fun hHeld => ?_)
                  · exact ⟨cell_lat b3 cp2, cell_lat b3 i02⟩
                  clear hK K hHeld
                  refine wpAnyH_ready (rs := [9]) (by kernel_rfl) (by simp) ?_
                  refine AllReadyH.cons rfl (fun K hK => ?_) AllReadyH.nil
                  go_simp
                  go_at_call 43
                  refine (hen _).mono ?_
                  clear hen
                  rintro rr w4 ⟨rfl, b4⟩
                  have hx4 := (b4.block _ (Array.getElem?_eq_some_iff.1 hx3).1).trans hx3
                  have b4 : Below wr.heap.size wr w4 := chain b3 b4 (Nat.le_refl _)
                  refine hK.out _ _ ?_ (fun hHeld => ?_)
                  · exact ⟨cell_lat b4 cp2, cell_lat b4 i02⟩
                  clear hK K b3 hx3
                  refine wpAnyH_take (i := 10) (oi := { dst := some 86, op := Op.move (Operand.tmp 96), type := 55, pos := "kindredref6.go:239", after := #[{ on := 9, ground := Ground.data }], guard := none }) (v := ?vsB10) rfl (by kernel_rfl) (by kernel_rfl) (by kernel_rfl) (fun _ _ _ h => h) (Or.inl ⟨by rfl, ?hsB10⟩) (by assumption) ?rsB10
                  case hsB10 => (intro w0 hSw; (try dsimp only at hSw); go_simp; try (with_reducible rfl))
                  simp only [Act.put, List.setIfInBounds_toArray, List.set_cons_zero, List.set_cons_succ]
                  refine wpAnyH_take (i := 11) (oi := { dst := some 97, op := Op.extract (Operand.tmp 86) 0, type := 38, pos := "kindredref6.go:239", after := #[{ on := 10, ground := Ground.data }], guard := none }) (v := ?vsB11) rfl (by kernel_rfl) (by kernel_rfl) (by kernel_rfl) (fun _ _ _ h => h) (Or.inl ⟨by rfl, ?hsB11⟩) (by assumption) ?rsB11
                  case hsB11 => (intro w0 hSw; (try dsimp only at hSw); go_simp; try (with_reducible rfl))
                  simp only [Act.put, List.setIfInBounds_toArray, List.set_cons_zero, List.set_cons_succ]
                  refine wpAnyH_take (i := 12) (oi := { dst := some 98, op := Op.extract (Operand.tmp 86) 1, type := 3, pos := "kindredref6.go:239", after := #[{ on := 10, ground := Ground.data }, { on := 15, ground := Ground.gcOnly Departure.lateStores }], guard := none }) (v := ?vsB12) rfl (by kernel_rfl) (by kernel_rfl) (by kernel_rfl) (fun _ _ _ h => h) (Or.inl ⟨by rfl, ?hsB12⟩) (by assumption) ?rsB12
                  case hsB12 => (intro w0 hSw; (try dsimp only at hSw); go_simp; try (with_reducible rfl))
                  simp only [Act.put, List.setIfInBounds_toArray, List.set_cons_zero, List.set_cons_succ]
                  refine wpAnyH_take (i := 13) (oi := { dst := some 99, op := Op.extract (Operand.tmp 86) 2, type := 4, pos := "kindredref6.go:239", after := #[{ on := 10, ground := Ground.data }, { on := 16, ground := Ground.gcOnly Departure.lateStores }], guard := none }) (v := ?vsB13) rfl (by kernel_rfl) (by kernel_rfl) (by kernel_rfl) (fun _ _ _ h => h) (Or.inl ⟨by rfl, ?hsB13⟩) (by assumption) ?rsB13
                  case hsB13 => (intro w0 hSw; (try dsimp only at hSw); go_simp; try (with_reducible rfl))
                  simp only [Act.put, List.setIfInBounds_toArray, List.set_cons_zero, List.set_cons_succ]
                  clear hHeld
                  obtain ⟨g0, g1, g2, g3, g4, z0, z1, z2, z3, z4⟩ := en5 hx4
                  simp only [e0] at g0 g1 g2 g3 g4
                  have hx6 := set5_at (e := x) hx4
                  have b6 := b4.trans ((set5_stay w4 wr.heap.size x).toBelow (B := wr.heap.size) (fun k hk e => by omega) b4.size)
                  obtain ⟨W6, hW6⟩ : ∃ W6, set5 w4 wr.heap.size x = W6 := ⟨_, rfl⟩
                  rw [hW6] at b6 hx6
                  have hbx : wr.heap.size ≤ wr.heap.size := Nat.le_refl _
                  refine wpAnyH_ready (rs := [15]) (by kernel_rfl) (by simp) ?_
                  refine AllReadyH.cons rfl (fun K hK => ?_) AllReadyH.nil
                  go_simp
                  go_wp2_with (fail)
                  simp only [set5, e0] at hW6
                  rw [hW6]
                  clear hW6 b4 hx4 g0 g1 g2 g3 g4 z0 z1 z2 z3 z4
                  refine hK.out _ _ ?_ (fun hHeld => ?_)
                  · exact ⟨cell_lat b6 cp2, cell_lat b6 i02⟩
                  clear hK K
                  refine wpAnyH_take (i := 16) (oi := { dst := some 14, op := Op.assign (Operand.tmp 98), type := 3, pos := "kindredref6.go:239", after := #[{ on := 12, ground := Ground.data }, { on := 15, ground := Ground.chain }, { on := 0, ground := Ground.phase }, { on := 1, ground := Ground.phase }, { on := 2, ground := Ground.phase }, { on := 3, ground := Ground.phase }, { on := 4, ground := Ground.phase }, { on := 5, ground := Ground.phase }, { on := 6, ground := Ground.phase }, { on := 7, ground := Ground.phase }, { on := 8, ground := Ground.phase }, { on := 9, ground := Ground.phase }, { on := 10, ground := Ground.phase }, { on := 11, ground := Ground.phase }, { on := 12, ground := Ground.phase }, { on := 13, ground := Ground.textOnly Departure.lateStores }, { on := 14, ground := Ground.phase }, { on := 15, ground := Ground.phase }], guard := none }) (v := ?vsB16) rfl (by kernel_rfl) (by kernel_rfl) (by kernel_rfl) (fun _ _ _ h => h) (Or.inl ⟨by rfl, ?hsB16⟩) (by assumption) ?rsB16
                  case hsB16 => (intro w0 hSw; (try dsimp only at hSw); go_simp; try (with_reducible rfl))
                  simp only [Act.put, List.setIfInBounds_toArray, List.set_cons_zero, List.set_cons_succ]
                  refine wpAnyH_take (i := 17) (oi := { dst := some 15, op := Op.assign (Operand.tmp 99), type := 4, pos := "kindredref6.go:239", after := #[{ on := 13, ground := Ground.data }, { on := 16, ground := Ground.chain }, { on := 0, ground := Ground.phase }, { on := 1, ground := Ground.phase }, { on := 2, ground := Ground.phase }, { on := 3, ground := Ground.phase }, { on := 4, ground := Ground.phase }, { on := 5, ground := Ground.phase }, { on := 6, ground := Ground.phase }, { on := 7, ground := Ground.phase }, { on := 8, ground := Ground.phase }, { on := 9, ground := Ground.phase }, { on := 10, ground := Ground.phase }, { on := 11, ground := Ground.phase }, { on := 12, ground := Ground.phase }, { on := 13, ground := Ground.phase }, { on := 14, ground := Ground.phase }, { on := 15, ground := Ground.phase }, { on := 16, ground := Ground.phase }], guard := none }) (v := ?vsB17) rfl (by kernel_rfl) (by kernel_rfl) (by kernel_rfl) (fun _ _ _ h => h) (Or.inl ⟨by rfl, ?hsB17⟩) (by assumption) ?rsB17
                  case hsB17 => (intro w0 hSw; (try dsimp only at hSw); go_simp; try (with_reducible rfl))
                  simp only [Act.put, List.setIfInBounds_toArray, List.set_cons_zero, List.set_cons_succ]
                  refine wpAnyH_done (by kernel_rfl) ?_ _
                  clear hHeld cp2 i02
                  obtain ⟨d0, d1, d2, d3, d4, -⟩ := en5 hx6
                  obtain ⟨bx, hbxe⟩ : ∃ bx, wr.heap.size = bx := ⟨_, rfl⟩
                  rw [hbxe] at d0 d1 d2 d3 d4 ⊢
                  clear hbxe
                  obtain ⟨v', w7, hr7, ho7, s7, hloc7⟩ := en_app W6 m2 u10 (row_kept (F := fun _ => False) HJ.out.2.2.1 (.below b6) (fun _ _ e => e)) x (by omega)
                  have hlo7 : ∀ k, v'.ownBlock = some k → V.heap.size ≤ k := fun k hk => by
                    rcases hloc7 k hk with h1 | h1
                    · exact HJ.out.2.2.2.1 k h1
                    · have h2 := b6.size
                      have h3 := bj.size
                      omega
                  have b7 : Below V.heap.size V w7 := (bj.trans (b6.mono bj.size)).trans (s7.toBelow (fun k hk e => by have := HJ.out.2.2.2.1 k e; omega) (Nat.le_trans bj.size b6.size))
                  have HS := Hid.mk (And.intro ho7 (And.intro hlo7 b7))
                  rw [hpv] at hr7
                  dsimp only [enV] at hr7
                  clear ho7 hlo7 b7 s7 hloc7 hx6 b6 bwr bj bV hB
                  go_wp2_with (at_builtin; refine wpList_append_eq rfl _ _ _ _ rfl _ _ _ _ rfl rfl hr7 ?_)
                  refine ⟨⟨q2, n3, m2 ++ [x], rfl, hq2.2, Hid.mk ⟨by have := HJ.out.1; omega, by rw [HJ.out.2.1]; exact HX.out, HS.out.1, HS.out.2.1, HS.out.2.2, by rw [List.length_append]; simp only [List.length_cons, List.length_nil]; omega⟩⟩, by simp only [intOf]; omega⟩
            · have hli : ¬ (a2 : Int) < (PA.size : Int) := by omega
              have HX := Hid.mk (Lfi_end CB PA n3 a2 RS m2 (by omega))
              have hl9 : m2.length ≤ BA + PA.size := by omega
              have HL9 := Hid.mk (And.intro hl9 hlt)
              clear hB bwr bj bV hl9 hlt
              go_wp2
              have hlt := HL9.out.2
              have hl9 := HL9.out.1
              clear HL9
              refine ⟨⟨i + 1, m2, by omega, by omega, ival (by omega), Hid.mk ⟨by rw [HJ.out.2.1, HX.out, HD5.out.1], HJ.out.2.2.1, HJ.out.2.2.2.1, HJ.out.2.2.2.2.1, by rw [HD5.out.2.2]; exact hl9⟩⟩, by simp only [intOf]; omega⟩
        · have HE := Hid.mk (show BS = some m by rw [HI.out.1, hdr, Lft_other CB f _ m h5])
          have h5i : ¬ ((f.1 : Int) = 5) := by omega
          have h5b : ((f.1 : Int) == 5) = false := beq_false_of_ne h5i
          clear hdr ck cp bV hk5
          have HF := Hid.mk (And.intro (set6_at (h := HD) hBr) (And.intro (bwr.trans ((set6_stay wr w.heap.size HD).toBelow (B := w.heap.size) (fun k hk e => by omega) bwr.size)) (row_kept HI.out.2.1 (set6_stay wr w.heap.size HD) (fun k hk e => by have h1 := HI.out.2.2.1 k hk; have h2 := (Array.getElem?_eq_some_iff.1 HK.out.2.2.2.1).1; omega))))
          obtain ⟨⟨g0, g1, g2, g3, g4, g5⟩, z0, z1, z2, z3, z4, z5⟩ := hd6 hBr
          obtain ⟨⟨e0, e1, e2, e3, e4, e5⟩, -⟩ := hd6 hHr
          clear hBr hHr bwr i0 i1 i2 i3 i4 i5
          go_wp2
          obtain ⟨w9, hw9⟩ : ∃ w9, set6 wr w.heap.size HD = w9 := ⟨_, rfl⟩
          rw [hw9] at HF
          obtain ⟨⟨k0, k1, k2, k3, k4, k5⟩, -⟩ := hd6 HF.out.1
          simp only [set6] at hw9
          rw [hw9]
          refine bodyPost_ret (v := .tuple #[.agg (hdC HD).toArray, .slice oa m.length oc, .bool true]) (by simp [results, Tryz.results25, go_sem, hdC, k0, k1, k2, k3, k4, k5]; try rfl) rfl ?_
          refine ⟨HF.out.2.1, .inr ⟨HD, m, _, by rw [HK.out.2.2.2.2.2.2.2, HE.out]; rfl, rfl, by rw [← HV.out]; exact HF.out.2.2, by rw [← HV.out]; exact fun k hk => Nat.le_trans HK.out.2.2.2.2.2.1.size (HI.out.2.2.1 k hk), hmi⟩⟩
      · have hie : i = r.length + 1 := by omega
        have HE := Hid.mk (show BS = some m by
          rw [HI.out.1, List.drop_of_length_le (by simp; omega), Lft_nil])
        have j1 : ¬ ((i : Int) < (r.length : Int) + 1) := by omega
        clear hie bV
        have HF := Hid.mk (And.intro (set6_at (h := HD) hBr) (And.intro (bwr.trans ((set6_stay wr w.heap.size HD).toBelow (B := w.heap.size) (fun k hk e => by omega) bwr.size)) (row_kept HI.out.2.1 (set6_stay wr w.heap.size HD) (fun k hk e => by have h1 := HI.out.2.2.1 k hk; have h2 := (Array.getElem?_eq_some_iff.1 HK.out.2.2.2.1).1; omega))))
        obtain ⟨⟨g0, g1, g2, g3, g4, g5⟩, z0, z1, z2, z3, z4, z5⟩ := hd6 hBr
        obtain ⟨⟨e0, e1, e2, e3, e4, e5⟩, -⟩ := hd6 hHr
        clear hBr hHr bwr i0 i1 i2 i3 i4 i5
        go_wp2
        obtain ⟨w9, hw9⟩ : ∃ w9, set6 wr w.heap.size HD = w9 := ⟨_, rfl⟩
        rw [hw9] at HF
        obtain ⟨⟨k0, k1, k2, k3, k4, k5⟩, -⟩ := hd6 HF.out.1
        simp only [set6] at hw9
        rw [hw9]
        refine bodyPost_ret (v := .tuple #[.agg (hdC HD).toArray, .slice oa m.length oc, .bool true]) (by simp [results, Tryz.results25, go_sem, hdC, k0, k1, k2, k3, k4, k5]; try rfl) rfl ?_
        refine ⟨HF.out.2.1, .inr ⟨HD, m, _, by rw [HK.out.2.2.2.2.2.2.2, HE.out]; rfl, rfl, by rw [← HV.out]; exact HF.out.2.2, by rw [← HV.out]; exact fun k hk => Nat.le_trans HK.out.2.2.2.2.2.1.size (HI.out.2.2.1 k hk), hmi⟩⟩
  · have hW2 : isW (a : Int) = false := by simpa using hW
    have HE := Hid.mk (show rdD ((4, p0, q0) :: r) = none by rw [hR false hW2]; rfl)
    rw [hW2] at hw
    clear hc hsum hkb hH hBS hR hW hW2 hHD
    have HF := Hid.mk (And.intro (set6_at (h := h0) hB) (bV.trans ((set6_stay V w.heap.size h0).toBelow (B := w.heap.size) (fun k hk e => by omega) bV.size)))
    obtain ⟨⟨g0, g1, g2, g3, g4, g5⟩, z0, z1, z2, z3, z4, z5⟩ := hd6 hB
    simp only [h0] at g0 g1 g2 g3 g4 g5
    generalize hQ : bodyPost Tryz.prog Tryz.f25 (RdO ((4, p0, q0) :: r) w) = Q
    simp only [dropC, sndC, Tryz.f25, Option.getD_some]
    subst hQ
    go_wp2_with (go_at_call 42; refine (hw _).mono ?_; rintro e w' ⟨rfl, hx⟩; replace hx := hx.symm; subst hx; clear hw)
    obtain ⟨w9, hw9⟩ : ∃ w9, set6 V w.heap.size h0 = w9 := ⟨_, rfl⟩
    rw [hw9] at HF
    obtain ⟨⟨k0, k1, k2, k3, k4, k5⟩, -⟩ := hd6 HF.out.1
    simp only [set6, h0] at hw9
    rw [hw9]
    refine bodyPost_ret (v := rdN) (by simp [results, Tryz.results25, go_sem, rdN, hdC, k0, k1, k2, k3, k4, k5]; try rfl) rfl ?_
    exact ⟨HF.out.2, .inl ⟨HE.out, rfl⟩⟩
end Go.Proofs.YtjdpolhjbkpnlaaGreatDoor.Dx
