/-
  DERIVED. BFromF, BFndM, BX5, as one text.
-/
import Derived.Test.YtjdpolhjbkpnlaaGreatDoorLzAR
set_option linter.unusedVariables false
set_option linter.unusedSimpArgs false
namespace Go.Proofs.YtjdpolhjbkpnlaaGreatDoor
open Go.RowKit Go.Shelf Go.Proofs.SealMath
attribute [local go_sem] Oper.semAt_some
/-- The entries that do not stand ahead of a place. -/
def geV (p : En) (l : List En) : List En := l.filter fun e => decide (¬ cpE e p < 0)
/-- How blocks are gone through from a place on: to the end, or until there are as many as are asked for. -/
def FrmO (cb : Nat) (p : En) (m : Int) (bl : List (List UInt8)) (t : Nat) (L : List En) : Prop :=
  (t = bl.length ∧ L = geV p (alA cb bl) ∧ (L.length : Int) < m) ∨
  ∃ pre y q rest, pre ++ [y] <+: bl ∧ t = pre.length + 1 ∧ ents ⟨y.toArray⟩ 0 cb = q ++ rest ∧ L = geV p (alA cb pre ++ q) ∧ (L.length : Int) = m ∧ ((geV p (alA cb pre)).length : Int) < m
theorem geV_app (p : En) (a b : List En) : geV p (a ++ b) = geV p a ++ geV p b := by unfold geV; rw [List.filter_append]
theorem five_new {V : World} (W : World) (o1 o2 o3 o4 o5 : Obj) (h : V = ((((W.alloc o1).alloc o2).alloc o3).alloc o4).alloc o5) : Below W.heap.size W V ∧ V.heap[W.heap.size]? = some o1 ∧ V.heap[W.heap.size + 1]? = some o2 ∧ V.heap[W.heap.size + 1 + 1]? = some o3 ∧ V.heap[W.heap.size + 1 + 1 + 1]? = some o4 ∧ V.heap[W.heap.size + 1 + 1 + 1 + 1]? = some o5 ∧ V.heap.size = W.heap.size + 5 := by
  obtain ⟨b1, h1, h2, h3, h4, s1⟩ := four_new W o1 o2 o3 o4 rfl
  have b2 : Below ((((W.alloc o1).alloc o2).alloc o3).alloc o4).heap.size ((((W.alloc o1).alloc o2).alloc o3).alloc o4) V := by rw [h]; exact (Below.refl _ _).alloc (Nat.le_refl _) _
  have h5 := heap_alloc_last ((((W.alloc o1).alloc o2).alloc o3).alloc o4) o5
  rw [← h, s1] at h5
  have hs : V.heap.size = W.heap.size + 5 := by rw [h]; simp
  exact ⟨chain b1 b2 (Nat.le_refl _), (b2.block _ (by omega)).trans h1, (b2.block _ (by omega)).trans h2, (b2.block _ (by omega)).trans h3, (b2.block _ (by omega)).trans h4, h5, hs⟩
set_option maxHeartbeats 8000000 in
set_option maxRecDepth 100000 in
theorem from_any (fb : Nat) (hd : Hd) (bl : List (List UInt8)) (ix : List En) (bv iv : Value) (rd : Nat) (pl : En) (m : Int) (w : World) (H : FA w fb hd bl ix bv iv rd) (hw : 64 ≤ hd.w ∧ hd.w ≤ 1024) (hs : (bl.map (·.length + 14)).sum ≤ 1099511627776) (hl : ix.length = bl.length) (hu : Up ix) (hrd : rd + bl.length ≤ 4611686018427387904) (hm : 1 ≤ m) :
    Calls Tryz.prog 16 #[Pt fb, .agg (enV pl), .int .i64 m] w fun r w' => ∃ v t L, r = .returned v ∧ FrmO (cbH hd) pl m (bl.drop (rF ix pl - 1)) t L ∧ w'.ownsRow 0 38 5 v L.length (L.flatMap enC) ∧ (∀ k, v.ownBlock = some k → w.heap.size ≤ k) ∧ FA w' fb hd bl ix bv iv (rd + t) ∧ Stay (fun k => k = fb) w w' := by
  have hbl := len_sum bl
  obtain ⟨CB, hCB⟩ : ∃ CB, CB = cbH hd := ⟨_, rfl⟩
  have hcb := fun r W hbx => codeBytes_any fb hd bv iv r W hbx hw
  rw [← hCB] at hcb ⊢
  have hCB2 : CB ≤ 128 := by rw [hCB]; unfold cbH; omega
  clear hCB
  have hfz := H.lt
  have hm1 : decide (m < 1) = false := decide_eq_false (by omega)
  refine (callsIn_wide (n := 9)).1 ?_
  refine callsIn_of_wp_marks Tryz.func16 rfl trivial ?_ rfl
  simp only [Tryz.ntmps16, List.size_toArray, List.length_cons, List.length_nil, Nat.reduceAdd, Nat.reduceSub, Array.replicate_succ, Array.replicate_zero, List.push_toArray, List.append_toArray, List.nil_append, List.cons_append]
  gi_wp2_with fail
  obtain ⟨U0, hU0⟩ : ∃ U0, U0 = ((((w.alloc (.cells #[Pt fb] 23)).alloc (.cells (enV pl) 38)).alloc (.cells #[.int .i64 m] 3)).alloc (.cells #[.slice none 0 0] 34)).alloc (.cells #[.slice none 0 0] 34) := ⟨_, rfl⟩
  rw [← hU0]
  have hbf := blocksFrom_any fb pl U0
  simp only [enV] at hbf
  refine ⟨trivial, (callsIn_wide.2 hbf).mono ?_⟩
  clear hbf
  rintro r U ⟨rfl, hU⟩
  obtain ⟨b0, f1, f5, f2, f3, f4, fs⟩ := five_new w _ _ _ _ _ hU0
  obtain ⟨b1, g1, g2, gs⟩ := two_new U0 _ _ hU
  have bU := chain b0 b1 (Nat.le_refl _)
  have HU : FA U fb hd bl ix bv iv rd := H.below bU
  have u1 : U.heap[w.heap.size]? = _ := (b1.block _ (by omega)).trans f1
  have u5 : U.heap[w.heap.size + 1]? = _ := (b1.block _ (by omega)).trans f5
  have u2 : U.heap[w.heap.size + 1 + 1]? = _ := (b1.block _ (by omega)).trans f2
  have u3 : U.heap[w.heap.size + 1 + 1 + 1]? = _ := (b1.block _ (by omega)).trans f3
  have u4 : U.heap[w.heap.size + 1 + 1 + 1 + 1]? = _ := (b1.block _ (by omega)).trans f4
  obtain ⟨q0, hq0⟩ : ∃ q0, q0 = rF ix pl - 1 := ⟨_, rfl⟩
  have hseq := blocks_st fb hd bl ix bv iv rd U0.heap.size (U0.heap.size + 1) 8 pl U HU g1 g2 (by omega) hu hl hrd
  rw [← hq0] at hseq
  have HQ := Hid.mk hq0
  have FS := Hid.mk (And.intro fs gs)
  clear hU0 hU f1 f2 f3 f4 f5 hq0 fs gs
  gi_wp2_with fail
  obtain ⟨fs, gs⟩ := FS.out
  have o0 : OI U fb hd bv iv rd (w.heap.size + 1 + 1 + 1 + 1) (w.heap.size + 1 + 1 + 1) 0 (geV pl (alA CB [])) (.slice none 0 0) (.slice none 0 0) U :=
    { num := by refine ⟨?_, ?_, ?_, HU.lt, ?_, ?_⟩ <;> omega, box := u4, res := u3, row := ⟨rfl, .inl ⟨rfl, rfl⟩⟩, file := HU.box, stay := .refl _ _, loc := fun k hk => by cases hk }
  clear fs gs
  refine wpIn_rangeFunc_sS rfl (by omega) (gf := 54) (lb := #[Pt U0.heap.size, Pt (U0.heap.size + 1)]) rfl trivial (enters_of Tryz.func54 (by kernel_rfl) rfl) hseq (fun _ _ _ _ h => h.others) (fun {_ _ _ _} => KpB.trans) (fun s A l o o' _ h ho _ => KpB.put none A l o o' h ho) (fun _ => rfl)
    (fun p s A => (∃ lv rv, OI U fb hd bv iv rd (w.heap.size + 1 + 1 + 1 + 1) (w.heap.size + 1 + 1 + 1) s (geV pl (alA CB p)) lv rv A) ∧ ((geV pl (alA CB p)).length : Int) < m)
    (fun c p s A => c = .ret ∧ ∃ lv pre y q rest, OI U fb hd bv iv rd (w.heap.size + 1 + 1 + 1 + 1) (w.heap.size + 1 + 1 + 1) s (geV pl (alA CB pre ++ q)) lv lv A ∧ p = pre ++ [y] ∧ ents ⟨y.toArray⟩ 0 CB = q ++ rest ∧ ((geV pl (alA CB pre ++ q)).length : Int) = m ∧ ((geV pl (alA CB pre)).length : Int) < m)
    (fun p s A s' B h ht => by obtain ⟨⟨lv, rv, o⟩, h2⟩ := h; exact ⟨⟨lv, rv, o.tr ht⟩, h2⟩)
    (fun c p s A s' B h ht => by obtain ⟨h1, lv, pre, y, q, rest, o, h2⟩ := h; exact ⟨h1, lv, pre, y, q, rest, o.tr ht, h2⟩)
    (fun z A B row h hg hr => by obtain ⟨⟨lv, rv, o⟩, h2⟩ := h; exact ⟨⟨lv, rv, o.grown hg hr⟩, h2⟩)
    (fun c z A B row h hg hr => by obtain ⟨h1, lv, pre, y, q, rest, o, h2⟩ := h; exact ⟨h1, lv, pre, y, q, rest, o.grown hg hr, h2⟩)
    ⟨⟨_, _, o0⟩, by show (0 : Int) < m; omega⟩
    (fun y a' A => a' = { tmps := #[Pt fb, .agg (enV pl), .int .i64 m, .pointer (some ⟨w.heap.size, 0, none⟩), .pointer (some ⟨w.heap.size + 1, 0, none⟩), .pointer (some ⟨w.heap.size + 1 + 1, 0, none⟩), .pointer (some ⟨w.heap.size + 1 + 1 + 1, 0, none⟩), .pointer (some ⟨w.heap.size + 1 + 1 + 1 + 1, 0, none⟩), sv y, undef, Pt fb, .bool false, .bool false, .int .i64 m, .bool false, .bool false, Pt fb, .agg #[.int .i64 pl.v, .string pl.c, .int .i64 pl.i, .int .i64 pl.s, .bool pl.d], .func (.func 54) #[] #[Pt U0.heap.size, Pt (U0.heap.size + 1)], sv y, undef, undef, undef, undef, undef, undef, undef, undef, undef, undef, undef, undef, undef, undef, undef, undef, undef, undef, undef], defers := [] })
    (fun x a' s A B row h hg hr => h) ?assign ?body ?done ?stop
  case assign =>
    intro lp p y s A K hI hx hK
    gi_wp2
    exact hK _ _ (KeepsFrom.refl _ _) ⟨Nat.le_refl _, fun _ _ _ _ _ h => h⟩ hI rfl
  case body =>
    rintro lp p y s a' A hlp ⟨rc, hrc⟩ ⟨⟨lv, rv, o⟩, hle⟩ rfl hy
    obtain ⟨X, hX⟩ : ∃ X : ByteArray, X = ⟨y.toArray⟩ := ⟨_, rfl⟩
    have hyX : sv y = .string X := by rw [hX]
    have HX := Hid.mk hX
    clear hX
    have hlow : ∀ k, k < U.heap.size → k ≠ w.heap.size + 1 + 1 + 1 + 1 → k ≠ w.heap.size + 1 + 1 + 1 → k ≠ fb → A.heap[k]? = U.heap[k]? := fun k h1 h2 h3 h4 => o.stay.block k h1 (fun e => by rcases e with e | e | e <;> omega)
    have fs := FS.out.1
    have gs := FS.out.2
    have a1 : A.heap[w.heap.size]? = _ := (hlow _ (by omega) (by omega) (by omega) (by omega)).trans u1
    have a5 : A.heap[w.heap.size + 1]? = _ := (hlow _ (by omega) (by omega) (by omega) (by omega)).trans u5
    have a2 : A.heap[w.heap.size + 1 + 1]? = _ := (hlow _ (by omega) (by omega) (by omega) (by omega)).trans u2
    have c1 := boxc (A := A) a1 rfl
    have cb1 := hcb (rd + s) A o.file
    have HY := Hid.mk (And.intro hy hrc)
    rw [hyX]
    clear fs gs hrc hy hyX hlow
    gi_wp2_with fail
    refine ⟨trivial, (CallsIn.inRound lp (callsIn_wide.2 cb1)).mono ?_⟩
    rintro r A1 ⟨rfl, rfl⟩
    gi_wp2_with fail
    refine ⟨trivial, (CallsIn.inRound lp (callsIn_wide.2 (entries_any X CB A1))).mono ?_⟩
    rintro r A2 ⟨rfl, hA2⟩
    obtain ⟨b2, e1, e2, es⟩ := two_new A1 _ _ hA2
    have v5 : A2.heap[w.heap.size + 1]? = _ := (b2.block _ (Array.getElem?_eq_some_iff.1 a5).1).trans a5
    have v2 : A2.heap[w.heap.size + 1 + 1]? = _ := (b2.block _ (Array.getElem?_eq_some_iff.1 a2).1).trans a2
    have hlr : A2.heap[lp]? = some (.loop rc) := (b2.block _ (Array.getElem?_eq_some_iff.1 HY.out.2).1).trans HY.out.2
    have hXl : X.size < 1152921504606846976 := by
      have h1 : y ∈ bl := List.mem_of_mem_drop (HY.out.1.1.subset (by simp))
      obtain ⟨i, hi, hyi⟩ := List.getElem_of_mem h1
      have h2 : bl[i].length + 14 ≤ (bl.map (·.length + 14)).sum := mem_sum bl i hi
      rw [HX.out, ba_len]; rw [hyi] at h2; omega
    have hseq2 := entries_st X CB A1.heap.size (A1.heap.size + 1) 6 (fun k => k = A1.heap.size ∨ k = A1.heap.size + 1) A2 e1 e2 ⟨.inl rfl, .inr rfl⟩ (fun k hk => by
      rcases hk with rfl | rfl
      · exact ⟨_, _, _, e1⟩
      · exact ⟨_, _, _, e2⟩) hXl hCB2
    have hBo : A2.heap[w.heap.size + 1 + 1 + 1 + 1]? = _ := (b2.block _ (Array.getElem?_eq_some_iff.1 o.box).1).trans o.box
    have hBr : A2.heap[w.heap.size + 1 + 1 + 1]? = _ := (b2.block _ (Array.getElem?_eq_some_iff.1 o.res).1).trans o.res
    have a0 : AI A2 (w.heap.size + 1 + 1 + 1 + 1) lv (geV pl (alA CB p) ++ geV pl []) lv none A2 :=
      { lt := (Array.getElem?_eq_some_iff.1 hBo).1, box := hBo, row := by rw [show geV pl [] = [] from rfl, List.append_nil]; exact row_kept (F := fun _ => False) o.row (.below b2) (fun _ _ e => e), stay := .refl _ _, loc := fun k hk => .inl hk, own := fun k hk => by cases hk }
    have ES := Hid.mk es
    clear hA2 es cb1 c1 a1 a2 a5
    gi_wp2_with fail
    refine wpIn_rangeFunc_stN (l₀ := lp) rfl hlr (by omega) (gf := 53) (lb := #[Pt A1.heap.size, Pt (A1.heap.size + 1)]) rfl trivial (enters_of Tryz.func53 (by kernel_rfl) rfl) hseq2 (fun _ _ _ _ h => h.others) KpB.trans (fun s A l o o' _ h ho _ => KpB.put s A l o o' h ho) (fun _ => rfl)
      (fun p2 s2 B => (∃ lv', AI A2 (w.heap.size + 1 + 1 + 1 + 1) lv (geV pl (alA CB p) ++ geV pl p2) lv' s2 B) ∧ ((geV pl (alA CB p) ++ geV pl p2).length : Int) < m)
      (fun c p2 s2 B => c = .ret ∧ ∃ lv', AX A2 (w.heap.size + 1 + 1 + 1 + 1) (w.heap.size + 1 + 1 + 1) lv (geV pl (alA CB p) ++ geV pl p2) lv' s2 B ∧ p2 <+: ents X 0 CB ∧ ((geV pl (alA CB p) ++ geV pl p2).length : Int) = m)
      (fun p s A s' B h ht => by obtain ⟨⟨lv', hA⟩, h2⟩ := h; exact ⟨⟨lv', hA.tr ht⟩, h2⟩)
      (fun c p s A s' B h ht => by obtain ⟨h1, lv', hA, h2⟩ := h; exact ⟨h1, lv', hA.tr ht, h2⟩)
      (fun z A B row h hg hr => by obtain ⟨⟨lv', hA⟩, h2⟩ := h; exact ⟨⟨lv', hA.grown hg hr⟩, h2⟩)
      (fun c z A B row h hg hr => by obtain ⟨h1, lv', hA, h2⟩ := h; exact ⟨h1, lv', hA.grown hg hr, h2⟩)
      ⟨⟨lv, a0⟩, by rw [show geV pl [] = [] from rfl, List.append_nil]; exact hle⟩
      (fun e a' B => ∃ Bx, A2.heap.size ≤ Bx ∧ B.heap[Bx]? = some (.cells (enV e) 38 (0, 0)) ∧ a' = { tmps := #[Pt fb, .agg (enV pl), .int .i64 m, .pointer (some ⟨w.heap.size, 0, none⟩), .pointer (some ⟨w.heap.size + 1, 0, none⟩), .pointer (some ⟨w.heap.size + 1 + 1, 0, none⟩), .pointer (some ⟨w.heap.size + 1 + 1 + 1, 0, none⟩), .pointer (some ⟨w.heap.size + 1 + 1 + 1 + 1, 0, none⟩), .string X, Pt Bx, Pt fb, .bool false, .bool false, .int .i64 m, .bool false, .bool false, Pt fb, .agg #[.int .i64 pl.v, .string pl.c, .int .i64 pl.i, .int .i64 pl.s, .bool pl.d], .func (.func 54) #[] #[Pt U0.heap.size, Pt (U0.heap.size + 1)], .string X, .string X, Pt fb, .int .i64 CB, .func (.func 53) #[] #[Pt A1.heap.size, Pt (A1.heap.size + 1)], .agg (enV e), undef, undef, undef, undef, undef, undef, undef, undef, undef, undef, undef, undef, undef, undef], defers := [] })
      (fun x a' s A B row h hg hr => by
        obtain ⟨Bx, h1, h2, h3⟩ := h
        refine ⟨Bx, h1, (hg.block Bx (Array.getElem?_eq_some_iff.1 h2).1 (fun e => ?_)).trans h2, h3⟩
        obtain ⟨-, o, ho, hc⟩ := hr Bx e.symm
        rw [h2] at ho; cases ho; cases hc) ?iassign ?ibody ?idone ?istop
    case iassign =>
      rintro lq p2 e s2 B K ⟨⟨lv', hA⟩, h2⟩ hx hK
      simp only [encE]
      gi_wp2
      have bA : Below B.heap.size B (B.alloc (.cells (enV e) 38)) := (Below.refl _ B).alloc (Nat.le_refl _) _
      exact hK _ _ ((KeepsOthers.alloc _ _).from _) ⟨bA.size, fun k c t m _ h => (bA.block k (Array.getElem?_eq_some_iff.1 h).1).trans h⟩ ⟨⟨lv', hA.below bA⟩, h2⟩ ⟨B.heap.size, hA.stay.size, heap_alloc_last B _, rfl⟩
    case ibody =>
      rintro lq p2 e s2 a' B hlq ⟨rc2, hrc2⟩ ⟨⟨lv', hA⟩, hle2⟩ ⟨Bx, hBu, hBx, rfl⟩ hx
      have fs := FS.out.1
      have gs := FS.out.2
      have hus := o.stay.size
      have hlowB : ∀ k, k < U.heap.size → k ≠ w.heap.size + 1 + 1 + 1 + 1 → B.heap[k]? = A2.heap[k]? := fun k h1 h2 => hA.stay.block k (by have := b2.size; omega) (fun e => by
        rcases e with e | e
        · exact h2 e
        · have := o.loc _ e; omega)
      have y5 : B.heap[w.heap.size + 1]? = _ := (hlowB _ (by omega) (by omega)).trans v5
      have y2 : B.heap[w.heap.size + 1 + 1]? = _ := (hlowB _ (by omega) (by omega)).trans v2
      have y3 : B.heap[w.heap.size + 1 + 1 + 1]? = _ := (hlowB _ (by omega) (by omega)).trans hBr
      have hBrU : w.heap.size + 1 + 1 + 1 < A2.heap.size := (Array.getElem?_eq_some_iff.1 hBr).1
      have hA1s : U.heap.size ≤ A1.heap.size := hus
      have kK : ∀ k, (k = A1.heap.size ∨ k = A1.heap.size + 1) → k ≠ w.heap.size + 1 + 1 + 1 + 1 ∧ k ≠ w.heap.size + 1 + 1 + 1 ∧ lv'.ownBlock ≠ some k := fun k hk => by
        refine ⟨by omega, by omega, fun e => ?_⟩
        rcases hA.loc k e with e | e
        · have := row_lt o.row e; omega
        · have := ES.out; omega
      clear fs gs hus hA1s
      obtain ⟨x0, x1, x2, x3, x4⟩ := en5 hBx
      obtain ⟨p0, p1, p2', p3, p4⟩ := en5 y5
      have hcm := compare_any e pl B
      simp only [enC] at hcm
      obtain ⟨Z, hZ⟩ : ∃ Z, Z = cpE e pl := ⟨_, rfl⟩
      rw [← hZ] at hcm
      have HZ := Hid.mk hZ
      clear hZ
      gi_wp2_with fail
      refine ⟨trivial, (CallsIn.inRound lq (CallsIn.inRound lp (callsIn_wide.2 hcm))).mono ?_⟩
      clear hcm x0 x1 x2 x3 x4 p0 p1 p2' p3 p4
      rintro r B1 ⟨rfl, bB⟩
      have hA' := hA.below bB
      have ko1 : KeepsOthers B B1 := ⟨bB.size, fun k ob hk _ => (bB.block k (Array.getElem?_eq_some_iff.1 hk).1).trans hk⟩
      have kp1 : KpB (fun k => k = A1.heap.size ∨ k = A1.heap.size + 1) s2 B B1 := ⟨bB.size, fun k c t m _ h => (bB.block k (Array.getElem?_eq_some_iff.1 h).1).trans h⟩
      have z2 : B1.heap[w.heap.size + 1 + 1]? = _ := (bB.block _ (Array.getElem?_eq_some_iff.1 y2).1).trans y2
      have z3 : B1.heap[w.heap.size + 1 + 1 + 1]? = _ := (bB.block _ (Array.getElem?_eq_some_iff.1 y3).1).trans y3
      have zx : B1.heap[Bx]? = _ := (bB.block _ (Array.getElem?_eq_some_iff.1 hBx).1).trans hBx
      clear hlowB y2 y3 y5 hBx hA
      by_cases hZ0 : Z < 0
      · have hZd : decide (Z < 0) = true := decide_eq_true hZ0
        have hh : geV pl (p2 ++ [e]) = geV pl p2 := by
          unfold geV
          rw [List.filter_append]
          have : cpE e pl < 0 := by rw [← HZ.out]; exact hZ0
          simp [this]
        have HR := Hid.mk (And.intro hA' (And.intro ko1 (And.intro kp1 (And.intro hh hle2))))
        clear hA' ko1 kp1 hh hle2 hle o a0 hseq2 kK hx hBo hBr hZ0
        gi_wp2
        obtain ⟨hA', ko1, kp1, hh, hle2⟩ := HR.out
        refine ⟨ko1.from _, kp1, ⟨lv', ?_⟩, ?_⟩
        · rw [hh]; exact hA'
        · rw [hh]; exact hle2
      · have hZd : decide (Z < 0) = false := decide_eq_false hZ0
        have hh : geV pl (p2 ++ [e]) = geV pl p2 ++ [e] := by
          unfold geV
          rw [List.filter_append]
          have : 0 ≤ cpE e pl := by rw [← HZ.out]; omega
          simp [this]
        have hpx : p2.length + 1 ≤ (ents X 0 CB).length := by have := hx.length_le; simpa using this
        have hlen : (geV pl (alA CB p) ++ geV pl p2).length + 1 ≤ 1099511627776 := by
          have l1 := len_lim CB bl hs q0 p y HY.out.1.1
          rw [← HX.out] at l1
          have l2 : (geV pl (alA CB p)).length ≤ (alA CB p).length := List.length_filter_le _ _
          have l3 : (geV pl p2).length ≤ p2.length := List.length_filter_le _ _
          rw [List.length_append]
          have l4 : (alA CB p).length + (ents X 0 CB).length ≤ ((alA CB p).length + (ents X 0 CB).length) * (CB + 7) := Nat.le_mul_of_pos_right _ (by omega)
          omega
        obtain ⟨x0, x1, x2, x3, x4⟩ := en5 zx
        have c0 := boxc (A := B1) hA'.box rfl
        have cm := boxc (A := B1) z2 rfl
        obtain ⟨v', V5, hap, ho5, st5, loc5⟩ := en_app B1 _ _ hA'.row e hlen
        obtain ⟨hA6, st6⟩ := hA'.app ho5 st5 loc5
        have hb5 : V5.heap[w.heap.size + 1 + 1 + 1 + 1]? = _ := (st5.block _ (Array.getElem?_eq_some_iff.1 hA'.box).1 (fun e => hA'.row_lb e rfl)).trans hA'.box
        have w0 := boxc (A := V5) hb5 rfl
        have wf : V5.frozen? ⟨w.heap.size + 1 + 1 + 1 + 1, 0, none⟩ = false := frozen_of_row _ _ _ _ _ hb5
        obtain ⟨kp, ko⟩ := hA'.kp (K := fun k => k = A1.heap.size ∨ k = A1.heap.size + 1) st6 (fun k hk => ⟨(kK k hk).1, (kK k hk).2.2⟩)
        obtain ⟨V6, hV6⟩ : ∃ V6, V6 = V5.setCell ⟨w.heap.size + 1 + 1 + 1 + 1, 0, none⟩ v' := ⟨_, rfl⟩
        rw [← hV6] at hA6 st6 kp ko
        have nrow : ∀ k, k < U.heap.size → k ≠ w.heap.size + 1 + 1 + 1 + 1 → ¬ (k = w.heap.size + 1 + 1 + 1 + 1 ∨ lv'.ownBlock = some k) := fun k h1 h2 h3 => by
          rcases h3 with h3 | h3
          · exact h2 h3
          · rcases hA'.loc k h3 with h4 | h4
            · have := o.loc _ h4; omega
            · have := b2.size; have := o.stay.size; omega
        have fs := FS.out.1
        have gs := FS.out.2
        have q2 : V6.heap[w.heap.size + 1 + 1]? = _ := (st6.block _ (Array.getElem?_eq_some_iff.1 z2).1 (nrow _ (by omega) (by omega))).trans z2
        have q3 : V6.heap[w.heap.size + 1 + 1 + 1]? = _ := (st6.block _ (Array.getElem?_eq_some_iff.1 z3).1 (nrow _ (by omega) (by omega))).trans z3
        have r2 : V5.heap[w.heap.size + 1 + 1]? = _ := (st5.block _ (Array.getElem?_eq_some_iff.1 z2).1 (fun e => nrow _ (by omega) (by omega) (.inr e))).trans z2
        have r3 : V5.heap[w.heap.size + 1 + 1 + 1]? = _ := (st5.block _ (Array.getElem?_eq_some_iff.1 z3).1 (fun e => nrow _ (by omega) (by omega) (.inr e))).trans z3
        have dm := boxc (A := V5) r2 rfl
        have dr := boxc (A := V5) r3 rfl
        have df : V5.frozen? ⟨w.heap.size + 1 + 1 + 1, 0, none⟩ = false := frozen_of_row _ _ _ _ _ r3
        have hz5 : w.heap.size + 1 + 1 + 1 + 1 < V5.heap.size := (Array.getElem?_eq_some_iff.1 hb5).1
        obtain ⟨hX2, st2⟩ := hA6.ret (Br := w.heap.size + 1 + 1 + 1) (by omega) hBrU q3
        have kp2 : KpB (fun k => k = A1.heap.size ∨ k = A1.heap.size + 1) s2 V6 (V6.setCell ⟨w.heap.size + 1 + 1 + 1, 0, none⟩ v') := ⟨st2.size, fun k c t m hk hh => (st2.block k (Array.getElem?_eq_some_iff.1 hh).1 (fun e => by
          rcases hk with hk | hk
          · exact (kK k hk).2.1 e
          · have := (hA6.own k hk).1; omega)).trans hh⟩
        have ko2 : KeepsOthers V6 (V6.setCell ⟨w.heap.size + 1 + 1 + 1, 0, none⟩ v') := KeepsOthers.setCell _ _ _
        have kpA := KpB.trans kp1 kp
        have kpB := KpB.trans kpA kp2
        have koA := ko1.trans ko
        have koB := koA.trans ko2
        obtain ⟨ra, rc5, hra, -⟩ := slice_form ho5
        obtain ⟨qa, qc, hlv, -⟩ := slice_form hA'.row
        obtain ⟨n5, hn5⟩ : ∃ n5, n5 = (geV pl (alA CB p) ++ geV pl p2).length := ⟨_, rfl⟩
        obtain ⟨m5, hm5⟩ : ∃ m5, m5 = (geV pl (alA CB p) ++ geV pl p2 ++ [e]).length := ⟨_, rfl⟩
        have hm6 : m5 = n5 + 1 := by rw [hm5, hn5, List.length_append]; rfl
        rw [← hn5] at hlv hle2
        rw [← hm5] at hra
        have HR := Hid.mk (And.intro hA6 (And.intro hX2 (And.intro kpA (And.intro kpB (And.intro koA (And.intro koB (And.intro hh (And.intro hra (And.intro hm5 (And.intro hx hV6))))))))))
        rw [hra, hlv] at hap
        rw [hlv] at c0 w0
        clear hA' hA6 hX2 kp kp1 kp2 kpA kpB ko ko1 ko2 koA koB hle o a0 hseq2 kK hx hBo hBr st6 ho5 st5 loc5 hb5 hpx hlen hh hra hlv hn5 hm5 z2 z3 zx q2 q3 nrow st2 hZ0 fs gs r2 r3 hV6
        have HM6 := Hid.mk hm6
        clear hm6
        by_cases hme : (m5 : Int) = m
        · have hmd : ((m5 : Int) == m) = true := by simp [hme]
          have HME := Hid.mk hme
          clear hme
          gi_wp2_with (gi_at_builtin; refine wpListIn_append_eq rfl _ _ _ _ rfl _ _ _ _ rfl rfl hap ?_)
          obtain ⟨hA6, hX2, kpA, kpB, koA, koB, hh, hra, hm5, hx, hV6⟩ := HR.out
          rw [← hra]
          rw [← hV6]
          refine ⟨koB.from _, kpB, rfl, v', ?_, hx, ?_⟩
          · rw [hh, ← List.append_assoc]; exact hX2
          · rw [hh, ← List.append_assoc, ← hm5]; exact HME.out
        · have hmd : ((m5 : Int) == m) = false := by apply beq_false_of_ne; exact hme
          have HME := Hid.mk hme
          have HLE := Hid.mk hle2
          clear hme hle2
          gi_wp2_with (gi_at_builtin; refine wpListIn_append_eq rfl _ _ _ _ rfl _ _ _ _ rfl rfl hap ?_)
          obtain ⟨hA6, hX2, kpA, kpB, koA, koB, hh, hra, hm5, hx, hV6⟩ := HR.out
          rw [← hra]
          rw [← hV6]
          refine ⟨koA.from _, kpA, ⟨v', ?_⟩, ?_⟩
          · rw [hh, ← List.append_assoc]; exact hA6
          · rw [hh, ← List.append_assoc, ← hm5]
            have a1 := HM6.out
            have a2 := HME.out
            have a3 := HLE.out
            omega
    case idone =>
      rintro p2 s2 B hS ⟨⟨lv', hA⟩, hle2⟩
      subst hS
      have fs := FS.out.1
      have gs := FS.out.2
      have st : Stay (fun k => k = w.heap.size + 1 + 1 + 1 + 1 ∨ k = w.heap.size + 1 + 1 + 1 ∨ lv.ownBlock = some k) A1 B := (Stay.below b2).trans (hA.stay.mono (fun k _ e => by
        rcases e with e | e
        · exact .inl e
        · exact .inr (.inr e)))
      have hus := o.stay.size
      have hbr : B.heap[w.heap.size + 1 + 1 + 1]? = _ := (hA.stay.block _ (Array.getElem?_eq_some_iff.1 hBr).1 (fun e => by
        rcases e with e | e
        · omega
        · have := o.loc _ e; omega)).trans hBr
      obtain ⟨o2, ko, kp⟩ := o.step st hA.box hbr hA.row (fun k hk => by
        rcases hA.loc k hk with e | e
        · exact .inl e
        · exact .inr (Nat.le_trans b2.size e))
      have kp2 := kp (fun k => k = U0.heap.size ∨ k = fb ∨ bv.ownBlock = some k) (fun k hk => by
        rcases hk with e | e | e
        · omega
        · omega
        · have := row_lt H.row e; omega)
      have hap : geV pl (alA CB p) ++ geV pl (ents X 0 CB) = geV pl (alA CB (p ++ [y])) := by rw [alA_snoc, geV_app, HX.out]
      rw [hap] at o2
      have hle3 : ((geV pl (alA CB (p ++ [y]))).length : Int) < m := by rw [← hap]; exact hle2
      have HR := Hid.mk (And.intro o2 (And.intro ko (And.intro kp2 hle3)))
      clear o2 ko kp2 kp hle3 hap hbr st hA hle2 fs gs hus a0 hseq2 hBo hBr o hle
      gi_wp2
      exact ⟨HR.out.2.1.from _, HR.out.2.2.1, ⟨lv', rv, HR.out.1⟩, HR.out.2.2.2⟩
    case istop =>
      rintro c p2 s2 B _ ⟨rfl, lv', hA, hpre, hle2⟩
      have fs := FS.out.1
      have gs := FS.out.2
      have st : Stay (fun k => k = w.heap.size + 1 + 1 + 1 + 1 ∨ k = w.heap.size + 1 + 1 + 1 ∨ lv.ownBlock = some k) A1 B := (Stay.below b2).trans hA.stay
      obtain ⟨o2, ko, kp⟩ := o.step st hA.box hA.res hA.row (fun k hk => by
        rcases hA.loc k hk with e | e
        · exact .inl e
        · exact .inr (Nat.le_trans b2.size e))
      have kp2 := kp (fun k => k = U0.heap.size ∨ k = fb ∨ bv.ownBlock = some k) (fun k hk => by
        rcases hk with e | e | e
        · omega
        · omega
        · have := row_lt H.row e; omega)
      obtain ⟨rr, hrr⟩ := hpre
      have hfin : ∃ lv pre y' q rest, OI U fb hd bv iv rd (w.heap.size + 1 + 1 + 1 + 1) (w.heap.size + 1 + 1 + 1) s (geV pl (alA CB pre ++ q)) lv lv B ∧ p ++ [y] = pre ++ [y'] ∧ ents ⟨y'.toArray⟩ 0 CB = q ++ rest ∧ ((geV pl (alA CB pre ++ q)).length : Int) = m ∧ ((geV pl (alA CB pre)).length : Int) < m :=
        ⟨lv', p, y, p2, rr, by rw [geV_app]; exact o2, rfl, by rw [← HX.out]; exact hrr.symm, by rw [geV_app]; exact hle2, hle⟩
      have HR := Hid.mk (And.intro hfin (And.intro ko kp2))
      clear hfin o2 ko kp2 kp st hA hle2 fs gs a0 hseq2 hBo hBr o hle hrr
      gi_wp2
      exact ⟨HR.out.2.1.from _, HR.out.2.2, rfl, HR.out.1⟩
  case done =>
    rintro D p s A hD ⟨hS, hS2⟩ ⟨⟨lv, rv, o⟩, hle⟩ hdef
    have st0 : Stay (fun k => k = w.heap.size + 1 + 1 + 1) A (A.setCell ⟨w.heap.size + 1 + 1 + 1, 0, none⟩ lv) := stay1 _ _ _ _ _ (.refl _ _)
    have o2 : OI U fb hd bv iv rd (w.heap.size + 1 + 1 + 1 + 1) (w.heap.size + 1 + 1 + 1) s (geV pl (alA CB p)) lv lv (A.setCell ⟨w.heap.size + 1 + 1 + 1, 0, none⟩ lv) :=
      { num := o.num, box := (st0.block _ (Array.getElem?_eq_some_iff.1 o.box).1 (by omega)).trans o.box, res := by rw [heap_setCell_same A _ 0 _ _ _ o.res]; rfl, row := row_kept o.row st0 (fun k hk e => by
          obtain ⟨c, hc⟩ := row_block o.row hk
          rw [e, o.res] at hc; simp at hc), file := (st0.block _ (Array.getElem?_eq_some_iff.1 o.file).1 o.num.2.1).trans o.file, stay := o.stay.andThen st0 (fun k _ e => .inr (.inl e)), loc := o.loc }
    have hd2 : (A.setCell ⟨w.heap.size + 1 + 1 + 1, 0, none⟩ lv).heap[D]? = some (.deferred (some [])) := (st0.block D (Array.getElem?_eq_some_iff.1 hdef).1 (fun e => by
      have := o.num.2.2.2.2.2; omega)).trans hdef
    have c0 := boxc (A := A) o.box rfl
    have c1 := boxc (A := A) o.res rfl
    have cf : A.frozen? ⟨w.heap.size + 1 + 1 + 1, 0, none⟩ = false := frozen_of_row _ _ _ _ _ o.res
    obtain ⟨qa, qc, hlv, -⟩ := slice_form o.row
    have hF : FrmO CB pl m (bl.drop q0) s (geV pl (alA CB p)) := .inl ⟨by rw [hS2, hS], by rw [← hS], hle⟩
    have fin : ∀ (tmps : Array Value) (hres : ∀ w', w'.cell? ⟨w.heap.size + 1 + 1 + 1, 0, none⟩ = some lv → (results Tryz.f16 tmps).run Tryz.prog w' = .ok lv w'), LeavesInM Fence.wide 9 Tryz.prog Tryz.f16 tmps (fun r w' => ∃ v t L, r = .returned v ∧ FrmO CB pl m (bl.drop (rF ix pl - 1)) t L ∧ w'.ownsRow 0 38 5 v L.length (L.flatMap enC) ∧ (∀ k, v.ownBlock = some k → w.heap.size ≤ k) ∧ FA w' fb hd bl ix bv iv (rd + t) ∧ Stay (fun k => k = fb) w w') (markL [D]) .returning (A.setCell ⟨w.heap.size + 1 + 1 + 1, 0, none⟩ lv) := fun tmps hres =>
      leaves_marks lv [D] _ (fun D' h' => by simp at h'; subst h'; exact hd2) (by simp) (fun w' st => by
        obtain ⟨k1, k2, k3, k4, k5⟩ := o2.fin H bU (by omega) (by omega) hD hd2 st
        exact ⟨hres w' k1, lv, s, _, rfl, by rw [← HQ.out]; exact hF, k2, k3, k4, k5⟩)
    have HR := Hid.mk fin
    have HL := Hid.mk hlv
    obtain ⟨n5, hn5⟩ : ∃ n5, n5 = (geV pl (alA CB p)).length := ⟨_, rfl⟩
    rw [hlv, ← hn5] at c0
    rw [← hn5] at HL
    clear fin hlv o2 hd2 hF st0 o hle hS hS2 hn5 hseq o0
    gi_wp2
    rw [← HL.out]
    exact HR.out _ (fun w' hc => by simp [results, Tryz.results16, go_sem, hc])
  case stop =>
    rintro D c p s A hD ⟨hS, hS2⟩ ⟨rfl, lv, pre, y, q, rest, o, hp, he, hle, hlt5⟩ hdef
    have hF : FrmO CB pl m (bl.drop q0) s (geV pl (alA CB pre ++ q)) := .inr ⟨pre, y, q, rest, by rw [← hp]; exact hS, by rw [hS2, hp]; simp, he, rfl, hle, hlt5⟩
    have fin : ∀ (tmps : Array Value) (hres : ∀ w', w'.cell? ⟨w.heap.size + 1 + 1 + 1, 0, none⟩ = some lv → (results Tryz.f16 tmps).run Tryz.prog w' = .ok lv w'), LeavesInM Fence.wide 9 Tryz.prog Tryz.f16 tmps (fun r w' => ∃ v t L, r = .returned v ∧ FrmO CB pl m (bl.drop (rF ix pl - 1)) t L ∧ w'.ownsRow 0 38 5 v L.length (L.flatMap enC) ∧ (∀ k, v.ownBlock = some k → w.heap.size ≤ k) ∧ FA w' fb hd bl ix bv iv (rd + t) ∧ Stay (fun k => k = fb) w w') (markL [D]) .returning A := fun tmps hres =>
      leaves_marks lv [D] _ (fun D' h' => by simp at h'; subst h'; exact hdef) (by simp) (fun w' st => by
        obtain ⟨k1, k2, k3, k4, k5⟩ := o.fin H bU (by omega) (by omega) hD hdef st
        exact ⟨hres w' k1, lv, s, _, rfl, by rw [← HQ.out]; exact hF, k2, k3, k4, k5⟩)
    have HR := Hid.mk fin
    clear fin hF o hle hS hS2 hseq o0 he hp hlt5
    gi_wp2
    exact HR.out _ (fun w' hc => by simp [results, Tryz.results16, go_sem, hc])
end Go.Proofs.YtjdpolhjbkpnlaaGreatDoor
set_option linter.unusedVariables false
set_option linter.unusedSimpArgs false
namespace Go.Proofs.YtjdpolhjbkpnlaaGreatDoor
open Go.RowKit Go.Proofs.SealMath
theorem cpE_v {a b : En} (h : cpE a b < 0) : a.v ≤ b.v := by
  unfold cpE at h
  by_cases e : a.v = b.v
  · omega
  · rw [if_neg e] at h
    have := (cmpI a.v b.v).1.1 h
    omega
theorem ents_head {b : ByteArray} {cb : Nat} {e : En} {r : List En} (h : ents b 0 cb = e :: r) : eE (eaA b 0 cb) = e := by
  cases h1 : eaA b 0 cb with
  | none => rw [ents_none h1] at h; cases h
  | some x =>
    obtain ⟨e', q⟩ := x
    rw [ents_some h1] at h
    simp only [List.cons.injEq] at h
    exact h.1
/-- A file's parts. -/
structure Pts (cb : Nat) (l : List En) (bl : List (List UInt8)) (ix : List En) : Prop where
  up : Up l
  al : alA cb bl = l
  ne : ∀ (j : Nat) (hj : j < bl.length), ents ⟨bl[j].toArray⟩ 0 cb ≠ []
  ix : ix = ixL cb bl
theorem Pts.of {h : Hd} {l : List En} (e : bdE h l = 0) : Pts (cbH h) l ((pk enB l).map fun p => p.2.flatMap enB) (ixL (cbH h) ((pk enB l).map fun p => p.2.flatMap enB)) := by
  have hoc := bdE_codes e
  have hok := (bdE_ok e).2.2.2
  have hlen : ∀ x ∈ l, (enB x).length ≤ 4096 := fun x hx => by
    have := (enB_len x).1
    have := (hok x hx).c
    omega
  refine ⟨bdE_up e, al_file h l hoc, fun j hj => ?_, rfl⟩
  rw [List.length_map] at hj
  rw [List.getElem_map]
  have hm : (pk enB l)[j] ∈ pk enB l := List.getElem_mem hj
  rw [ents_all]
  · exact (pk_spec enB l hlen _ hm).1
  · intro x hx
    refine hoc x ?_
    have := pk_flat enB l
    rw [← this]
    exact List.mem_flatten.2 ⟨_, List.mem_map.2 ⟨_, hm, rfl⟩, hx⟩
section
variable {cb : Nat} {l : List En} {bl : List (List UInt8)} {ix : List En}
theorem Pts.cut (P : Pts cb l bl ix) (q : Nat) : alA cb (bl.take q) ++ alA cb (bl.drop q) = l := by
  have h := P.al
  rw [← List.take_append_drop q bl] at h
  unfold alA at h ⊢
  rw [List.flatMap_append] at h
  exact h
theorem Pts.len (P : Pts cb l bl ix) : ix.length = bl.length := by rw [P.ix]; unfold ixL; simp
theorem Pts.head (P : Pts cb l bl ix) {j : Nat} (hj : j < bl.length) (hj' : j < ix.length) : ix[j] ∈ ents ⟨bl[j].toArray⟩ 0 cb := by
  have hne := P.ne j hj
  cases h : ents ⟨bl[j].toArray⟩ 0 cb with
  | nil => exact absurd h hne
  | cons e r =>
    have h2 := ents_head h
    have : ix[j] = e := by
      simp only [P.ix, ixL, List.getElem_map]
      exact h2
    rw [this]; simp
/-- What stands in an earlier block stands ahead. -/
theorem Pts.lt (P : Pts cb l bl ix) {q : Nat} {a b : En} (ha : a ∈ alA cb (bl.take q)) (hb : b ∈ alA cb (bl.drop q)) : cpE a b < 0 := by
  have h := P.up
  rw [← P.cut q] at h
  unfold Up at h
  exact (List.pairwise_append.1 h).2.2 a ha b hb
theorem Pts.upix (P : Pts cb l bl ix) : Up ix := by
  unfold Up
  rw [List.pairwise_iff_getElem]
  intro i j hi hj hij
  have hl := P.len
  refine P.lt (q := j) ?_ ?_
  · have h1 := P.head (show i < bl.length by omega) hi
    unfold alA
    refine List.mem_flatMap.2 ⟨bl[i], ?_, h1⟩
    rw [List.mem_take_iff_getElem]
    exact ⟨i, by omega, rfl⟩
  · have h1 := P.head (show j < bl.length by omega) hj
    unfold alA
    refine List.mem_flatMap.2 ⟨bl[j], ?_, h1⟩
    rw [List.mem_drop_iff_getElem]
    exact ⟨0, by omega, by simp⟩
theorem rF_low {ix : List En} (p : En) {j : Nat} (hj : j < ix.length) (h : j < rF ix p) : ¬ 0 < cpE ix[j] p := by
  unfold rF at h
  have h1 : (ix.takeWhile fun e => decide (¬ 0 < cpE e p))[j] = ix[j] := by
    have := List.takeWhile_prefix (p := fun e => decide (¬ 0 < cpE e p)) (l := ix)
    exact List.IsPrefix.getElem this h
  have h2 : (ix.takeWhile fun e => decide (¬ 0 < cpE e p))[j] ∈ ix.takeWhile fun e => decide (¬ 0 < cpE e p) := List.getElem_mem h
  have h3 := List.all_eq_true.1 (List.all_takeWhile (p := fun e => decide (¬ 0 < cpE e p)) (l := ix)) _ h2
  rw [h1] at h3
  simpa using h3
/-- Ahead of the first block for a place all stands ahead of the place. -/
theorem Pts.ahead (P : Pts cb l bl ix) (p : En) {a : En} (ha : a ∈ alA cb (bl.take (rF ix p - 1))) : cpE a p < 0 := by
  have hl := P.len
  have hr := rF_le ix p
  by_cases h0 : rF ix p - 1 = 0
  · rw [h0] at ha
    simp [alA] at ha
  · have hj : rF ix p - 1 < ix.length := by omega
    have h1 := rF_low p hj (by omega)
    have h2 : ix[rF ix p - 1] ∈ alA cb (bl.drop (rF ix p - 1)) := by
      have := P.head (show rF ix p - 1 < bl.length by omega) hj
      unfold alA
      refine List.mem_flatMap.2 ⟨_, ?_, this⟩
      rw [List.mem_drop_iff_getElem]
      exact ⟨0, by omega, by simp⟩
    exact cpE_lt_le (P.lt ha h2) (by omega)
theorem Pts.ge (P : Pts cb l bl ix) (p : En) : geV p l = geV p (alA cb (bl.drop (rF ix p - 1))) := by
  have h := P.cut (rF ix p - 1)
  conv => lhs; rw [← h]
  rw [geV_app]
  have : geV p (alA cb (bl.take (rF ix p - 1))) = [] := by
    unfold geV
    rw [List.filter_eq_nil_iff]
    intro a ha
    have := P.ahead p ha
    simp [this]
  rw [this, List.nil_append]
theorem alA_pre (cb : Nat) {pre : List (List UInt8)} {y : List UInt8} {bl : List (List UInt8)} (h : pre ++ [y] <+: bl) {q rest : List En} (he : ents ⟨y.toArray⟩ 0 cb = q ++ rest) : ∃ more, alA cb bl = (alA cb pre ++ q) ++ (rest ++ more) := by
  obtain ⟨t, ht⟩ := h
  refine ⟨alA cb t, ?_⟩
  rw [← ht]
  unfold alA at *
  rw [List.flatMap_append, List.flatMap_append]
  simp [he]
/-- What From tells. -/
theorem Pts.from (P : Pts cb l bl ix) {p : En} {m : Int} {t : Nat} {L : List En} (h : FrmO cb p m (bl.drop (rF ix p - 1)) t L) : L = (geV p l).take m.toNat := by
  rw [P.ge p]
  rcases h with ⟨h1, h2, h3⟩ | ⟨pre, y, q, rest, h1, h2, h3, h4, h5, -⟩
  · rw [← h2, List.take_of_length_le (by omega)]
  · obtain ⟨more, hm⟩ := alA_pre cb h1 h3
    rw [hm, geV_app, ← h4, ← h5]
    simp
/-- What Find tells. -/
theorem Pts.find (P : Pts cb l bl ix) {x : Int} {t : Nat} {L : List En} (hi : ∀ e ∈ l, 0 ≤ e.i) (h : FndO cb x (bl.drop (rF ix ⟨x, ⟨#[]⟩, -1, 0, false⟩ - 1)) t L) : L = hitV x l := by
  have hcut := P.cut (rF ix ⟨x, ⟨#[]⟩, -1, 0, false⟩ - 1)
  have hno : hitV x (alA cb (bl.take (rF ix ⟨x, ⟨#[]⟩, -1, 0, false⟩ - 1))) = [] := by
    unfold hitV
    rw [List.filter_eq_nil_iff]
    intro a ha
    have h1 := P.ahead _ ha
    have h2 := hi a (by rw [← hcut]; exact List.mem_append_left _ ha)
    simp only [decide_eq_true_eq]
    intro e
    unfold cpE at h1
    rw [if_pos e] at h1
    split at h1
    · have := (cmpI a.i (-1)).1.1 h1
      omega
    · have h3 : Lib.compareBytes a.c.data.toList [] < 0 := h1
      cases hc : a.c.data.toList with
      | nil => rw [hc] at h3; simp [Lib.compareBytes] at h3
      | cons c d => rw [hc] at h3; simp [Lib.compareBytes] at h3
  have hl : hitV x l = hitV x (alA cb (bl.drop (rF ix ⟨x, ⟨#[]⟩, -1, 0, false⟩ - 1))) := by
    conv => lhs; rw [← hcut]
    rw [hitV_app, hno, List.nil_append]
  rw [hl]
  rcases h with ⟨h1, h2, h3⟩ | ⟨pre, y, q, rest, h1, h2, h3, ⟨e, r, h4, h5⟩, h6, h7⟩
  · exact h3
  · obtain ⟨more, hm⟩ := alA_pre cb h1 h3
    rw [hm, hitV_app, ← h7]
    have : hitV x (rest ++ more) = [] := by
      unfold hitV
      rw [List.filter_eq_nil_iff]
      intro a ha
      have hup := P.up
      rw [← hcut, hm, h4] at hup
      unfold Up at hup
      have hu2 := (List.pairwise_append.1 (List.pairwise_append.1 hup).2.1).2.1
      rw [h4, List.cons_append] at ha
      rw [List.cons_append] at hu2
      simp only [decide_eq_true_eq]
      rcases List.mem_cons.1 ha with rfl | ha
      · omega
      · have := cpE_v ((List.pairwise_cons.1 hu2).1 a ha)
        omega
    rw [this, List.append_nil]
end
end Go.Proofs.YtjdpolhjbkpnlaaGreatDoor
set_option linter.unusedVariables false
set_option linter.unusedSimpArgs false
namespace Go.Proofs.YtjdpolhjbkpnlaaGreatDoor.Dx
open Go.RowKit Go.Proofs.SealMath
/-- The blocks of a list. -/
def Gs (l : List En) : List (List En) := (pk enB l).map (·.2)
theorem Gs_flat (l : List En) : (Gs l).flatten = l := pk_flat enB l
/-- A block's last value. -/
def lastV (B : List En) : Int := match B.getLast? with
  | some e => e.v
  | none => 0
/-- The document's Find: how many blocks it reads, what it finds. -/
def fnD (x : Int) : List (List En) → Nat × List En
  | [] => (0, [])
  | B :: r => if x < lastV B then (1, hitV x B) else ((fnD x r).1 + 1, hitV x B ++ (fnD x r).2)
theorem lastV_mem {B : List En} (h : B ≠ []) : ∃ e ∈ B, lastV B = e.v := by
  refine ⟨B.getLast h, List.getLast_mem h, ?_⟩
  unfold lastV
  rw [List.getLast?_eq_some_getLast h]
theorem fnD_pre (x : Int) : ∀ (pre tail : List (List En)), (∀ B ∈ pre, B ≠ [] ∧ ∀ e ∈ B, e.v ≤ x) → fnD x (pre ++ tail) = (pre.length + (fnD x tail).1, hitV x pre.flatten ++ (fnD x tail).2)
  | [], tail, _ => by simp [hitV]
  | B :: pre, tail, h => by
    obtain ⟨h1, h2⟩ := h B (by simp)
    obtain ⟨e, he, hv⟩ := lastV_mem h1
    have := h2 e he
    rw [List.cons_append, fnD, if_neg (by omega), fnD_pre x pre tail (fun C hC => h C (List.mem_cons_of_mem _ hC))]
    rw [List.flatten_cons, hitV_app, List.length_cons, List.append_assoc]
    congr 1
    omega
/-- A block's entries, as they are read. -/
abbrev enR (cb : Nat) (p : List UInt8) : List En := ents ⟨p.toArray⟩ 0 cb
theorem alA_map (cb : Nat) (bl : List (List UInt8)) : alA cb bl = (bl.map (enR cb)).flatten := by unfold alA; rw [List.flatMap_def]
theorem fnd_eq {cb : Nat} {x : Int} {bl : List (List UInt8)} {t : Nat} {L : List En} (h : FndO cb x bl t L) (hne : ∀ p ∈ bl, enR cb p ≠ []) (hup : (alA cb bl).Pairwise (fun a b => a.v ≤ b.v)) : fnD x (bl.map (enR cb)) = (t, L) := by
  rcases h with ⟨rfl, h2, rfl⟩ | ⟨pre, y, q, rest, h1, rfl, h3, ⟨e, r, rfl, h5⟩, h6, rfl⟩
  · have := fnD_pre x (bl.map (enR cb)) [] (fun B hB => by
      obtain ⟨p, hp, rfl⟩ := List.mem_map.1 hB
      exact ⟨hne p hp, fun e he => h2 e (by unfold alA; exact List.mem_flatMap.2 ⟨p, hp, he⟩)⟩)
    rw [List.append_nil] at this
    rw [this]
    simp [fnD, alA_map]
  · obtain ⟨tl, rfl⟩ := h1
    have hp := fnD_pre x (pre.map (enR cb)) ((enR cb y) :: tl.map (enR cb)) (fun B hB => by
      obtain ⟨p, hp, rfl⟩ := List.mem_map.1 hB
      exact ⟨hne p (by simp [hp]), fun e he => h6 e (List.mem_append_left _ (by unfold alA; exact List.mem_flatMap.2 ⟨p, hp, he⟩))⟩)
    have hsub : (q ++ e :: r).Pairwise (fun a b => a.v ≤ b.v) := by
      have : (enR cb y) <:+: alA cb (pre ++ [y] ++ tl) := ⟨alA cb pre, alA cb tl, by unfold alA; simp [List.flatMap_append]⟩
      rw [← h3]
      exact hup.sublist this.sublist
    have hge : ∀ z ∈ e :: r, e.v ≤ z.v := fun z hz => by
      rcases List.mem_cons.1 hz with rfl | hz
      · exact Int.le_refl _
      · exact (List.pairwise_cons.1 (List.pairwise_append.1 hsub).2.1).1 z hz
    have hl : x < lastV (enR cb y) := by
      unfold lastV
      show x < (match (ents ⟨y.toArray⟩ 0 cb).getLast? with | some e => e.v | none => 0)
      rw [h3, List.getLast?_append, List.getLast?_eq_some_getLast (by simp : e :: r ≠ []), Option.some_or]
      have := hge _ (List.getLast_mem (by simp : e :: r ≠ []))
      dsimp only
      omega
    have hh : hitV x (enR cb y) = hitV x q := by
      show hitV x (ents ⟨y.toArray⟩ 0 cb) = _
      rw [h3, hitV_app]
      have : hitV x (e :: r) = [] := by
        unfold hitV
        rw [List.filter_eq_nil_iff]
        intro z hz
        have := hge z hz
        simp only [decide_eq_true_eq]
        omega
      rw [this, List.append_nil]
    rw [show (pre ++ [y] ++ tl).map (enR cb) = pre.map (enR cb) ++ enR cb y :: tl.map (enR cb) by simp, hp, fnD, if_pos hl, hh, hitV_app, alA_map]
    simp
/-- The document's From: how many blocks it reads, what it tells. -/
def frD (p : En) : Nat → List (List En) → Nat × List En
  | _, [] => (0, [])
  | m, B :: r => if m = 0 then (0, []) else ((frD p (m - ((geV p B).take m).length) r).1 + 1, (geV p B).take m ++ (frD p (m - ((geV p B).take m).length) r).2)
theorem frD_zero (p : En) (l : List (List En)) : frD p 0 l = (0, []) := by cases l <;> simp [frD]
theorem frD_pre (p : En) : ∀ (pre tail : List (List En)) (m : Nat), (geV p pre.flatten).length < m → frD p m (pre ++ tail) = (pre.length + (frD p (m - (geV p pre.flatten).length) tail).1, geV p pre.flatten ++ (frD p (m - (geV p pre.flatten).length) tail).2)
  | [], tail, m, _ => by simp [geV]
  | B :: pre, tail, m, h => by
    rw [List.flatten_cons, geV_app, List.length_append] at h
    have ht : (geV p B).take m = geV p B := List.take_of_length_le (by omega)
    rw [List.cons_append, frD, if_neg (by omega), ht, frD_pre p pre tail _ (by omega)]
    rw [List.flatten_cons, geV_app, List.length_append, List.length_cons, List.append_assoc, Nat.sub_sub]
    congr 1
    omega
theorem frm_eq {cb : Nat} {p : En} {m : Int} {bl : List (List UInt8)} {t : Nat} {L : List En} (h : FrmO cb p m bl t L) : frD p m.toNat (bl.map (enR cb)) = (t, L) := by
  rcases h with ⟨rfl, rfl, h3⟩ | ⟨pre, y, q, rest, h1, rfl, h3, rfl, h5, h6⟩
  · rw [alA_map] at h3 ⊢
    have := frD_pre p (bl.map (enR cb)) [] m.toNat (by omega)
    rw [List.append_nil] at this
    rw [this]
    simp [frD]
  · obtain ⟨tl, rfl⟩ := h1
    rw [geV_app, alA_map, List.length_append] at h5
    rw [alA_map] at h6
    have hp := frD_pre p (pre.map (enR cb)) (enR cb y :: tl.map (enR cb)) m.toNat (by omega)
    rw [show (pre ++ [y] ++ tl).map (enR cb) = pre.map (enR cb) ++ enR cb y :: tl.map (enR cb) by simp, hp]
    obtain ⟨k, hk⟩ : ∃ k, k = m.toNat - (geV p (pre.map (enR cb)).flatten).length := ⟨_, rfl⟩
    rw [← hk]
    have hq : (geV p q).length = k := by omega
    have ht : (geV p (enR cb y)).take k = geV p q := by
      show (geV p (ents ⟨y.toArray⟩ 0 cb)).take k = _
      rw [h3, geV_app, List.take_append_of_le_length (by omega), List.take_of_length_le (by omega)]
    rw [frD, if_neg (by omega), ht, hq, Nat.sub_self, frD_zero, geV_app, alA_map]
    simp
theorem tw_all {α : Type} (p : α → Bool) : ∀ l : List α, (∀ e ∈ l, p e = true) → l.takeWhile p = l
  | [], _ => rfl
  | x :: l, h => by rw [List.takeWhile_cons_of_pos (h x (by simp)), tw_all p l (fun e he => h e (List.mem_cons_of_mem _ he))]
/-- The first block for a place, block by block. -/
theorem rF_take {ix : List En} (hu : Up ix) (p : En) (k : Nat) (hk : k < ix.length) : rF (ix.take (k + 1)) p = if 0 < cpE ix[k] p then rF (ix.take k) p else k + 1 := by
  unfold rF
  rw [List.take_succ_eq_append_getElem hk, List.takeWhile_append]
  have hlen : (ix.take k).length = k := by rw [List.length_take]; omega
  by_cases h : 0 < cpE ix[k] p
  · rw [if_pos h]
    split
    · rename_i h1
      have : (fun e => decide (¬ 0 < cpE e p)) ix[k] = false := by simp [h]
      rw [List.takeWhile_cons_of_neg (by simp [h]), List.append_nil, h1]
    · rfl
  · rw [if_neg h]
    have hall : (ix.take k).takeWhile (fun e => decide (¬ 0 < cpE e p)) = ix.take k := by
      refine tw_all _ _ ?_
      intro e he
      obtain ⟨j, hj, rfl⟩ := List.mem_take_iff_getElem.1 he
      have h1 := hu.get (i := j) (j := k) (by omega) hk (by omega)
      have := cpE_lt_le h1 (show cpE ix[k] p ≤ 0 by omega)
      simp only [decide_eq_true_eq]
      omega
    rw [hall, if_pos rfl, List.takeWhile_cons_of_pos (by simpa using h)]
    simp [hlen]
    try omega
end Go.Proofs.YtjdpolhjbkpnlaaGreatDoor.Dx
