/-
  DERIVED. BFindF, as one text.
-/
import Derived.Test.YtjdpolhjbkpnlaaGreatDoorOzAR
set_option linter.unusedVariables false
set_option linter.unusedSimpArgs false
namespace Go.Proofs.YtjdpolhjbkpnlaaGreatDoor
open Go.RowKit Go.Shelf Go.Proofs.SealMath
attribute [local go_sem] Oper.semAt_some
/-- The entries of a value. -/
def hitV (x : Int) (l : List En) : List En := l.filter fun e => decide (e.v = x)
/-- How blocks are gone through for a value: to the end, or up to an entry above it. -/
def FndO (cb : Nat) (x : Int) (bl : List (List UInt8)) (t : Nat) (L : List En) : Prop :=
  (t = bl.length ∧ (∀ e ∈ alA cb bl, e.v ≤ x) ∧ L = hitV x (alA cb bl)) ∨
  ∃ pre y q rest, pre ++ [y] <+: bl ∧ t = pre.length + 1 ∧ ents ⟨y.toArray⟩ 0 cb = q ++ rest ∧ (∃ e r, rest = e :: r ∧ x < e.v) ∧ (∀ e ∈ alA cb pre ++ q, e.v ≤ x) ∧ L = hitV x (alA cb pre ++ q)
theorem alA_snoc (cb : Nat) (p : List (List UInt8)) (y : List UInt8) : alA cb (p ++ [y]) = alA cb p ++ ents ⟨y.toArray⟩ 0 cb := by unfold alA; rw [List.flatMap_append]; simp
theorem hitV_app (x : Int) (a b : List En) : hitV x (a ++ b) = hitV x a ++ hitV x b := by unfold hitV; rw [List.filter_append]
theorem mem_sum : ∀ (bl : List (List UInt8)) (i : Nat) (hi : i < bl.length), bl[i].length + 14 ≤ (bl.map (·.length + 14)).sum
  | x :: l, 0, _ => by simp
  | x :: l, i + 1, hi => by
    have := mem_sum l i (by simpa using hi)
    simp only [List.getElem_cons_succ, List.map_cons, List.sum_cons]
    omega
theorem alloc_old (W : World) (o : Obj) (k : Nat) (h : k < W.heap.size) : (W.alloc o).heap[k]? = W.heap[k]? := ((Below.refl _ W).alloc (Nat.le_refl _) o).block k h
theorem two_new {V : World} (W : World) (o1 o2 : Obj) (h : V = (W.alloc o1).alloc o2) : Below W.heap.size W V ∧ V.heap[W.heap.size]? = some o1 ∧ V.heap[W.heap.size + 1]? = some o2 ∧ V.heap.size = W.heap.size + 2 := by
  subst h
  refine ⟨((Below.refl _ W).alloc (Nat.le_refl _) _).alloc (by simp) _, ?_, ?_, by simp⟩
  · rw [alloc_old _ _ _ (by simp)]; exact heap_alloc_last W o1
  · have := heap_alloc_last (W.alloc o1) o2
    rw [World.size_alloc] at this; exact this
theorem four_new {V : World} (W : World) (o1 o2 o3 o4 : Obj) (h : V = (((W.alloc o1).alloc o2).alloc o3).alloc o4) : Below W.heap.size W V ∧ V.heap[W.heap.size]? = some o1 ∧ V.heap[W.heap.size + 1]? = some o2 ∧ V.heap[W.heap.size + 1 + 1]? = some o3 ∧ V.heap[W.heap.size + 1 + 1 + 1]? = some o4 ∧ V.heap.size = W.heap.size + 4 := by
  obtain ⟨b1, h1, h2, s1⟩ := two_new W o1 o2 rfl
  obtain ⟨b2, h3, h4, s2⟩ := two_new ((W.alloc o1).alloc o2) o3 o4 h
  rw [s1] at h3 h4 s2
  exact ⟨chain b1 b2 (Nat.le_refl _), (b2.block _ (by omega)).trans h1, (b2.block _ (by omega)).trans h2, h3, h4, s2⟩
set_option maxHeartbeats 8000000 in
set_option maxRecDepth 100000 in
theorem find_any (fb : Nat) (hd : Hd) (bl : List (List UInt8)) (ix : List En) (bv iv : Value) (rd : Nat) (x : Int) (w : World) (H : FA w fb hd bl ix bv iv rd) (hw : 64 ≤ hd.w ∧ hd.w ≤ 1024) (hs : (bl.map (·.length + 14)).sum ≤ 1099511627776) (hl : ix.length = bl.length) (hu : Up ix) (hrd : rd + bl.length ≤ 4611686018427387904) :
    Calls Tryz.prog 15 #[Pt fb, .int .i64 x] w fun r w' => ∃ v t L, r = .returned v ∧ FndO (cbH hd) x (bl.drop (rF ix ⟨x, ⟨#[]⟩, -1, 0, false⟩ - 1)) t L ∧ w'.ownsRow 0 38 5 v L.length (L.flatMap enC) ∧ (∀ k, v.ownBlock = some k → w.heap.size ≤ k) ∧ FA w' fb hd bl ix bv iv (rd + t) ∧ Stay (fun k => k = fb) w w' := by
  have hbl := len_sum bl
  obtain ⟨CB, hCB⟩ : ∃ CB, CB = cbH hd := ⟨_, rfl⟩
  have hcb := fun r W hbx => codeBytes_any fb hd bv iv r W hbx hw
  rw [← hCB] at hcb ⊢
  have hCB2 : CB ≤ 128 := by rw [hCB]; unfold cbH; omega
  clear hCB
  have hfz := H.lt
  refine (callsIn_wide (n := 9)).1 ?_
  refine callsIn_of_wp_marks Tryz.func15 rfl trivial ?_ rfl
  simp only [Tryz.ntmps15, List.size_toArray, List.length_cons, List.length_nil, Nat.reduceAdd, Nat.reduceSub, Array.replicate_succ, Array.replicate_zero, List.push_toArray, List.append_toArray, List.nil_append, List.cons_append]
  obtain ⟨pl, hpl⟩ : ∃ pl : En, pl = ⟨x, ⟨#[]⟩, -1, 0, false⟩ := ⟨_, rfl⟩
  gi_wp2_with fail
  obtain ⟨U0, hU0⟩ : ∃ U0, U0 = (((w.alloc (.cells #[Pt fb] 23)).alloc (.cells #[.int .i64 x] 3)).alloc (.cells #[.slice none 0 0] 34)).alloc (.cells #[.slice none 0 0] 34) := ⟨_, rfl⟩
  rw [← hU0]
  have hbf := blocksFrom_any fb pl U0
  simp only [enV, hpl] at hbf
  refine ⟨trivial, (callsIn_wide.2 hbf).mono ?_⟩
  clear hbf
  rintro r U ⟨rfl, hU⟩
  obtain ⟨b0, f1, f2, f3, f4, fs⟩ := four_new w _ _ _ _ hU0
  obtain ⟨b1, g1, g2, gs⟩ := two_new U0 _ _ hU
  have bU := chain b0 b1 (Nat.le_refl _)
  have HU : FA U fb hd bl ix bv iv rd := H.below bU
  have u1 : U.heap[w.heap.size]? = _ := (b1.block _ (by omega)).trans f1
  have u2 : U.heap[w.heap.size + 1]? = _ := (b1.block _ (by omega)).trans f2
  have u3 : U.heap[w.heap.size + 1 + 1]? = _ := (b1.block _ (by omega)).trans f3
  have u4 : U.heap[w.heap.size + 1 + 1 + 1]? = _ := (b1.block _ (by omega)).trans f4
  obtain ⟨q0, hq0⟩ : ∃ q0, q0 = rF ix pl - 1 := ⟨_, rfl⟩
  have hseq := blocks_st fb hd bl ix bv iv rd U0.heap.size (U0.heap.size + 1) 8 pl U HU g1 (by rw [g2, hpl]) (by omega) hu hl hrd
  rw [← hq0] at hseq
  have hq0' : bl.drop (rF ix ⟨x, ⟨#[]⟩, -1, 0, false⟩ - 1) = bl.drop q0 := by rw [hq0, hpl]
  have HQ := Hid.mk hq0'
  have FS := Hid.mk (And.intro fs gs)
  clear hU0 hU f1 f2 f3 f4 hq0 hq0' hpl fs gs
  gi_wp2_with fail
  obtain ⟨fs, gs⟩ := FS.out
  have o0 : OI U fb hd bv iv rd (w.heap.size + 1 + 1 + 1) (w.heap.size + 1 + 1) 0 (hitV x (alA CB [])) (.slice none 0 0) (.slice none 0 0) U :=
    { num := by refine ⟨?_, ?_, ?_, HU.lt, ?_, ?_⟩ <;> omega, box := u4, res := u3, row := ⟨rfl, .inl ⟨rfl, rfl⟩⟩, file := HU.box, stay := .refl _ _, loc := fun k hk => by cases hk }
  clear fs gs
  refine wpIn_rangeFunc_sS rfl (by omega) (gf := 54) (lb := #[Pt U0.heap.size, Pt (U0.heap.size + 1)]) rfl trivial (enters_of Tryz.func54 (by kernel_rfl) rfl) hseq (fun _ _ _ _ h => h.others) (fun {_ _ _ _} => KpB.trans) (fun s A l o o' _ h ho _ => KpB.put none A l o o' h ho) (fun _ => rfl)
    (fun p s A => (∃ lv rv, OI U fb hd bv iv rd (w.heap.size + 1 + 1 + 1) (w.heap.size + 1 + 1) s (hitV x (alA CB p)) lv rv A) ∧ ∀ e ∈ alA CB p, e.v ≤ x)
    (fun c p s A => c = .ret ∧ ∃ lv pre y q rest, OI U fb hd bv iv rd (w.heap.size + 1 + 1 + 1) (w.heap.size + 1 + 1) s (hitV x (alA CB pre ++ q)) lv lv A ∧ p = pre ++ [y] ∧ ents ⟨y.toArray⟩ 0 CB = q ++ rest ∧ (∃ e r, rest = e :: r ∧ x < e.v) ∧ ∀ e ∈ alA CB pre ++ q, e.v ≤ x)
    (fun p s A s' B h ht => by obtain ⟨⟨lv, rv, o⟩, h2⟩ := h; exact ⟨⟨lv, rv, o.tr ht⟩, h2⟩)
    (fun c p s A s' B h ht => by obtain ⟨h1, lv, pre, y, q, rest, o, h2⟩ := h; exact ⟨h1, lv, pre, y, q, rest, o.tr ht, h2⟩)
    (fun z A B row h hg hr => by obtain ⟨⟨lv, rv, o⟩, h2⟩ := h; exact ⟨⟨lv, rv, o.grown hg hr⟩, h2⟩)
    (fun c z A B row h hg hr => by obtain ⟨h1, lv, pre, y, q, rest, o, h2⟩ := h; exact ⟨h1, lv, pre, y, q, rest, o.grown hg hr, h2⟩)
    ⟨⟨_, _, o0⟩, fun e he => by cases he⟩
    (fun y a' A => a' = { tmps := #[Pt fb, .int .i64 x, .pointer (some ⟨w.heap.size, 0, none⟩), .pointer (some ⟨w.heap.size + 1, 0, none⟩), .pointer (some ⟨w.heap.size + 1 + 1, 0, none⟩), .pointer (some ⟨w.heap.size + 1 + 1 + 1, 0, none⟩), sv y, undef, Pt fb, .bool false, Pt fb, .int .i64 x, .agg #[.int .i64 x, .string ⟨#[]⟩, .int .i64 (-1), .int .i64 0, .bool false], .func (.func 54) #[] #[Pt U0.heap.size, Pt (U0.heap.size + 1)], sv y, undef, undef, undef, undef, undef, undef, undef, undef, undef, undef, undef, undef, undef, undef, undef, undef, undef, undef, undef], defers := [] })
    (fun x a' s A B row h hg hr => h) ?assign ?body ?done ?stop
  case assign =>
    intro lp p y s A K hI hx hK
    gi_wp2
    exact hK _ _ (KeepsFrom.refl _ _) ⟨Nat.le_refl _, fun _ _ _ _ _ h => h⟩ hI rfl
  case body =>
    rintro lp p y s a' A hlp ⟨rc, hrc⟩ ⟨⟨lv, rv, o⟩, hle⟩ rfl hy
    obtain ⟨X, hX⟩ : ∃ X : ByteArray, X = ⟨y.toArray⟩ := ⟨_, rfl⟩
    have hyX : sv y = .string X := by rw [hX]
    have HX := Hid.mk hX
    clear hX
    have hlow : ∀ k, k < U.heap.size → k ≠ w.heap.size + 1 + 1 + 1 → k ≠ w.heap.size + 1 + 1 → k ≠ fb → A.heap[k]? = U.heap[k]? := fun k h1 h2 h3 h4 => o.stay.block k h1 (fun e => by rcases e with e | e | e <;> omega)
    have fs := FS.out.1
    have gs := FS.out.2
    have a1 : A.heap[w.heap.size]? = _ := (hlow _ (by omega) (by omega) (by omega) (by omega)).trans u1
    have a2 : A.heap[w.heap.size + 1]? = _ := (hlow _ (by omega) (by omega) (by omega) (by omega)).trans u2
    have c1 := boxc (A := A) a1 rfl
    have cb1 := hcb (rd + s) A o.file
    have HY := Hid.mk (And.intro hy hrc)
    rw [hyX]
    clear fs gs hrc hy hyX hlow
    gi_wp2_with fail
    refine ⟨trivial, (CallsIn.inRound lp (callsIn_wide.2 cb1)).mono ?_⟩
    rintro r A1 ⟨rfl, rfl⟩
    gi_wp2_with fail
    refine ⟨trivial, (CallsIn.inRound lp (callsIn_wide.2 (entries_any X CB A1))).mono ?_⟩
    rintro r A2 ⟨rfl, hA2⟩
    obtain ⟨b2, e1, e2, es⟩ := two_new A1 _ _ hA2
    have v2 : A2.heap[w.heap.size + 1]? = _ := (b2.block _ (Array.getElem?_eq_some_iff.1 a2).1).trans a2
    have hlr : A2.heap[lp]? = some (.loop rc) := (b2.block _ (Array.getElem?_eq_some_iff.1 HY.out.2).1).trans HY.out.2
    have hXl : X.size < 1152921504606846976 := by
      have h1 : y ∈ bl := List.mem_of_mem_drop (HY.out.1.1.subset (by simp))
      obtain ⟨i, hi, hyi⟩ := List.getElem_of_mem h1
      have h2 : bl[i].length + 14 ≤ (bl.map (·.length + 14)).sum := mem_sum bl i hi
      rw [HX.out, ba_len]; rw [hyi] at h2; omega
    have hseq2 := entries_st X CB A1.heap.size (A1.heap.size + 1) 6 (fun k => k = A1.heap.size ∨ k = A1.heap.size + 1) A2 e1 e2 ⟨.inl rfl, .inr rfl⟩ (fun k hk => by
      rcases hk with rfl | rfl
      · exact ⟨_, _, _, e1⟩
      · exact ⟨_, _, _, e2⟩) hXl hCB2
    have hBo : A2.heap[w.heap.size + 1 + 1 + 1]? = _ := (b2.block _ (Array.getElem?_eq_some_iff.1 o.box).1).trans o.box
    have hBr : A2.heap[w.heap.size + 1 + 1]? = _ := (b2.block _ (Array.getElem?_eq_some_iff.1 o.res).1).trans o.res
    have a0 : AI A2 (w.heap.size + 1 + 1 + 1) lv (hitV x (alA CB p) ++ hitV x []) lv none A2 :=
      { lt := (Array.getElem?_eq_some_iff.1 hBo).1, box := hBo, row := by rw [show hitV x [] = [] from rfl, List.append_nil]; exact row_kept (F := fun _ => False) o.row (.below b2) (fun _ _ e => e), stay := .refl _ _, loc := fun k hk => .inl hk, own := fun k hk => by cases hk }
    have ES := Hid.mk es
    clear hA2 es cb1 c1 a1 a2
    gi_wp2_with fail
    refine wpIn_rangeFunc_stN (l₀ := lp) rfl hlr (by omega) (gf := 53) (lb := #[Pt A1.heap.size, Pt (A1.heap.size + 1)]) rfl trivial (enters_of Tryz.func53 (by kernel_rfl) rfl) hseq2 (fun _ _ _ _ h => h.others) KpB.trans (fun s A l o o' _ h ho _ => KpB.put s A l o o' h ho) (fun _ => rfl)
      (fun p2 s2 B => (∃ lv', AI A2 (w.heap.size + 1 + 1 + 1) lv (hitV x (alA CB p) ++ hitV x p2) lv' s2 B) ∧ ∀ e ∈ p2, e.v ≤ x)
      (fun c p2 s2 B => c = .ret ∧ ∃ lv' q e, AX A2 (w.heap.size + 1 + 1 + 1) (w.heap.size + 1 + 1) lv (hitV x (alA CB p) ++ hitV x q) lv' s2 B ∧ p2 = q ++ [e] ∧ p2 <+: ents X 0 CB ∧ x < e.v ∧ ∀ e ∈ q, e.v ≤ x)
      (fun p s A s' B h ht => by obtain ⟨⟨lv', hA⟩, h2⟩ := h; exact ⟨⟨lv', hA.tr ht⟩, h2⟩)
      (fun c p s A s' B h ht => by obtain ⟨h1, lv', q, e, hA, h2⟩ := h; exact ⟨h1, lv', q, e, hA.tr ht, h2⟩)
      (fun z A B row h hg hr => by obtain ⟨⟨lv', hA⟩, h2⟩ := h; exact ⟨⟨lv', hA.grown hg hr⟩, h2⟩)
      (fun c z A B row h hg hr => by obtain ⟨h1, lv', q, e, hA, h2⟩ := h; exact ⟨h1, lv', q, e, hA.grown hg hr, h2⟩)
      ⟨⟨lv, a0⟩, fun e he => by cases he⟩
      (fun e a' B => ∃ Bx, A2.heap.size ≤ Bx ∧ B.heap[Bx]? = some (.cells (enV e) 38 (0, 0)) ∧ a' = { tmps := #[Pt fb, .int .i64 x, .pointer (some ⟨w.heap.size, 0, none⟩), .pointer (some ⟨w.heap.size + 1, 0, none⟩), .pointer (some ⟨w.heap.size + 1 + 1, 0, none⟩), .pointer (some ⟨w.heap.size + 1 + 1 + 1, 0, none⟩), .string X, Pt Bx, Pt fb, .bool false, Pt fb, .int .i64 x, .agg #[.int .i64 x, .string ⟨#[]⟩, .int .i64 (-1), .int .i64 0, .bool false], .func (.func 54) #[] #[Pt U0.heap.size, Pt (U0.heap.size + 1)], .string X, .string X, Pt fb, .int .i64 CB, .func (.func 53) #[] #[Pt A1.heap.size, Pt (A1.heap.size + 1)], .agg (enV e), undef, undef, undef, undef, undef, undef, undef, undef, undef, undef, undef, undef, undef, undef], defers := [] })
      (fun x a' s A B row h hg hr => by
        obtain ⟨Bx, h1, h2, h3⟩ := h
        refine ⟨Bx, h1, (hg.block Bx (Array.getElem?_eq_some_iff.1 h2).1 (fun e => ?_)).trans h2, h3⟩
        obtain ⟨-, o, ho, hc⟩ := hr Bx e.symm
        rw [h2] at ho; cases ho; cases hc) ?iassign ?ibody ?idone ?istop
    case iassign =>
      rintro lq p2 e s2 B K ⟨⟨lv', hA⟩, h2⟩ hx hK
      simp only [encE]
      gi_wp2
      have bA : Below B.heap.size B (B.alloc (.cells (enV e) 38)) := (Below.refl _ B).alloc (Nat.le_refl _) _
      exact hK _ _ ((KeepsOthers.alloc _ _).from _) ⟨bA.size, fun k c t m _ h => (bA.block k (Array.getElem?_eq_some_iff.1 h).1).trans h⟩ ⟨⟨lv', hA.below bA⟩, h2⟩ ⟨B.heap.size, hA.stay.size, heap_alloc_last B _, rfl⟩
    case ibody =>
      rintro lq p2 e s2 a' B hlq ⟨rc2, hrc2⟩ ⟨⟨lv', hA⟩, hle2⟩ ⟨Bx, hBu, hBx, rfl⟩ hx
      obtain ⟨x0, x1, x2, x3, x4⟩ := en5 hBx
      have c0 := boxc (A := B) hA.box rfl
      have fs := FS.out.1
      have gs := FS.out.2
      have hus := o.stay.size
      have hlowB : ∀ k, k < U.heap.size → k ≠ w.heap.size + 1 + 1 + 1 → B.heap[k]? = A2.heap[k]? := fun k h1 h2 => hA.stay.block k (by have := b2.size; omega) (fun e => by
        rcases e with e | e
        · exact h2 e
        · have := o.loc _ e; omega)
      have y2 : B.heap[w.heap.size + 1]? = _ := (hlowB _ (by omega) (by omega)).trans v2
      have y3 : B.heap[w.heap.size + 1 + 1]? = _ := (hlowB _ (by omega) (by omega)).trans hBr
      have cv := boxc (A := B) y2 rfl
      have cr := boxc (A := B) y3 rfl
      have fr3 : B.frozen? ⟨w.heap.size + 1 + 1, 0, none⟩ = false := frozen_of_row _ _ _ _ _ y3
      have fr0 : B.frozen? ⟨w.heap.size + 1 + 1 + 1, 0, none⟩ = false := frozen_of_row _ _ _ _ _ hA.box
      have hBrU : w.heap.size + 1 + 1 < A2.heap.size := (Array.getElem?_eq_some_iff.1 hBr).1
      have hA1s : U.heap.size ≤ A1.heap.size := hus
      have kK : ∀ k, (k = A1.heap.size ∨ k = A1.heap.size + 1) → k ≠ w.heap.size + 1 + 1 + 1 ∧ k ≠ w.heap.size + 1 + 1 ∧ lv'.ownBlock ≠ some k := fun k hk => by
        refine ⟨by omega, by omega, fun e => ?_⟩
        rcases hA.loc k e with e | e
        · have := row_lt o.row e; omega
        · have := ES.out; omega
      clear fs gs hus hA1s
      obtain ⟨qa, qc, hlv, -⟩ := slice_form hA.row
      obtain ⟨n5, hn5⟩ : ∃ n5, n5 = (hitV x (alA CB p) ++ hitV x p2).length := ⟨_, rfl⟩
      rw [← hn5] at hlv
      by_cases h1 : x < e.v
      · obtain ⟨hX2, st2⟩ := hA.ret (Br := w.heap.size + 1 + 1) (by omega) hBrU y3
        have kp2 : KpB (fun k => k = A1.heap.size ∨ k = A1.heap.size + 1) s2 B (B.setCell ⟨w.heap.size + 1 + 1, 0, none⟩ lv') := ⟨st2.size, fun k c t m hk hh => (st2.block k (Array.getElem?_eq_some_iff.1 hh).1 (fun e => by
          rcases hk with hk | hk
          · exact (kK k hk).2.1 e
          · have := (hA.own k hk).1; omega)).trans hh⟩
        have ko2 : KeepsOthers B (B.setCell ⟨w.heap.size + 1 + 1, 0, none⟩ lv') := KeepsOthers.setCell _ _ _
        have h1d : decide (x < e.v) = true := decide_eq_true h1
        have HR := Hid.mk (And.intro hX2 (And.intro kp2 (And.intro ko2 (And.intro h1 (And.intro hx hle2)))))
        rw [hlv] at c0
        have HL := Hid.mk hlv
        clear hX2 st2 kp2 ko2 hA hle2 hle o a0 hseq2 hlowB kK hx hBx y2 y3 hBo hBr hn5 hlv h1
        gi_wp2
        obtain ⟨hX2, kp2, ko2, h1, hx, hle2⟩ := HR.out
        rw [← HL.out]
        exact ⟨ko2.from _, kp2, rfl, lv', p2, e, hX2, rfl, hx, h1, hle2⟩
      · have h1d : decide (x < e.v) = false := decide_eq_false h1
        have hle3 : ∀ e' ∈ p2 ++ [e], e'.v ≤ x := fun e' he' => by
          rcases List.mem_append.1 he' with h | h
          · exact hle2 e' h
          · simp at h; subst h; omega
        by_cases h2 : e.v = x
        · have hh : hitV x (p2 ++ [e]) = hitV x p2 ++ [e] := by
            unfold hitV
            rw [List.filter_append]
            simp [h2]
          have h2d : (e.v == x) = true := by rw [h2]; simp
          have hpx : p2.length + 1 ≤ (ents X 0 CB).length := by have := hx.length_le; simpa using this
          have hlen : (hitV x (alA CB p) ++ hitV x p2).length + 1 ≤ 1099511627776 := by
            have l1 := len_lim CB bl hs q0 p y HY.out.1.1
            rw [← HX.out] at l1
            have l2 : (hitV x (alA CB p)).length ≤ (alA CB p).length := List.length_filter_le _ _
            have l3 : (hitV x p2).length ≤ p2.length := List.length_filter_le _ _
            rw [List.length_append]
            have l4 : (alA CB p).length + (ents X 0 CB).length ≤ ((alA CB p).length + (ents X 0 CB).length) * (CB + 7) := Nat.le_mul_of_pos_right _ (by omega)
            omega
          obtain ⟨v', V5, hap, ho5, st5, loc5⟩ := en_app B _ _ hA.row e hlen
          obtain ⟨hA6, st6⟩ := hA.app ho5 st5 loc5
          have hb5 : V5.heap[w.heap.size + 1 + 1 + 1]? = _ := (st5.block _ (Array.getElem?_eq_some_iff.1 hA.box).1 (fun e => hA.row_lb e rfl)).trans hA.box
          have z0 := boxc (A := V5) hb5 rfl
          have zf : V5.frozen? ⟨w.heap.size + 1 + 1 + 1, 0, none⟩ = false := frozen_of_row _ _ _ _ _ hb5
          obtain ⟨kp, ko⟩ := hA.kp (K := fun k => k = A1.heap.size ∨ k = A1.heap.size + 1) st6 (fun k hk => ⟨(kK k hk).1, (kK k hk).2.2⟩)
          obtain ⟨ra, rc5, hra, -⟩ := slice_form ho5
          obtain ⟨m5, hm5⟩ : ∃ m5, m5 = (hitV x (alA CB p) ++ hitV x p2 ++ [e]).length := ⟨_, rfl⟩
          rw [← hm5] at hra
          have HR := Hid.mk (And.intro hA6 (And.intro kp (And.intro ko (And.intro hle3 (And.intro hh hra)))))
          rw [hra, hlv] at hap
          rw [hlv] at c0 z0
          clear hA6 kp ko hA hle2 hle3 hle o a0 hseq2 hlowB kK hx hBx y2 y3 hBo hBr st6 ho5 st5 loc5 hb5 hpx hlen hh hra hm5 hlv hn5 h2 h1
          gi_wp2_with (gi_at_builtin; refine wpListIn_append_eq rfl _ _ _ _ rfl _ _ _ _ rfl rfl hap ?_)
          obtain ⟨hA6, kp, ko, hle3, hh, hra⟩ := HR.out
          rw [← hra]
          refine ⟨ko.from _, kp, ⟨v', ?_⟩, hle3⟩
          rw [hh, ← List.append_assoc]
          exact hA6
        · have hh : hitV x (p2 ++ [e]) = hitV x p2 := by
            unfold hitV
            rw [List.filter_append]
            simp [h2]
          have h2d : (e.v == x) = false := by apply beq_false_of_ne; exact h2
          have HR := Hid.mk (And.intro hA (And.intro hle3 hh))
          clear hA hle2 hle3 hle o a0 hseq2 hlowB kK hx hBx y2 y3 hBo hBr hh hlv hn5 h2 h1
          gi_wp2
          obtain ⟨hA, hle3, hh⟩ := HR.out
          refine ⟨KeepsFrom.refl _ _, ⟨Nat.le_refl _, fun _ _ _ _ _ h => h⟩, ⟨lv', ?_⟩, hle3⟩
          rw [hh]
          exact hA
    case idone =>
      rintro p2 s2 B hS ⟨⟨lv', hA⟩, hle2⟩
      subst hS
      have fs := FS.out.1
      have gs := FS.out.2
      have st : Stay (fun k => k = w.heap.size + 1 + 1 + 1 ∨ k = w.heap.size + 1 + 1 ∨ lv.ownBlock = some k) A1 B := (Stay.below b2).trans (hA.stay.mono (fun k _ e => by
        rcases e with e | e
        · exact .inl e
        · exact .inr (.inr e)))
      have hus := o.stay.size
      have hbr : B.heap[w.heap.size + 1 + 1]? = _ := (hA.stay.block _ (Array.getElem?_eq_some_iff.1 hBr).1 (fun e => by
        rcases e with e | e
        · omega
        · have := o.loc _ e; omega)).trans hBr
      obtain ⟨o2, ko, kp⟩ := o.step st hA.box hbr hA.row (fun k hk => by
        rcases hA.loc k hk with e | e
        · exact .inl e
        · exact .inr (Nat.le_trans b2.size e))
      have kp2 := kp (fun k => k = U0.heap.size ∨ k = fb ∨ bv.ownBlock = some k) (fun k hk => by
        rcases hk with e | e | e
        · omega
        · omega
        · have := row_lt H.row e; omega)
      have hap : hitV x (alA CB p) ++ hitV x (ents X 0 CB) = hitV x (alA CB (p ++ [y])) := by rw [alA_snoc, hitV_app, HX.out]
      rw [hap] at o2
      have hle3 : ∀ e ∈ alA CB (p ++ [y]), e.v ≤ x := fun e he => by
        rw [alA_snoc] at he
        rcases List.mem_append.1 he with h | h
        · exact hle e h
        · rw [← HX.out] at h; exact hle2 e h
      have HR := Hid.mk (And.intro o2 (And.intro ko (And.intro kp2 hle3)))
      clear o2 ko kp2 kp hle3 hap hbr st hA hle2 fs gs hus a0 hseq2 hBo hBr o hle
      gi_wp2
      exact ⟨HR.out.2.1.from _, HR.out.2.2.1, ⟨lv', rv, HR.out.1⟩, HR.out.2.2.2⟩
    case istop =>
      rintro c p2 s2 B _ ⟨rfl, lv', q, e, hA, hp2, hpre, hxe, hle2⟩
      have fs := FS.out.1
      have gs := FS.out.2
      have st : Stay (fun k => k = w.heap.size + 1 + 1 + 1 ∨ k = w.heap.size + 1 + 1 ∨ lv.ownBlock = some k) A1 B := (Stay.below b2).trans hA.stay
      obtain ⟨o2, ko, kp⟩ := o.step st hA.box hA.res hA.row (fun k hk => by
        rcases hA.loc k hk with e | e
        · exact .inl e
        · exact .inr (Nat.le_trans b2.size e))
      have kp2 := kp (fun k => k = U0.heap.size ∨ k = fb ∨ bv.ownBlock = some k) (fun k hk => by
        rcases hk with e | e | e
        · omega
        · omega
        · have := row_lt H.row e; omega)
      obtain ⟨rr, hrr⟩ := hpre
      rw [hp2] at hrr
      have hfin : ∃ lv pre y' q rest, OI U fb hd bv iv rd (w.heap.size + 1 + 1 + 1) (w.heap.size + 1 + 1) s (hitV x (alA CB pre ++ q)) lv lv B ∧ p ++ [y] = pre ++ [y'] ∧ ents ⟨y'.toArray⟩ 0 CB = q ++ rest ∧ (∃ e r, rest = e :: r ∧ x < e.v) ∧ ∀ e ∈ alA CB pre ++ q, e.v ≤ x :=
        ⟨lv', p, y, q, e :: rr, by rw [hitV_app]; exact o2, rfl, by rw [← HX.out, ← hrr]; simp, ⟨e, rr, rfl, hxe⟩, fun e' he' => by
          rcases List.mem_append.1 he' with h | h
          · exact hle e' h
          · exact hle2 e' h⟩
      have HR := Hid.mk (And.intro hfin (And.intro ko kp2))
      clear hfin o2 ko kp2 kp st hA hle2 fs gs a0 hseq2 hBo hBr o hle hrr hp2
      gi_wp2
      exact ⟨HR.out.2.1.from _, HR.out.2.2, rfl, HR.out.1⟩
  case done =>
    rintro D p s A hD ⟨hS, hS2⟩ ⟨⟨lv, rv, o⟩, hle⟩ hdef
    have st0 : Stay (fun k => k = w.heap.size + 1 + 1) A (A.setCell ⟨w.heap.size + 1 + 1, 0, none⟩ lv) := stay1 _ _ _ _ _ (.refl _ _)
    have o2 : OI U fb hd bv iv rd (w.heap.size + 1 + 1 + 1) (w.heap.size + 1 + 1) s (hitV x (alA CB p)) lv lv (A.setCell ⟨w.heap.size + 1 + 1, 0, none⟩ lv) :=
      { num := o.num, box := (st0.block _ (Array.getElem?_eq_some_iff.1 o.box).1 (by omega)).trans o.box, res := by rw [heap_setCell_same A _ 0 _ _ _ o.res]; rfl, row := row_kept o.row st0 (fun k hk e => by
          obtain ⟨c, hc⟩ := row_block o.row hk
          rw [e, o.res] at hc; simp at hc), file := (st0.block _ (Array.getElem?_eq_some_iff.1 o.file).1 o.num.2.1).trans o.file, stay := o.stay.andThen st0 (fun k _ e => .inr (.inl e)), loc := o.loc }
    have hd2 : (A.setCell ⟨w.heap.size + 1 + 1, 0, none⟩ lv).heap[D]? = some (.deferred (some [])) := (st0.block D (Array.getElem?_eq_some_iff.1 hdef).1 (fun e => by
      have := o.num.2.2.2.2.2; omega)).trans hdef
    have c0 := boxc (A := A) o.box rfl
    have c1 := boxc (A := A) o.res rfl
    have cf : A.frozen? ⟨w.heap.size + 1 + 1, 0, none⟩ = false := frozen_of_row _ _ _ _ _ o.res
    obtain ⟨qa, qc, hlv, -⟩ := slice_form o.row
    have hF : FndO CB x (bl.drop q0) s (hitV x (alA CB p)) := .inl ⟨by rw [hS2, hS], by rw [← hS]; exact hle, by rw [← hS]⟩
    have fin : ∀ (tmps : Array Value) (hres : ∀ w', w'.cell? ⟨w.heap.size + 1 + 1, 0, none⟩ = some lv → (results Tryz.f15 tmps).run Tryz.prog w' = .ok lv w'), LeavesInM Fence.wide 9 Tryz.prog Tryz.f15 tmps (fun r w' => ∃ v t L, r = .returned v ∧ FndO CB x (bl.drop (rF ix ⟨x, ⟨#[]⟩, -1, 0, false⟩ - 1)) t L ∧ w'.ownsRow 0 38 5 v L.length (L.flatMap enC) ∧ (∀ k, v.ownBlock = some k → w.heap.size ≤ k) ∧ FA w' fb hd bl ix bv iv (rd + t) ∧ Stay (fun k => k = fb) w w') (markL [D]) .returning (A.setCell ⟨w.heap.size + 1 + 1, 0, none⟩ lv) := fun tmps hres =>
      leaves_marks lv [D] _ (fun D' h' => by simp at h'; subst h'; exact hd2) (by simp) (fun w' st => by
        obtain ⟨k1, k2, k3, k4, k5⟩ := o2.fin H bU (by omega) (by omega) hD hd2 st
        exact ⟨hres w' k1, lv, s, _, rfl, by rw [HQ.out]; exact hF, k2, k3, k4, k5⟩)
    have HR := Hid.mk fin
    have HL := Hid.mk hlv
    obtain ⟨n5, hn5⟩ : ∃ n5, n5 = (hitV x (alA CB p)).length := ⟨_, rfl⟩
    rw [hlv, ← hn5] at c0
    rw [← hn5] at HL
    clear fin hlv o2 hd2 hF st0 o hle hS hS2 hn5 hseq o0
    gi_wp2
    rw [← HL.out]
    exact HR.out _ (fun w' hc => by simp [results, Tryz.results15, go_sem, hc])
  case stop =>
    rintro D c p s A hD ⟨hS, hS2⟩ ⟨rfl, lv, pre, y, q, rest, o, hp, he, hr, hle⟩ hdef
    have hF : FndO CB x (bl.drop q0) s (hitV x (alA CB pre ++ q)) := .inr ⟨pre, y, q, rest, by rw [← hp]; exact hS, by rw [hS2, hp]; simp, he, hr, hle, rfl⟩
    have fin : ∀ (tmps : Array Value) (hres : ∀ w', w'.cell? ⟨w.heap.size + 1 + 1, 0, none⟩ = some lv → (results Tryz.f15 tmps).run Tryz.prog w' = .ok lv w'), LeavesInM Fence.wide 9 Tryz.prog Tryz.f15 tmps (fun r w' => ∃ v t L, r = .returned v ∧ FndO CB x (bl.drop (rF ix ⟨x, ⟨#[]⟩, -1, 0, false⟩ - 1)) t L ∧ w'.ownsRow 0 38 5 v L.length (L.flatMap enC) ∧ (∀ k, v.ownBlock = some k → w.heap.size ≤ k) ∧ FA w' fb hd bl ix bv iv (rd + t) ∧ Stay (fun k => k = fb) w w') (markL [D]) .returning A := fun tmps hres =>
      leaves_marks lv [D] _ (fun D' h' => by simp at h'; subst h'; exact hdef) (by simp) (fun w' st => by
        obtain ⟨k1, k2, k3, k4, k5⟩ := o.fin H bU (by omega) (by omega) hD hdef st
        exact ⟨hres w' k1, lv, s, _, rfl, by rw [HQ.out]; exact hF, k2, k3, k4, k5⟩)
    have HR := Hid.mk fin
    clear fin hF o hle hS hS2 hseq o0 he hr hp
    gi_wp2
    exact HR.out _ (fun w' hc => by simp [results, Tryz.results15, go_sem, hc])
end Go.Proofs.YtjdpolhjbkpnlaaGreatDoor
