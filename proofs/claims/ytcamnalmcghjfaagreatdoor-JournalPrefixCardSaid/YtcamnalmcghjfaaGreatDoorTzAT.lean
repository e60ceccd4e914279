/-
  DERIVED. JLook2, JSm, as one text.
-/
import Derived.Test.YtcamnalmcghjfaaGreatDoorTzAS
import Derived.BigRegionIn
import Derived.Test.YtcamnalmcghjfaaGreatDoorTzAQ
set_option linter.unusedVariables false
set_option linter.unusedSimpArgs false
namespace Go.Proofs.YtcamnalmcghjfaaGreatDoor
open Go.RowKit Go.Shelf Go.Proofs.SealMath Go.Proofs.DiskMath
attribute [local go_sem] Oper.semAt_some
/-- Does each have the number behind the one ahead? -/
def okB : Nat → List (Up × Nat) → Bool
  | _, [] => true
  | s, z :: r => z.1.s == s + 1 && okB (s + 1) r
theorem okB_iff : ∀ (l : List (Up × Nat)) (s : Nat), okB s l = true ↔ okU s l
  | [], s => ⟨fun _ => okU_nil s, fun _ => rfl⟩
  | z :: r, s => by
    simp only [okB, Bool.and_eq_true, beq_iff_eq, okB_iff r (s + 1)]
    constructor
    · rintro ⟨h1, h2⟩ i y hy
      cases i with
      | zero => simp at hy; subst hy; omega
      | succ i => have := h2 i y (by simpa using hy); omega
    · intro h
      refine ⟨h 0 z rfl, fun i y hy => ?_⟩
      have := h (i + 1) y (by simpa using hy)
      omega
/-- What Look tells of a file's bytes. -/
def lkL (b : ByteArray) (s x : Int) : List (Up × Nat) := if jcE 9 s x = 0 then (if okB s.toNat (ups b x 0) = true then ups b x 0 else []) else []
def lkE (b : ByteArray) (s x : Int) : Int := if jcE 9 s x = 0 then (if okB s.toNat (ups b x 0) = true then 0 else 80) else jcE 9 s x
def LkO (b : ByteArray) (s x : Int) (w : World) (r : Ending) (w' : World) : Prop := ∃ v, r = .returned (.tuple #[v, .int .i64 (endU (lkL b s x) : Nat), .int .i64 (lkE b s x)]) ∧ w'.ownsRow 0 32 4 v (lkL b s x).length (lsU (lkL b s x)) ∧ (∀ k, v.ownBlock = some k → w.heap.size ≤ k) ∧ Below w.heap.size w w'
theorem alloc_oldU (W : World) (o : Obj) (k : Nat) (hk : k < W.heap.size) : (W.alloc o).heap[k]? = W.heap[k]? := Below.heap_alloc W o k hk
theorem two_newU {V : World} (W : World) (o1 o2 : Obj) (h : V = (W.alloc o1).alloc o2) : Below W.heap.size W V ∧ V.heap[W.heap.size]? = some o1 ∧ V.heap[W.heap.size + 1]? = some o2 ∧ V.heap.size = W.heap.size + 2 := by
  subst h
  refine ⟨((Below.refl _ W).alloc (Nat.le_refl _) _).alloc (by simp) _, ?_, ?_, by simp⟩
  · rw [alloc_oldU _ _ _ (by simp)]; exact World.alloc_heap_new W o1
  · have := World.alloc_heap_new (W.alloc o1) o2
    rw [World.size_alloc] at this; exact this
theorem four_newU {V : World} (W : World) (o1 o2 o3 o4 : Obj) (h : V = (((W.alloc o1).alloc o2).alloc o3).alloc o4) : Below W.heap.size W V ∧ V.heap[W.heap.size]? = some o1 ∧ V.heap[W.heap.size + 1]? = some o2 ∧ V.heap[W.heap.size + 1 + 1]? = some o3 ∧ V.heap[W.heap.size + 1 + 1 + 1]? = some o4 ∧ V.heap.size = W.heap.size + 4 := by
  obtain ⟨b1, h1, h2, s1⟩ := two_newU W o1 o2 rfl
  obtain ⟨b2, h3, h4, s2⟩ := two_newU ((W.alloc o1).alloc o2) o3 o4 h
  rw [s1] at h3 h4 s2
  exact ⟨chain b1 b2 (Nat.le_refl _), (b2.block _ (by omega)).trans h1, (b2.block _ (by omega)).trans h2, h3, h4, s2⟩
theorem neqS {zs S q N : Nat} (hz : ¬ zs = S + q + 1) (hN : N = S + q) : ((zs : Int) != (N : Int) + 1) = true := by
  have h : ¬ ((zs : Int) = (N : Int) + 1) := by omega
  simpa using h
theorem eqS {zs S q N : Nat} (hz : zs = S + q + 1) (hN : N = S + q) : ((zs : Int) != (N : Int) + 1) = false := by
  have h : ((zs : Int) = (N : Int) + 1) := by omega
  simpa using h
theorem bnd40 {q L bs : Nat} (h2 : q + 1 ≤ L) (h3 : L * 14 + 0 ≤ bs) (h4 : bs ≤ 1073741824) : q + 1 ≤ 1099511627776 := by omega
theorem wrapS (N : Nat) (h : N ≤ 2305843009213693952) : wrap64 ((N : Int) + 1) = (N : Int) + 1 := by unfold wrap64; omega
theorem bndS {S q L bs : Nat} (h1 : (S : Int) ≤ 1152921504606846976) (h2 : q + 1 ≤ L) (h3 : L * 14 + 0 ≤ bs) (h4 : bs < 1152921504606846976) : S + q ≤ 2305843009213693952 := by omega
theorem jc0 {s x : Int} (h : jcE 9 s x = 0) : isW x = true ∧ 0 ≤ s ∧ s ≤ 1152921504606846976 := by
  unfold jcE at h
  split at h
  · split at h
    · split at h
      · rename_i h2 h3
        exact ⟨h2, by omega⟩
      · omega
    · omega
  · omega
set_option maxHeartbeats 4000000 in
set_option maxRecDepth 100000 in
theorem look_yes {p mb : Nat} {es : List Ent} {c : Dk.Ctl} {e : Ent} (s x : Int) (w : World) (h : Dk.DK w p mb es c) (hf : findE es (nmT 9).data.toList = some e) (h0 : Dk.fdE es c (nmT 9).data.toList = 0) (hl : e.da.length ≤ 1073741824) (ht : Tab w) (hp : Pow w) :
    Calls Tryz.prog 34 #[Pt p, .int .i64 9, .int .i64 s, .int .i64 x] w (LkO ⟨e.da.toArray⟩ s x w) := by
  refine (callsIn_wide (n := 9)).1 ?_
  refine callsIn_of_wp_marks Tryz.func34 rfl trivial ?_ rfl
  simp only [Tryz.ntmps34, List.size_toArray, List.length_cons, List.length_nil, Nat.reduceAdd, Nat.reduceSub, Array.replicate_succ, Array.replicate_zero, List.push_toArray, List.append_toArray, List.nil_append, List.cons_append]
  obtain ⟨V, hV⟩ : ∃ V, V = (((w.alloc (.cells #[.int .i64 s] 3)).alloc (.cells #[.slice none 0 0] 33)).alloc (.cells #[.int .i64 0] 3)).alloc (.cells #[.int .i64 0] 27) := ⟨_, rfl⟩
  obtain ⟨bV, vs, v8, v9, v10, sV⟩ := four_newU w _ _ _ _ hV
  have hck := jcheck_any 9 s x V
  have HV := Hid.mk hV
  by_cases hE : jcE 9 s x = 0
  · obtain ⟨hW, hs0⟩ := jc0 hE
    obtain ⟨S, hS⟩ : ∃ S : Nat, s = S := ⟨s.toNat, by omega⟩
    subst hS
    have eL : lkL ⟨e.da.toArray⟩ S x = if okB S (ups ⟨e.da.toArray⟩ x 0) = true then ups ⟨e.da.toArray⟩ x 0 else [] := by unfold lkL; rw [if_pos hE]; rfl
    have eE : lkE ⟨e.da.toArray⟩ S x = if okB S (ups ⟨e.da.toArray⟩ x 0) = true then 0 else 80 := by unfold lkE; rw [if_pos hE]; rfl
    rw [hE] at hck
    obtain ⟨B, hB⟩ : ∃ B : ByteArray, B = ⟨e.da.toArray⟩ := ⟨_, rfl⟩
    rw [← hB] at eL eE ⊢
    have hBs : B.size ≤ 1073741824 := by rw [hB, ba_len]; simp; omega
    have hnm := name_any 9 V (hp.lat bV)
    have hwh := fun (W : World) (b : Below w.heap.size w W) => whole_yes (nmT 9) W (h.below b) hf h0 (by omega)
    rw [← hB] at hwh
    have HE := Hid.mk (And.intro eL (And.intro eE (And.intro hBs (And.intro hs0 (And.intro ht bV)))))
    have HX := Hid.mk (And.intro vs (And.intro v8 (And.intro v9 (And.intro v10 sV))))
    clear hE eL eE hB hBs h hf h0 hl ht hp hs0 hW hV vs v8 v9 v10 sV
    gi_wp2_with fail
    rw [← HV.out]
    refine ⟨trivial, (callsIn_wide.2 hck).mono ?_⟩
    clear hck
    rintro r w1 ⟨rfl, rfl⟩
    gi_wp2_with fail
    refine ⟨trivial, (callsIn_wide.2 hnm).mono ?_⟩
    clear hnm
    rintro r w2 ⟨rfl, b2⟩
    have bw2 := chain bV b2 (Nat.le_refl _)
    have hwh2 := hwh w2 bw2
    clear hwh
    gi_wp2_with fail
    refine ⟨trivial, (callsIn_wide.2 hwh2).mono ?_⟩
    clear hwh2
    rintro r w3 ⟨rfl, rfl⟩
    have hud := updates_any B x ((w3.alloc (.cells #[.slice none 0 0] 33)).alloc (.cells #[.int .i64 0] 3))
    gi_wp2_with fail
    refine ⟨trivial, (callsIn_wide.2 hud).mono ?_⟩
    clear hud
    rintro r U ⟨rfl, hU⟩
    obtain ⟨bU, u1, u2, u3, u4, sU⟩ := four_newU w3 _ _ _ _ hU
    clear hU
    have bwU := chain bw2 bU (Nat.le_refl _)
    have h1U := chain b2 bU (Nat.le_refl _)
    have us := (h1U.block _ (Array.getElem?_eq_some_iff.1 HX.out.1).1).trans HX.out.1
    have u8 := (h1U.block _ (Array.getElem?_eq_some_iff.1 HX.out.2.1).1).trans HX.out.2.1
    have u9 := (h1U.block _ (Array.getElem?_eq_some_iff.1 HX.out.2.2.1).1).trans HX.out.2.2.1
    have u10 := (h1U.block _ (Array.getElem?_eq_some_iff.1 HX.out.2.2.2.1).1).trans HX.out.2.2.2.1
    have hz1 := HX.out.2.2.2.2
    have hz2 := b2.size
    have htU : Tab U := HE.out.2.2.2.2.1.lat bwU
    have hg0 := htU.pos
    have hgw := HE.out.2.2.2.2.1.pos
    have hseq := upd_st B x (w3.heap.size + 1 + 1) (w3.heap.size + 1 + 1 + 1) 8 (fun k => k = w3.heap.size + 1 + 1 ∨ k = w3.heap.size + 1 + 1 + 1 ∨ k = 0) U u3 u4 htU ⟨.inl rfl, .inr (.inl rfl), .inr (.inr rfl)⟩ (fun k hk => by
      rcases hk with rfl | rfl | rfl
      · exact ⟨_, _, _, u3⟩
      · exact ⟨_, _, _, u4⟩
      · exact tab_cells htU) (by have := HE.out.2.2.1; omega)
    have hups := ups_len B x (B.size + 1) 0 (by omega) (by omega)
    have a0 : GU U w3.heap.size (w3.heap.size + 1) w.heap.size S [] (.slice none 0 0) U :=
      { ltl := by omega, ltg := by omega, lts := by omega, box := u1, gbx := u2, sbx := us, row := ⟨rfl, .inl ⟨rfl, rfl⟩⟩, stay := .refl _ _, loc := fun k hk => by (simp [Value.ownBlock] at hk), ok := okU_nil S, ne := by omega }
    have HU := Hid.mk (And.intro u8 (And.intro u9 (And.intro u10 (And.intro bwU (And.intro sU (And.intro hz1 (And.intro hz2 hgw)))))))
    clear sU
    gi_wp2_with fail
    refine wpIn_rangeFunc_st rfl (by omega) (gf := 78) (lb := #[Pt (w3.heap.size + 1 + 1), Pt (w3.heap.size + 1 + 1 + 1)]) rfl trivial (enters_of Tryz.func78 (by kernel_rfl) rfl) hseq (fun _ _ _ _ h => h.others) KpN.trans (fun s A l o o' _ h ho _ => KpN.put s A l o o' h ho) (fun _ => rfl)
      (fun p s A => ∃ lv', GU U w3.heap.size (w3.heap.size + 1) w.heap.size S p lv' A)
      (fun c p s A => c = Code.ret ∧ okB S (ups B x 0) = false ∧ A.heap[(w.heap.size + 1)]? = some (.cells #[.slice none 0 0] 33 (0, 0)) ∧ A.heap[(w.heap.size + 1 + 1)]? = some (.cells #[.int .i64 0] 3 (0, 0)) ∧ A.heap[(w.heap.size + 1 + 1 + 1)]? = some (.cells #[.int .i64 80] 27 (0, 0)) ∧ Below w.heap.size w A ∧ U.heap.size ≤ A.heap.size)
      (fun p s A s' B h ht => by obtain ⟨lv', hA⟩ := h; exact ⟨lv', hA.below ht⟩)
      (fun c p s A s' B h ht => by
        obtain ⟨h1, h2, h3, h4, h5, h6, h7⟩ := h
        have ht' : Below A.heap.size A B := ht
        exact ⟨h1, h2, (ht'.block _ (Array.getElem?_eq_some_iff.1 h3).1).trans h3, (ht'.block _ (Array.getElem?_eq_some_iff.1 h4).1).trans h4, (ht'.block _ (Array.getElem?_eq_some_iff.1 h5).1).trans h5, chain h6 ht' (Nat.le_refl _), Nat.le_trans h7 ht'.size⟩)
      (fun z A B row h hg hr => by obtain ⟨lv', hA⟩ := h; exact ⟨lv', hA.grown hg hr⟩)
      (fun c z A B row h hg hr => by
        obtain ⟨h1, h2, h3, h4, h5, h6, h7⟩ := h
        have st : Stay (fun k => row = some k) A B := .grown hg (fun k hk => hk)
        have ne : ∀ k, k < U.heap.size → ¬ row = some k := fun k hk e => by have := (hr k e).1; omega
        have q := HU.out.2.2.2.2
        exact ⟨h1, h2, (st.block _ (Array.getElem?_eq_some_iff.1 h3).1 (ne _ (by omega))).trans h3, (st.block _ (Array.getElem?_eq_some_iff.1 h4).1 (ne _ (by omega))).trans h4, (st.block _ (Array.getElem?_eq_some_iff.1 h5).1 (ne _ (by omega))).trans h5, h6.trans (st.toBelow (fun k hk e => ne k (by omega) e) h6.size), Nat.le_trans h7 st.size⟩)
      ⟨_, a0⟩
      (fun z a' A => ∃ Bx, U.heap.size ≤ Bx ∧ A.heap[Bx]? = some (.cells (upV z.1) 32 (0, 0)) ∧ (∀ lv, A.heap[w3.heap.size]? = some (.cells #[lv] 33 (0, 0)) → lv.ownBlock ≠ some Bx) ∧ a' = { tmps := #[Pt p, .int .i64 9, .int .i64 S, .int .i64 x, undef, undef, .pointer (some ⟨w.heap.size, 0, none⟩), undef, .pointer (some ⟨w.heap.size + 1, 0, none⟩), .pointer (some ⟨w.heap.size + 1 + 1, 0, none⟩), .pointer (some ⟨w.heap.size + 1 + 1 + 1, 0, none⟩), .int .i64 0, .string B, .int .i64 0, .pointer (some ⟨w3.heap.size, 0, none⟩), .pointer (some ⟨w3.heap.size + 1, 0, none⟩), Pt Bx, .int .i64 z.2, .int .i64 9, .int .i64 S, .int .i64 x, .int .i64 0, .int .i64 0, .bool false, undef, .tuple #[.string B, .int .i64 0], Pt p, .int .i64 9, .string (nmT 9), .tuple #[.string B, .int .i64 0], .string B, .int .i64 0, .int .i64 0, .bool false, undef, .string B, .int .i64 x, .func (.func 78) #[] #[Pt (w3.heap.size + 1 + 1), Pt (w3.heap.size + 1 + 1 + 1)], .agg (upV z.1), .int .i64 z.2, undef, undef, undef, undef, undef, undef, undef, undef, undef, undef, undef, undef, undef, undef], defers := [] })
      (fun z a' s A B row h hg hr => by
        obtain ⟨Bx, h1, h2, h4, h3⟩ := h
        have hlt := (Array.getElem?_eq_some_iff.1 h2).1
        have q := HU.out.2.2.2.2.1
        refine ⟨Bx, h1, (hg.block Bx hlt (fun e => ?_)).trans h2, fun lv hlv => h4 lv ((hg.block w3.heap.size (by omega) (fun e => by have := (hr _ e.symm).1; omega)).symm.trans hlv), h3⟩
        obtain ⟨-, o, ho, hc⟩ := hr Bx e.symm
        rw [h2] at ho; cases ho; cases hc) ?assign ?body ?done ?stop
    case assign =>
      rintro lp p z s A K ⟨lv', hA⟩ hx hK
      obtain ⟨⟨zs, zk, zi, zc⟩, ze⟩ := z
      simp only [encU, upV, uC]
      gi_wp2
      have bA : Below A.heap.size A (A.alloc (.cells (upV ⟨zs, zk, zi, zc⟩) 32)) := (Below.refl _ A).alloc (Nat.le_refl _) _
      exact hK _ _ ((KeepsOthers.alloc _ _).from _) ⟨bA.size, fun k c t m _ h => (bA.block k (Array.getElem?_eq_some_iff.1 h).1).trans h⟩ ⟨lv', hA.below bA⟩ ⟨A.heap.size, hA.stay.size, heap_alloc_last A _, fun lv hlv e => by
        have hb := (hA.below bA).box
        rw [hlv] at hb
        simp only [Option.some.injEq, Obj.cells.injEq] at hb
        have hb1 : lv = lv' := by simpa using hb.1
        rw [hb1] at e
        have := row_lt hA.row e
        omega, rfl⟩
    case body =>
      rintro lp p z s a' A hlp ⟨rc, hrc⟩ ⟨lv', hA⟩ ⟨Bx, hBu, hBx, hBl, rfl⟩ hx
      have hBn := hBl _ hA.box
      have hpx : p.length + 1 ≤ (ups B x 0).length := by have := hx.length_le; simpa using this
      have hBs0 := HE.out.2.2.1
      have hBs : B.size < 1152921504606846976 := Nat.lt_of_le_of_lt hBs0 (by decide)
      have hS := HE.out.2.2.2.1
      clear hBl
      obtain ⟨qa, qc, rfl, -⟩ := slice_form hA.row
      obtain ⟨⟨zs, zk, zi, zc⟩, ze⟩ := z
      have x0 : A.cell? ⟨Bx, 0, none⟩ = some (.int .i64 zs) := by rw [cell_of_row _ _ 0 _ _ (0, 0) hBx]; rfl
      have x1 : A.cell? ⟨Bx, 1, none⟩ = some (.int .i64 zk) := by rw [cell_of_row _ _ 1 _ _ (0, 0) hBx]; rfl
      have x2 : A.cell? ⟨Bx, 2, none⟩ = some (.int .i64 zi) := by rw [cell_of_row _ _ 2 _ _ (0, 0) hBx]; rfl
      have x3 : A.cell? ⟨Bx, 3, none⟩ = some (.string ⟨zc.toArray⟩) := by rw [cell_of_row _ _ 3 _ _ (0, 0) hBx]; rfl
      obtain ⟨N, hN⟩ : ∃ N, N = S + p.length := ⟨_, rfl⟩
      have hsb := hA.sbx
      rw [← hN] at hsb
      have y0 : A.cell? ⟨w.heap.size, 0, none⟩ = some (.int .i64 N) := by rw [cell_of_row _ _ 0 _ _ (0, 0) hsb]; rfl
      have hwr : wrap64 ((N : Int) + 1) = (N : Int) + 1 := wrapS N (by rw [hN]; exact bndS hS.2 hpx hups hBs)
      by_cases hz : zs = S + p.length + 1
      · have hnz : ((zs : Int) != (N : Int) + 1) = false := eqS hz hN
        have hp40 : p.length + 1 ≤ 1099511627776 := bnd40 hpx hups hBs0
        obtain ⟨v', V5, hap, ho5, st5, loc5⟩ := up_app A p _ hA.row (⟨zs, zk, zi, zc⟩, ze) hp40
        obtain ⟨hA6, st6⟩ := hA.app (z := (⟨zs, zk, zi, zc⟩, ze)) ⟨by omega, by have q := HU.out.2.2.2.2; omega⟩ hz ho5 st5 loc5
        have hkp := hA.kp (K := fun k => k = w3.heap.size + 1 + 1 ∨ k = w3.heap.size + 1 + 1 + 1 ∨ k = 0) st6 (fun k hk => by
          have q := HU.out.2.2.2.2
          rcases hk with rfl | rfl | rfl <;> omega)
        obtain ⟨ra, rc5, hra, -⟩ := slice_form ho5
        subst hra
        have c0 : A.cell? ⟨w3.heap.size, 0, none⟩ = some (.slice qa p.length qc) := by rw [cell_of_row _ _ 0 _ _ (0, 0) hA.box]; rfl
        have b5 : V5.heap[w3.heap.size]? = _ := (st5.block _ (Array.getElem?_eq_some_iff.1 hA.box).1 (fun e => (hA.row_ne e).1 rfl)).trans hA.box
        have s5 : V5.heap[w.heap.size]? = _ := (st5.block _ (Array.getElem?_eq_some_iff.1 hsb).1 (fun e => (hA.row_ne e).2.2 rfl)).trans hsb
        have g5 : V5.heap[w3.heap.size + 1]? = _ := (st5.block _ (Array.getElem?_eq_some_iff.1 hA.gbx).1 (fun e => (hA.row_ne e).2.1 rfl)).trans hA.gbx
        have p5 : V5.heap[Bx]? = _ := (st5.block _ (Array.getElem?_eq_some_iff.1 hBx).1 hBn).trans hBx
        have e5 := HU.out.2.2.2.2
        have t1 : Stay (fun k => k = w3.heap.size) V5 (V5.setCell ⟨w3.heap.size, 0, none⟩ (.slice ra (p.length + 1) rc5)) := stayO _ _ _ _ _ (.refl _ _)
        have p6 := (t1.block Bx (Array.getElem?_eq_some_iff.1 p5).1 (by omega)).trans p5
        have s6 := (t1.block w.heap.size (Array.getElem?_eq_some_iff.1 s5).1 (by omega)).trans s5
        have g6 := (t1.block (w3.heap.size + 1) (Array.getElem?_eq_some_iff.1 g5).1 (by omega)).trans g5
        have t2 : Stay (fun k => k = w.heap.size) (V5.setCell ⟨w3.heap.size, 0, none⟩ (.slice ra (p.length + 1) rc5)) ((V5.setCell ⟨w3.heap.size, 0, none⟩ (.slice ra (p.length + 1) rc5)).setCell ⟨w.heap.size, 0, none⟩ (.int .i64 zs)) := stayO _ _ _ _ _ (.refl _ _)
        have g7 := (t2.block (w3.heap.size + 1) (Array.getElem?_eq_some_iff.1 g6).1 (by omega)).trans g6
        have z0 : V5.cell? ⟨w3.heap.size, 0, none⟩ = some (.slice qa p.length qc) := by rw [cell_of_row _ _ 0 _ _ (0, 0) b5]; rfl
        have zf : V5.frozen? ⟨w3.heap.size, 0, none⟩ = false := frozen_of_row _ _ _ _ _ b5
        have z1 : (V5.setCell ⟨w3.heap.size, 0, none⟩ (.slice ra (p.length + 1) rc5)).cell? ⟨Bx, 0, none⟩ = some (.int .i64 zs) := by rw [cell_of_row _ _ 0 _ _ (0, 0) p6]; rfl
        have z2 : (V5.setCell ⟨w3.heap.size, 0, none⟩ (.slice ra (p.length + 1) rc5)).cell? ⟨w.heap.size, 0, none⟩ = some (.int .i64 N) := by rw [cell_of_row _ _ 0 _ _ (0, 0) s6]; rfl
        have zg : (V5.setCell ⟨w3.heap.size, 0, none⟩ (.slice ra (p.length + 1) rc5)).frozen? ⟨w.heap.size, 0, none⟩ = false := frozen_of_row _ _ _ _ _ s6
        have z3 : ((V5.setCell ⟨w3.heap.size, 0, none⟩ (.slice ra (p.length + 1) rc5)).setCell ⟨w.heap.size, 0, none⟩ (.int .i64 zs)).cell? ⟨w3.heap.size + 1, 0, none⟩ = some (.int .i64 (endU p : Nat)) := by rw [cell_of_row _ _ 0 _ _ (0, 0) g7]; rfl
        have zh : ((V5.setCell ⟨w3.heap.size, 0, none⟩ (.slice ra (p.length + 1) rc5)).setCell ⟨w.heap.size, 0, none⟩ (.int .i64 zs)).frozen? ⟨w3.heap.size + 1, 0, none⟩ = false := frozen_of_row _ _ _ _ _ g7
        have HF := Hid.mk (And.intro hA6 hkp)
        obtain ⟨n5, hn5⟩ : ∃ n5, n5 = p.length := ⟨_, rfl⟩
        obtain ⟨m5, hm5⟩ : ∃ m5, m5 = p.length + 1 := ⟨_, rfl⟩
        obtain ⟨E5, hE5⟩ : ∃ E5, E5 = endU p := ⟨_, rfl⟩
        rw [← hm5] at hap z1 z2 zg z3 zh
        rw [← hE5] at z3
        rw [← hn5] at c0 z0 hap
        have HM := Hid.mk hm5
        simp only [upV, uC] at hap
        clear hA hx hz hA6 st6 hkp ho5 st5 loc5 b5 s5 g5 p5 e5 t1 p6 s6 g6 t2 g7 hseq a0 hN hsb hBx hrc hpx hBs hBs0 hS u1 u2 u3 u4 us u8 u9 u10 htU hg0 hgw hups hp40 hn5 hm5 hE5 hBn
        gi_wp2_with (gi_at_builtin; refine wpListIn_append_eq rfl _ _ _ _ rfl _ _ _ _ rfl rfl hap ?_)
        rw [HM.out]
        exact ⟨HF.out.2.2.from _, HF.out.2.1, _, HF.out.1⟩
      · have hnz : ((zs : Int) != (N : Int) + 1) = true := neqS hz hN
        have hb : okB S (ups B x 0) = false := by
          cases h9 : okB S (ups B x 0) with
          | false => rfl
          | true => exact absurd ((okB_iff _ _).1 h9) (okU_no hx hz)
        have q := HU.out
        have sA := hA.stay
        have ne : ∀ k, k < U.heap.size → k ≠ w3.heap.size → k ≠ w3.heap.size + 1 → k ≠ w.heap.size → A.heap[k]? = U.heap[k]? := fun k h1 h2 h3 h4 => sA.block k h1 (by rintro (e | e | e) <;> omega)
        have k8 := (ne (w.heap.size + 1) (by omega) (by omega) (by omega) (by omega)).trans q.1
        have k9 := (ne (w.heap.size + 1 + 1) (by omega) (by omega) (by omega) (by omega)).trans q.2.1
        have k10 := (ne (w.heap.size + 1 + 1 + 1) (by omega) (by omega) (by omega) (by omega)).trans q.2.2.1
        have z8 : A.cell? ⟨w.heap.size + 1, 0, none⟩ = some (.slice none 0 0) := by rw [cell_of_row _ _ 0 _ _ (0, 0) k8]; rfl
        have z9 : A.cell? ⟨w.heap.size + 1 + 1, 0, none⟩ = some (.int .i64 0) := by rw [cell_of_row _ _ 0 _ _ (0, 0) k9]; rfl
        have z10 : A.cell? ⟨w.heap.size + 1 + 1 + 1, 0, none⟩ = some (.int .i64 0) := by rw [cell_of_row _ _ 0 _ _ (0, 0) k10]; rfl
        have f8 : A.frozen? ⟨w.heap.size + 1, 0, none⟩ = false := frozen_of_row _ _ _ _ _ k8
        have f9 : A.frozen? ⟨w.heap.size + 1 + 1, 0, none⟩ = false := frozen_of_row _ _ _ _ _ k9
        have f10 : A.frozen? ⟨w.heap.size + 1 + 1 + 1, 0, none⟩ = false := frozen_of_row _ _ _ _ _ k10
        obtain ⟨l8, l9, l10, l3⟩ := three_set (V := A) (w.heap.size + 1) (w.heap.size + 1 + 1) (w.heap.size + 1 + 1 + 1) _ _ _ (.slice none 0 0) (.int .i64 0) (.int .i64 80) _ _ _ k8 k9 k10 (by omega) (by omega) (by omega)
        have bA : Below w.heap.size w A := q.2.2.2.1.trans (sA.toBelow (fun k hk e => by rcases e with e | e | e <;> omega) q.2.2.2.1.size)
        have bB : Below w.heap.size w _ := bA.trans (l3.toBelow (fun k hk e => by rcases e with e | e | e <;> omega) bA.size)
        have hcc : ∀ k, (k = w.heap.size + 1 ∨ k = w.heap.size + 1 + 1 ∨ k = w.heap.size + 1 + 1 + 1) → ∃ c t m, A.heap[k]? = some (.cells c t m) := fun k e => by
          rcases e with rfl | rfl | rfl
          · exact ⟨_, _, _, k8⟩
          · exact ⟨_, _, _, k9⟩
          · exact ⟨_, _, _, k10⟩
        have HF := Hid.mk (And.intro hb (And.intro l8 (And.intro l9 (And.intro l10 (And.intro l3 (And.intro bB (And.intro hcc (Nat.le_trans sA.size l3.size))))))))
        clear hA hx hz hb q sA ne k8 k9 k10 l8 l9 l10 l3 bA bB hcc hseq a0 hN hsb hBx hrc hpx hBs hBs0 hS u1 u2 u3 u4 us u8 u9 u10 htU hg0 hgw hups
        gi_wp2_with fail
        obtain ⟨hb, l8, l9, l10, l3, bB, hcc, hsz⟩ := HF.out
        have hne : ∀ k, (k = w3.heap.size + 1 + 1 ∨ k = w3.heap.size + 1 + 1 + 1 ∨ k = 0) → ¬ (k = w.heap.size + 1 ∨ k = w.heap.size + 1 + 1 ∨ k = w.heap.size + 1 + 1 + 1) := fun k hk => by
          have q := HU.out.2.2.2.2
          rintro (e | e | e) <;> rcases hk with e2 | e2 | e2 <;> omega
        exact ⟨(KeepsOthers.mk l3.size fun k o hk ho => (l3.block k (Array.getElem?_eq_some_iff.1 hk).1 (fun e => by
          obtain ⟨c, t, m, h1⟩ := hcc k e
          rw [hk] at h1; cases h1; cases ho)).trans hk).from _, ⟨l3.size, fun k c t m hk hh => (l3.block k (Array.getElem?_eq_some_iff.1 hh).1 (hne k hk)).trans hh⟩, rfl, hb, l8, l9, l10, bB, hsz⟩
    case done =>
      rintro D p s A hD hS ⟨lv', hA⟩ hdef
      subst hS
      have hok := (okB_iff _ _).2 hA.ok
      obtain ⟨qa, qc, rfl, -⟩ := slice_form hA.row
      obtain ⟨nn, hnn⟩ : ∃ nn, nn = (ups B x 0).length := ⟨_, rfl⟩
      obtain ⟨ee, hee⟩ : ∃ ee, ee = endU (ups B x 0) := ⟨_, rfl⟩
      have hAb := hA.box
      have hAg := hA.gbx
      rw [← hnn] at hAb
      rw [← hee] at hAg
      have eL := HE.out.1
      have eE := HE.out.2.1
      rw [if_pos hok] at eL eE
      have q := HU.out
      have sA := hA.stay
      have ne : ∀ k, k < U.heap.size → k ≠ w3.heap.size → k ≠ w3.heap.size + 1 → k ≠ w.heap.size → A.heap[k]? = U.heap[k]? := fun k h1 h2 h3 h4 => sA.block k h1 (by rintro (e | e | e) <;> omega)
      have k8 := (ne (w.heap.size + 1) (by omega) (by omega) (by omega) (by omega)).trans q.1
      have k9 := (ne (w.heap.size + 1 + 1) (by omega) (by omega) (by omega) (by omega)).trans q.2.1
      have k10 := (ne (w.heap.size + 1 + 1 + 1) (by omega) (by omega) (by omega) (by omega)).trans q.2.2.1
      have c0 : A.cell? ⟨w3.heap.size, 0, none⟩ = some (.slice qa nn qc) := by rw [cell_of_row _ _ 0 _ _ (0, 0) hAb]; rfl
      have c1 : A.cell? ⟨w3.heap.size + 1, 0, none⟩ = some (.int .i64 (ee : Nat)) := by rw [cell_of_row _ _ 0 _ _ (0, 0) hAg]; rfl
      have z8 : A.cell? ⟨w.heap.size + 1, 0, none⟩ = some (.slice none 0 0) := by rw [cell_of_row _ _ 0 _ _ (0, 0) k8]; rfl
      have z9 : A.cell? ⟨w.heap.size + 1 + 1, 0, none⟩ = some (.int .i64 0) := by rw [cell_of_row _ _ 0 _ _ (0, 0) k9]; rfl
      have z10 : A.cell? ⟨w.heap.size + 1 + 1 + 1, 0, none⟩ = some (.int .i64 0) := by rw [cell_of_row _ _ 0 _ _ (0, 0) k10]; rfl
      have f8 : A.frozen? ⟨w.heap.size + 1, 0, none⟩ = false := frozen_of_row _ _ _ _ _ k8
      have f9 : A.frozen? ⟨w.heap.size + 1 + 1, 0, none⟩ = false := frozen_of_row _ _ _ _ _ k9
      have f10 : A.frozen? ⟨w.heap.size + 1 + 1 + 1, 0, none⟩ = false := frozen_of_row _ _ _ _ _ k10
      obtain ⟨l8, l9, l10, l3⟩ := three_set (V := A) (w.heap.size + 1) (w.heap.size + 1 + 1) (w.heap.size + 1 + 1 + 1) _ _ _ (.slice qa nn qc) (.int .i64 (ee : Nat)) (.int .i64 0) _ _ _ k8 k9 k10 (by omega) (by omega) (by omega)
      replace c0 : A.drew.cell? ⟨w3.heap.size, 0, none⟩ = some (.slice qa nn qc) := c0
      replace c1 : A.drew.cell? ⟨w3.heap.size + 1, 0, none⟩ = some (.int .i64 (ee : Nat)) := c1
      replace z8 : A.drew.cell? ⟨w.heap.size + 1, 0, none⟩ = some (.slice none 0 0) := z8
      replace z9 : A.drew.cell? ⟨w.heap.size + 1 + 1, 0, none⟩ = some (.int .i64 0) := z9
      replace z10 : A.drew.cell? ⟨w.heap.size + 1 + 1 + 1, 0, none⟩ = some (.int .i64 0) := z10
      replace f8 : A.drew.frozen? ⟨w.heap.size + 1, 0, none⟩ = false := f8
      replace f9 : A.drew.frozen? ⟨w.heap.size + 1 + 1, 0, none⟩ = false := f9
      replace f10 : A.drew.frozen? ⟨w.heap.size + 1 + 1 + 1, 0, none⟩ = false := f10
      have t8 : Stay (fun k => k = w.heap.size + 1) A (A.setCell ⟨w.heap.size + 1, 0, none⟩ (.slice qa nn qc)) := stayO _ _ _ _ _ (.refl _ _)
      have k9' := (t8.block (w.heap.size + 1 + 1) (Array.getElem?_eq_some_iff.1 k9).1 (by omega)).trans k9
      have k10' := (t8.block (w.heap.size + 1 + 1 + 1) (Array.getElem?_eq_some_iff.1 k10).1 (by omega)).trans k10
      have t9 : Stay (fun k => k = w.heap.size + 1 + 1) (A.setCell ⟨w.heap.size + 1, 0, none⟩ (.slice qa nn qc)) ((A.setCell ⟨w.heap.size + 1, 0, none⟩ (.slice qa nn qc)).setCell ⟨w.heap.size + 1 + 1, 0, none⟩ (.int .i64 ee)) := stayO _ _ _ _ _ (.refl _ _)
      have k10'' := (t9.block (w.heap.size + 1 + 1 + 1) (Array.getElem?_eq_some_iff.1 k10').1 (by omega)).trans k10'
      have m9 : (A.setCell ⟨w.heap.size + 1, 0, none⟩ (.slice qa nn qc)).drew.cell? ⟨w.heap.size + 1 + 1, 0, none⟩ = some (.int .i64 0) := by
        show (A.setCell ⟨w.heap.size + 1, 0, none⟩ (.slice qa nn qc)).cell? ⟨w.heap.size + 1 + 1, 0, none⟩ = some (.int .i64 0)
        rw [cell_of_row _ _ 0 _ _ (0, 0) k9']; rfl
      have m9f : (A.setCell ⟨w.heap.size + 1, 0, none⟩ (.slice qa nn qc)).drew.frozen? ⟨w.heap.size + 1 + 1, 0, none⟩ = false := frozen_of_row _ _ _ _ _ k9'
      have kg' := (t8.block (w3.heap.size + 1) (Array.getElem?_eq_some_iff.1 hAg).1 (by omega)).trans hAg
      have m1 : (A.setCell ⟨w.heap.size + 1, 0, none⟩ (.slice qa nn qc)).drew.cell? ⟨w3.heap.size + 1, 0, none⟩ = some (.int .i64 ee) := by
        show (A.setCell ⟨w.heap.size + 1, 0, none⟩ (.slice qa nn qc)).cell? ⟨w3.heap.size + 1, 0, none⟩ = some (.int .i64 ee)
        rw [cell_of_row _ _ 0 _ _ (0, 0) kg']; rfl
      have m10 : ((A.setCell ⟨w.heap.size + 1, 0, none⟩ (.slice qa nn qc)).setCell ⟨w.heap.size + 1 + 1, 0, none⟩ (.int .i64 ee)).drew.cell? ⟨w.heap.size + 1 + 1 + 1, 0, none⟩ = some (.int .i64 0) := by
        show ((A.setCell ⟨w.heap.size + 1, 0, none⟩ (.slice qa nn qc)).setCell ⟨w.heap.size + 1 + 1, 0, none⟩ (.int .i64 ee)).cell? ⟨w.heap.size + 1 + 1 + 1, 0, none⟩ = some (.int .i64 0)
        rw [cell_of_row _ _ 0 _ _ (0, 0) k10'']; rfl
      have m10f : ((A.setCell ⟨w.heap.size + 1, 0, none⟩ (.slice qa nn qc)).setCell ⟨w.heap.size + 1 + 1, 0, none⟩ (.int .i64 ee)).drew.frozen? ⟨w.heap.size + 1 + 1 + 1, 0, none⟩ = false := frozen_of_row _ _ _ _ _ k10''
      have HF := Hid.mk (And.intro hA (And.intro hdef (And.intro l8 (And.intro l9 (And.intro l10 (And.intro l3 (And.intro eL (And.intro eE (And.intro hD (And.intro hnn hee))))))))))
      have hn8 : w.heap.size + 1 ≠ w3.heap.size := by omega
      clear kg' t8 t9 k9' k10' k10'' hAb hAg hnn hee hA hdef l8 l9 l10 l3 eL eE hD q sA ne k8 k9 k10 hok hseq a0 u1 u2 u3 u4 us u8 u9 u10 htU hg0 hgw hups
      gi_wp2_with fail
      gi_region
      gi_wp2_with fail
      obtain ⟨hA, hdef, l8, l9, l10, l3, eL, eE, hD, hnn, hee⟩ := HF.out
      subst hnn
      subst hee
      have l3d := l3.drew
      have q := HU.out
      have sA := hA.stay
      have bA : Below w.heap.size w A := q.2.2.2.1.trans (sA.toBelow (fun k hk e => by rcases e with e | e | e <;> omega) q.2.2.2.1.size)
      have bB := bA.trans (l3d.toBelow (fun k hk e => by rcases e with e | e | e <;> omega) bA.size)
      have hDm := (l3d.block D (Array.getElem?_eq_some_iff.1 hdef).1 (by rintro (e | e | e) <;> omega)).trans hdef
      refine look_leaves _ _ _ _ _ (endU (ups B x 0) : Nat) 0 [D] _ rfl rfl rfl l8 l9 l10 (fun D' h => by simp at h; subst h; exact hDm) (by simp) (fun w' st => ?_)
      have hl2 := hA.loc
      have r1 := row_kept hA.row l3d (fun k hk e => by have := hl2 k hk; rcases e with e | e | e <;> omega)
      have r2 : w'.ownsRow 0 32 4 (.slice qa (ups B x 0).length qc) (ups B x 0).length (lsU (ups B x 0)) := row_kept (F := fun k => k ∈ [D]) r1 ⟨st.os, st.tape, st.output, st.size, st.block⟩ (fun k hk e => by
        simp at e
        obtain ⟨c, hc⟩ := row_block r1 hk
        rw [e, hDm] at hc; cases hc)
      have b' : Below w.heap.size w w' := bB.trans ((⟨st.os, st.tape, st.output, st.size, st.block⟩ : Stay (fun k => k ∈ [D]) _ w').toBelow (fun k hk e => by simp at e; omega) bB.size)
      refine ⟨_, ?_, by rw [eL]; exact r2, fun k hk => by have := hl2 k hk; omega, b'⟩
      rw [eL, eE]
    case stop =>
      rintro D c p s A hD _ ⟨rfl, hb, l8, l9, l10, bA, hsz⟩ hdef
      gi_wp2_with fail
      have eL := HE.out.1
      have eE := HE.out.2.1
      rw [if_neg (by rw [hb]; simp)] at eL eE
      refine look_leaves _ _ _ _ _ 0 80 [D] _ rfl rfl rfl l8 l9 l10 (by simpa using hdef) (by simp) (fun w' st => ?_)
      have q := HU.out
      have b' := bA.trans (st.toBelow (fun k hk e => by simp at e; omega) bA.size)
      exact ⟨_, by rw [eL, eE]; rfl, by rw [eL]; exact ⟨rfl, .inl ⟨rfl, rfl⟩⟩, fun k hk => by simp [Value.ownBlock] at hk, b'⟩
  · have hne : (jcE 9 s x != 0) = true := by simpa using hE
    have eL : lkL ⟨e.da.toArray⟩ s x = [] := by unfold lkL; rw [if_neg hE]
    have eE : lkE ⟨e.da.toArray⟩ s x = jcE 9 s x := by unfold lkE; rw [if_neg hE]
    obtain ⟨E, hEE⟩ : ∃ E, E = jcE 9 s x := ⟨_, rfl⟩
    rw [← hEE] at hck hne eE
    have HE := Hid.mk (And.intro eL eE)
    have z8 : V.cell? ⟨w.heap.size + 1, 0, none⟩ = some (.slice none 0 0) := by rw [cell_of_row _ _ 0 _ _ (0, 0) v8]; rfl
    have z9 : V.cell? ⟨w.heap.size + 1 + 1, 0, none⟩ = some (.int .i64 0) := by rw [cell_of_row _ _ 0 _ _ (0, 0) v9]; rfl
    have z10 : V.cell? ⟨w.heap.size + 1 + 1 + 1, 0, none⟩ = some (.int .i64 0) := by rw [cell_of_row _ _ 0 _ _ (0, 0) v10]; rfl
    have f8 : V.frozen? ⟨w.heap.size + 1, 0, none⟩ = false := frozen_of_row _ _ _ _ _ v8
    have f9 : V.frozen? ⟨w.heap.size + 1 + 1, 0, none⟩ = false := frozen_of_row _ _ _ _ _ v9
    have f10 : V.frozen? ⟨w.heap.size + 1 + 1 + 1, 0, none⟩ = false := frozen_of_row _ _ _ _ _ v10
    have HB := Hid.mk bV
    have HX := Hid.mk (And.intro v8 (And.intro v9 v10))
    clear hE hEE eL eE h hf h0 hl ht hp hV vs v8 v9 v10 sV bV
    gi_wp2_with fail
    rw [← HV.out]
    refine ⟨trivial, (callsIn_wide.2 hck).mono ?_⟩
    clear hck
    rintro r w1 ⟨rfl, rfl⟩
    gi_wp2_with fail
    obtain ⟨k8, k9, k10, -⟩ := three_set (V := w1) (w.heap.size + 1) (w.heap.size + 1 + 1) (w.heap.size + 1 + 1 + 1) _ _ _ (.slice none 0 0) (.int .i64 0) (.int .i64 E) _ _ _ HX.out.1 HX.out.2.1 HX.out.2.2 (by omega) (by omega) (by omega)
    have bA : Below w.heap.size w (((w1.setCell ⟨w.heap.size + 1, 0, none⟩ (.slice none 0 0)).setCell ⟨w.heap.size + 1 + 1, 0, none⟩ (.int .i64 0)).setCell ⟨w.heap.size + 1 + 1 + 1, 0, none⟩ (.int .i64 E)) := ((HB.out.setCell (p := ⟨w.heap.size + 1, 0, none⟩) (by simp) _).setCell (p := ⟨w.heap.size + 1 + 1, 0, none⟩) (by simp; omega) _).setCell (p := ⟨w.heap.size + 1 + 1 + 1, 0, none⟩) (by simp; omega) _
    refine look_leaves _ _ _ _ _ 0 E [] _ rfl rfl rfl k8 k9 k10 (by simp) (by simp) (fun w' st => ?_)
    have b' := bA.trans (st.toBelow (fun k _ e => by simp at e) bA.size)
    refine ⟨_, by rw [HE.out.1, HE.out.2]; rfl, by rw [HE.out.1]; exact ⟨rfl, .inl ⟨rfl, rfl⟩⟩, fun k hk => by simp [Value.ownBlock] at hk, b'⟩
end Go.Proofs.YtcamnalmcghjfaaGreatDoor
set_option linter.unusedVariables false
set_option linter.unusedSimpArgs false
namespace Go.Proofs.YtcamnalmcghjfaaGreatDoor
open Go.RowKit Go.Proofs.SealMath
abbrev Uq := Int × Int × Int × ByteArray
abbrev EU : Rw.El Uq := ⟨32, 33, 4, 40, .agg #[.int .i64 0, .int .i64 0, .int .i64 0, .string ⟨#[]⟩], fun x => [.int .i64 x.1, .int .i64 x.2.1, .int .i64 x.2.2.1, .string x.2.2.2]⟩
theorem okEU : EU.Ok Tryz.prog := ⟨fun _ => rfl, fun x u hu => by
  simp at hu
  rcases hu with rfl | rfl | rfl | rfl <;> rfl, by decide, rfl, by decide, by kernel_rfl, by kernel_rfl⟩
def uQ (z : Up × Nat) : Uq := (z.1.s, z.1.k, z.1.i, ⟨z.1.c.toArray⟩)
theorem lsQ (L : List (Up × Nat)) : (L.map uQ).flatMap EU.f = lsU L := by
  unfold lsU
  rw [List.flatMap_map]
  rfl
theorem rowQ {W : World} {v : Value} {L : List (Up × Nat)} (h : W.ownsRow 0 32 4 v L.length (lsU L)) : EU.Row W v (L.map uQ) := by
  show W.ownsRow 0 32 4 v (L.map uQ).length _
  rw [lsQ, List.length_map]; exact h
theorem uCells {W : World} {v : Value} {X : List Uq} (h : EU.Row W v X) (i : Nat) (hi : i < X.length) : ∃ g cap, v = .slice (some ⟨g, 0, none⟩) X.length cap ∧ W.cell? ⟨g, i * 4, none⟩ = some (.int .i64 X[i].1) ∧ W.cell? ⟨g, i * 4 + 1, none⟩ = some (.int .i64 X[i].2.1) ∧ W.cell? ⟨g, i * 4 + 2, none⟩ = some (.int .i64 X[i].2.2.1) ∧ W.cell? ⟨g, i * 4 + 3, none⟩ = some (.string X[i].2.2.2) ∧ ∀ j, W.frozen? ⟨g, j, none⟩ = false := by
  obtain ⟨g, cap, e, h1, h2⟩ := Rw.El.cells okEU h i hi
  exact ⟨g, cap, e, h1 0 _ rfl, h1 1 _ rfl, h1 2 _ rfl, h1 3 _ rfl, h2⟩
set_option maxRecDepth 100000 in
set_option maxHeartbeats 8000000 in
theorem same_any (v1 v2 : Value) (X : List Uq) (w : World) (h1 : EU.Row w v1 X) (h2 : EU.Row w v2 X) (hl : X.length < 4611686018427387904) :
    Calls Tryz.prog 18 #[v1, v2] w fun e w' => e = .returned (.bool true) ∧ Drew w w' := by
  have k1 := fun i hi => uCells h1 i hi
  have k2 := fun i hi => uCells h2 i hi
  obtain ⟨a1, c1, e1, -⟩ := h1.form
  obtain ⟨a2, c2, e2, -⟩ := h2.form
  subst e1 e2
  clear h1 h2
  obtain ⟨n, hn⟩ : ∃ n, n = X.length := ⟨_, rfl⟩
  have hx : ∀ i, i < n → ∃ (x : Uq) (g1 g2 : Nat), a1 = some ⟨g1, 0, none⟩ ∧ a2 = some ⟨g2, 0, none⟩ ∧ (w.cell? ⟨g1, i * 4, none⟩ = some (.int .i64 x.1) ∧ w.cell? ⟨g1, i * 4 + 1, none⟩ = some (.int .i64 x.2.1) ∧ w.cell? ⟨g1, i * 4 + 2, none⟩ = some (.int .i64 x.2.2.1) ∧ w.cell? ⟨g1, i * 4 + 3, none⟩ = some (.string x.2.2.2)) ∧ (w.cell? ⟨g2, i * 4, none⟩ = some (.int .i64 x.1) ∧ w.cell? ⟨g2, i * 4 + 1, none⟩ = some (.int .i64 x.2.1) ∧ w.cell? ⟨g2, i * 4 + 2, none⟩ = some (.int .i64 x.2.2.1) ∧ w.cell? ⟨g2, i * 4 + 3, none⟩ = some (.string x.2.2.2)) := fun i hi => by
    have hi' : i < X.length := by omega
    obtain ⟨g1, d1, e1, p0, p1, p2, p3, -⟩ := k1 i hi'
    obtain ⟨g2, d2, e2, q0, q1, q2, q3, -⟩ := k2 i hi'
    simp only [Value.slice.injEq] at e1 e2
    exact ⟨X[i], g1, g2, e1.1, e2.1, ⟨p0, p1, p2, p3⟩, ⟨q0, q1, q2, q3⟩⟩
  clear k1 k2
  rw [← hn] at hl ⊢
  have HX := Hid.mk hx
  clear hn hx
  go_enter Tryz.func18, Tryz.ntmps18
  go_wp2
  go_loopw [5] (fun u wr => ∃ i : Nat, u = .int .i64 i ∧ i ≤ n ∧ Drew w wr) (fun u _ => n - (intOf u).toNat)
  case atStart => exact ⟨0, rfl, Nat.zero_le _, Drew.refl _⟩
  case round =>
    obtain ⟨i, rfl, hi, hd⟩ := hrel
    by_cases hlt : i < n
    · obtain ⟨x, g1, g2, rfl, rfl, ⟨x0, x1, x2, x3⟩, ⟨y0, y1, y2, y3⟩⟩ := HX.out i hlt
      have hcell : ∀ a : Addr, wr.cell? a = w.cell? a := fun a => by obtain ⟨m, rfl⟩ := hd; exact World.cell?_drewN _ _ _
      rw [← hcell] at x0 x1 x2 x3 y0 y1 y2 y3
      have i1 : (i : Int) < (n : Int) := by omega
      have i2 : 0 ≤ (i : Int) := by omega
      clear hcell
      go_wp2
      go_quiet (fail)
      go_wp2
      refine ⟨⟨i + 1, rfl, hlt, hd.more _⟩, by simp only [intOf]; omega⟩
    · go_wp2
      go_ret
      exact ⟨rfl, hd⟩
end Go.Proofs.YtcamnalmcghjfaaGreatDoor
