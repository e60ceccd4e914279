/-
  DERIVED. Hits are written.
-/
import Derived.Test.YtjdknijjkjmafaaWRep
set_option linter.unusedVariables false
set_option linter.unusedSimpArgs false
namespace Go.Proofs.Ytjdknijjkjmafaa
open Go.RowKit Go.Proofs.SealMath
abbrev wrHt (h : Ht) : List UInt8 := wrN h.d ++ (wrN h.i ++ wrT h.c)
/-- A hit that goes. -/
structure VHt (h : Ht) : Prop where
  d0 : decide (h.d < 0) = false
  i0 : decide (h.i < 0) = false
  c0 : h.c.size ≤ 65536
  d1 : h.d ≤ 9223372036854775807
  i1 : h.i ≤ 9223372036854775807
theorem wrHt_len (h : Ht) (v : VHt h) : (wrHt h).length ≤ 65566 := by
  have a := (pvL_len 9 h.d.toNat).2
  have b := (pvL_len 9 h.i.toNat).2
  have c := (pvL_len 9 h.c.size).2
  have d := nm_size h.c
  have e := v.c0
  simp only [wrHt, wrN, wrT, List.length_append]
  omega
theorem hit_write (h : Ht) (hv : VHt h) (w : World) (q o b : Nat) (v : Value) (l : List UInt8) (hB : Bd w b (Pt b) v l) (hl : l.length ≤ 8589934592) (hq : q ≠ b) (hqv : ∀ k, v.ownBlock = some k → q ≠ k)
    (c0 : w.cell? ⟨q, o, none⟩ = some (.int .i64 h.d)) (c1 : w.cell? ⟨q, o + 1, none⟩ = some (.int .i64 h.i)) (c2 : w.cell? ⟨q, o + 2, none⟩ = some (.string h.c)) :
    Calls Try.prog 65 #[Pc q o, (wrH b).v] w fun e w' => e = Un ∧ ∃ v', Wt w w' b v v' (l ++ wrHt h) := by
  have E := wrH_ent b
  have lb := hB.lt
  have lv := hB.row_lt
  have lq := World.block_lt_of_cell? w _ c0
  simp only at lq
  have bA' : Below w.heap.size w (w.alloc (wrH b).box) := (Below.refl _ w).alloc (Nat.le_refl _) _
  have bA : Below w.heap.size w (w.alloc (wrH b).box).drew := ⟨bA'.os, bA'.tape, bA'.output, bA'.size, bA'.block⟩
  have d0 := cell_below bA c0
  have d1 := cell_below bA c1
  have d2 := cell_below bA c2
  have eA : (w.alloc (wrH b).box).drew.heap.size = w.heap.size + 1 := by simp
  have p1 := (pvL_len 9 h.d.toNat).2
  have p2 := (pvL_len 9 h.i.toNat).2
  rw [num_cell hv.d0] at d0
  rw [num_cell hv.i0] at d1
  refine hit_g (wrH b) q o w _ E.1 E.2.1 ?_
  refine (wnumber_any h.d.toNat _ q o (Bd.drew (hB.alloc _)) (wn hv.d0 hv.d1) (by omega) d0 hq hqv).mono ?_
  rintro e w1 ⟨rfl, v1, t1⟩
  have kb1 := wt_kept t1 lb lv
  have a1 := t1.apart hqv (by omega)
  have e1 := t1.cell hq hqv d1
  have e2 := t1.cell hq hqv d2
  have s1 : w.heap.size + 1 ≤ w1.heap.size := by have := t1.st.size; omega
  have o1 : ∀ k, v1.ownBlock = some k → k ≠ w.heap.size := fun k hk e => by
    rcases t1.loc k hk with e' | e'
    · have := lv k e'; omega
    · omega
  refine ⟨rfl, kb1, ?_⟩
  refine (wnumber_any h.i.toNat _ q (o + 1) (Bd.drew t1.bd) (wn hv.i0 hv.i1) (by rw [List.length_append]; omega) (show w1.drew.cell? _ = _ from e1) hq a1).mono ?_
  rintro e w2 ⟨rfl, v2, t2⟩
  have kb2 := bx_kept2 kb1 t2.st (fun e => by
    rcases e with e | e
    · omega
    · exact o1 _ e rfl)
  have a2 := t2.apart a1 (show q < w1.drew.heap.size by have : w1.drew.heap.size = w1.heap.size := rfl; omega)
  have f2 := t2.cell hq a1 (show w1.drew.cell? _ = _ from e2)
  have o2 : ∀ k, v2.ownBlock = some k → k ≠ w.heap.size := fun k hk e => by
    rcases t2.loc k hk with e' | e'
    · exact o1 k e' e
    · have : w1.drew.heap.size = w1.heap.size := rfl
      omega
  refine ⟨rfl, kb2, ?_⟩
  refine (wtext_any h.c _ q (o + 2) (Bd.drew t2.bd) hv.c0 (by rw [List.length_append, List.length_append]; omega) (show w2.drew.cell? _ = _ from f2) hq a2).mono ?_
  rintro e w3 ⟨rfl, v3, t3⟩
  have kb3 := bx_kept2 kb2 t3.st (fun e => by
    rcases e with e | e
    · omega
    · exact o2 _ e rfl)
  refine ⟨rfl, kb3, rfl, v3, ?_⟩
  have t12 := Wt.trans (wt_box t1) (wt_drew t2) lb
  have tt := Wt.trans t12 (wt_drew t3) lb
  rw [List.append_assoc, List.append_assoc] at tt
  exact tt
/-- What stands while hits are written: the handler's box. -/
structure WI (w wr : World) (b hb B : Nat) (v0 v : Value) (l : List UInt8) : Prop where
  wt : Wt w wr b v0 v l
  bx : wr.heap[hb]? = some (wrH b).box
  ho : b ≠ hb
  hv : ∀ k, v.ownBlock = some k → k ≠ hb
  low : B ≤ b
  lv : ∀ k, v.ownBlock = some k → B ≤ k
  lh : B ≤ hb
  lw : B ≤ w.heap.size
theorem Wt.later {w w1 w2 : World} {b : Nat} {v v1 : Value} {l : List UInt8} (h : Wt w w1 b v v1 l) (s : Below w1.heap.size w1 w2) : Wt w w2 b v v1 l := ⟨h.bd.below s, h.st.trans (.below s), h.loc⟩
theorem WI.drew {w wr : World} {b hb B : Nat} {v0 v : Value} {l : List UInt8} (h : WI w wr b hb B v0 v l) : WI w wr.drew b hb B v0 v l := ⟨⟨Bd.drew h.wt.bd, h.wt.st.drew, h.wt.loc⟩, h.bx, h.ho, h.hv, h.low, h.lv, h.lh, h.lw⟩
theorem WI.step {w wr w' : World} {b hb B : Nat} {v0 v v' : Value} {l l' : List UInt8} (h : WI w wr b hb B v0 v l) (t : Wt wr w' b v v' l') (hb0 : b < w.heap.size) : WI w w' b hb B v0 v' l' := by
  have lh : hb < wr.heap.size := (Array.getElem?_eq_some_iff.1 h.bx).1
  refine ⟨Wt.trans h.wt t hb0, HC.stay (w := wr) h.bx t.st (fun e => ?_), h.ho, fun k hk => ?_, h.low, fun k hk => ?_, h.lh, h.lw⟩
  · rcases e with e | e
    · exact h.ho e.symm
    · exact h.hv _ e rfl
  · rcases t.loc k hk with e | e
    · exact h.hv k e
    · omega
  · rcases t.loc k hk with e | e
    · exact h.lv k e
    · have := h.lh; omega
theorem wi_new {w w1 w2 : World} {b B : Nat} {v0 v1 : Value} {l : List UInt8} (h : Wt w w1 b v0 v1 l) (s : Below w1.heap.size w1 w2) (low : B ≤ b) (lv : ∀ k, v0.ownBlock = some k → B ≤ k) (lw : B ≤ w.heap.size) : WI w (w2.alloc (wrH b).box) b w2.heap.size B v0 v1 l := by
  have t := (h.later s)
  have e1 : w1.heap.size ≤ w2.heap.size := s.size
  have e2 : w.heap.size ≤ w1.heap.size := h.st.size
  refine ⟨t.later ((Below.refl _ w2).alloc (Nat.le_refl _) _), heap_alloc_last w2 _, ?_, fun k hk => ?_, low, fun k hk => ?_, by omega, lw⟩
  · have := h.bd.lt; omega
  · have := h.bd.row_lt k hk; omega
  · rcases h.loc k hk with e | e
    · exact lv k e
    · omega
theorem flat_le (L : List Ht) (hV : ∀ h ∈ L, VHt h) (i : Nat) : ((L.take i).flatMap wrHt).length ≤ i * 65566 := by
  induction L generalizing i with
  | nil => simp
  | cons h t ih =>
    cases i with
    | zero => simp
    | succ i =>
      rw [List.take_succ_cons, List.flatMap_cons, List.length_append]
      have a := ih (fun x hx => hV x (List.mem_cons_of_mem _ hx)) i
      have b := wrHt_len h (hV h List.mem_cons_self)
      omega
theorem flat_next (L : List Ht) (i : Nat) (hi : i < L.length) : (L.take (i + 1)).flatMap wrHt = (L.take i).flatMap wrHt ++ wrHt L[i] := by
  rw [List.take_succ_eq_append_getElem hi, List.flatMap_append]; simp
set_option maxHeartbeats 4000000 in
set_option maxRecDepth 100000 in
theorem whits_any (L : List Ht) (a : Option Addr) (cap : Nat) (w : World) (g0 o0 b B : Nat) (v : Value) (l : List UInt8) (hB : Bd w b (Pt b) v l) (hl : l.length ≤ 1000) (hn : L.length ≤ 65536) (hV : ∀ h ∈ L, VHt h)
    (hc : w.cell? ⟨g0, o0, none⟩ = some (.slice a L.length cap)) (hg0 : g0 < B) (hL : L = [] ∨ ∃ g off, a = some ⟨g, off, none⟩ ∧ g < B ∧ ∀ i (hi : i < L.length), w.cell? ⟨g, off + i * 3, none⟩ = some (.int .i64 L[i].d) ∧ w.cell? ⟨g, off + i * 3 + 1, none⟩ = some (.int .i64 L[i].i) ∧ w.cell? ⟨g, off + i * 3 + 2, none⟩ = some (.string L[i].c))
    (low : B ≤ b) (lv : ∀ k, v.ownBlock = some k → B ≤ k) (lw : B ≤ w.heap.size) :
    Calls Try.prog 60 #[Pt b, Pc g0 o0] w fun e w' => e = Un ∧ ∃ v', Wt w w' b v v' (l ++ (pvL 9 L.length ++ L.flatMap wrHt)) := by
  obtain ⟨n, hne⟩ : ∃ n, n = L.length := ⟨_, rfl⟩
  rw [← hne] at hc
  have bA : Below w.heap.size w (w.alloc (.cells #[.int .i64 n] 3)) := (Below.refl _ w).alloc (Nat.le_refl _) _
  have lb := hB.lt
  have cn : (w.alloc (.cells #[.int .i64 n] 3)).cell? ⟨w.heap.size, 0, none⟩ = some (.int .i64 n) := HC.cell (HC.new w _ _) rfl
  have hN := wnumber_any n _ w.heap.size 0 (hB.below bA) (by omega) (by omega) cn (by omega) (fun k hk e => by have := hB.row_lt k hk; omega)
  have hHd := fun W => wrH_any b W
  have hc' := cell_below bA hc
  have hpl := (pvL_len 9 n).2
  have HH := Hid.mk (And.intro hB (And.intro bA (And.intro hL (And.intro hV (And.intro hne (And.intro hl (And.intro hn hpl)))))))
  have HL := Hid.mk (And.intro low (And.intro lv (And.intro lw (And.intro hg0 lb))))
  have hgb : g0 ≠ b := by omega
  have hgv : ∀ k, v.ownBlock = some k → g0 ≠ k := fun k hk => by have := lv k hk; omega
  have HG := Hid.mk (And.intro hgb hgv)
  rw [← hne]
  clear hB bA hL hV hne hl hn hpl low lv lw hg0 lb hgb hgv cn
  have hsf : ∀ (W : World) (p : Addr) (f : Fn) (x c : Array Value), (store p (.func f x c)).run Try.prog W = stored Try.prog W p (.func f x c) .plain := fun W p f x c => run_store Try.prog W p _ .plain rfl
  go_enter Try.func60, Try.ntmps60
  go_wp2_with (first
    | (go_at_call 42; refine hN.mono ?_; clear hN; rintro e w1 ⟨rfl, v1, t1⟩; have c1 := t1.cell HG.out.1 HG.out.2 hc'; have H1 := Hid.mk (Wt.pre HH.out.2.1 t1); clear t1)
    | (go_at_call 39; refine (hHd _).mono ?_; clear hHd; rintro e w2 ⟨rfl, b2⟩; have c2 := cell_below b2 c1; have l2 := World.block_lt_of_cell? w2 _ c2; have H2 := Hid.mk b2; clear b2))
  obtain ⟨hb, hhb⟩ : ∃ hb, hb = w2.heap.size := ⟨_, rfl⟩
  simp only [← hhb]
  have hW := wi_new H1.out H2.out HL.out.1 HL.out.2.1 HL.out.2.2.1
  obtain ⟨V4, hV4⟩ : ∃ V4, V4 = w2.alloc (wrH b).box := ⟨_, rfl⟩
  rw [← hV4, ← hhb] at hW
  have hV5 : w2.alloc (.cells #[Fv (wrH b).n (wrH b).A, Fv (wrH b).t (wrH b).A, Fv (wrH b).h (wrH b).A] 73) = V4 := hV4.symm
  try rw [hV5]
  have H4 := Hid.mk hW
  clear hV4 hV5 hhb H1 H2 hW c1 c2 l2 hc'
  go_loopw [19] (fun u wr => ∃ (i : Nat) (vi : Value), u = .int .i64 i ∧ i ≤ n ∧ Hid (WI w wr b hb B v vi (l ++ (pvL 9 n ++ (L.take i).flatMap wrHt)))) (fun u _ => n - (intOf u).toNat)
  case atStart => exact ⟨0, v1, rfl, Nat.zero_le _, Hid.mk (by have := H4.out; simpa using this)⟩
  case round =>
    obtain ⟨i, vi, rfl, hin, HI⟩ := hrel
    have cw : wr.cell? ⟨g0, o0, none⟩ = some (.slice a n cap) := HI.out.wt.cell HG.out.1 HG.out.2 hc
    by_cases hlt : i < n
    · have hlt' : (i : Int) < (n : Int) := by omega
      have i0 : 0 ≤ (i : Int) := by omega
      have hil : i < L.length := by have := HH.out.2.2.2.2.1; omega
      have hat := HH.out.2.2.1
      rcases hat with hat | ⟨g, off, rfl, hgl, hcell⟩
      · rw [hat] at hil; simp at hil
      obtain ⟨p0, p1, p2⟩ := hcell i hil
      have hgb : g ≠ b := by have := HL.out.1; omega
      have hgv : ∀ k, v.ownBlock = some k → g ≠ k := fun k hk => by have := HL.out.2.1 k hk; omega
      have hgi : ∀ k, vi.ownBlock = some k → g ≠ k := fun k hk => by have := HI.out.lv k hk; omega
      have q0 := HI.out.wt.cell hgb hgv p0
      have q1 := HI.out.wt.cell hgb hgv p1
      have q2 := HI.out.wt.cell hgb hgv p2
      obtain ⟨k0, k1, k2⟩ := box_cell HI.out.bx
      have hle : (l ++ (pvL 9 n ++ (L.take i).flatMap wrHt)).length ≤ 8589934592 := by
        have a1 := flat_le L HH.out.2.2.2.1 i
        have a2 := HH.out.2.2.2.2.2
        rw [List.length_append, List.length_append]
        omega
      have hhw := hit_write L[i] (HH.out.2.2.2.1 _ (List.getElem_mem hil)) wr.drew g (off + i * 3) b vi _ HI.out.drew.wt.bd hle hgb hgi q0 q1 q2
      have hx : l ++ (pvL 9 n ++ (L.take i).flatMap wrHt) ++ wrHt L[i] = l ++ (pvL 9 n ++ (L.take (i + 1)).flatMap wrHt) := by rw [flat_next L i hil]; simp [List.append_assoc]
      rw [hx] at hhw
      have hw1 : Hid (IntKind.i64.wrap ((i : Int) + 1) = ((i + 1 : Nat) : Int)) := i64_in _ (by omega) (by have := HH.out.2.2.2.2.2.2.1; have := HH.out.2.2.2.2.1; omega)
      have HW := Hid.mk hhw
      have hwi := hw1.out
      clear hhw hx hle p0 p1 p2 q0 q1 q2 hcell hgl hgb hgv hgi hil hw1
      go_wp2
      refine wp_region_held_drew (S := fun w' => w'.cell? ⟨g0, o0, none⟩ = some (.slice (some ⟨g, off, none⟩) n cap) ∧ w'.cell? ⟨hb, 0, none⟩ = some (Fv (wrH b).n (wrH b).A) ∧ w'.cell? ⟨hb, 1, none⟩ = some (Fv (wrH b).t (wrH b).A) ∧ w'.cell? ⟨hb, 2, none⟩ = some (Fv (wrH b).h (wrH b).A)) (by kernel_rfl) ?_ (fun hHeld => ?_)
      · exact ⟨cw, k0, k1, k2⟩
      refine wpAnyH_take (i := 0) (oi := { dst := some 22, op := Op.move (Operand.tmp 1), type := 119, pos := "writer.go:38", after := #[], guard := none }) (v := ?va0) rfl (by kernel_rfl) (by kernel_rfl) (by kernel_rfl) (fun _ _ _ h => h) (Or.inl ⟨by rfl, ?ha0⟩) (by assumption) ?ra0
      case ha0 => (intro w0 hSw; (try dsimp only at hSw); go_simp; try (with_reducible rfl))
      simp only [Act.put, List.setIfInBounds_toArray, List.set_cons_zero, List.set_cons_succ]
      refine wpAnyH_take (i := 1) (oi := { dst := some 23, op := Op.nilCheck (Operand.tmp 22), type := 0, pos := "writer.go:38", after := #[{ on := 0, ground := Ground.data }], guard := none }) (v := ?va1) rfl (by kernel_rfl) (by kernel_rfl) (by kernel_rfl) (fun _ _ _ h => h) (Or.inl ⟨by rfl, ?ha1⟩) (by assumption) ?ra1
      case ha1 => (intro w0 hSw; (try dsimp only at hSw); go_simp; try (with_reducible rfl))
      simp only [Act.put, List.setIfInBounds_toArray, List.set_cons_zero, List.set_cons_succ]
      refine wpAnyH_take (i := 2) (oi := { dst := some 24, op := Op.load 26 (Operand.tmp 23), type := 26, pos := "writer.go:38", after := #[{ on := 1, ground := Ground.data }], guard := none }) (v := ?va2) rfl (by kernel_rfl) (by kernel_rfl) (by kernel_rfl) (fun _ _ _ h => h) (Or.inl ⟨by rfl, ?ha2⟩) (by assumption) ?ra2
      case ha2 => (intro w0 hSw; (try dsimp only at hSw); go_simp; try (with_reducible rfl))
      simp only [Act.put, List.setIfInBounds_toArray, List.set_cons_zero, List.set_cons_succ]
      refine wpAnyH_take (i := 3) (oi := { dst := some 25, op := Op.move (Operand.tmp 6), type := 3, pos := "writer.go:38", after := #[], guard := none }) (v := ?va3) rfl (by kernel_rfl) (by kernel_rfl) (by kernel_rfl) (fun _ _ _ h => h) (Or.inl ⟨by rfl, ?ha3⟩) (by assumption) ?ra3
      case ha3 => (intro w0 hSw; (try dsimp only at hSw); go_simp; try (with_reducible rfl))
      simp only [Act.put, List.setIfInBounds_toArray, List.set_cons_zero, List.set_cons_succ]
      refine wpAnyH_take (i := 4) (oi := { dst := some 26, op := Op.indexAddr 26 (Operand.tmp 24) (Operand.tmp 25), type := 0, pos := "writer.go:38", after := #[{ on := 2, ground := Ground.data }, { on := 3, ground := Ground.data }], guard := none }) (v := ?va4) rfl (by kernel_rfl) (by kernel_rfl) (by kernel_rfl) (fun _ _ _ h => h) (Or.inl ⟨by rfl, ?ha4⟩) (by assumption) ?ra4
      case ha4 => (intro w0 hSw; (try dsimp only at hSw); go_simp; try (with_reducible rfl))
      simp only [Act.put, List.setIfInBounds_toArray, List.set_cons_zero, List.set_cons_succ]
      refine wpAnyH_take (i := 5) (oi := { dst := some 27, op := Op.load 73 (Operand.tmp 5), type := 73, pos := "writer.go:38", after := #[], guard := none }) (v := ?va5) rfl (by kernel_rfl) (by kernel_rfl) (by kernel_rfl) (fun _ _ _ h => h) (Or.inl ⟨by rfl, ?ha5⟩) (by assumption) ?ra5
      case ha5 => (intro w0 hSw; (try dsimp only at hSw); go_simp; try (with_reducible rfl))
      simp only [Act.put, List.setIfInBounds_toArray, List.set_cons_zero, List.set_cons_succ]
      refine wpAnyH_ready (rs := [6]) (by kernel_rfl) (by simp) ?_
      refine AllReadyH.cons rfl (fun K hK => ?_) AllReadyH.nil
      go_simp
      go_wp2_with (go_at_call 65; refine HW.out.mono ?_; rintro e w5 ⟨rfl, v5, t5⟩; have h5 := HI.out.drew.step t5 HL.out.2.2.2.2; have c5 := h5.wt.cell HG.out.1 HG.out.2 hc; obtain ⟨m0, m1, m2⟩ := box_cell h5.bx; have H5 := Hid.mk h5; clear h5 t5)
      refine hK.out _ _ ?_ (fun hHeld => ?_)
      · exact ⟨c5, m0, m1, m2⟩
      clear hK K
      refine wpAnyH_done (by kernel_rfl) ?_ _
      go_wp2
      exact ⟨⟨i + 1, v5, rfl, by omega, H5⟩, by simp only [intOf]; omega⟩
    · have hlt' : ¬ (i : Int) < (n : Int) := by omega
      have he : i = n := by omega
      have HD : Hid (Wt w wr b v vi (l ++ (pvL 9 n ++ L.flatMap wrHt))) := by
        have := HI.out.wt
        rw [he, HH.out.2.2.2.2.1, List.take_length] at this
        rw [HH.out.2.2.2.2.1]; exact this
      clear hlt hin he
      go_wp2
      first | go_end0 | refine bodyPost_ret (results_none rfl _ _ _) rfl ?_
      exact ⟨rfl, vi, HD.out⟩
end Go.Proofs.Ytjdknijjkjmafaa
