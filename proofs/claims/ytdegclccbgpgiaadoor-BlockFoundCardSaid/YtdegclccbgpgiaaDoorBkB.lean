/-
  DERIVED. BFirst, BRangeS, BIter, BFind0, BFindF, BFromF, BFndM, BLaw0, BBegun, as one text.
-/
import Derived.Test.YtdegclccbgpgiaaDoorBkA
import Derived.Shelf.Abstract
import Derived.Test.YtdegclccbgpgiaaDoorBRange
import Derived.Test.YtdegclccbgpgiaaDoorBBuildF
set_option linter.unusedVariables false
set_option linter.unusedSimpArgs false
namespace Go.Proofs.YtdegclccbgpgiaaDoor
open Go.RowKit Go.Shelf Go.Proofs.SealMath
/-- A file's index, and the boxes of the file and of a place. -/
structure PB (W : World) (Bf Bp fb : Nat) (iv : Value) (ix : List En) (p : En) : Prop where
  f : W.cell? ⟨Bf, 0, none⟩ = some (Pt fb)
  pl : W.cell? ⟨Bp, 0, none⟩ = some (.int .i64 p.v) ∧ W.cell? ⟨Bp, 1, none⟩ = some (.string p.c) ∧ W.cell? ⟨Bp, 2, none⟩ = some (.int .i64 p.i) ∧ W.cell? ⟨Bp, 3, none⟩ = some (.int .i64 p.s) ∧ W.cell? ⟨Bp, 4, none⟩ = some (.bool p.d)
  ixc : W.cell? ⟨fb, 7, none⟩ = some iv
  row : W.ownsRow 0 40 5 iv ix.length (ix.flatMap enC)
theorem PB.below {W W' : World} {Bf Bp fb : Nat} {iv : Value} {ix : List En} {p : En} (h : PB W Bf Bp fb iv ix p) (b : Below W.heap.size W W') : PB W' Bf Bp fb iv ix p :=
  ⟨cell_lat b h.f, ⟨cell_lat b h.pl.1, cell_lat b h.pl.2.1, cell_lat b h.pl.2.2.1, cell_lat b h.pl.2.2.2.1, cell_lat b h.pl.2.2.2.2⟩, cell_lat b h.ixc, row_kept (F := fun _ => False) h.row (.below b) (fun _ _ e => e)⟩
set_option maxHeartbeats 4000000 in
set_option maxRecDepth 100000 in
theorem behind_any (Bf Bp fb : Nat) (iv : Value) (ix : List En) (p : En) (i : Nat) (w : World) (H : PB w Bf Bp fb iv ix p) (hi : i < ix.length) (hn : ix.length ≤ 1099511627776) :
    Calls Tryd.prog 92 #[.int .i64 i, Pt Bf, Pt Bp] w fun r w' => r = .returned (.bool (decide (0 < cpE ix[i] p))) ∧ Below w.heap.size w w' := by
  obtain ⟨ia, ic, rfl, hic⟩ := slice_form H.row
  obtain ⟨g, hg⟩ : ∃ g, ia = some ⟨g, 0, none⟩ := by
    rcases H.row.2 with ⟨e, -⟩ | ⟨g, cap, cur, e, -⟩
    · injection e with e1 e2; omega
    · injection e with e1 e2; exact ⟨g, e1⟩
  subst hg
  obtain ⟨la, cap, e, -, hLA⟩ := lat_row H.row
  injection e with e1 e2 e3
  obtain ⟨g', off, e4, hra⟩ := hLA.at' (fun h => by rw [h] at hi; simp at hi)
  rw [← e1] at e4
  injection e4 with e4
  injection e4 with e5 e6
  subst e5
  subst e6
  obtain ⟨x0, x1, x2, x3, x4⟩ := row_en hra rfl i hi
  rw [Nat.zero_add] at x0 x1 x2 x3 x4
  obtain ⟨yf, ⟨p0, p1, p2, p3, p4⟩, y7, -⟩ := H
  have hcm := compare_any ix[i] p
  obtain ⟨n, hn'⟩ : ∃ n, n = ix.length := ⟨_, rfl⟩
  rw [← hn'] at y7 hi hn
  obtain ⟨e, he⟩ : ∃ e, e = ix[i] := ⟨_, rfl⟩
  rw [← he] at x0 x1 x2 x3 x4 hcm ⊢
  simp only [enC] at hcm
  have i1 : (i : Int) < (n : Int) := by omega
  have hfz : fb < w.heap.size := World.block_lt_of_cell? w _ y7
  have hgz : g < w.heap.size := World.block_lt_of_cell? w _ x0
  obtain ⟨Z, hZ⟩ : ∃ Z, Z = cpE e p := ⟨_, rfl⟩
  rw [← hZ] at hcm ⊢
  clear he hn' hZ hra hLA e1 e2 e3 hic
  go_enter Tryd.func92, Tryd.ntmps92
  go_wp2_with fail
  refine wp_region_held_drew (S := fun w' => w'.cell? ⟨Bf, 0, none⟩ = some (Pt fb) ∧ w'.cell? ⟨fb, 7, none⟩ = some (.slice (some ⟨g, 0, none⟩) n ic) ∧ (w'.cell? ⟨g, i * 5, none⟩ = some (.int .i64 e.v) ∧ w'.cell? ⟨g, i * 5 + 1, none⟩ = some (.string e.c) ∧ w'.cell? ⟨g, i * 5 + 2, none⟩ = some (.int .i64 e.i) ∧ w'.cell? ⟨g, i * 5 + 3, none⟩ = some (.int .i64 e.s) ∧ w'.cell? ⟨g, i * 5 + 4, none⟩ = some (.bool e.d)) ∧ w'.cell? ⟨Bp, 0, none⟩ = some (.int .i64 p.v) ∧ w'.cell? ⟨Bp, 1, none⟩ = some (.string p.c) ∧ w'.cell? ⟨Bp, 2, none⟩ = some (.int .i64 p.i) ∧ w'.cell? ⟨Bp, 3, none⟩ = some (.int .i64 p.s) ∧ w'.cell? ⟨Bp, 4, none⟩ = some (.bool p.d)) (by kernel_rfl) ?_ (fun hHeld => ?_)
  · exact ⟨yf, y7, ⟨x0, x1, x2, x3, x4⟩, p0, p1, p2, p3, p4⟩
  refine wpAnyH_take (i := 0) (oi := { dst := some 5, op := Op.load 30 (Operand.tmp 1), type := 30, pos := "block.go:148", after := #[], guard := none }) (v := ?vf0) rfl (by kernel_rfl) (by kernel_rfl) (by kernel_rfl) (fun _ _ _ h => h) (Or.inl ⟨by rfl, ?hf0⟩) (by assumption) ?rf0
  case hf0 => (intro w0 hSw; (try dsimp only at hSw); go_simp; try (with_reducible rfl))
  simp only [Act.put, List.setIfInBounds_toArray, List.set_cons_zero, List.set_cons_succ]
  refine wpAnyH_take (i := 1) (oi := { dst := some 6, op := Op.nilCheck (Operand.tmp 5), type := 0, pos := "block.go:148", after := #[{ on := 0, ground := Ground.data }], guard := none }) (v := ?vf1) rfl (by kernel_rfl) (by kernel_rfl) (by kernel_rfl) (fun _ _ _ h => h) (Or.inl ⟨by rfl, ?hf1⟩) (by assumption) ?rf1
  case hf1 => (intro w0 hSw; (try dsimp only at hSw); go_simp; try (with_reducible rfl))
  simp only [Act.put, List.setIfInBounds_toArray, List.set_cons_zero, List.set_cons_succ]
  refine wpAnyH_take (i := 2) (oi := { dst := some 7, op := Op.fieldAddr 64 (Operand.tmp 6) 2, type := 0, pos := "block.go:148", after := #[{ on := 1, ground := Ground.data }], guard := none }) (v := ?vf2) rfl (by kernel_rfl) (by kernel_rfl) (by kernel_rfl) (fun _ _ _ h => h) (Or.inl ⟨by rfl, ?hf2⟩) (by assumption) ?rf2
  case hf2 => (intro w0 hSw; (try dsimp only at hSw); go_simp; try (with_reducible rfl))
  simp only [Act.put, List.setIfInBounds_toArray, List.set_cons_zero, List.set_cons_succ]
  refine wpAnyH_take (i := 3) (oi := { dst := some 8, op := Op.load 24 (Operand.tmp 7), type := 24, pos := "block.go:148", after := #[{ on := 2, ground := Ground.data }], guard := none }) (v := ?vf3) rfl (by kernel_rfl) (by kernel_rfl) (by kernel_rfl) (fun _ _ _ h => h) (Or.inl ⟨by rfl, ?hf3⟩) (by assumption) ?rf3
  case hf3 => (intro w0 hSw; (try dsimp only at hSw); go_simp; try (with_reducible rfl))
  simp only [Act.put, List.setIfInBounds_toArray, List.set_cons_zero, List.set_cons_succ]
  refine wpAnyH_take (i := 4) (oi := { dst := some 9, op := Op.move (Operand.tmp 0), type := 3, pos := "block.go:148", after := #[], guard := none }) (v := ?vf4) rfl (by kernel_rfl) (by kernel_rfl) (by kernel_rfl) (fun _ _ _ h => h) (Or.inl ⟨by rfl, ?hf4⟩) (by assumption) ?rf4
  case hf4 => (intro w0 hSw; (try dsimp only at hSw); go_simp; try (with_reducible rfl))
  simp only [Act.put, List.setIfInBounds_toArray, List.set_cons_zero, List.set_cons_succ]
  refine wpAnyH_take (i := 5) (oi := { dst := some 10, op := Op.indexAddr 24 (Operand.tmp 8) (Operand.tmp 9), type := 0, pos := "block.go:148", after := #[{ on := 3, ground := Ground.data }, { on := 4, ground := Ground.data }], guard := none }) (v := ?vf5) rfl (by kernel_rfl) (by kernel_rfl) (by kernel_rfl) (fun _ _ _ h => h) (Or.inl ⟨by rfl, ?hf5⟩) (by assumption) ?rf5
  case hf5 => (intro w0 hSw; (try dsimp only at hSw); go_simp; try (with_reducible rfl))
  simp only [Act.put, List.setIfInBounds_toArray, List.set_cons_zero, List.set_cons_succ]
  refine wpAnyH_take (i := 6) (oi := { dst := some 11, op := Op.load 40 (Operand.tmp 10), type := 40, pos := "block.go:148", after := #[{ on := 5, ground := Ground.data }], guard := none }) (v := ?vf6) rfl (by kernel_rfl) (by kernel_rfl) (by kernel_rfl) (fun _ _ _ h => h) (Or.inl ⟨by rfl, ?hf6⟩) (by assumption) ?rf6
  case hf6 => (intro w0 hSw; (try dsimp only at hSw); go_simp; try (with_reducible rfl))
  simp only [Act.put, List.setIfInBounds_toArray, List.set_cons_zero, List.set_cons_succ]
  refine wpAnyH_take (i := 7) (oi := { dst := some 12, op := Op.load 40 (Operand.tmp 2), type := 40, pos := "block.go:148", after := #[], guard := none }) (v := ?vf7) rfl (by kernel_rfl) (by kernel_rfl) (by kernel_rfl) (fun _ _ _ h => h) (Or.inl ⟨by rfl, ?hf7⟩) (by assumption) ?rf7
  case hf7 => (intro w0 hSw; (try dsimp only at hSw); go_simp; try (with_reducible rfl))
  simp only [Act.put, List.setIfInBounds_toArray, List.set_cons_zero, List.set_cons_succ]
  refine wpAnyH_ready (rs := [8]) (by kernel_rfl) (by simp) ?_
  refine AllReadyH.cons rfl (fun K hK => ?_) AllReadyH.nil
  go_simp
  go_wp2_with (go_at_call 24; refine (hcm _).mono ?_; clear hcm; rintro r w5 ⟨rfl, b5⟩; have bb : Below w.heap.size w w5 := below_d b5)
  refine hK.out _ _ ?_ (fun hHeld => ?_)
  · exact ⟨cell_lat bb yf, cell_lat bb y7, ⟨cell_lat bb x0, cell_lat bb x1, cell_lat bb x2, cell_lat bb x3, cell_lat bb x4⟩, cell_lat bb p0, cell_lat bb p1, cell_lat bb p2, cell_lat bb p3, cell_lat bb p4⟩
  clear hK K
  refine wpAnyH_take (i := 9) (oi := { dst := some 14, op := Op.binOp BinOp.gtr 3 (Operand.tmp 13) (Operand.const (Value.int IntKind.i64 0)) 3, type := 4, pos := "block.go:148", after := #[{ on := 8, ground := Ground.data }], guard := none }) (v := ?vf9) rfl (by kernel_rfl) (by kernel_rfl) (by kernel_rfl) (fun _ _ _ h => h) (Or.inl ⟨by rfl, ?hf9⟩) (by assumption) ?rf9
  case hf9 => (intro w0 hSw; (try dsimp only at hSw); go_simp; try (with_reducible rfl))
  simp only [Act.put, List.setIfInBounds_toArray, List.set_cons_zero, List.set_cons_succ]
  refine wpAnyH_take (i := 10) (oi := { dst := some 4, op := Op.assign (Operand.tmp 14), type := 4, pos := "block.go:148", after := #[{ on := 9, ground := Ground.data }, { on := 8, ground := Ground.chain }, { on := 0, ground := Ground.phase }, { on := 1, ground := Ground.phase }, { on := 2, ground := Ground.phase }, { on := 3, ground := Ground.phase }, { on := 4, ground := Ground.phase }, { on := 5, ground := Ground.phase }, { on := 6, ground := Ground.phase }, { on := 7, ground := Ground.phase }, { on := 8, ground := Ground.phase }, { on := 9, ground := Ground.phase }], guard := none }) (v := ?vf10) rfl (by kernel_rfl) (by kernel_rfl) (by kernel_rfl) (fun _ _ _ h => h) (Or.inl ⟨by rfl, ?hf10⟩) (by assumption) ?rf10
  case hf10 => (intro w0 hSw; (try dsimp only at hSw); go_simp; try (with_reducible rfl))
  simp only [Act.put, List.setIfInBounds_toArray, List.set_cons_zero, List.set_cons_succ]
  refine wpAnyH_done (by kernel_rfl) ?_ _
  go_wp2
  go_ret
  exact ⟨rfl, bb⟩
/-- Where a search stands. -/
structure SrI (ix : List En) (p : En) (i j : Nat) : Prop where
  lo : ∀ (hh : i - 1 < ix.length), 0 < i → ¬ 0 < cpE ix[i - 1] p
  hi : ∀ (hh : j < ix.length), 0 < cpE ix[j] p
set_option maxHeartbeats 4000000 in
set_option maxRecDepth 100000 in
theorem search_any (Bf Bp fb : Nat) (iv : Value) (ix : List En) (p : En) (w : World) (H : PB w Bf Bp fb iv ix p) (hn : ix.length ≤ 1099511627776) (hu : Up ix) :
    Calls Tryd.prog 91 #[.int .i64 ix.length, .func (.func 92) #[] #[Pt Bf, Pt Bp]] w fun r w' => r = .returned (.int .i64 (rF ix p : Nat)) ∧ Below w.heap.size w w' := by
  have HH := Hid.mk (And.intro H hu)
  clear H hu
  go_enter Tryd.func91, Tryd.ntmps91
  go_wp2
  go_loopw [5, 6] (fun u5 u6 wr => ∃ i j : Nat, u5 = .int .i64 i ∧ u6 = .int .i64 j ∧ i ≤ j ∧ j ≤ ix.length ∧ SrI ix p i j ∧ Below w.heap.size w wr) (fun u5 u6 _ => (intOf u6).toNat - (intOf u5).toNat)
  case atStart => exact ⟨0, ix.length, rfl, rfl, Nat.zero_le _, Nat.le_refl _, ⟨fun _ h => by omega, fun h => absurd h (Nat.lt_irrefl _)⟩, Below.refl _ _⟩
  case round =>
    obtain ⟨i, j, rfl, rfl, hij, hj, HI, hb⟩ := hrel
    by_cases hlt : i < j
    · obtain ⟨m, hm⟩ : ∃ m, m = (i + j) / 2 := ⟨_, rfl⟩
      have hm1 : i ≤ m := by omega
      have hm2 : m < j := by omega
      have hml : m < ix.length := by omega
      have hc := behind_any Bf Bp fb iv ix p m wr (HH.out.1.below hb) hml hn
      have l1 : (i : Int) < (j : Int) := by omega
      have hq1 : ((i : Int) + (j : Int)) / 2 = (m : Int) := by omega
      have hq2 : (i + j) / 2 = m := hm.symm
      have HM := Hid.mk hm
      clear hm
      cases hd : decide (0 < cpE ix[m] p) with
      | true =>
        rw [hd] at hc
        have HD := Hid.mk hd
        clear hd
        go_wp2_with (go_at_call 92; refine hc.mono ?_; clear hc; rintro r w5 ⟨rfl, b5⟩)
        exact ⟨⟨i, m, rfl, rfl, hm1, by omega, ⟨HI.lo, fun _ => of_decide_eq_true HD.out⟩, chain hb b5 (Nat.le_refl _)⟩, by simp only [intOf]; omega⟩
      | false =>
        rw [hd] at hc
        have HD := Hid.mk hd
        clear hd
        go_wp2_with (go_at_call 92; refine hc.mono ?_; clear hc; rintro r w5 ⟨rfl, b5⟩)
        exact ⟨⟨m + 1, j, rfl, rfl, by omega, hj, ⟨fun _ _ => of_decide_eq_false HD.out, HI.hi⟩, chain hb b5 (Nat.le_refl _)⟩, by simp only [intOf]; omega⟩
    · have e : i = j := by omega
      subst e
      have hr := rF_at HH.out.2 p i hj HI.lo HI.hi
      have HR := Hid.mk hr
      clear hr
      go_wp2
      go_ret
      rw [HR.out]
      exact ⟨rfl, hb⟩
set_option maxHeartbeats 4000000 in
set_option maxRecDepth 100000 in
theorem firstBlock_any (fb : Nat) (iv : Value) (ix : List En) (p : En) (w : World) (y7 : w.cell? ⟨fb, 7, none⟩ = some iv) (hrow : w.ownsRow 0 40 5 iv ix.length (ix.flatMap enC)) (hn : ix.length ≤ 1099511627776) (hu : Up ix) :
    Calls Tryd.prog 60 #[Pt fb, .agg (enV p)] w fun r w' => r = .returned (.int .i64 ((rF ix p - 1 : Nat) : Int)) ∧ Below w.heap.size w w' := by
  obtain ⟨W, hW⟩ : ∃ W, W = (w.alloc (.cells #[Pt fb] 30)).alloc (.cells (enV p) 40) := ⟨_, rfl⟩
  have bW : Below w.heap.size w W := by rw [hW]; exact ((Below.refl _ w).alloc (Nat.le_refl _) _).alloc (by simp) _
  have h1 : W.heap[w.heap.size]? = some (.cells #[Pt fb] 30 (0, 0)) := by
    have h1 := heap_alloc_last w (.cells #[Pt fb] 30)
    have h2 : Below (w.alloc (.cells #[Pt fb] 30)).heap.size (w.alloc (.cells #[Pt fb] 30)) W := by rw [hW]; exact (Below.refl _ _).alloc (Nat.le_refl _) _
    exact (h2.block _ (by simp)).trans h1
  have h2 : W.heap[w.heap.size + 1]? = some (.cells (enV p) 40 (0, 0)) := by
    have h1 := heap_alloc_last (w.alloc (.cells #[Pt fb] 30)) (.cells (enV p) 40)
    rw [World.size_alloc] at h1
    rw [hW]; exact h1
  have PB0 : PB W w.heap.size (w.heap.size + 1) fb iv ix p := ⟨boxc (A := W) h1 rfl, en5 h2, cell_lat bW y7, row_kept (F := fun _ => False) hrow (.below bW) (fun _ _ e => e)⟩
  have hs := search_any w.heap.size (w.heap.size + 1) fb iv ix p W PB0 hn hu
  have hr := rF_le ix p
  obtain ⟨q, hq⟩ : ∃ q, q = rF ix p := ⟨_, rfl⟩
  rw [← hq] at hs hr ⊢
  obtain ⟨ia, ic, rfl, -⟩ := slice_form hrow
  obtain ⟨n, hn'⟩ : ∃ n, n = ix.length := ⟨_, rfl⟩
  rw [← hn'] at hs hr y7 hn
  have y0 := PB0.f
  have y7' := cell_lat bW y7
  have hmf : ∀ (fn : Fn) (first cap : Array Value) (w : World), (Instr.makeFunc fn first cap).run Tryd.prog w = .ok (.func fn first cap) w := fun _ _ _ _ => rfl
  have HW := Hid.mk hW
  clear hW h1 h2 PB0 hrow hn' hq
  go_enter Tryd.func60, Tryd.ntmps60
  have hfz : fb < w.heap.size := World.block_lt_of_cell? w _ y7
  go_wp2_with (go_at_call 91; rw [← HW.out]; refine hs.mono ?_; clear hs; rintro r w5 ⟨rfl, b5⟩)
  go_ret
  exact ⟨ret_int (by omega), chain bW b5 (Nat.le_refl _)⟩
end Go.Proofs.YtdegclccbgpgiaaDoor
set_option linter.unusedVariables false
namespace Go.Proofs.YtdegclccbgpgiaaDoor
open Go.RowKit Go.Shelf
section
variable {F : Fence} {n : Nat} {P : Program} {α σ : Type}
/-- The iterator's word: whatever J the caller keeps, if J abides what the iterator does by itself. -/
def SeqS (F : Fence) (n : Nat) (P : Program) (g : Nat) (lb : Array Value) (encs : α → Array Value) (Nx : List α → σ → α → Prop) (Tr : σ → World → σ → World → Prop) (Kp : σ → World → World → Prop) (S Sp : List α → σ → Prop) (s0 : σ) (w : World) : Prop :=
  ∀ (l : Nat) (J Jx : List α → σ → World → Prop) (W : World), Below w.heap.size w W →
    (∀ p s A s' B, J p s A → Tr s A s' B → J p s' B) → (∀ p s A s' B, Jx p s A → Tr s A s' B → Jx p s' B) →
    (∀ p x s A, J p s A → Nx p s x → YieldAt F (n - 1) P l (encs x) A fun e B => (e = .returned (.bool true) ∧ J (p ++ [x]) s B ∧ Kp s A B) ∨ (e = .returned (.bool false) ∧ Jx (p ++ [x]) s B ∧ Kp s A B)) →
    J [] s0 W →
    CallsIn F n P g (#[.func (.yield l) #[] #[]] ++ lb) W fun e B => (∃ v, e = .returned v) ∧ ((∃ p s, S p s ∧ J p s B) ∨ (∃ p s, Sp p s ∧ Jx p s B))
theorem wpIn_rangeFunc_sS {g : Operand} {ps : Array Tmp} {assign body : Code} {Q : Exit → Act → World → Prop} {a : Act} {w : World}
    (hro : F.round = none) (h1 : 1 ≤ n) {gf : Nat} {lb : Array Value} (hg : a.eval g = .func (.func gf) #[] lb) (hFg : F.fn gf) (eg : ∀ args w, (callFunc gf args).run P w = .ok (.enter gf args) w)
    {encs : α → Array Value} {Nx : List α → σ → α → Prop} {Tr : σ → World → σ → World → Prop} {Kp : σ → World → World → Prop} {S Sp : List α → σ → Prop} {s0 : σ}
    (hseq : SeqS F (n - 1) P gf lb encs Nx Tr Kp S Sp s0 w)
    (hTr : ∀ s A s' B, Tr s A s' B → KeepsOthers A B)
    (hKt : ∀ {s A B C}, Kp s A B → Kp s B C → Kp s A C) (hKb : ∀ (s : σ) (A : World) (l : Nat) (o o' : Obj), w.heap.size ≤ l → A.heap[l]? = some o → o.isCells = false → o.isWalk = false → Kp s A (A.putObj l o'))
    (hps : ∀ x, (encs x).size = ps.size)
    (I : List α → σ → World → Prop) (Ix : Code → List α → σ → World → Prop)
    (hIt : ∀ p s A s' B, I p s A → Tr s A s' B → I p s' B) (hIxt : ∀ c p s A s' B, Ix c p s A → Tr s A s' B → Ix c p s' B)
    (hI : OwnFrom w.heap.size (fun (z : List α × σ) A => I z.1 z.2 A)) (hIx : ∀ c, OwnFrom w.heap.size (fun (z : List α × σ) A => Ix c z.1 z.2 A))
    (h0 : I [] s0 w) (Ax : α → Act → World → Prop) (hAx : ∀ x a', OwnFrom w.heap.size (fun (_ : Unit) A => Ax x a' A))
    (hassign : ∀ (l : Nat) (p : List α) (x : α) (s : σ) (A : World) (K : Act → World → Prop), I p s A → Nx p s x → (∀ a' B, KeepsFrom w.heap.size A B → Kp s A B → I p s B → Ax x a' B → K a' B) →
      assign.wpIn (F.inRound l) (n - 1 - 1) P (Exit.then K (fun _ _ _ => False)) { tmps := (ps.zip (encs x)).foldl (fun t (p, v) => t.setIfInBounds p v) a.tmps, defers := [] } A)
    (hbody : ∀ (l : Nat) (p : List α) (x : α) (s : σ) (a' : Act) (A : World), w.heap.size ≤ l → (∃ r, A.heap[l]? = some (.loop r)) → I p s A → Ax x a' A → Nx p s x → body.wpIn (F.inRound l) (n - 1 - 1) P (stPost w.heap.size Kp I Ix (p ++ [x]) s A) a' A)
    (hdone : ∀ (D : Nat) (p : List α) (s : σ) (A : World), w.heap.size ≤ D → S p s → I p s A → A.heap[D]? = some (.deferred (some [])) → Q .normal { a with defers := { target := .collected D, args := #[] } :: a.defers } A)
    (hstop : ∀ (D : Nat) (c : Code) (p : List α) (s : σ) (A : World), w.heap.size ≤ D → Sp p s → Ix c p s A → A.heap[D]? = some (.deferred (some [])) → c.wpIn F n P Q { a with defers := { target := .collected D, args := #[] } :: a.defers } A) :
    (Code.rangeFunc g ps assign body).wpIn F n P Q a w := by
  refine wpIn_rangeFunc fun fn hfn => ?_
  rw [hro]
  obtain ⟨rec, hrec⟩ : ∃ rec : LoopState → Option Code → Loop, rec = fun st pe => { state := st, pending := pe, fn, tmps := a.tmps, params := ps, assign, body, defers := w.heap.size } := ⟨_, rfl⟩
  obtain ⟨V, hV⟩ : ∃ V, V = (w.alloc (.deferred (some []))).alloc (.loop (rec .ready none)) := ⟨_, rfl⟩
  obtain ⟨lp, hlp⟩ : ∃ lp, lp = w.heap.size + 1 := ⟨_, rfl⟩
  have vl : V.heap[lp]? = some (.loop (rec .ready none)) := by
    have h := World.alloc_heap_new (w.alloc (.deferred (some []))) (.loop (rec .ready none))
    rw [World.size_alloc] at h
    rw [hV, hlp]; exact h
  have vd : V.heap[w.heap.size]? = some (.deferred (some [])) := by
    rw [hV]; exact (Below.heap_alloc _ _ _ (by simp)).trans (World.alloc_heap_new w _)
  have vb : Below w.heap.size w V := by rw [hV]; exact ((Below.refl _ w).alloc (Nat.le_refl _) _).alloc (by simp) _
  have v0 : I [] s0 V := by rw [hV]; exact hI.alloc (s := ([], s0)) _ (hI.alloc (s := ([], s0)) _ h0)
  refine ⟨lp, [{ target := .collected w.heap.size, args := #[] }], V, { target := .fn (.func gf) lb, args := #[.func (.yield lp) #[] #[]] }, V, gf, #[.func (.yield lp) #[] #[]] ++ lb, V, ?_, ?_, ?_, ?_, fun _ => h1, ?_⟩
  · rw [hV, hlp, hrec]; exact run_enterLoop_outer _ _ _ _ _
  · simp only [resolve, hg]; simp [go_sem]
  · intro f' hf'; simp [Target.leads] at hf'; subst hf'; exact hFg
  · simp [invoke, go_sem, eg]
  · refine (hseq lp (fun p s A => I p s A ∧ A.heap[lp]? = some (.loop (rec .ready none)) ∧ A.heap[w.heap.size]? = some (.deferred (some [])))
      (fun p s A => ∃ c, Ix c p s A ∧ A.heap[lp]? = some (.loop (rec .done (some c))) ∧ A.heap[w.heap.size]? = some (.deferred (some []))) V vb
      (fun p s A s' B h ht => ⟨hIt p s A s' B h.1 ht, (hTr _ _ _ _ ht).same _ _ h.2.1 rfl, (hTr _ _ _ _ ht).same _ _ h.2.2 rfl⟩)
      (fun p s A s' B h ht => by obtain ⟨c, hc, hl, hd⟩ := h; exact ⟨c, hIxt c p s A s' B hc ht, (hTr _ _ _ _ ht).same _ _ hl rfl, (hTr _ _ _ _ ht).same _ _ hd rfl⟩)
      ?_ ⟨v0, vl, vd⟩).mono ?_
    · rintro p x s A ⟨hi, hl, hd⟩ hx
      have hy := run_yield (P := P) (args := encs x) hl (by rw [hrec]; exact hps x)
      rw [hrec] at hy
      refine ⟨fn, _, assign, body, hy, roundIn_of_wpIn hfn (hassign _ p x s A _ hi hx fun a' B kf kp hib hax => ?_)⟩
      clear hy
      have bl := kf.same _ _ (by omega) hl rfl
      have bd := kf.same _ _ (Nat.le_refl _) hd rfl
      have blt : lp < B.heap.size := (Array.getElem?_eq_some_iff.1 bl).1
      refine ⟨_, run_beginRound bl (by rw [hrec]), ?_⟩
      have cl : (B.putObj lp (.loop { rec .ready none with state := .busy })).heap[lp]? = some (.loop { rec .ready none with state := .busy }) := World.putObj_heap_same blt
      have cd : (B.putObj lp (.loop { rec .ready none with state := .busy })).heap[w.heap.size]? = some (.deferred (some [])) := (World.putObj_heap_other (by omega)).trans bd
      have ck : Kp s B (B.putObj lp (.loop { rec .ready none with state := .busy })) := hKb _ _ _ _ _ (by omega) bl rfl rfl
      refine wpIn_mono (hbody _ p x s a' _ (by omega) ⟨_, cl⟩ (hI.putObj (s := (p, s)) _ hib (by omega) bl rfl) ((hAx x a').putObj (s := ()) _ hax (by omega) bl rfl) hx) ?_
      have fin : ∀ (jump : Option Code) (C : World), KeepsFrom w.heap.size (B.putObj lp (.loop { rec .ready none with state := .busy })) C →
          (Instr.endRound lp jump).run P C = .ok (.bool jump.isNone) (C.putObj lp (.loop (rec (if jump.isNone then .ready else .done) jump))) ∧
          C.heap[lp]? = some (.loop { rec .ready none with state := .busy }) ∧
          (C.putObj lp (.loop (rec (if jump.isNone then .ready else .done) jump))).heap[lp]? = some (.loop (rec (if jump.isNone then .ready else .done) jump)) ∧
          (C.putObj lp (.loop (rec (if jump.isNone then .ready else .done) jump))).heap[w.heap.size]? = some (.deferred (some [])) := fun jump C kc => by
        have l3 := kc.same _ _ (by omega) cl rfl
        have r3 := run_endRound (P := P) jump l3
        rw [hrec] at r3 ⊢
        exact ⟨r3, by rw [hrec] at l3; exact l3, World.putObj_heap_same (Array.getElem?_eq_some_iff.1 l3).1, (World.putObj_heap_other (by omega)).trans (kc.same _ _ (Nat.le_refl _) cd rfl)⟩
      rintro e a3 C hp
      cases e with
      | normal =>
        obtain ⟨k3, kp3, i3⟩ := hp
        obtain ⟨hr, l3, l4, d4⟩ := fin none C k3
        exact ⟨_, _, hr, .inl ⟨rfl, ⟨hI.putObj (s := (p ++ [x], s)) _ i3 (by omega) l3 rfl, l4, d4⟩, hKt kp (hKt (hKt ck kp3) (hKb _ _ _ _ _ (by omega) l3 rfl rfl))⟩⟩
      | ret =>
        obtain ⟨k3, kp3, i3⟩ := hp
        obtain ⟨hr, l3, l4, d4⟩ := fin (some .ret) C k3
        exact ⟨_, _, hr, .inr ⟨rfl, ⟨.ret, (hIx _).putObj (s := (p ++ [x], s)) _ i3 (by omega) l3 rfl, l4, d4⟩, hKt kp (hKt (hKt ck kp3) (hKb _ _ _ _ _ (by omega) l3 rfl rfl))⟩⟩
      | exit id =>
        obtain ⟨k3, kp3, i3⟩ := hp
        obtain ⟨hr, l3, l4, d4⟩ := fin (some (.exit id)) C k3
        exact ⟨_, _, hr, .inr ⟨rfl, ⟨.exit id, (hIx _).putObj (s := (p ++ [x], s)) _ i3 (by omega) l3 rfl, l4, d4⟩, hKt kp (hKt (hKt ck kp3) (hKb _ _ _ _ _ (by omega) l3 rfl rfl))⟩⟩
      | goto t =>
        obtain ⟨k3, kp3, i3⟩ := hp
        obtain ⟨hr, l3, l4, d4⟩ := fin (some (.goto t)) C k3
        exact ⟨_, _, hr, .inr ⟨rfl, ⟨.goto t, (hIx _).putObj (s := (p ++ [x], s)) _ i3 (by omega) l3 rfl, l4, d4⟩, hKt kp (hKt (hKt ck kp3) (hKb _ _ _ _ _ (by omega) l3 rfl rfl))⟩⟩
      | panic ch => exact hp.elim
      | outgrown => exact hp.elim
    · rintro e C ⟨⟨v, rfl⟩, (⟨p, s, hS, hi, hl, hd⟩ | ⟨p, s, hSp, c, hi, hl, hd⟩)⟩
      · exact ⟨none, _, by have := run_endLoop (P := P) hl (by rw [hrec]; simp); rw [hrec] at this; exact this, hdone _ p s _ (Nat.le_refl _) hS (hI.putObj (s := (p, s)) _ hi (by omega) hl rfl) ((World.putObj_heap_other (by omega)).trans hd)⟩
      · exact ⟨some c, _, by have := run_endLoop (P := P) hl (by rw [hrec]; simp); rw [hrec] at this; exact this, hstop _ c p s _ (Nat.le_refl _) hSp ((hIx c).putObj (s := (p, s)) _ hi (by omega) hl rfl) ((World.putObj_heap_other (by omega)).trans hd)⟩
end
end Go.Proofs.YtdegclccbgpgiaaDoor
set_option linter.unusedVariables false
set_option linter.unusedSimpArgs false
namespace Go.Proofs.YtdegclccbgpgiaaDoor
open Go.RowKit Go.Shelf Go.Proofs.SealMath
attribute [local go_sem] Oper.semAt_some
/-- What the iterator does by itself: it counts. -/
structure TrF (fb : Nat) (h : Hd) (bv iv : Value) (rd : Nat) (s : Nat) (A : World) (s' : Nat) (B : World) : Prop where
  stay : Stay (fun k => k = fb) A B
  cells : ∃ c t m, A.heap[fb]? = some (.cells c t m)
  box : A.heap[fb]? = some (.cells (flV h bv iv (rd + s)) 64 (0, 0)) → B.heap[fb]? = some (.cells (flV h bv iv (rd + s')) 64 (0, 0))
theorem TrF.others {fb : Nat} {h : Hd} {bv iv : Value} {rd s s' : Nat} {A B : World} (t : TrF fb h bv iv rd s A s' B) : KeepsOthers A B :=
  ⟨t.stay.size, fun k o hk ho => (t.stay.block k (Array.getElem?_eq_some_iff.1 hk).1 (fun e => by
    obtain ⟨c, t, m, hc⟩ := t.cells
    rw [e, hc] at hk; cases hk; cases ho)).trans hk⟩
theorem TrF.below {fb : Nat} {h : Hd} {bv iv : Value} {rd s : Nat} {A B : World} (hc : ∃ c t m, A.heap[fb]? = some (.cells c t m)) (b : Below A.heap.size A B) : TrF fb h bv iv rd s A s B := by
  obtain ⟨c, t, m, h⟩ := hc
  exact ⟨.below b, ⟨c, t, m, h⟩, fun h' => (b.block fb (Array.getElem?_eq_some_iff.1 h).1).trans h'⟩
theorem wrap_one (n : Nat) (h : n < 4611686018427387905) : wrap64 ((n : Int) + 1) = (n : Int) + 1 := by unfold wrap64; omega
theorem addr0 (g j : Nat) : (⟨g, 0, none⟩ : Addr).add j = ⟨g, j, none⟩ := by unfold Addr.add; split <;> simp_all
theorem row_by {A B : World} {b e sz n : Nat} {v : Value} {xs : List Value} (h : A.ownsRow b e sz v n xs) (hk : ∀ k c t m, v.ownBlock = some k → A.heap[k]? = some (.cells c t m) → B.heap[k]? = some (.cells c t m)) : B.ownsRow b e sz v n xs := by
  rcases h with ⟨h1, h2 | ⟨g, cap, cur, h2, h3, h4, h5⟩⟩
  · exact ⟨h1, .inl h2⟩
  · exact ⟨h1, .inr ⟨g, cap, cur, h2, h3, hk g _ _ _ (by rw [h2]; rfl) h4, h5⟩⟩
/-- What stands while the blocks are gone through. -/
structure BI (fb : Nat) (h : Hd) (bl : List (List UInt8)) (bv iv : Value) (rd Bf q : Nat) (J : List (List UInt8) → Nat → World → Prop) (i : Nat) (A : World) : Prop where
  box : A.heap[fb]? = some (.cells (flV h bv iv (rd + i)) 64 (0, 0))
  row : A.ownsRow 0 9 1 bv bl.length (bl.map sv)
  f : A.heap[Bf]? = some (.cells #[Pt fb] 30 (0, 0))
  j : J ((bl.drop q).take i) i A
set_option maxRecDepth 100000 in
set_option maxHeartbeats 4000000 in
theorem blocks_st (fb : Nat) (hd : Hd) (bl : List (List UInt8)) (ix : List En) (bv iv : Value) (rd Bf Bp n : Nat) (p : En) (w : World) (H : FA w fb hd bl ix bv iv rd)
    (hf : w.heap[Bf]? = some (.cells #[Pt fb] 30 (0, 0))) (hp : w.heap[Bp]? = some (.cells (enV p) 40 (0, 0))) (hn : ix.length ≤ 1099511627776) (hu : Up ix) (hl : ix.length = bl.length) (hrd : rd + bl.length ≤ 4611686018427387904) :
    SeqS Fence.wide n Tryd.prog 59 #[Pt Bf, Pt Bp] (fun x => #[sv x]) (fun p' s x => p' ++ [x] <+: bl.drop (rF ix p - 1) ∧ s = p'.length + 1) (TrF fb hd bv iv rd) (fun _ => KpB (fun k => k = Bf ∨ k = fb ∨ bv.ownBlock = some k) none)
      (fun p' s => p' = bl.drop (rF ix p - 1) ∧ s = p'.length) (fun p' s => p' <+: bl.drop (rF ix p - 1) ∧ s = p'.length) 0 w := fun lp J Jx W hW hJ hJx hY h0 => by
  have HW : FA W fb hd bl ix bv iv rd := ⟨(hW.block fb H.lt).trans H.box, row_kept (F := fun k => w.heap.size ≤ k) H.row ⟨hW.os, hW.tape, hW.output, hW.size, fun k hk _ => hW.block k hk⟩ (fun k hk e => by have := row_lt H.row hk; omega), row_kept (F := fun k => w.heap.size ≤ k) H.idx ⟨hW.os, hW.tape, hW.output, hW.size, fun k hk _ => hW.block k hk⟩ (fun k hk e => by have := row_lt H.idx hk; omega)⟩
  have hf1 : W.heap[Bf]? = _ := (hW.block Bf (Array.getElem?_eq_some_iff.1 hf).1).trans hf
  have hp1 : W.heap[Bp]? = _ := (hW.block Bp (Array.getElem?_eq_some_iff.1 hp).1).trans hp
  have HD := HW.below (b_drew W)
  have hrf := rF_le ix p
  obtain ⟨q, hq⟩ : ∃ q, q = rF ix p - 1 := ⟨_, rfl⟩
  have hql : q ≤ bl.length := by omega
  obtain ⟨-, y6, y7, -⟩ := fl9 HD.box
  have yf := boxc (A := W.drew) hf1 rfl
  obtain ⟨p0, p1, p2, p3, p4⟩ := en5 (W := W.drew) hp1
  have hfb := firstBlock_any fb iv ix p W.drew y7 HD.idx hn hu
  rw [← hq] at hfb hY ⊢
  obtain ⟨ba, bc, rfl, hbc⟩ := slice_form HW.row
  obtain ⟨nb, hnb⟩ : ∃ nb, nb = bl.length := ⟨_, rfl⟩
  have HN := Hid.mk hnb
  rw [← hnb] at y6 hql hbc hl
  have hq1 : (q : Int) ≤ (nb : Int) := by omega
  have hq2 : (nb : Int) ≤ (bc : Int) := by omega
  have hfz : fb < W.drew.heap.size := HD.lt
  have HH := Hid.mk (And.intro HW (And.intro hf1 (And.intro hp1 h0)))
  clear hq hrf HW hf1 hp1 h0 HD y7 H hf hp hW hnb hl
  refine callsIn_of_wp Tryd.func59 rfl trivial ?_ rfl
  simp only [Tryd.ntmps59, List.size_toArray, List.length_cons, List.length_nil, Nat.reduceAdd, Nat.reduceSub, Array.replicate_succ, Array.replicate_zero, List.push_toArray, List.append_toArray, List.nil_append, List.cons_append]
  gi_wp2_with fail
  refine region_held mixed 10 rfl (S := fun w' => w'.cell? ⟨Bf, 0, none⟩ = some (Pt fb) ∧ w'.cell? ⟨fb, 6, none⟩ = some (.slice ba nb bc) ∧ w'.cell? ⟨Bp, 0, none⟩ = some (.int .i64 p.v) ∧ w'.cell? ⟨Bp, 1, none⟩ = some (.string p.c) ∧ w'.cell? ⟨Bp, 2, none⟩ = some (.int .i64 p.i) ∧ w'.cell? ⟨Bp, 3, none⟩ = some (.int .i64 p.s) ∧ w'.cell? ⟨Bp, 4, none⟩ = some (.bool p.d)) ?_
  refine AnyS.take (i := 0) (v := ?vi0) (by kernel_rfl) rfl (by kernel_rfl) (by kernel_rfl) (by kernel_rfl) (fun _ _ _ h => h) ⟨Or.inl ⟨by rfl, fun w' hS => ?yi0⟩, fun _ => rfl⟩ ⟨yf, y6, p0, p1, p2, p3, p4⟩ ?_
  case yi0 => have g0 := hS.1; clear hS; go_simp; rfl
  refine AnyS.take (i := 1) (v := ?vi1) (by kernel_rfl) rfl (by kernel_rfl) (by kernel_rfl) (by kernel_rfl) (fun _ _ _ h => h) ⟨Or.inl ⟨by rfl, fun w' hS => ?yi1⟩, fun _ => rfl⟩ ⟨yf, y6, p0, p1, p2, p3, p4⟩ ?_
  case yi1 => go_simp; rfl
  refine AnyS.take (i := 2) (v := ?vi2) (by kernel_rfl) rfl (by kernel_rfl) (by kernel_rfl) (by kernel_rfl) (fun _ _ _ h => h) ⟨Or.inl ⟨by rfl, fun w' hS => ?yi2⟩, fun _ => rfl⟩ ⟨yf, y6, p0, p1, p2, p3, p4⟩ ?_
  case yi2 => go_simp; rfl
  refine AnyS.take (i := 3) (v := ?vi3) (by kernel_rfl) rfl (by kernel_rfl) (by kernel_rfl) (by kernel_rfl) (fun _ _ _ h => h) ⟨Or.inl ⟨by rfl, fun w' hS => ?yi3⟩, fun _ => rfl⟩ ⟨yf, y6, p0, p1, p2, p3, p4⟩ ?_
  case yi3 => have g0 := hS.2.1; clear hS; go_simp; rfl
  refine AnyS.take (i := 4) (v := ?vi4) (by kernel_rfl) rfl (by kernel_rfl) (by kernel_rfl) (by kernel_rfl) (fun _ _ _ h => h) ⟨Or.inl ⟨by rfl, fun w' hS => ?yi4⟩, fun _ => rfl⟩ ⟨yf, y6, p0, p1, p2, p3, p4⟩ ?_
  case yi4 => have g0 := hS.1; clear hS; go_simp; rfl
  refine AnyS.take (i := 5) (v := ?vi5) (by kernel_rfl) rfl (by kernel_rfl) (by kernel_rfl) (by kernel_rfl) (fun _ _ _ h => h) ⟨Or.inl ⟨by rfl, fun w' hS => ?yi5⟩, fun _ => rfl⟩ ⟨yf, y6, p0, p1, p2, p3, p4⟩ ?_
  case yi5 => obtain ⟨-, -, g0, g1, g2, g3, g4⟩ := hS; go_simp; rfl
  refine AnyS.take (i := 9) (v := ?vi9) (by kernel_rfl) rfl (by kernel_rfl) (by kernel_rfl) (by kernel_rfl) (fun _ _ _ h => h) ⟨Or.inl ⟨by rfl, fun w' hS => ?yi9⟩, fun _ => rfl⟩ ⟨yf, y6, p0, p1, p2, p3, p4⟩ ?_
  case yi9 => go_simp; rfl
  refine AnyS.one (i := 6) (by kernel_rfl) (wpOpIn_step rfl (fun K hK => ?_))
  go_simp
  refine ⟨trivial, fun h => (by cases h), (callsIn_wide.2 hfb).mono ?_⟩
  clear hfb
  rintro r w3 ⟨rfl, b3⟩
  have S3 : w3.cell? ⟨Bf, 0, none⟩ = some (Pt fb) ∧ w3.cell? ⟨fb, 6, none⟩ = some (.slice ba nb bc) ∧ w3.cell? ⟨Bp, 0, none⟩ = some (.int .i64 p.v) ∧ w3.cell? ⟨Bp, 1, none⟩ = some (.string p.c) ∧ w3.cell? ⟨Bp, 2, none⟩ = some (.int .i64 p.i) ∧ w3.cell? ⟨Bp, 3, none⟩ = some (.int .i64 p.s) ∧ w3.cell? ⟨Bp, 4, none⟩ = some (.bool p.d) := ⟨cell_lat b3 yf, cell_lat b3 y6, cell_lat b3 p0, cell_lat b3 p1, cell_lat b3 p2, cell_lat b3 p3, cell_lat b3 p4⟩
  refine hK _ _ ⟨S3, ?_⟩
  clear hK K
  refine AnyS.take (i := 7) (v := ?vi7) (by kernel_rfl) rfl (by kernel_rfl) (by kernel_rfl) (by kernel_rfl) (fun _ _ _ h => h) ⟨Or.inl ⟨by rfl, fun w' hS => ?yi7⟩, fun _ => rfl⟩ S3 ?_
  case yi7 => go_simp; rfl
  refine AnyS.take (i := 8) (v := ?vi8) (by kernel_rfl) rfl (by kernel_rfl) (by kernel_rfl) (by kernel_rfl) (fun _ _ _ h => h) ⟨Or.inl ⟨by rfl, fun w' hS => ?yi8⟩, fun _ => rfl⟩ S3 ?_
  case yi8 => go_simp; rfl
  refine AnyS.done (by kernel_rfl) ?_
  obtain ⟨HW, hf1, hp1, h0⟩ := HH.out
  have b3' : Below W.heap.size W w3 := below_d b3
  have F3 := HW.below b3'
  have hf3 : w3.heap[Bf]? = _ := (b3'.block Bf (Array.getElem?_eq_some_iff.1 hf1).1).trans hf1
  have J3 := hJ [] 0 W 0 w3 h0 (TrF.below ⟨_, _, _, HW.box⟩ b3')
  have H3 := Hid.mk (And.intro F3 (And.intro hf3 J3))
  clear F3 hf3 J3 HW hf1 hp1 h0 b3 b3' S3 yf y6 p0 p1 p2 p3 p4 HH
  gi_wp2_with fail
  · have e0 : nb - q = 0 := by omega
    have hdr : bl.drop q = [] := List.drop_of_length_le (by rw [← HN.out]; omega)
    have HD := Hid.mk hdr
    rw [e0]
    clear hdr e0
    refine wpIn_loop_rounds 1 ?_
    rw [roundsIn_succ]
    gi_wp2_with fail
    go_end0
    exact ⟨⟨_, rfl⟩, .inl ⟨[], 0, ⟨HD.out.symm, rfl⟩, H3.out.2.2⟩⟩
  · rename_i hbq
    obtain ⟨M, hM⟩ : ∃ M, M = nb - q := ⟨_, rfl⟩
    rw [← hM]
    obtain ⟨XA, hXA⟩ : ∃ XA, XA = Option.map (fun x => Addr.add x q) ba := ⟨_, rfl⟩
    rw [← hXA]
    have HXA := Hid.mk hXA
    have hMl : M = (bl.drop q).length := by rw [List.length_drop, ← HN.out]; exact hM
    have HM := Hid.mk hMl
    clear hXA hMl hM
    gi_loopw [15] (fun u wr => ∃ i : Nat, u = .int .i64 i ∧ i ≤ M ∧ BI fb hd bl (.slice ba bl.length bc) iv rd Bf q J i wr) (fun u _ => M - (intOf u).toNat)
    case atStart => exact ⟨0, rfl, Nat.zero_le _, H3.out.1.box, H3.out.1.row, H3.out.2.1, H3.out.2.2⟩
    case round =>
      obtain ⟨i, rfl, hi, hB⟩ := hrel
      clear H3
      by_cases hlt : i < M
      · have hlt2 : i < (bl.drop q).length := by rw [← HM.out]; exact hlt
        have hqi : q + i < bl.length := by rw [List.length_drop] at hlt2; omega
        obtain ⟨g, hg⟩ : ∃ g, ba = some ⟨g, 0, none⟩ := by
          rcases hB.row.2 with ⟨e, -⟩ | ⟨g, cap, cur, e, -⟩
          · injection e with e1 e2; omega
          · injection e with e1 e2; exact ⟨g, e1⟩
        subst hg
        have hXa : XA = some ⟨g, q, none⟩ := by
          rw [HXA.out, Option.map_some, addr0]
        subst hXa
        have xb := World.ownsRow.cells hB.row (g := g) rfl (q + i) (sv bl[q + i]) (by rw [List.getElem?_map, List.getElem?_eq_getElem hqi]; rfl)
        rw [addr0] at xb
        obtain ⟨x, hx⟩ : ∃ x, x = bl[q + i] := ⟨_, rfl⟩
        rw [← hx] at xb
        obtain ⟨X, hX⟩ : ∃ X : ByteArray, X = ⟨x.toArray⟩ := ⟨_, rfl⟩
        have hpx : (bl.drop q).take i ++ [x] = (bl.drop q).take (i + 1) := by
          rw [List.take_add_one, List.getElem?_eq_getElem hlt2, hx, List.getElem_drop]
          rfl
        obtain ⟨R, hR⟩ : ∃ R, R = rd + i := ⟨_, rfl⟩
        have hbx := hB.box
        rw [← hR] at hbx
        obtain ⟨-, -, -, y8, yz⟩ := fl9 hbx
        have yz8 := yz 8
        have yf := boxc (A := wr) hB.f rfl
        have hRb : R < 4611686018427387904 := by omega
        have hset := fl_set8 hbx (R + 1)
        have st1 : Stay (fun k => k = fb) wr (wr.setCell ⟨fb, 8, none⟩ (.int .i64 ((R + 1 : Nat) : Int))) := stay1 _ _ _ _ _ (.refl _ _)
        have J1 := hJ _ _ wr (i + 1) _ hB.j ⟨st1, ⟨_, _, _, hB.box⟩, fun _ => by rw [← Nat.add_assoc, ← hR]; exact hset⟩
        obtain ⟨fn, tmps, assign, body, hy, hRd⟩ := hY _ x (i + 1) _ J1 ⟨by rw [hpx]; exact List.take_prefix _ _, by rw [List.length_take]; omega⟩
        rw [show sv x = .string X by rw [hX]] at hy xb
        have e1 : (((R + 1 : Nat)) : Int) = (R : Int) + 1 := by omega
        rw [e1] at hy hRd
        have hib : i < 4611686018427387905 := by have := HM.out; rw [List.length_drop] at this; omega
        have hRb2 : R < 4611686018427387905 := by omega
        have hi1 : (i : Int) < (M : Int) := by omega
        have hwR := wrap_one R hRb2
        have hwi := wrap_one i hib
        clear hib hRb2
        have HP := Hid.mk (And.intro hB (And.intro hpx (And.intro hR (And.intro hset (And.intro st1 e1)))))
        clear hB hpx hR hset st1 hx hX J1 hbx yz e1 hlt2 hqi hRb hrd
        gi_wp2_with fail
        refine ⟨fun h => (by cases h), hRd.mono ?_⟩
        obtain ⟨hB, hpx, hR, hset, st1, e1⟩ := HP.out
        clear hy hRd xb y8 yz8 yf
        rintro rr W3 (⟨rfl, hJ3, hk3⟩ | ⟨rfl, hJ3, hk3⟩)
        · rw [e1] at hset st1
          have hb3 := hk3.2 fb _ _ _ (.inl (.inr (.inl rfl))) hset
          have hf2 := (st1.block Bf (Array.getElem?_eq_some_iff.1 hB.f).1 (fun e => by
            have h1 := hB.f
            rw [e, hB.box] at h1; simp at h1)).trans hB.f
          have hf3 := hk3.2 Bf _ _ _ (.inl (.inl rfl)) hf2
          have hr2 := row_kept hB.row st1 (fun k hk e => by
            obtain ⟨c, hc⟩ := row_block hB.row hk
            rw [e, hB.box] at hc; simp at hc)
          have hr3 := row_by (B := W3) hr2 (fun k c t m hk hc => hk3.2 k c t m (.inl (.inr (.inr hk))) hc)
          rw [hpx] at hJ3
          have B3 : BI fb hd bl (.slice (some ⟨g, 0, none⟩) bl.length bc) iv rd Bf q J (i + 1) W3 := ⟨by rw [← Nat.add_assoc, ← hR]; exact hb3, hr3, hf3, hJ3⟩
          have HB3 := Hid.mk B3
          clear B3 hb3 hf2 hf3 hr2 hr3 hJ3 hk3 hB hpx hR hset st1 e1 HP
          clear hwR
          gi_wp2
          try rw [hwi]
          clear hwi
          exact ⟨⟨i + 1, ival (by omega), hlt, HB3.out⟩, by simp only [intOf]; omega⟩
        · have HJ := Hid.mk hJ3
          have HPX := Hid.mk hpx
          clear hJ3 hk3 hB hpx hR hset st1 e1 hwR hwi
          gi_wp2_with fail
          refine bodyPost_ret (results_none rfl _ _ _) rfl ?_
          refine ⟨⟨_, rfl⟩, .inr ⟨_, _, ⟨?_, ?_⟩, HJ.out⟩⟩
          · rw [HPX.out]; exact List.take_prefix _ _
          · rw [HPX.out, List.length_take]
            have := HM.out
            omega
      · have e1 : i = M := by omega
        have hi1 : ¬ (i : Int) < (M : Int) := by omega
        have hj := hB.j
        have HJ := Hid.mk hj
        clear hj hB
        gi_wp2_with fail
        go_end0
        refine ⟨⟨_, rfl⟩, .inl ⟨_, _, ⟨?_, ?_⟩, HJ.out⟩⟩
        · exact List.take_of_length_le (by rw [← HM.out]; omega)
        · rw [List.length_take, ← HM.out]; omega
end Go.Proofs.YtdegclccbgpgiaaDoor
set_option linter.unusedVariables false
set_option linter.unusedSimpArgs false
namespace Go.Proofs.YtdegclccbgpgiaaDoor
open Go.RowKit Go.Shelf Go.Proofs.SealMath
/-- The file, the list that is found, in its box, and the result's box. -/
structure OI (U : World) (fb : Nat) (h : Hd) (bv iv : Value) (rd Bo Br s : Nat) (L : List En) (lv rv : Value) (A : World) : Prop where
  num : fb ≠ Bo ∧ fb ≠ Br ∧ Bo ≠ Br ∧ fb < U.heap.size ∧ Bo < U.heap.size ∧ Br < U.heap.size
  box : A.heap[Bo]? = some (.cells #[lv] 24 (0, 0))
  res : A.heap[Br]? = some (.cells #[rv] 24 (0, 0))
  row : A.ownsRow 0 40 5 lv L.length (L.flatMap enC)
  file : A.heap[fb]? = some (.cells (flV h bv iv (rd + s)) 64 (0, 0))
  stay : Stay (fun k => k = Bo ∨ k = Br ∨ k = fb) U A
  loc : ∀ k, lv.ownBlock = some k → U.heap.size ≤ k
section
variable {U A B : World} {fb : Nat} {h : Hd} {bv iv : Value} {rd Bo Br s s' : Nat} {L : List En} {lv rv : Value}
theorem OI.tr (o : OI U fb h bv iv rd Bo Br s L lv rv A) (t : TrF fb h bv iv rd s A s' B) : OI U fb h bv iv rd Bo Br s' L lv rv B where
  num := o.num
  box := (t.stay.block Bo (Array.getElem?_eq_some_iff.1 o.box).1 (fun e => o.num.1 e.symm)).trans o.box
  res := (t.stay.block Br (Array.getElem?_eq_some_iff.1 o.res).1 (fun e => o.num.2.1 e.symm)).trans o.res
  row := row_kept o.row t.stay (fun k hk e => by have := o.loc k hk; have := o.num.2.2.2.1; omega)
  file := t.box o.file
  stay := o.stay.andThen t.stay (fun k _ e => .inr (.inr e))
  loc := o.loc
theorem OI.grown {row : Option Nat} (o : OI U fb h bv iv rd Bo Br s L lv rv A) (hg : A.grownBy B row) (hr : ∀ r, row = some r → U.heap.size ≤ r ∧ ∃ o : Obj, A.heap[r]? = some o ∧ o.isCells = false) : OI U fb h bv iv rd Bo Br s L lv rv B := by
  have st : Stay (fun k => row = some k) A B := .grown hg (fun k hk => hk)
  have hlow : ∀ k, k < U.heap.size → ¬ row = some k := fun k hk e => by have := (hr k e).1; omega
  exact {
    num := o.num
    box := (st.block Bo (Array.getElem?_eq_some_iff.1 o.box).1 (hlow Bo o.num.2.2.2.2.1)).trans o.box
    res := (st.block Br (Array.getElem?_eq_some_iff.1 o.res).1 (hlow Br o.num.2.2.2.2.2)).trans o.res
    row := row_kept o.row st (fun k hk e => by
      obtain ⟨-, o1, ho, hc⟩ := hr k e
      obtain ⟨c, hc'⟩ := row_block o.row hk
      rw [hc'] at ho; cases ho; cases hc)
    file := (st.block fb (Array.getElem?_eq_some_iff.1 o.file).1 (hlow fb o.num.2.2.2.1)).trans o.file
    stay := o.stay.andThen st (fun k hk e => absurd e (hlow k hk))
    loc := o.loc }
/-- A round of the inner loop, as the outer one sees it. -/
theorem OI.step {L' : List En} {lv' rv' : Value} {C : World} (o : OI U fb h bv iv rd Bo Br s L lv rv A) (st : Stay (fun k => k = Bo ∨ k = Br ∨ lv.ownBlock = some k) A C)
    (hb : C.heap[Bo]? = some (.cells #[lv'] 24 (0, 0))) (hr : C.heap[Br]? = some (.cells #[rv'] 24 (0, 0))) (hrow : C.ownsRow 0 40 5 lv' L'.length (L'.flatMap enC)) (hloc : ∀ k, lv'.ownBlock = some k → lv.ownBlock = some k ∨ A.heap.size ≤ k) :
    OI U fb h bv iv rd Bo Br s L' lv' rv' C ∧ KeepsOthers A C ∧ ∀ K : Nat → Prop, (∀ k, K k → k < U.heap.size ∧ k ≠ Bo ∧ k ≠ Br) → KpB K none A C := by
  have hcell : ∀ k, (k = Bo ∨ k = Br ∨ lv.ownBlock = some k) → ∃ c t m, A.heap[k]? = some (.cells c t m) := fun k e => by
    rcases e with e | e | e
    · subst e; exact ⟨_, _, _, o.box⟩
    · subst e; exact ⟨_, _, _, o.res⟩
    · obtain ⟨c, hc⟩ := row_block o.row e; exact ⟨_, _, _, hc⟩
  refine ⟨{ num := o.num, box := hb, res := hr, row := hrow, file := (st.block fb (Array.getElem?_eq_some_iff.1 o.file).1 (fun e => ?_)).trans o.file, stay := o.stay.andThen st (fun k hk e => ?_), loc := fun k hk => ?_ }, ⟨st.size, fun k ob hk ho => (st.block k (Array.getElem?_eq_some_iff.1 hk).1 (fun e => ?_)).trans hk⟩, fun K hK => ⟨st.size, fun k c t m hk hh => (st.block k (Array.getElem?_eq_some_iff.1 hh).1 (fun e => ?_)).trans hh⟩⟩
  · rcases e with e | e | e
    · exact o.num.1 e
    · exact o.num.2.1 e
    · have := o.loc _ e; have := o.num.2.2.2.1; omega
  · rcases e with e | e | e
    · exact .inl e
    · exact .inr (.inl e)
    · have := o.loc _ e; omega
  · rcases hloc k hk with e | e
    · exact o.loc k e
    · exact Nat.le_trans o.stay.size e
  · obtain ⟨c, t, m, h1⟩ := hcell k e
    rw [hk] at h1; cases h1; cases ho
  · rcases hk with hk | hk
    · obtain ⟨k1, k2, k3⟩ := hK k hk
      rcases e with e | e | e
      · exact k2 e
      · exact k3 e
      · have := o.loc _ e; omega
    · cases hk
end
/-- What is left behind where the inner loop is left by a return. -/
structure AX (W0 : World) (Bo Br : Nat) (lv0 : Value) (L : List En) (lv : Value) (s : Option Nat) (A : World) : Prop where
  lt : Bo < W0.heap.size ∧ Br < W0.heap.size
  box : A.heap[Bo]? = some (.cells #[lv] 24 (0, 0))
  res : A.heap[Br]? = some (.cells #[lv] 24 (0, 0))
  row : A.ownsRow 0 40 5 lv L.length (L.flatMap enC)
  stay : Stay (fun k => k = Bo ∨ k = Br ∨ lv0.ownBlock = some k) W0 A
  loc : ∀ k, lv.ownBlock = some k → lv0.ownBlock = some k ∨ W0.heap.size ≤ k
  own : ∀ k, s = some k → W0.heap.size ≤ k ∧ k < A.heap.size ∧ lv.ownBlock ≠ some k
section
variable {W0 A B : World} {Bo Br : Nat} {lv0 lv : Value} {L : List En} {s s' : Option Nat}
theorem AX.row_lt (h : AX W0 Bo Br lv0 L lv s A) {k : Nat} (hk : lv.ownBlock = some k) : k < A.heap.size := by
  obtain ⟨c, hc⟩ := row_block h.row hk
  exact (Array.getElem?_eq_some_iff.1 hc).1
theorem AX.tr (h : AX W0 Bo Br lv0 L lv s A) (t : TrB s A s' B) : AX W0 Bo Br lv0 L lv s' B where
  lt := h.lt
  box := (t.stay.block Bo (Array.getElem?_eq_some_iff.1 h.box).1 (fun e => by have := (h.own Bo e).1; have := h.lt.1; omega)).trans h.box
  res := (t.stay.block Br (Array.getElem?_eq_some_iff.1 h.res).1 (fun e => by have := (h.own Br e).1; have := h.lt.2; omega)).trans h.res
  row := row_kept h.row t.stay (fun k hk e => (h.own k e).2.2 hk)
  stay := h.stay.andThen t.stay (fun k hk e => by have := (h.own k e).1; omega)
  loc := h.loc
  own := fun k hk => by
    have hlt := t.lt k hk
    rcases t.loc k hk with e | e
    · exact ⟨(h.own k e).1, hlt, (h.own k e).2.2⟩
    · refine ⟨Nat.le_trans h.stay.size e, hlt, fun e2 => ?_⟩
      have := h.row_lt e2
      omega
theorem AX.grown {row : Option Nat} (h : AX W0 Bo Br lv0 L lv s A) (hg : A.grownBy B row) (hr : ∀ r, row = some r → W0.heap.size ≤ r ∧ ∃ o : Obj, A.heap[r]? = some o ∧ o.isCells = false) : AX W0 Bo Br lv0 L lv s B := by
  have st : Stay (fun k => row = some k) A B := .grown hg (fun k hk => hk)
  exact {
    lt := h.lt
    box := (st.block Bo (Array.getElem?_eq_some_iff.1 h.box).1 (fun e => by have := (hr Bo e).1; have := h.lt.1; omega)).trans h.box
    res := (st.block Br (Array.getElem?_eq_some_iff.1 h.res).1 (fun e => by have := (hr Br e).1; have := h.lt.2; omega)).trans h.res
    row := row_kept h.row st (fun k hk e => by
      obtain ⟨-, o, ho, hc⟩ := hr k e
      obtain ⟨c, hc'⟩ := row_block h.row hk
      rw [hc'] at ho; cases ho; cases hc)
    stay := h.stay.andThen st (fun k hk e => by have := (hr k e).1; omega)
    loc := h.loc
    own := fun k hk => ⟨(h.own k hk).1, Nat.lt_of_lt_of_le (h.own k hk).2.1 hg.size, (h.own k hk).2.2⟩ }
/-- The list is the answer. -/
theorem AI.ret {rv : Value} (h : AI W0 Bo lv0 L lv s A) (hne : Bo ≠ Br) (hlt : Br < W0.heap.size) (hr : A.heap[Br]? = some (.cells #[rv] 24 (0, 0))) : AX W0 Bo Br lv0 L lv s (A.setCell ⟨Br, 0, none⟩ lv) ∧ Stay (fun k => k = Br) A (A.setCell ⟨Br, 0, none⟩ lv) := by
  have st : Stay (fun k => k = Br) A (A.setCell ⟨Br, 0, none⟩ lv) := stay1 _ _ _ _ _ (.refl _ _)
  refine ⟨{ lt := ⟨h.lt, hlt⟩, box := (st.block Bo (Array.getElem?_eq_some_iff.1 h.box).1 hne).trans h.box, res := by rw [heap_setCell_same A Br 0 _ _ _ hr]; rfl, row := row_kept h.row st (fun k hk e => ?_), stay := (h.stay.mono (fun k _ e => ?_)).andThen st (fun k _ e => .inr (.inl e)), loc := h.loc, own := fun k hk => ⟨(h.own k hk).1, Nat.lt_of_lt_of_le (h.own k hk).2.1 st.size, (h.own k hk).2.2⟩ }, st⟩
  · obtain ⟨c, hc⟩ := row_block h.row hk
    rw [e, hr] at hc; simp at hc
  · rcases e with e | e
    · exact .inl e
    · exact .inr (.inr e)
end
/-- At the end, behind the loop's mark. -/
theorem OI.fin {w U A w' : World} {fb : Nat} {h : Hd} {bl : List (List UInt8)} {ix : List En} {bv iv : Value} {rd Bo Br s : Nat} {L : List En} {lv : Value} (o : OI U fb h bv iv rd Bo Br s L lv lv A) (H : FA w fb h bl ix bv iv rd) (bU : Below w.heap.size w U) (hBo : w.heap.size ≤ Bo) (hBr : w.heap.size ≤ Br)
    {D : Nat} (hD : U.heap.size ≤ D) (hdef : A.heap[D]? = some (.deferred (some []))) (st : Stay (fun k => k ∈ [D]) A w') :
    w'.cell? ⟨Br, 0, none⟩ = some lv ∧ w'.ownsRow 0 40 5 lv L.length (L.flatMap enC) ∧ (∀ k, lv.ownBlock = some k → w.heap.size ≤ k) ∧ FA w' fb h bl ix bv iv (rd + s) ∧ Stay (fun k => k = fb) w w' := by
  have s1 : Stay (fun k => k = Bo ∨ k = Br ∨ k = fb ∨ k ∈ [D]) U w' := (o.stay.mono (fun k _ e => by rcases e with e | e | e <;> simp [e])).andThen st (fun k _ e => .inr (.inr (.inr e)))
  have s2 : Stay (fun k => k = fb) w w' := by
    refine ⟨s1.os.trans bU.os, s1.tape.trans bU.tape, s1.output.trans bU.output, Nat.le_trans bU.size s1.size, fun k hk hn => ?_⟩
    refine (s1.block k (Nat.lt_of_lt_of_le hk bU.size) (fun e => ?_)).trans (bU.block k hk)
    have := bU.size
    rcases e with e | e | e | e
    · omega
    · omega
    · exact hn e
    · simp at e; omega
  have nD : ∀ k, k < U.heap.size → ¬ k ∈ [D] := fun k hk e => by simp at e; omega
  have hres : w'.heap[Br]? = _ := (st.block Br (Array.getElem?_eq_some_iff.1 o.res).1 (nD _ o.num.2.2.2.2.2)).trans o.res
  have hfile : w'.heap[fb]? = _ := (st.block fb (Array.getElem?_eq_some_iff.1 o.file).1 (nD _ o.num.2.2.2.1)).trans o.file
  refine ⟨boxc (A := w') hres rfl, row_kept o.row st (fun k hk e => ?_), fun k hk => Nat.le_trans bU.size (o.loc k hk), ⟨hfile, row_kept H.row s2 (fun k hk e => H.row_ne hk e), row_kept H.idx s2 (fun k hk e => H.idx_ne hk e)⟩, s2⟩
  obtain ⟨c, hc⟩ := row_block o.row hk
  simp at e
  rw [e, hdef] at hc; cases hc
/-- How long what is found may be. -/
theorem len_lim (cb : Nat) (bl : List (List UInt8)) (hs : (bl.map (·.length + 14)).sum ≤ 1099511627776) (q : Nat) (p : List (List UInt8)) (y : List UInt8) (hy : p ++ [y] <+: bl.drop q) : ((alA cb p).length + (ents ⟨y.toArray⟩ 0 cb).length) * (cb + 7) ≤ 1099511627776 := by
  obtain ⟨t, ht⟩ := hy
  have h1 := congrArg (fun l => (l.map (·.length + 14)).sum) (List.take_append_drop q bl)
  rw [← ht] at h1
  have h2 := alA_len cb (p ++ [y])
  have e : alA cb (p ++ [y]) = alA cb p ++ ents ⟨y.toArray⟩ 0 cb := by unfold alA; rw [List.flatMap_append]; simp
  rw [e, List.length_append] at h2
  simp only [List.map_append, List.sum_append] at h1 h2
  omega
set_option maxRecDepth 100000 in
theorem blocksFrom_any (fb : Nat) (p : En) (w : World) :
    Calls Tryd.prog 30 #[Pt fb, .agg (enV p)] w fun r w' => r = .returned (.func (.func 59) #[] #[Pt w.heap.size, Pt (w.heap.size + 1)]) ∧ w' = (w.alloc (.cells #[Pt fb] 30)).alloc (.cells (enV p) 40) := by
  have hmf : ∀ (fn : Fn) (first cap : Array Value) (w : World), (Instr.makeFunc fn first cap).run Tryd.prog w = .ok (.func fn first cap) w := fun _ _ _ _ => rfl
  go_enter Tryd.func30, Tryd.ntmps30
  go_wp2
  go_ret
  exact ⟨rfl, rfl⟩
end Go.Proofs.YtdegclccbgpgiaaDoor
set_option linter.unusedVariables false
set_option linter.unusedSimpArgs false
namespace Go.Proofs.YtdegclccbgpgiaaDoor
open Go.RowKit Go.Shelf Go.Proofs.SealMath
attribute [local go_sem] Oper.semAt_some
/-- The entries of a value. -/
def hitV (x : Int) (l : List En) : List En := l.filter fun e => decide (e.v = x)
/-- How blocks are gone through for a value: to the end, or up to an entry above it. -/
def FndO (cb : Nat) (x : Int) (bl : List (List UInt8)) (t : Nat) (L : List En) : Prop :=
  (t = bl.length ∧ (∀ e ∈ alA cb bl, e.v ≤ x) ∧ L = hitV x (alA cb bl)) ∨
  ∃ pre y q rest, pre ++ [y] <+: bl ∧ t = pre.length + 1 ∧ ents ⟨y.toArray⟩ 0 cb = q ++ rest ∧ (∃ e r, rest = e :: r ∧ x < e.v) ∧ (∀ e ∈ alA cb pre ++ q, e.v ≤ x) ∧ L = hitV x (alA cb pre ++ q)
theorem alA_snoc (cb : Nat) (p : List (List UInt8)) (y : List UInt8) : alA cb (p ++ [y]) = alA cb p ++ ents ⟨y.toArray⟩ 0 cb := by unfold alA; rw [List.flatMap_append]; simp
theorem hitV_app (x : Int) (a b : List En) : hitV x (a ++ b) = hitV x a ++ hitV x b := by unfold hitV; rw [List.filter_append]
theorem mem_sum : ∀ (bl : List (List UInt8)) (i : Nat) (hi : i < bl.length), bl[i].length + 14 ≤ (bl.map (·.length + 14)).sum
  | x :: l, 0, _ => by simp
  | x :: l, i + 1, hi => by
    have := mem_sum l i (by simpa using hi)
    simp only [List.getElem_cons_succ, List.map_cons, List.sum_cons]
    omega
theorem alloc_old (W : World) (o : Obj) (k : Nat) (h : k < W.heap.size) : (W.alloc o).heap[k]? = W.heap[k]? := ((Below.refl _ W).alloc (Nat.le_refl _) o).block k h
theorem two_new {V : World} (W : World) (o1 o2 : Obj) (h : V = (W.alloc o1).alloc o2) : Below W.heap.size W V ∧ V.heap[W.heap.size]? = some o1 ∧ V.heap[W.heap.size + 1]? = some o2 ∧ V.heap.size = W.heap.size + 2 := by
  subst h
  refine ⟨((Below.refl _ W).alloc (Nat.le_refl _) _).alloc (by simp) _, ?_, ?_, by simp⟩
  · rw [alloc_old _ _ _ (by simp)]; exact heap_alloc_last W o1
  · have := heap_alloc_last (W.alloc o1) o2
    rw [World.size_alloc] at this; exact this
theorem four_new {V : World} (W : World) (o1 o2 o3 o4 : Obj) (h : V = (((W.alloc o1).alloc o2).alloc o3).alloc o4) : Below W.heap.size W V ∧ V.heap[W.heap.size]? = some o1 ∧ V.heap[W.heap.size + 1]? = some o2 ∧ V.heap[W.heap.size + 1 + 1]? = some o3 ∧ V.heap[W.heap.size + 1 + 1 + 1]? = some o4 ∧ V.heap.size = W.heap.size + 4 := by
  obtain ⟨b1, h1, h2, s1⟩ := two_new W o1 o2 rfl
  obtain ⟨b2, h3, h4, s2⟩ := two_new ((W.alloc o1).alloc o2) o3 o4 h
  rw [s1] at h3 h4 s2
  exact ⟨chain b1 b2 (Nat.le_refl _), (b2.block _ (by omega)).trans h1, (b2.block _ (by omega)).trans h2, h3, h4, s2⟩
set_option maxHeartbeats 8000000 in
set_option maxRecDepth 100000 in
theorem find_any (fb : Nat) (hd : Hd) (bl : List (List UInt8)) (ix : List En) (bv iv : Value) (rd : Nat) (x : Int) (w : World) (H : FA w fb hd bl ix bv iv rd) (hw : 64 ≤ hd.w ∧ hd.w ≤ 1024) (hs : (bl.map (·.length + 14)).sum ≤ 1099511627776) (hl : ix.length = bl.length) (hu : Up ix) (hrd : rd + bl.length ≤ 4611686018427387904) :
    Calls Tryd.prog 14 #[Pt fb, .int .i64 x] w fun r w' => ∃ v t L, r = .returned v ∧ FndO (cbH hd) x (bl.drop (rF ix ⟨x, ⟨#[]⟩, -1, 0, false⟩ - 1)) t L ∧ w'.ownsRow 0 40 5 v L.length (L.flatMap enC) ∧ (∀ k, v.ownBlock = some k → w.heap.size ≤ k) ∧ FA w' fb hd bl ix bv iv (rd + t) ∧ Stay (fun k => k = fb) w w' := by
  have hbl := len_sum bl
  obtain ⟨CB, hCB⟩ : ∃ CB, CB = cbH hd := ⟨_, rfl⟩
  have hcb := fun r W hbx => codeBytes_any fb hd bv iv r W hbx hw
  rw [← hCB] at hcb ⊢
  have hCB2 : CB ≤ 128 := by rw [hCB]; unfold cbH; omega
  clear hCB
  have hfz := H.lt
  refine (callsIn_wide (n := 9)).1 ?_
  refine callsIn_of_wp_marks Tryd.func14 rfl trivial ?_ rfl
  simp only [Tryd.ntmps14, List.size_toArray, List.length_cons, List.length_nil, Nat.reduceAdd, Nat.reduceSub, Array.replicate_succ, Array.replicate_zero, List.push_toArray, List.append_toArray, List.nil_append, List.cons_append]
  obtain ⟨pl, hpl⟩ : ∃ pl : En, pl = ⟨x, ⟨#[]⟩, -1, 0, false⟩ := ⟨_, rfl⟩
  gi_wp2_with fail
  obtain ⟨U0, hU0⟩ : ∃ U0, U0 = (((w.alloc (.cells #[Pt fb] 30)).alloc (.cells #[.int .i64 x] 3)).alloc (.cells #[.slice none 0 0] 24)).alloc (.cells #[.slice none 0 0] 24) := ⟨_, rfl⟩
  rw [← hU0]
  have hbf := blocksFrom_any fb pl U0
  simp only [enV, hpl] at hbf
  refine ⟨trivial, (callsIn_wide.2 hbf).mono ?_⟩
  clear hbf
  rintro r U ⟨rfl, hU⟩
  obtain ⟨b0, f1, f2, f3, f4, fs⟩ := four_new w _ _ _ _ hU0
  obtain ⟨b1, g1, g2, gs⟩ := two_new U0 _ _ hU
  have bU := chain b0 b1 (Nat.le_refl _)
  have HU : FA U fb hd bl ix bv iv rd := H.below bU
  have u1 : U.heap[w.heap.size]? = _ := (b1.block _ (by omega)).trans f1
  have u2 : U.heap[w.heap.size + 1]? = _ := (b1.block _ (by omega)).trans f2
  have u3 : U.heap[w.heap.size + 1 + 1]? = _ := (b1.block _ (by omega)).trans f3
  have u4 : U.heap[w.heap.size + 1 + 1 + 1]? = _ := (b1.block _ (by omega)).trans f4
  obtain ⟨q0, hq0⟩ : ∃ q0, q0 = rF ix pl - 1 := ⟨_, rfl⟩
  have hseq := blocks_st fb hd bl ix bv iv rd U0.heap.size (U0.heap.size + 1) 8 pl U HU g1 (by rw [g2, hpl]) (by omega) hu hl hrd
  rw [← hq0] at hseq
  have hq0' : bl.drop (rF ix ⟨x, ⟨#[]⟩, -1, 0, false⟩ - 1) = bl.drop q0 := by rw [hq0, hpl]
  have HQ := Hid.mk hq0'
  have FS := Hid.mk (And.intro fs gs)
  clear hU0 hU f1 f2 f3 f4 hq0 hq0' hpl fs gs
  gi_wp2_with fail
  obtain ⟨fs, gs⟩ := FS.out
  have o0 : OI U fb hd bv iv rd (w.heap.size + 1 + 1 + 1) (w.heap.size + 1 + 1) 0 (hitV x (alA CB [])) (.slice none 0 0) (.slice none 0 0) U :=
    { num := by refine ⟨?_, ?_, ?_, HU.lt, ?_, ?_⟩ <;> omega, box := u4, res := u3, row := ⟨rfl, .inl ⟨rfl, rfl⟩⟩, file := HU.box, stay := .refl _ _, loc := fun k hk => by cases hk }
  clear fs gs
  refine wpIn_rangeFunc_sS rfl (by omega) (gf := 59) (lb := #[Pt U0.heap.size, Pt (U0.heap.size + 1)]) rfl trivial (enters_of Tryd.func59 (by kernel_rfl) rfl) hseq (fun _ _ _ _ h => h.others) (fun {_ _ _ _} => KpB.trans) (fun s A l o o' _ h ho _ => KpB.put none A l o o' h ho) (fun _ => rfl)
    (fun p s A => (∃ lv rv, OI U fb hd bv iv rd (w.heap.size + 1 + 1 + 1) (w.heap.size + 1 + 1) s (hitV x (alA CB p)) lv rv A) ∧ ∀ e ∈ alA CB p, e.v ≤ x)
    (fun c p s A => c = .ret ∧ ∃ lv pre y q rest, OI U fb hd bv iv rd (w.heap.size + 1 + 1 + 1) (w.heap.size + 1 + 1) s (hitV x (alA CB pre ++ q)) lv lv A ∧ p = pre ++ [y] ∧ ents ⟨y.toArray⟩ 0 CB = q ++ rest ∧ (∃ e r, rest = e :: r ∧ x < e.v) ∧ ∀ e ∈ alA CB pre ++ q, e.v ≤ x)
    (fun p s A s' B h ht => by obtain ⟨⟨lv, rv, o⟩, h2⟩ := h; exact ⟨⟨lv, rv, o.tr ht⟩, h2⟩)
    (fun c p s A s' B h ht => by obtain ⟨h1, lv, pre, y, q, rest, o, h2⟩ := h; exact ⟨h1, lv, pre, y, q, rest, o.tr ht, h2⟩)
    (fun z A B row h hg hr => by obtain ⟨⟨lv, rv, o⟩, h2⟩ := h; exact ⟨⟨lv, rv, o.grown hg hr⟩, h2⟩)
    (fun c z A B row h hg hr => by obtain ⟨h1, lv, pre, y, q, rest, o, h2⟩ := h; exact ⟨h1, lv, pre, y, q, rest, o.grown hg hr, h2⟩)
    ⟨⟨_, _, o0⟩, fun e he => by cases he⟩
    (fun y a' A => a' = { tmps := #[Pt fb, .int .i64 x, .pointer (some ⟨w.heap.size, 0, none⟩), .pointer (some ⟨w.heap.size + 1, 0, none⟩), .pointer (some ⟨w.heap.size + 1 + 1, 0, none⟩), .pointer (some ⟨w.heap.size + 1 + 1 + 1, 0, none⟩), sv y, undef, Pt fb, .bool false, Pt fb, .int .i64 x, .agg #[.int .i64 x, .string ⟨#[]⟩, .int .i64 (-1), .int .i64 0, .bool false], .func (.func 59) #[] #[Pt U0.heap.size, Pt (U0.heap.size + 1)], sv y, undef, undef, undef, undef, undef, undef, undef, undef, undef, undef, undef, undef, undef, undef, undef, undef, undef, undef, undef], defers := [] })
    (fun x a' s A B row h hg hr => h) ?assign ?body ?done ?stop
  case assign =>
    intro lp p y s A K hI hx hK
    gi_wp2
    exact hK _ _ (KeepsFrom.refl _ _) ⟨Nat.le_refl _, fun _ _ _ _ _ h => h⟩ hI rfl
  case body =>
    rintro lp p y s a' A hlp ⟨rc, hrc⟩ ⟨⟨lv, rv, o⟩, hle⟩ rfl hy
    obtain ⟨X, hX⟩ : ∃ X : ByteArray, X = ⟨y.toArray⟩ := ⟨_, rfl⟩
    have hyX : sv y = .string X := by rw [hX]
    have HX := Hid.mk hX
    clear hX
    have hlow : ∀ k, k < U.heap.size → k ≠ w.heap.size + 1 + 1 + 1 → k ≠ w.heap.size + 1 + 1 → k ≠ fb → A.heap[k]? = U.heap[k]? := fun k h1 h2 h3 h4 => o.stay.block k h1 (fun e => by rcases e with e | e | e <;> omega)
    have fs := FS.out.1
    have gs := FS.out.2
    have a1 : A.heap[w.heap.size]? = _ := (hlow _ (by omega) (by omega) (by omega) (by omega)).trans u1
    have a2 : A.heap[w.heap.size + 1]? = _ := (hlow _ (by omega) (by omega) (by omega) (by omega)).trans u2
    have c1 := boxc (A := A) a1 rfl
    have cb1 := hcb (rd + s) A o.file
    have HY := Hid.mk (And.intro hy hrc)
    rw [hyX]
    clear fs gs hrc hy hyX hlow
    gi_wp2_with fail
    refine ⟨trivial, (CallsIn.inRound lp (callsIn_wide.2 cb1)).mono ?_⟩
    rintro r A1 ⟨rfl, rfl⟩
    gi_wp2_with fail
    refine ⟨trivial, (CallsIn.inRound lp (callsIn_wide.2 (entries_any X CB A1))).mono ?_⟩
    rintro r A2 ⟨rfl, hA2⟩
    obtain ⟨b2, e1, e2, es⟩ := two_new A1 _ _ hA2
    have v2 : A2.heap[w.heap.size + 1]? = _ := (b2.block _ (Array.getElem?_eq_some_iff.1 a2).1).trans a2
    have hlr : A2.heap[lp]? = some (.loop rc) := (b2.block _ (Array.getElem?_eq_some_iff.1 HY.out.2).1).trans HY.out.2
    have hXl : X.size < 1152921504606846976 := by
      have h1 : y ∈ bl := List.mem_of_mem_drop (HY.out.1.1.subset (by simp))
      obtain ⟨i, hi, hyi⟩ := List.getElem_of_mem h1
      have h2 : bl[i].length + 14 ≤ (bl.map (·.length + 14)).sum := mem_sum bl i hi
      rw [HX.out, ba_len]; rw [hyi] at h2; omega
    have hseq2 := entries_st X CB A1.heap.size (A1.heap.size + 1) 6 (fun k => k = A1.heap.size ∨ k = A1.heap.size + 1) A2 e1 e2 ⟨.inl rfl, .inr rfl⟩ (fun k hk => by
      rcases hk with rfl | rfl
      · exact ⟨_, _, _, e1⟩
      · exact ⟨_, _, _, e2⟩) hXl hCB2
    have hBo : A2.heap[w.heap.size + 1 + 1 + 1]? = _ := (b2.block _ (Array.getElem?_eq_some_iff.1 o.box).1).trans o.box
    have hBr : A2.heap[w.heap.size + 1 + 1]? = _ := (b2.block _ (Array.getElem?_eq_some_iff.1 o.res).1).trans o.res
    have a0 : AI A2 (w.heap.size + 1 + 1 + 1) lv (hitV x (alA CB p) ++ hitV x []) lv none A2 :=
      { lt := (Array.getElem?_eq_some_iff.1 hBo).1, box := hBo, row := by rw [show hitV x [] = [] from rfl, List.append_nil]; exact row_kept (F := fun _ => False) o.row (.below b2) (fun _ _ e => e), stay := .refl _ _, loc := fun k hk => .inl hk, own := fun k hk => by cases hk }
    have ES := Hid.mk es
    clear hA2 es cb1 c1 a1 a2
    gi_wp2_with fail
    refine wpIn_rangeFunc_stN (l₀ := lp) rfl hlr (by omega) (gf := 58) (lb := #[Pt A1.heap.size, Pt (A1.heap.size + 1)]) rfl trivial (enters_of Tryd.func58 (by kernel_rfl) rfl) hseq2 (fun _ _ _ _ h => h.others) KpB.trans (fun s A l o o' _ h ho _ => KpB.put s A l o o' h ho) (fun _ => rfl)
      (fun p2 s2 B => (∃ lv', AI A2 (w.heap.size + 1 + 1 + 1) lv (hitV x (alA CB p) ++ hitV x p2) lv' s2 B) ∧ ∀ e ∈ p2, e.v ≤ x)
      (fun c p2 s2 B => c = .ret ∧ ∃ lv' q e, AX A2 (w.heap.size + 1 + 1 + 1) (w.heap.size + 1 + 1) lv (hitV x (alA CB p) ++ hitV x q) lv' s2 B ∧ p2 = q ++ [e] ∧ p2 <+: ents X 0 CB ∧ x < e.v ∧ ∀ e ∈ q, e.v ≤ x)
      (fun p s A s' B h ht => by obtain ⟨⟨lv', hA⟩, h2⟩ := h; exact ⟨⟨lv', hA.tr ht⟩, h2⟩)
      (fun c p s A s' B h ht => by obtain ⟨h1, lv', q, e, hA, h2⟩ := h; exact ⟨h1, lv', q, e, hA.tr ht, h2⟩)
      (fun z A B row h hg hr => by obtain ⟨⟨lv', hA⟩, h2⟩ := h; exact ⟨⟨lv', hA.grown hg hr⟩, h2⟩)
      (fun c z A B row h hg hr => by obtain ⟨h1, lv', q, e, hA, h2⟩ := h; exact ⟨h1, lv', q, e, hA.grown hg hr, h2⟩)
      ⟨⟨lv, a0⟩, fun e he => by cases he⟩
      (fun e a' B => ∃ Bx, A2.heap.size ≤ Bx ∧ B.heap[Bx]? = some (.cells (enV e) 40 (0, 0)) ∧ a' = { tmps := #[Pt fb, .int .i64 x, .pointer (some ⟨w.heap.size, 0, none⟩), .pointer (some ⟨w.heap.size + 1, 0, none⟩), .pointer (some ⟨w.heap.size + 1 + 1, 0, none⟩), .pointer (some ⟨w.heap.size + 1 + 1 + 1, 0, none⟩), .string X, Pt Bx, Pt fb, .bool false, Pt fb, .int .i64 x, .agg #[.int .i64 x, .string ⟨#[]⟩, .int .i64 (-1), .int .i64 0, .bool false], .func (.func 59) #[] #[Pt U0.heap.size, Pt (U0.heap.size + 1)], .string X, .string X, Pt fb, .int .i64 CB, .func (.func 58) #[] #[Pt A1.heap.size, Pt (A1.heap.size + 1)], .agg (enV e), undef, undef, undef, undef, undef, undef, undef, undef, undef, undef, undef, undef, undef, undef], defers := [] })
      (fun x a' s A B row h hg hr => by
        obtain ⟨Bx, h1, h2, h3⟩ := h
        refine ⟨Bx, h1, (hg.block Bx (Array.getElem?_eq_some_iff.1 h2).1 (fun e => ?_)).trans h2, h3⟩
        obtain ⟨-, o, ho, hc⟩ := hr Bx e.symm
        rw [h2] at ho; cases ho; cases hc) ?iassign ?ibody ?idone ?istop
    case iassign =>
      rintro lq p2 e s2 B K ⟨⟨lv', hA⟩, h2⟩ hx hK
      simp only [encE]
      gi_wp2
      have bA : Below B.heap.size B (B.alloc (.cells (enV e) 40)) := (Below.refl _ B).alloc (Nat.le_refl _) _
      exact hK _ _ ((KeepsOthers.alloc _ _).from _) ⟨bA.size, fun k c t m _ h => (bA.block k (Array.getElem?_eq_some_iff.1 h).1).trans h⟩ ⟨⟨lv', hA.below bA⟩, h2⟩ ⟨B.heap.size, hA.stay.size, heap_alloc_last B _, rfl⟩
    case ibody =>
      rintro lq p2 e s2 a' B hlq ⟨rc2, hrc2⟩ ⟨⟨lv', hA⟩, hle2⟩ ⟨Bx, hBu, hBx, rfl⟩ hx
      obtain ⟨x0, x1, x2, x3, x4⟩ := en5 hBx
      have c0 := boxc (A := B) hA.box rfl
      have fs := FS.out.1
      have gs := FS.out.2
      have hus := o.stay.size
      have hlowB : ∀ k, k < U.heap.size → k ≠ w.heap.size + 1 + 1 + 1 → B.heap[k]? = A2.heap[k]? := fun k h1 h2 => hA.stay.block k (by have := b2.size; omega) (fun e => by
        rcases e with e | e
        · exact h2 e
        · have := o.loc _ e; omega)
      have y2 : B.heap[w.heap.size + 1]? = _ := (hlowB _ (by omega) (by omega)).trans v2
      have y3 : B.heap[w.heap.size + 1 + 1]? = _ := (hlowB _ (by omega) (by omega)).trans hBr
      have cv := boxc (A := B) y2 rfl
      have cr := boxc (A := B) y3 rfl
      have fr3 : B.frozen? ⟨w.heap.size + 1 + 1, 0, none⟩ = false := frozen_of_row _ _ _ _ _ y3
      have fr0 : B.frozen? ⟨w.heap.size + 1 + 1 + 1, 0, none⟩ = false := frozen_of_row _ _ _ _ _ hA.box
      have hBrU : w.heap.size + 1 + 1 < A2.heap.size := (Array.getElem?_eq_some_iff.1 hBr).1
      have hA1s : U.heap.size ≤ A1.heap.size := hus
      have kK : ∀ k, (k = A1.heap.size ∨ k = A1.heap.size + 1) → k ≠ w.heap.size + 1 + 1 + 1 ∧ k ≠ w.heap.size + 1 + 1 ∧ lv'.ownBlock ≠ some k := fun k hk => by
        refine ⟨by omega, by omega, fun e => ?_⟩
        rcases hA.loc k e with e | e
        · have := row_lt o.row e; omega
        · have := ES.out; omega
      clear fs gs hus hA1s
      obtain ⟨qa, qc, hlv, -⟩ := slice_form hA.row
      obtain ⟨n5, hn5⟩ : ∃ n5, n5 = (hitV x (alA CB p) ++ hitV x p2).length := ⟨_, rfl⟩
      rw [← hn5] at hlv
      by_cases h1 : x < e.v
      · obtain ⟨hX2, st2⟩ := hA.ret (Br := w.heap.size + 1 + 1) (by omega) hBrU y3
        have kp2 : KpB (fun k => k = A1.heap.size ∨ k = A1.heap.size + 1) s2 B (B.setCell ⟨w.heap.size + 1 + 1, 0, none⟩ lv') := ⟨st2.size, fun k c t m hk hh => (st2.block k (Array.getElem?_eq_some_iff.1 hh).1 (fun e => by
          rcases hk with hk | hk
          · exact (kK k hk).2.1 e
          · have := (hA.own k hk).1; omega)).trans hh⟩
        have ko2 : KeepsOthers B (B.setCell ⟨w.heap.size + 1 + 1, 0, none⟩ lv') := KeepsOthers.setCell _ _ _
        have h1d : decide (x < e.v) = true := decide_eq_true h1
        have HR := Hid.mk (And.intro hX2 (And.intro kp2 (And.intro ko2 (And.intro h1 (And.intro hx hle2)))))
        rw [hlv] at c0
        have HL := Hid.mk hlv
        clear hX2 st2 kp2 ko2 hA hle2 hle o a0 hseq2 hlowB kK hx hBx y2 y3 hBo hBr hn5 hlv h1
        gi_wp2
        obtain ⟨hX2, kp2, ko2, h1, hx, hle2⟩ := HR.out
        rw [← HL.out]
        exact ⟨ko2.from _, kp2, rfl, lv', p2, e, hX2, rfl, hx, h1, hle2⟩
      · have h1d : decide (x < e.v) = false := decide_eq_false h1
        have hle3 : ∀ e' ∈ p2 ++ [e], e'.v ≤ x := fun e' he' => by
          rcases List.mem_append.1 he' with h | h
          · exact hle2 e' h
          · simp at h; subst h; omega
        by_cases h2 : e.v = x
        · have hh : hitV x (p2 ++ [e]) = hitV x p2 ++ [e] := by
            unfold hitV
            rw [List.filter_append]
            simp [h2]
          have h2d : (e.v == x) = true := by rw [h2]; simp
          have hpx : p2.length + 1 ≤ (ents X 0 CB).length := by have := hx.length_le; simpa using this
          have hlen : (hitV x (alA CB p) ++ hitV x p2).length + 1 ≤ 1099511627776 := by
            have l1 := len_lim CB bl hs q0 p y HY.out.1.1
            rw [← HX.out] at l1
            have l2 : (hitV x (alA CB p)).length ≤ (alA CB p).length := List.length_filter_le _ _
            have l3 : (hitV x p2).length ≤ p2.length := List.length_filter_le _ _
            rw [List.length_append]
            have l4 : (alA CB p).length + (ents X 0 CB).length ≤ ((alA CB p).length + (ents X 0 CB).length) * (CB + 7) := Nat.le_mul_of_pos_right _ (by omega)
            omega
          obtain ⟨v', V5, hap, ho5, st5, loc5⟩ := en_app B _ _ hA.row e hlen
          obtain ⟨hA6, st6⟩ := hA.app ho5 st5 loc5
          have hb5 : V5.heap[w.heap.size + 1 + 1 + 1]? = _ := (st5.block _ (Array.getElem?_eq_some_iff.1 hA.box).1 (fun e => hA.row_lb e rfl)).trans hA.box
          have z0 := boxc (A := V5) hb5 rfl
          have zf : V5.frozen? ⟨w.heap.size + 1 + 1 + 1, 0, none⟩ = false := frozen_of_row _ _ _ _ _ hb5
          obtain ⟨kp, ko⟩ := hA.kp (K := fun k => k = A1.heap.size ∨ k = A1.heap.size + 1) st6 (fun k hk => ⟨(kK k hk).1, (kK k hk).2.2⟩)
          obtain ⟨ra, rc5, hra, -⟩ := slice_form ho5
          obtain ⟨m5, hm5⟩ : ∃ m5, m5 = (hitV x (alA CB p) ++ hitV x p2 ++ [e]).length := ⟨_, rfl⟩
          rw [← hm5] at hra
          have HR := Hid.mk (And.intro hA6 (And.intro kp (And.intro ko (And.intro hle3 (And.intro hh hra)))))
          rw [hra, hlv] at hap
          rw [hlv] at c0 z0
          clear hA6 kp ko hA hle2 hle3 hle o a0 hseq2 hlowB kK hx hBx y2 y3 hBo hBr st6 ho5 st5 loc5 hb5 hpx hlen hh hra hm5 hlv hn5 h2 h1
          gi_wp2_with (gi_at_builtin; refine wpListIn_append_eq rfl _ _ _ _ rfl _ _ _ _ rfl rfl hap ?_)
          obtain ⟨hA6, kp, ko, hle3, hh, hra⟩ := HR.out
          rw [← hra]
          refine ⟨ko.from _, kp, ⟨v', ?_⟩, hle3⟩
          rw [hh, ← List.append_assoc]
          exact hA6
        · have hh : hitV x (p2 ++ [e]) = hitV x p2 := by
            unfold hitV
            rw [List.filter_append]
            simp [h2]
          have h2d : (e.v == x) = false := by apply beq_false_of_ne; exact h2
          have HR := Hid.mk (And.intro hA (And.intro hle3 hh))
          clear hA hle2 hle3 hle o a0 hseq2 hlowB kK hx hBx y2 y3 hBo hBr hh hlv hn5 h2 h1
          gi_wp2
          obtain ⟨hA, hle3, hh⟩ := HR.out
          refine ⟨KeepsFrom.refl _ _, ⟨Nat.le_refl _, fun _ _ _ _ _ h => h⟩, ⟨lv', ?_⟩, hle3⟩
          rw [hh]
          exact hA
    case idone =>
      rintro p2 s2 B hS ⟨⟨lv', hA⟩, hle2⟩
      subst hS
      have fs := FS.out.1
      have gs := FS.out.2
      have st : Stay (fun k => k = w.heap.size + 1 + 1 + 1 ∨ k = w.heap.size + 1 + 1 ∨ lv.ownBlock = some k) A1 B := (Stay.below b2).trans (hA.stay.mono (fun k _ e => by
        rcases e with e | e
        · exact .inl e
        · exact .inr (.inr e)))
      have hus := o.stay.size
      have hbr : B.heap[w.heap.size + 1 + 1]? = _ := (hA.stay.block _ (Array.getElem?_eq_some_iff.1 hBr).1 (fun e => by
        rcases e with e | e
        · omega
        · have := o.loc _ e; omega)).trans hBr
      obtain ⟨o2, ko, kp⟩ := o.step st hA.box hbr hA.row (fun k hk => by
        rcases hA.loc k hk with e | e
        · exact .inl e
        · exact .inr (Nat.le_trans b2.size e))
      have kp2 := kp (fun k => k = U0.heap.size ∨ k = fb ∨ bv.ownBlock = some k) (fun k hk => by
        rcases hk with e | e | e
        · omega
        · omega
        · have := row_lt H.row e; omega)
      have hap : hitV x (alA CB p) ++ hitV x (ents X 0 CB) = hitV x (alA CB (p ++ [y])) := by rw [alA_snoc, hitV_app, HX.out]
      rw [hap] at o2
      have hle3 : ∀ e ∈ alA CB (p ++ [y]), e.v ≤ x := fun e he => by
        rw [alA_snoc] at he
        rcases List.mem_append.1 he with h | h
        · exact hle e h
        · rw [← HX.out] at h; exact hle2 e h
      have HR := Hid.mk (And.intro o2 (And.intro ko (And.intro kp2 hle3)))
      clear o2 ko kp2 kp hle3 hap hbr st hA hle2 fs gs hus a0 hseq2 hBo hBr o hle
      gi_wp2
      exact ⟨HR.out.2.1.from _, HR.out.2.2.1, ⟨lv', rv, HR.out.1⟩, HR.out.2.2.2⟩
    case istop =>
      rintro c p2 s2 B _ ⟨rfl, lv', q, e, hA, hp2, hpre, hxe, hle2⟩
      have fs := FS.out.1
      have gs := FS.out.2
      have st : Stay (fun k => k = w.heap.size + 1 + 1 + 1 ∨ k = w.heap.size + 1 + 1 ∨ lv.ownBlock = some k) A1 B := (Stay.below b2).trans hA.stay
      obtain ⟨o2, ko, kp⟩ := o.step st hA.box hA.res hA.row (fun k hk => by
        rcases hA.loc k hk with e | e
        · exact .inl e
        · exact .inr (Nat.le_trans b2.size e))
      have kp2 := kp (fun k => k = U0.heap.size ∨ k = fb ∨ bv.ownBlock = some k) (fun k hk => by
        rcases hk with e | e | e
        · omega
        · omega
        · have := row_lt H.row e; omega)
      obtain ⟨rr, hrr⟩ := hpre
      rw [hp2] at hrr
      have hfin : ∃ lv pre y' q rest, OI U fb hd bv iv rd (w.heap.size + 1 + 1 + 1) (w.heap.size + 1 + 1) s (hitV x (alA CB pre ++ q)) lv lv B ∧ p ++ [y] = pre ++ [y'] ∧ ents ⟨y'.toArray⟩ 0 CB = q ++ rest ∧ (∃ e r, rest = e :: r ∧ x < e.v) ∧ ∀ e ∈ alA CB pre ++ q, e.v ≤ x :=
        ⟨lv', p, y, q, e :: rr, by rw [hitV_app]; exact o2, rfl, by rw [← HX.out, ← hrr]; simp, ⟨e, rr, rfl, hxe⟩, fun e' he' => by
          rcases List.mem_append.1 he' with h | h
          · exact hle e' h
          · exact hle2 e' h⟩
      have HR := Hid.mk (And.intro hfin (And.intro ko kp2))
      clear hfin o2 ko kp2 kp st hA hle2 fs gs a0 hseq2 hBo hBr o hle hrr hp2
      gi_wp2
      exact ⟨HR.out.2.1.from _, HR.out.2.2, rfl, HR.out.1⟩
  case done =>
    rintro D p s A hD ⟨hS, hS2⟩ ⟨⟨lv, rv, o⟩, hle⟩ hdef
    have st0 : Stay (fun k => k = w.heap.size + 1 + 1) A (A.setCell ⟨w.heap.size + 1 + 1, 0, none⟩ lv) := stay1 _ _ _ _ _ (.refl _ _)
    have o2 : OI U fb hd bv iv rd (w.heap.size + 1 + 1 + 1) (w.heap.size + 1 + 1) s (hitV x (alA CB p)) lv lv (A.setCell ⟨w.heap.size + 1 + 1, 0, none⟩ lv) :=
      { num := o.num, box := (st0.block _ (Array.getElem?_eq_some_iff.1 o.box).1 (by omega)).trans o.box, res := by rw [heap_setCell_same A _ 0 _ _ _ o.res]; rfl, row := row_kept o.row st0 (fun k hk e => by
          obtain ⟨c, hc⟩ := row_block o.row hk
          rw [e, o.res] at hc; simp at hc), file := (st0.block _ (Array.getElem?_eq_some_iff.1 o.file).1 o.num.2.1).trans o.file, stay := o.stay.andThen st0 (fun k _ e => .inr (.inl e)), loc := o.loc }
    have hd2 : (A.setCell ⟨w.heap.size + 1 + 1, 0, none⟩ lv).heap[D]? = some (.deferred (some [])) := (st0.block D (Array.getElem?_eq_some_iff.1 hdef).1 (fun e => by
      have := o.num.2.2.2.2.2; omega)).trans hdef
    have c0 := boxc (A := A) o.box rfl
    have c1 := boxc (A := A) o.res rfl
    have cf : A.frozen? ⟨w.heap.size + 1 + 1, 0, none⟩ = false := frozen_of_row _ _ _ _ _ o.res
    obtain ⟨qa, qc, hlv, -⟩ := slice_form o.row
    have hF : FndO CB x (bl.drop q0) s (hitV x (alA CB p)) := .inl ⟨by rw [hS2, hS], by rw [← hS]; exact hle, by rw [← hS]⟩
    have fin : ∀ (tmps : Array Value) (hres : ∀ w', w'.cell? ⟨w.heap.size + 1 + 1, 0, none⟩ = some lv → (results Tryd.f14 tmps).run Tryd.prog w' = .ok lv w'), LeavesInM Fence.wide 9 Tryd.prog Tryd.f14 tmps (fun r w' => ∃ v t L, r = .returned v ∧ FndO CB x (bl.drop (rF ix ⟨x, ⟨#[]⟩, -1, 0, false⟩ - 1)) t L ∧ w'.ownsRow 0 40 5 v L.length (L.flatMap enC) ∧ (∀ k, v.ownBlock = some k → w.heap.size ≤ k) ∧ FA w' fb hd bl ix bv iv (rd + t) ∧ Stay (fun k => k = fb) w w') (markL [D]) .returning (A.setCell ⟨w.heap.size + 1 + 1, 0, none⟩ lv) := fun tmps hres =>
      leaves_marks lv [D] _ (fun D' h' => by simp at h'; subst h'; exact hd2) (by simp) (fun w' st => by
        obtain ⟨k1, k2, k3, k4, k5⟩ := o2.fin H bU (by omega) (by omega) hD hd2 st
        exact ⟨hres w' k1, lv, s, _, rfl, by rw [HQ.out]; exact hF, k2, k3, k4, k5⟩)
    have HR := Hid.mk fin
    have HL := Hid.mk hlv
    obtain ⟨n5, hn5⟩ : ∃ n5, n5 = (hitV x (alA CB p)).length := ⟨_, rfl⟩
    rw [hlv, ← hn5] at c0
    rw [← hn5] at HL
    clear fin hlv o2 hd2 hF st0 o hle hS hS2 hn5 hseq o0
    gi_wp2
    rw [← HL.out]
    exact HR.out _ (fun w' hc => by simp [results, Tryd.results14, go_sem, hc])
  case stop =>
    rintro D c p s A hD ⟨hS, hS2⟩ ⟨rfl, lv, pre, y, q, rest, o, hp, he, hr, hle⟩ hdef
    have hF : FndO CB x (bl.drop q0) s (hitV x (alA CB pre ++ q)) := .inr ⟨pre, y, q, rest, by rw [← hp]; exact hS, by rw [hS2, hp]; simp, he, hr, hle, rfl⟩
    have fin : ∀ (tmps : Array Value) (hres : ∀ w', w'.cell? ⟨w.heap.size + 1 + 1, 0, none⟩ = some lv → (results Tryd.f14 tmps).run Tryd.prog w' = .ok lv w'), LeavesInM Fence.wide 9 Tryd.prog Tryd.f14 tmps (fun r w' => ∃ v t L, r = .returned v ∧ FndO CB x (bl.drop (rF ix ⟨x, ⟨#[]⟩, -1, 0, false⟩ - 1)) t L ∧ w'.ownsRow 0 40 5 v L.length (L.flatMap enC) ∧ (∀ k, v.ownBlock = some k → w.heap.size ≤ k) ∧ FA w' fb hd bl ix bv iv (rd + t) ∧ Stay (fun k => k = fb) w w') (markL [D]) .returning A := fun tmps hres =>
      leaves_marks lv [D] _ (fun D' h' => by simp at h'; subst h'; exact hdef) (by simp) (fun w' st => by
        obtain ⟨k1, k2, k3, k4, k5⟩ := o.fin H bU (by omega) (by omega) hD hdef st
        exact ⟨hres w' k1, lv, s, _, rfl, by rw [HQ.out]; exact hF, k2, k3, k4, k5⟩)
    have HR := Hid.mk fin
    clear fin hF o hle hS hS2 hseq o0 he hr hp
    gi_wp2
    exact HR.out _ (fun w' hc => by simp [results, Tryd.results14, go_sem, hc])
end Go.Proofs.YtdegclccbgpgiaaDoor
set_option linter.unusedVariables false
set_option linter.unusedSimpArgs false
namespace Go.Proofs.YtdegclccbgpgiaaDoor
open Go.RowKit Go.Shelf Go.Proofs.SealMath
attribute [local go_sem] Oper.semAt_some
/-- The entries that do not stand ahead of a place. -/
def geV (p : En) (l : List En) : List En := l.filter fun e => decide (¬ cpE e p < 0)
/-- How blocks are gone through from a place on: to the end, or until there are as many as are asked for. -/
def FrmO (cb : Nat) (p : En) (m : Int) (bl : List (List UInt8)) (t : Nat) (L : List En) : Prop :=
  (t = bl.length ∧ L = geV p (alA cb bl) ∧ (L.length : Int) < m) ∨
  ∃ pre y q rest, pre ++ [y] <+: bl ∧ t = pre.length + 1 ∧ ents ⟨y.toArray⟩ 0 cb = q ++ rest ∧ L = geV p (alA cb pre ++ q) ∧ (L.length : Int) = m
theorem geV_app (p : En) (a b : List En) : geV p (a ++ b) = geV p a ++ geV p b := by unfold geV; rw [List.filter_append]
theorem five_new {V : World} (W : World) (o1 o2 o3 o4 o5 : Obj) (h : V = ((((W.alloc o1).alloc o2).alloc o3).alloc o4).alloc o5) : Below W.heap.size W V ∧ V.heap[W.heap.size]? = some o1 ∧ V.heap[W.heap.size + 1]? = some o2 ∧ V.heap[W.heap.size + 1 + 1]? = some o3 ∧ V.heap[W.heap.size + 1 + 1 + 1]? = some o4 ∧ V.heap[W.heap.size + 1 + 1 + 1 + 1]? = some o5 ∧ V.heap.size = W.heap.size + 5 := by
  obtain ⟨b1, h1, h2, h3, h4, s1⟩ := four_new W o1 o2 o3 o4 rfl
  have b2 : Below ((((W.alloc o1).alloc o2).alloc o3).alloc o4).heap.size ((((W.alloc o1).alloc o2).alloc o3).alloc o4) V := by rw [h]; exact (Below.refl _ _).alloc (Nat.le_refl _) _
  have h5 := heap_alloc_last ((((W.alloc o1).alloc o2).alloc o3).alloc o4) o5
  rw [← h, s1] at h5
  have hs : V.heap.size = W.heap.size + 5 := by rw [h]; simp
  exact ⟨chain b1 b2 (Nat.le_refl _), (b2.block _ (by omega)).trans h1, (b2.block _ (by omega)).trans h2, (b2.block _ (by omega)).trans h3, (b2.block _ (by omega)).trans h4, h5, hs⟩
set_option maxHeartbeats 8000000 in
set_option maxRecDepth 100000 in
theorem from_any (fb : Nat) (hd : Hd) (bl : List (List UInt8)) (ix : List En) (bv iv : Value) (rd : Nat) (pl : En) (m : Int) (w : World) (H : FA w fb hd bl ix bv iv rd) (hw : 64 ≤ hd.w ∧ hd.w ≤ 1024) (hs : (bl.map (·.length + 14)).sum ≤ 1099511627776) (hl : ix.length = bl.length) (hu : Up ix) (hrd : rd + bl.length ≤ 4611686018427387904) (hm : 1 ≤ m) :
    Calls Tryd.prog 16 #[Pt fb, .agg (enV pl), .int .i64 m] w fun r w' => ∃ v t L, r = .returned v ∧ FrmO (cbH hd) pl m (bl.drop (rF ix pl - 1)) t L ∧ w'.ownsRow 0 40 5 v L.length (L.flatMap enC) ∧ (∀ k, v.ownBlock = some k → w.heap.size ≤ k) ∧ FA w' fb hd bl ix bv iv (rd + t) ∧ Stay (fun k => k = fb) w w' := by
  have hbl := len_sum bl
  obtain ⟨CB, hCB⟩ : ∃ CB, CB = cbH hd := ⟨_, rfl⟩
  have hcb := fun r W hbx => codeBytes_any fb hd bv iv r W hbx hw
  rw [← hCB] at hcb ⊢
  have hCB2 : CB ≤ 128 := by rw [hCB]; unfold cbH; omega
  clear hCB
  have hfz := H.lt
  have hm1 : decide (m < 1) = false := decide_eq_false (by omega)
  refine (callsIn_wide (n := 9)).1 ?_
  refine callsIn_of_wp_marks Tryd.func16 rfl trivial ?_ rfl
  simp only [Tryd.ntmps16, List.size_toArray, List.length_cons, List.length_nil, Nat.reduceAdd, Nat.reduceSub, Array.replicate_succ, Array.replicate_zero, List.push_toArray, List.append_toArray, List.nil_append, List.cons_append]
  gi_wp2_with fail
  obtain ⟨U0, hU0⟩ : ∃ U0, U0 = ((((w.alloc (.cells #[Pt fb] 30)).alloc (.cells (enV pl) 40)).alloc (.cells #[.int .i64 m] 3)).alloc (.cells #[.slice none 0 0] 24)).alloc (.cells #[.slice none 0 0] 24) := ⟨_, rfl⟩
  rw [← hU0]
  have hbf := blocksFrom_any fb pl U0
  simp only [enV] at hbf
  refine ⟨trivial, (callsIn_wide.2 hbf).mono ?_⟩
  clear hbf
  rintro r U ⟨rfl, hU⟩
  obtain ⟨b0, f1, f5, f2, f3, f4, fs⟩ := five_new w _ _ _ _ _ hU0
  obtain ⟨b1, g1, g2, gs⟩ := two_new U0 _ _ hU
  have bU := chain b0 b1 (Nat.le_refl _)
  have HU : FA U fb hd bl ix bv iv rd := H.below bU
  have u1 : U.heap[w.heap.size]? = _ := (b1.block _ (by omega)).trans f1
  have u5 : U.heap[w.heap.size + 1]? = _ := (b1.block _ (by omega)).trans f5
  have u2 : U.heap[w.heap.size + 1 + 1]? = _ := (b1.block _ (by omega)).trans f2
  have u3 : U.heap[w.heap.size + 1 + 1 + 1]? = _ := (b1.block _ (by omega)).trans f3
  have u4 : U.heap[w.heap.size + 1 + 1 + 1 + 1]? = _ := (b1.block _ (by omega)).trans f4
  obtain ⟨q0, hq0⟩ : ∃ q0, q0 = rF ix pl - 1 := ⟨_, rfl⟩
  have hseq := blocks_st fb hd bl ix bv iv rd U0.heap.size (U0.heap.size + 1) 8 pl U HU g1 g2 (by omega) hu hl hrd
  rw [← hq0] at hseq
  have HQ := Hid.mk hq0
  have FS := Hid.mk (And.intro fs gs)
  clear hU0 hU f1 f2 f3 f4 f5 hq0 fs gs
  gi_wp2_with fail
  obtain ⟨fs, gs⟩ := FS.out
  have o0 : OI U fb hd bv iv rd (w.heap.size + 1 + 1 + 1 + 1) (w.heap.size + 1 + 1 + 1) 0 (geV pl (alA CB [])) (.slice none 0 0) (.slice none 0 0) U :=
    { num := by refine ⟨?_, ?_, ?_, HU.lt, ?_, ?_⟩ <;> omega, box := u4, res := u3, row := ⟨rfl, .inl ⟨rfl, rfl⟩⟩, file := HU.box, stay := .refl _ _, loc := fun k hk => by cases hk }
  clear fs gs
  refine wpIn_rangeFunc_sS rfl (by omega) (gf := 59) (lb := #[Pt U0.heap.size, Pt (U0.heap.size + 1)]) rfl trivial (enters_of Tryd.func59 (by kernel_rfl) rfl) hseq (fun _ _ _ _ h => h.others) (fun {_ _ _ _} => KpB.trans) (fun s A l o o' _ h ho _ => KpB.put none A l o o' h ho) (fun _ => rfl)
    (fun p s A => (∃ lv rv, OI U fb hd bv iv rd (w.heap.size + 1 + 1 + 1 + 1) (w.heap.size + 1 + 1 + 1) s (geV pl (alA CB p)) lv rv A) ∧ ((geV pl (alA CB p)).length : Int) < m)
    (fun c p s A => c = .ret ∧ ∃ lv pre y q rest, OI U fb hd bv iv rd (w.heap.size + 1 + 1 + 1 + 1) (w.heap.size + 1 + 1 + 1) s (geV pl (alA CB pre ++ q)) lv lv A ∧ p = pre ++ [y] ∧ ents ⟨y.toArray⟩ 0 CB = q ++ rest ∧ ((geV pl (alA CB pre ++ q)).length : Int) = m)
    (fun p s A s' B h ht => by obtain ⟨⟨lv, rv, o⟩, h2⟩ := h; exact ⟨⟨lv, rv, o.tr ht⟩, h2⟩)
    (fun c p s A s' B h ht => by obtain ⟨h1, lv, pre, y, q, rest, o, h2⟩ := h; exact ⟨h1, lv, pre, y, q, rest, o.tr ht, h2⟩)
    (fun z A B row h hg hr => by obtain ⟨⟨lv, rv, o⟩, h2⟩ := h; exact ⟨⟨lv, rv, o.grown hg hr⟩, h2⟩)
    (fun c z A B row h hg hr => by obtain ⟨h1, lv, pre, y, q, rest, o, h2⟩ := h; exact ⟨h1, lv, pre, y, q, rest, o.grown hg hr, h2⟩)
    ⟨⟨_, _, o0⟩, by show (0 : Int) < m; omega⟩
    (fun y a' A => a' = { tmps := #[Pt fb, .agg (enV pl), .int .i64 m, .pointer (some ⟨w.heap.size, 0, none⟩), .pointer (some ⟨w.heap.size + 1, 0, none⟩), .pointer (some ⟨w.heap.size + 1 + 1, 0, none⟩), .pointer (some ⟨w.heap.size + 1 + 1 + 1, 0, none⟩), .pointer (some ⟨w.heap.size + 1 + 1 + 1 + 1, 0, none⟩), sv y, undef, Pt fb, .bool false, .bool false, .int .i64 m, .bool false, .bool false, Pt fb, .agg #[.int .i64 pl.v, .string pl.c, .int .i64 pl.i, .int .i64 pl.s, .bool pl.d], .func (.func 59) #[] #[Pt U0.heap.size, Pt (U0.heap.size + 1)], sv y, undef, undef, undef, undef, undef, undef, undef, undef, undef, undef, undef, undef, undef, undef, undef, undef, undef, undef, undef], defers := [] })
    (fun x a' s A B row h hg hr => h) ?assign ?body ?done ?stop
  case assign =>
    intro lp p y s A K hI hx hK
    gi_wp2
    exact hK _ _ (KeepsFrom.refl _ _) ⟨Nat.le_refl _, fun _ _ _ _ _ h => h⟩ hI rfl
  case body =>
    rintro lp p y s a' A hlp ⟨rc, hrc⟩ ⟨⟨lv, rv, o⟩, hle⟩ rfl hy
    obtain ⟨X, hX⟩ : ∃ X : ByteArray, X = ⟨y.toArray⟩ := ⟨_, rfl⟩
    have hyX : sv y = .string X := by rw [hX]
    have HX := Hid.mk hX
    clear hX
    have hlow : ∀ k, k < U.heap.size → k ≠ w.heap.size + 1 + 1 + 1 + 1 → k ≠ w.heap.size + 1 + 1 + 1 → k ≠ fb → A.heap[k]? = U.heap[k]? := fun k h1 h2 h3 h4 => o.stay.block k h1 (fun e => by rcases e with e | e | e <;> omega)
    have fs := FS.out.1
    have gs := FS.out.2
    have a1 : A.heap[w.heap.size]? = _ := (hlow _ (by omega) (by omega) (by omega) (by omega)).trans u1
    have a5 : A.heap[w.heap.size + 1]? = _ := (hlow _ (by omega) (by omega) (by omega) (by omega)).trans u5
    have a2 : A.heap[w.heap.size + 1 + 1]? = _ := (hlow _ (by omega) (by omega) (by omega) (by omega)).trans u2
    have c1 := boxc (A := A) a1 rfl
    have cb1 := hcb (rd + s) A o.file
    have HY := Hid.mk (And.intro hy hrc)
    rw [hyX]
    clear fs gs hrc hy hyX hlow
    gi_wp2_with fail
    refine ⟨trivial, (CallsIn.inRound lp (callsIn_wide.2 cb1)).mono ?_⟩
    rintro r A1 ⟨rfl, rfl⟩
    gi_wp2_with fail
    refine ⟨trivial, (CallsIn.inRound lp (callsIn_wide.2 (entries_any X CB A1))).mono ?_⟩
    rintro r A2 ⟨rfl, hA2⟩
    obtain ⟨b2, e1, e2, es⟩ := two_new A1 _ _ hA2
    have v5 : A2.heap[w.heap.size + 1]? = _ := (b2.block _ (Array.getElem?_eq_some_iff.1 a5).1).trans a5
    have v2 : A2.heap[w.heap.size + 1 + 1]? = _ := (b2.block _ (Array.getElem?_eq_some_iff.1 a2).1).trans a2
    have hlr : A2.heap[lp]? = some (.loop rc) := (b2.block _ (Array.getElem?_eq_some_iff.1 HY.out.2).1).trans HY.out.2
    have hXl : X.size < 1152921504606846976 := by
      have h1 : y ∈ bl := List.mem_of_mem_drop (HY.out.1.1.subset (by simp))
      obtain ⟨i, hi, hyi⟩ := List.getElem_of_mem h1
      have h2 : bl[i].length + 14 ≤ (bl.map (·.length + 14)).sum := mem_sum bl i hi
      rw [HX.out, ba_len]; rw [hyi] at h2; omega
    have hseq2 := entries_st X CB A1.heap.size (A1.heap.size + 1) 6 (fun k => k = A1.heap.size ∨ k = A1.heap.size + 1) A2 e1 e2 ⟨.inl rfl, .inr rfl⟩ (fun k hk => by
      rcases hk with rfl | rfl
      · exact ⟨_, _, _, e1⟩
      · exact ⟨_, _, _, e2⟩) hXl hCB2
    have hBo : A2.heap[w.heap.size + 1 + 1 + 1 + 1]? = _ := (b2.block _ (Array.getElem?_eq_some_iff.1 o.box).1).trans o.box
    have hBr : A2.heap[w.heap.size + 1 + 1 + 1]? = _ := (b2.block _ (Array.getElem?_eq_some_iff.1 o.res).1).trans o.res
    have a0 : AI A2 (w.heap.size + 1 + 1 + 1 + 1) lv (geV pl (alA CB p) ++ geV pl []) lv none A2 :=
      { lt := (Array.getElem?_eq_some_iff.1 hBo).1, box := hBo, row := by rw [show geV pl [] = [] from rfl, List.append_nil]; exact row_kept (F := fun _ => False) o.row (.below b2) (fun _ _ e => e), stay := .refl _ _, loc := fun k hk => .inl hk, own := fun k hk => by cases hk }
    have ES := Hid.mk es
    clear hA2 es cb1 c1 a1 a2 a5
    gi_wp2_with fail
    refine wpIn_rangeFunc_stN (l₀ := lp) rfl hlr (by omega) (gf := 58) (lb := #[Pt A1.heap.size, Pt (A1.heap.size + 1)]) rfl trivial (enters_of Tryd.func58 (by kernel_rfl) rfl) hseq2 (fun _ _ _ _ h => h.others) KpB.trans (fun s A l o o' _ h ho _ => KpB.put s A l o o' h ho) (fun _ => rfl)
      (fun p2 s2 B => (∃ lv', AI A2 (w.heap.size + 1 + 1 + 1 + 1) lv (geV pl (alA CB p) ++ geV pl p2) lv' s2 B) ∧ ((geV pl (alA CB p) ++ geV pl p2).length : Int) < m)
      (fun c p2 s2 B => c = .ret ∧ ∃ lv', AX A2 (w.heap.size + 1 + 1 + 1 + 1) (w.heap.size + 1 + 1 + 1) lv (geV pl (alA CB p) ++ geV pl p2) lv' s2 B ∧ p2 <+: ents X 0 CB ∧ ((geV pl (alA CB p) ++ geV pl p2).length : Int) = m)
      (fun p s A s' B h ht => by obtain ⟨⟨lv', hA⟩, h2⟩ := h; exact ⟨⟨lv', hA.tr ht⟩, h2⟩)
      (fun c p s A s' B h ht => by obtain ⟨h1, lv', hA, h2⟩ := h; exact ⟨h1, lv', hA.tr ht, h2⟩)
      (fun z A B row h hg hr => by obtain ⟨⟨lv', hA⟩, h2⟩ := h; exact ⟨⟨lv', hA.grown hg hr⟩, h2⟩)
      (fun c z A B row h hg hr => by obtain ⟨h1, lv', hA, h2⟩ := h; exact ⟨h1, lv', hA.grown hg hr, h2⟩)
      ⟨⟨lv, a0⟩, by rw [show geV pl [] = [] from rfl, List.append_nil]; exact hle⟩
      (fun e a' B => ∃ Bx, A2.heap.size ≤ Bx ∧ B.heap[Bx]? = some (.cells (enV e) 40 (0, 0)) ∧ a' = { tmps := #[Pt fb, .agg (enV pl), .int .i64 m, .pointer (some ⟨w.heap.size, 0, none⟩), .pointer (some ⟨w.heap.size + 1, 0, none⟩), .pointer (some ⟨w.heap.size + 1 + 1, 0, none⟩), .pointer (some ⟨w.heap.size + 1 + 1 + 1, 0, none⟩), .pointer (some ⟨w.heap.size + 1 + 1 + 1 + 1, 0, none⟩), .string X, Pt Bx, Pt fb, .bool false, .bool false, .int .i64 m, .bool false, .bool false, Pt fb, .agg #[.int .i64 pl.v, .string pl.c, .int .i64 pl.i, .int .i64 pl.s, .bool pl.d], .func (.func 59) #[] #[Pt U0.heap.size, Pt (U0.heap.size + 1)], .string X, .string X, Pt fb, .int .i64 CB, .func (.func 58) #[] #[Pt A1.heap.size, Pt (A1.heap.size + 1)], .agg (enV e), undef, undef, undef, undef, undef, undef, undef, undef, undef, undef, undef, undef, undef, undef], defers := [] })
      (fun x a' s A B row h hg hr => by
        obtain ⟨Bx, h1, h2, h3⟩ := h
        refine ⟨Bx, h1, (hg.block Bx (Array.getElem?_eq_some_iff.1 h2).1 (fun e => ?_)).trans h2, h3⟩
        obtain ⟨-, o, ho, hc⟩ := hr Bx e.symm
        rw [h2] at ho; cases ho; cases hc) ?iassign ?ibody ?idone ?istop
    case iassign =>
      rintro lq p2 e s2 B K ⟨⟨lv', hA⟩, h2⟩ hx hK
      simp only [encE]
      gi_wp2
      have bA : Below B.heap.size B (B.alloc (.cells (enV e) 40)) := (Below.refl _ B).alloc (Nat.le_refl _) _
      exact hK _ _ ((KeepsOthers.alloc _ _).from _) ⟨bA.size, fun k c t m _ h => (bA.block k (Array.getElem?_eq_some_iff.1 h).1).trans h⟩ ⟨⟨lv', hA.below bA⟩, h2⟩ ⟨B.heap.size, hA.stay.size, heap_alloc_last B _, rfl⟩
    case ibody =>
      rintro lq p2 e s2 a' B hlq ⟨rc2, hrc2⟩ ⟨⟨lv', hA⟩, hle2⟩ ⟨Bx, hBu, hBx, rfl⟩ hx
      have fs := FS.out.1
      have gs := FS.out.2
      have hus := o.stay.size
      have hlowB : ∀ k, k < U.heap.size → k ≠ w.heap.size + 1 + 1 + 1 + 1 → B.heap[k]? = A2.heap[k]? := fun k h1 h2 => hA.stay.block k (by have := b2.size; omega) (fun e => by
        rcases e with e | e
        · exact h2 e
        · have := o.loc _ e; omega)
      have y5 : B.heap[w.heap.size + 1]? = _ := (hlowB _ (by omega) (by omega)).trans v5
      have y2 : B.heap[w.heap.size + 1 + 1]? = _ := (hlowB _ (by omega) (by omega)).trans v2
      have y3 : B.heap[w.heap.size + 1 + 1 + 1]? = _ := (hlowB _ (by omega) (by omega)).trans hBr
      have hBrU : w.heap.size + 1 + 1 + 1 < A2.heap.size := (Array.getElem?_eq_some_iff.1 hBr).1
      have hA1s : U.heap.size ≤ A1.heap.size := hus
      have kK : ∀ k, (k = A1.heap.size ∨ k = A1.heap.size + 1) → k ≠ w.heap.size + 1 + 1 + 1 + 1 ∧ k ≠ w.heap.size + 1 + 1 + 1 ∧ lv'.ownBlock ≠ some k := fun k hk => by
        refine ⟨by omega, by omega, fun e => ?_⟩
        rcases hA.loc k e with e | e
        · have := row_lt o.row e; omega
        · have := ES.out; omega
      clear fs gs hus hA1s
      obtain ⟨x0, x1, x2, x3, x4⟩ := en5 hBx
      obtain ⟨p0, p1, p2', p3, p4⟩ := en5 y5
      have hcm := compare_any e pl B
      simp only [enC] at hcm
      obtain ⟨Z, hZ⟩ : ∃ Z, Z = cpE e pl := ⟨_, rfl⟩
      rw [← hZ] at hcm
      have HZ := Hid.mk hZ
      clear hZ
      gi_wp2_with fail
      refine ⟨trivial, (CallsIn.inRound lq (CallsIn.inRound lp (callsIn_wide.2 hcm))).mono ?_⟩
      clear hcm x0 x1 x2 x3 x4 p0 p1 p2' p3 p4
      rintro r B1 ⟨rfl, bB⟩
      have hA' := hA.below bB
      have ko1 : KeepsOthers B B1 := ⟨bB.size, fun k ob hk _ => (bB.block k (Array.getElem?_eq_some_iff.1 hk).1).trans hk⟩
      have kp1 : KpB (fun k => k = A1.heap.size ∨ k = A1.heap.size + 1) s2 B B1 := ⟨bB.size, fun k c t m _ h => (bB.block k (Array.getElem?_eq_some_iff.1 h).1).trans h⟩
      have z2 : B1.heap[w.heap.size + 1 + 1]? = _ := (bB.block _ (Array.getElem?_eq_some_iff.1 y2).1).trans y2
      have z3 : B1.heap[w.heap.size + 1 + 1 + 1]? = _ := (bB.block _ (Array.getElem?_eq_some_iff.1 y3).1).trans y3
      have zx : B1.heap[Bx]? = _ := (bB.block _ (Array.getElem?_eq_some_iff.1 hBx).1).trans hBx
      clear hlowB y2 y3 y5 hBx hA
      by_cases hZ0 : Z < 0
      · have hZd : decide (Z < 0) = true := decide_eq_true hZ0
        have hh : geV pl (p2 ++ [e]) = geV pl p2 := by
          unfold geV
          rw [List.filter_append]
          have : cpE e pl < 0 := by rw [← HZ.out]; exact hZ0
          simp [this]
        have HR := Hid.mk (And.intro hA' (And.intro ko1 (And.intro kp1 (And.intro hh hle2))))
        clear hA' ko1 kp1 hh hle2 hle o a0 hseq2 kK hx hBo hBr hZ0
        gi_wp2
        obtain ⟨hA', ko1, kp1, hh, hle2⟩ := HR.out
        refine ⟨ko1.from _, kp1, ⟨lv', ?_⟩, ?_⟩
        · rw [hh]; exact hA'
        · rw [hh]; exact hle2
      · have hZd : decide (Z < 0) = false := decide_eq_false hZ0
        have hh : geV pl (p2 ++ [e]) = geV pl p2 ++ [e] := by
          unfold geV
          rw [List.filter_append]
          have : 0 ≤ cpE e pl := by rw [← HZ.out]; omega
          simp [this]
        have hpx : p2.length + 1 ≤ (ents X 0 CB).length := by have := hx.length_le; simpa using this
        have hlen : (geV pl (alA CB p) ++ geV pl p2).length + 1 ≤ 1099511627776 := by
          have l1 := len_lim CB bl hs q0 p y HY.out.1.1
          rw [← HX.out] at l1
          have l2 : (geV pl (alA CB p)).length ≤ (alA CB p).length := List.length_filter_le _ _
          have l3 : (geV pl p2).length ≤ p2.length := List.length_filter_le _ _
          rw [List.length_append]
          have l4 : (alA CB p).length + (ents X 0 CB).length ≤ ((alA CB p).length + (ents X 0 CB).length) * (CB + 7) := Nat.le_mul_of_pos_right _ (by omega)
          omega
        obtain ⟨x0, x1, x2, x3, x4⟩ := en5 zx
        have c0 := boxc (A := B1) hA'.box rfl
        have cm := boxc (A := B1) z2 rfl
        obtain ⟨v', V5, hap, ho5, st5, loc5⟩ := en_app B1 _ _ hA'.row e hlen
        obtain ⟨hA6, st6⟩ := hA'.app ho5 st5 loc5
        have hb5 : V5.heap[w.heap.size + 1 + 1 + 1 + 1]? = _ := (st5.block _ (Array.getElem?_eq_some_iff.1 hA'.box).1 (fun e => hA'.row_lb e rfl)).trans hA'.box
        have w0 := boxc (A := V5) hb5 rfl
        have wf : V5.frozen? ⟨w.heap.size + 1 + 1 + 1 + 1, 0, none⟩ = false := frozen_of_row _ _ _ _ _ hb5
        obtain ⟨kp, ko⟩ := hA'.kp (K := fun k => k = A1.heap.size ∨ k = A1.heap.size + 1) st6 (fun k hk => ⟨(kK k hk).1, (kK k hk).2.2⟩)
        obtain ⟨V6, hV6⟩ : ∃ V6, V6 = V5.setCell ⟨w.heap.size + 1 + 1 + 1 + 1, 0, none⟩ v' := ⟨_, rfl⟩
        rw [← hV6] at hA6 st6 kp ko
        have nrow : ∀ k, k < U.heap.size → k ≠ w.heap.size + 1 + 1 + 1 + 1 → ¬ (k = w.heap.size + 1 + 1 + 1 + 1 ∨ lv'.ownBlock = some k) := fun k h1 h2 h3 => by
          rcases h3 with h3 | h3
          · exact h2 h3
          · rcases hA'.loc k h3 with h4 | h4
            · have := o.loc _ h4; omega
            · have := b2.size; have := o.stay.size; omega
        have fs := FS.out.1
        have gs := FS.out.2
        have q2 : V6.heap[w.heap.size + 1 + 1]? = _ := (st6.block _ (Array.getElem?_eq_some_iff.1 z2).1 (nrow _ (by omega) (by omega))).trans z2
        have q3 : V6.heap[w.heap.size + 1 + 1 + 1]? = _ := (st6.block _ (Array.getElem?_eq_some_iff.1 z3).1 (nrow _ (by omega) (by omega))).trans z3
        have r2 : V5.heap[w.heap.size + 1 + 1]? = _ := (st5.block _ (Array.getElem?_eq_some_iff.1 z2).1 (fun e => nrow _ (by omega) (by omega) (.inr e))).trans z2
        have r3 : V5.heap[w.heap.size + 1 + 1 + 1]? = _ := (st5.block _ (Array.getElem?_eq_some_iff.1 z3).1 (fun e => nrow _ (by omega) (by omega) (.inr e))).trans z3
        have dm := boxc (A := V5) r2 rfl
        have dr := boxc (A := V5) r3 rfl
        have df : V5.frozen? ⟨w.heap.size + 1 + 1 + 1, 0, none⟩ = false := frozen_of_row _ _ _ _ _ r3
        have hz5 : w.heap.size + 1 + 1 + 1 + 1 < V5.heap.size := (Array.getElem?_eq_some_iff.1 hb5).1
        obtain ⟨hX2, st2⟩ := hA6.ret (Br := w.heap.size + 1 + 1 + 1) (by omega) hBrU q3
        have kp2 : KpB (fun k => k = A1.heap.size ∨ k = A1.heap.size + 1) s2 V6 (V6.setCell ⟨w.heap.size + 1 + 1 + 1, 0, none⟩ v') := ⟨st2.size, fun k c t m hk hh => (st2.block k (Array.getElem?_eq_some_iff.1 hh).1 (fun e => by
          rcases hk with hk | hk
          · exact (kK k hk).2.1 e
          · have := (hA6.own k hk).1; omega)).trans hh⟩
        have ko2 : KeepsOthers V6 (V6.setCell ⟨w.heap.size + 1 + 1 + 1, 0, none⟩ v') := KeepsOthers.setCell _ _ _
        have kpA := KpB.trans kp1 kp
        have kpB := KpB.trans kpA kp2
        have koA := ko1.trans ko
        have koB := koA.trans ko2
        obtain ⟨ra, rc5, hra, -⟩ := slice_form ho5
        obtain ⟨qa, qc, hlv, -⟩ := slice_form hA'.row
        obtain ⟨n5, hn5⟩ : ∃ n5, n5 = (geV pl (alA CB p) ++ geV pl p2).length := ⟨_, rfl⟩
        obtain ⟨m5, hm5⟩ : ∃ m5, m5 = (geV pl (alA CB p) ++ geV pl p2 ++ [e]).length := ⟨_, rfl⟩
        have hm6 : m5 = n5 + 1 := by rw [hm5, hn5, List.length_append]; rfl
        rw [← hn5] at hlv hle2
        rw [← hm5] at hra
        have HR := Hid.mk (And.intro hA6 (And.intro hX2 (And.intro kpA (And.intro kpB (And.intro koA (And.intro koB (And.intro hh (And.intro hra (And.intro hm5 (And.intro hx hV6))))))))))
        rw [hra, hlv] at hap
        rw [hlv] at c0 w0
        clear hA' hA6 hX2 kp kp1 kp2 kpA kpB ko ko1 ko2 koA koB hle o a0 hseq2 kK hx hBo hBr st6 ho5 st5 loc5 hb5 hpx hlen hh hra hlv hn5 hm5 z2 z3 zx q2 q3 nrow st2 hZ0 fs gs r2 r3 hV6
        have HM6 := Hid.mk hm6
        clear hm6
        by_cases hme : (m5 : Int) = m
        · have hmd : ((m5 : Int) == m) = true := by simp [hme]
          have HME := Hid.mk hme
          clear hme
          gi_wp2_with (gi_at_builtin; refine wpListIn_append_eq rfl _ _ _ _ rfl _ _ _ _ rfl rfl hap ?_)
          obtain ⟨hA6, hX2, kpA, kpB, koA, koB, hh, hra, hm5, hx, hV6⟩ := HR.out
          rw [← hra]
          rw [← hV6]
          refine ⟨koB.from _, kpB, rfl, v', ?_, hx, ?_⟩
          · rw [hh, ← List.append_assoc]; exact hX2
          · rw [hh, ← List.append_assoc, ← hm5]; exact HME.out
        · have hmd : ((m5 : Int) == m) = false := by apply beq_false_of_ne; exact hme
          have HME := Hid.mk hme
          have HLE := Hid.mk hle2
          clear hme hle2
          gi_wp2_with (gi_at_builtin; refine wpListIn_append_eq rfl _ _ _ _ rfl _ _ _ _ rfl rfl hap ?_)
          obtain ⟨hA6, hX2, kpA, kpB, koA, koB, hh, hra, hm5, hx, hV6⟩ := HR.out
          rw [← hra]
          rw [← hV6]
          refine ⟨koA.from _, kpA, ⟨v', ?_⟩, ?_⟩
          · rw [hh, ← List.append_assoc]; exact hA6
          · rw [hh, ← List.append_assoc, ← hm5]
            have a1 := HM6.out
            have a2 := HME.out
            have a3 := HLE.out
            omega
    case idone =>
      rintro p2 s2 B hS ⟨⟨lv', hA⟩, hle2⟩
      subst hS
      have fs := FS.out.1
      have gs := FS.out.2
      have st : Stay (fun k => k = w.heap.size + 1 + 1 + 1 + 1 ∨ k = w.heap.size + 1 + 1 + 1 ∨ lv.ownBlock = some k) A1 B := (Stay.below b2).trans (hA.stay.mono (fun k _ e => by
        rcases e with e | e
        · exact .inl e
        · exact .inr (.inr e)))
      have hus := o.stay.size
      have hbr : B.heap[w.heap.size + 1 + 1 + 1]? = _ := (hA.stay.block _ (Array.getElem?_eq_some_iff.1 hBr).1 (fun e => by
        rcases e with e | e
        · omega
        · have := o.loc _ e; omega)).trans hBr
      obtain ⟨o2, ko, kp⟩ := o.step st hA.box hbr hA.row (fun k hk => by
        rcases hA.loc k hk with e | e
        · exact .inl e
        · exact .inr (Nat.le_trans b2.size e))
      have kp2 := kp (fun k => k = U0.heap.size ∨ k = fb ∨ bv.ownBlock = some k) (fun k hk => by
        rcases hk with e | e | e
        · omega
        · omega
        · have := row_lt H.row e; omega)
      have hap : geV pl (alA CB p) ++ geV pl (ents X 0 CB) = geV pl (alA CB (p ++ [y])) := by rw [alA_snoc, geV_app, HX.out]
      rw [hap] at o2
      have hle3 : ((geV pl (alA CB (p ++ [y]))).length : Int) < m := by rw [← hap]; exact hle2
      have HR := Hid.mk (And.intro o2 (And.intro ko (And.intro kp2 hle3)))
      clear o2 ko kp2 kp hle3 hap hbr st hA hle2 fs gs hus a0 hseq2 hBo hBr o hle
      gi_wp2
      exact ⟨HR.out.2.1.from _, HR.out.2.2.1, ⟨lv', rv, HR.out.1⟩, HR.out.2.2.2⟩
    case istop =>
      rintro c p2 s2 B _ ⟨rfl, lv', hA, hpre, hle2⟩
      have fs := FS.out.1
      have gs := FS.out.2
      have st : Stay (fun k => k = w.heap.size + 1 + 1 + 1 + 1 ∨ k = w.heap.size + 1 + 1 + 1 ∨ lv.ownBlock = some k) A1 B := (Stay.below b2).trans hA.stay
      obtain ⟨o2, ko, kp⟩ := o.step st hA.box hA.res hA.row (fun k hk => by
        rcases hA.loc k hk with e | e
        · exact .inl e
        · exact .inr (Nat.le_trans b2.size e))
      have kp2 := kp (fun k => k = U0.heap.size ∨ k = fb ∨ bv.ownBlock = some k) (fun k hk => by
        rcases hk with e | e | e
        · omega
        · omega
        · have := row_lt H.row e; omega)
      obtain ⟨rr, hrr⟩ := hpre
      have hfin : ∃ lv pre y' q rest, OI U fb hd bv iv rd (w.heap.size + 1 + 1 + 1 + 1) (w.heap.size + 1 + 1 + 1) s (geV pl (alA CB pre ++ q)) lv lv B ∧ p ++ [y] = pre ++ [y'] ∧ ents ⟨y'.toArray⟩ 0 CB = q ++ rest ∧ ((geV pl (alA CB pre ++ q)).length : Int) = m :=
        ⟨lv', p, y, p2, rr, by rw [geV_app]; exact o2, rfl, by rw [← HX.out]; exact hrr.symm, by rw [geV_app]; exact hle2⟩
      have HR := Hid.mk (And.intro hfin (And.intro ko kp2))
      clear hfin o2 ko kp2 kp st hA hle2 fs gs a0 hseq2 hBo hBr o hle hrr
      gi_wp2
      exact ⟨HR.out.2.1.from _, HR.out.2.2, rfl, HR.out.1⟩
  case done =>
    rintro D p s A hD ⟨hS, hS2⟩ ⟨⟨lv, rv, o⟩, hle⟩ hdef
    have st0 : Stay (fun k => k = w.heap.size + 1 + 1 + 1) A (A.setCell ⟨w.heap.size + 1 + 1 + 1, 0, none⟩ lv) := stay1 _ _ _ _ _ (.refl _ _)
    have o2 : OI U fb hd bv iv rd (w.heap.size + 1 + 1 + 1 + 1) (w.heap.size + 1 + 1 + 1) s (geV pl (alA CB p)) lv lv (A.setCell ⟨w.heap.size + 1 + 1 + 1, 0, none⟩ lv) :=
      { num := o.num, box := (st0.block _ (Array.getElem?_eq_some_iff.1 o.box).1 (by omega)).trans o.box, res := by rw [heap_setCell_same A _ 0 _ _ _ o.res]; rfl, row := row_kept o.row st0 (fun k hk e => by
          obtain ⟨c, hc⟩ := row_block o.row hk
          rw [e, o.res] at hc; simp at hc), file := (st0.block _ (Array.getElem?_eq_some_iff.1 o.file).1 o.num.2.1).trans o.file, stay := o.stay.andThen st0 (fun k _ e => .inr (.inl e)), loc := o.loc }
    have hd2 : (A.setCell ⟨w.heap.size + 1 + 1 + 1, 0, none⟩ lv).heap[D]? = some (.deferred (some [])) := (st0.block D (Array.getElem?_eq_some_iff.1 hdef).1 (fun e => by
      have := o.num.2.2.2.2.2; omega)).trans hdef
    have c0 := boxc (A := A) o.box rfl
    have c1 := boxc (A := A) o.res rfl
    have cf : A.frozen? ⟨w.heap.size + 1 + 1 + 1, 0, none⟩ = false := frozen_of_row _ _ _ _ _ o.res
    obtain ⟨qa, qc, hlv, -⟩ := slice_form o.row
    have hF : FrmO CB pl m (bl.drop q0) s (geV pl (alA CB p)) := .inl ⟨by rw [hS2, hS], by rw [← hS], hle⟩
    have fin : ∀ (tmps : Array Value) (hres : ∀ w', w'.cell? ⟨w.heap.size + 1 + 1 + 1, 0, none⟩ = some lv → (results Tryd.f16 tmps).run Tryd.prog w' = .ok lv w'), LeavesInM Fence.wide 9 Tryd.prog Tryd.f16 tmps (fun r w' => ∃ v t L, r = .returned v ∧ FrmO CB pl m (bl.drop (rF ix pl - 1)) t L ∧ w'.ownsRow 0 40 5 v L.length (L.flatMap enC) ∧ (∀ k, v.ownBlock = some k → w.heap.size ≤ k) ∧ FA w' fb hd bl ix bv iv (rd + t) ∧ Stay (fun k => k = fb) w w') (markL [D]) .returning (A.setCell ⟨w.heap.size + 1 + 1 + 1, 0, none⟩ lv) := fun tmps hres =>
      leaves_marks lv [D] _ (fun D' h' => by simp at h'; subst h'; exact hd2) (by simp) (fun w' st => by
        obtain ⟨k1, k2, k3, k4, k5⟩ := o2.fin H bU (by omega) (by omega) hD hd2 st
        exact ⟨hres w' k1, lv, s, _, rfl, by rw [← HQ.out]; exact hF, k2, k3, k4, k5⟩)
    have HR := Hid.mk fin
    have HL := Hid.mk hlv
    obtain ⟨n5, hn5⟩ : ∃ n5, n5 = (geV pl (alA CB p)).length := ⟨_, rfl⟩
    rw [hlv, ← hn5] at c0
    rw [← hn5] at HL
    clear fin hlv o2 hd2 hF st0 o hle hS hS2 hn5 hseq o0
    gi_wp2
    rw [← HL.out]
    exact HR.out _ (fun w' hc => by simp [results, Tryd.results16, go_sem, hc])
  case stop =>
    rintro D c p s A hD ⟨hS, hS2⟩ ⟨rfl, lv, pre, y, q, rest, o, hp, he, hle⟩ hdef
    have hF : FrmO CB pl m (bl.drop q0) s (geV pl (alA CB pre ++ q)) := .inr ⟨pre, y, q, rest, by rw [← hp]; exact hS, by rw [hS2, hp]; simp, he, rfl, hle⟩
    have fin : ∀ (tmps : Array Value) (hres : ∀ w', w'.cell? ⟨w.heap.size + 1 + 1 + 1, 0, none⟩ = some lv → (results Tryd.f16 tmps).run Tryd.prog w' = .ok lv w'), LeavesInM Fence.wide 9 Tryd.prog Tryd.f16 tmps (fun r w' => ∃ v t L, r = .returned v ∧ FrmO CB pl m (bl.drop (rF ix pl - 1)) t L ∧ w'.ownsRow 0 40 5 v L.length (L.flatMap enC) ∧ (∀ k, v.ownBlock = some k → w.heap.size ≤ k) ∧ FA w' fb hd bl ix bv iv (rd + t) ∧ Stay (fun k => k = fb) w w') (markL [D]) .returning A := fun tmps hres =>
      leaves_marks lv [D] _ (fun D' h' => by simp at h'; subst h'; exact hdef) (by simp) (fun w' st => by
        obtain ⟨k1, k2, k3, k4, k5⟩ := o.fin H bU (by omega) (by omega) hD hdef st
        exact ⟨hres w' k1, lv, s, _, rfl, by rw [← HQ.out]; exact hF, k2, k3, k4, k5⟩)
    have HR := Hid.mk fin
    clear fin hF o hle hS hS2 hseq o0 he hp
    gi_wp2
    exact HR.out _ (fun w' hc => by simp [results, Tryd.results16, go_sem, hc])
end Go.Proofs.YtdegclccbgpgiaaDoor
set_option linter.unusedVariables false
set_option linter.unusedSimpArgs false
namespace Go.Proofs.YtdegclccbgpgiaaDoor
open Go.RowKit Go.Proofs.SealMath
theorem cpE_v {a b : En} (h : cpE a b < 0) : a.v ≤ b.v := by
  unfold cpE at h
  by_cases e : a.v = b.v
  · omega
  · rw [if_neg e] at h
    have := (cmpI a.v b.v).1.1 h
    omega
theorem ents_head {b : ByteArray} {cb : Nat} {e : En} {r : List En} (h : ents b 0 cb = e :: r) : eE (eaA b 0 cb) = e := by
  cases h1 : eaA b 0 cb with
  | none => rw [ents_none h1] at h; cases h
  | some x =>
    obtain ⟨e', q⟩ := x
    rw [ents_some h1] at h
    simp only [List.cons.injEq] at h
    exact h.1
/-- A file's parts. -/
structure Pts (cb : Nat) (l : List En) (bl : List (List UInt8)) (ix : List En) : Prop where
  up : Up l
  al : alA cb bl = l
  ne : ∀ (j : Nat) (hj : j < bl.length), ents ⟨bl[j].toArray⟩ 0 cb ≠ []
  ix : ix = ixL cb bl
theorem Pts.of {h : Hd} {l : List En} (e : bdE h l = 0) : Pts (cbH h) l ((pk enB l).map fun p => p.2.flatMap enB) (ixL (cbH h) ((pk enB l).map fun p => p.2.flatMap enB)) := by
  have hoc := bdE_codes e
  have hok := (bdE_ok e).2.2.2
  have hlen : ∀ x ∈ l, (enB x).length ≤ 4096 := fun x hx => by
    have := (enB_len x).1
    have := (hok x hx).c
    omega
  refine ⟨bdE_up e, al_file h l hoc, fun j hj => ?_, rfl⟩
  rw [List.length_map] at hj
  rw [List.getElem_map]
  have hm : (pk enB l)[j] ∈ pk enB l := List.getElem_mem hj
  rw [ents_all]
  · exact (pk_spec enB l hlen _ hm).1
  · intro x hx
    refine hoc x ?_
    have := pk_flat enB l
    rw [← this]
    exact List.mem_flatten.2 ⟨_, List.mem_map.2 ⟨_, hm, rfl⟩, hx⟩
section
variable {cb : Nat} {l : List En} {bl : List (List UInt8)} {ix : List En}
theorem Pts.cut (P : Pts cb l bl ix) (q : Nat) : alA cb (bl.take q) ++ alA cb (bl.drop q) = l := by
  have h := P.al
  rw [← List.take_append_drop q bl] at h
  unfold alA at h ⊢
  rw [List.flatMap_append] at h
  exact h
theorem Pts.len (P : Pts cb l bl ix) : ix.length = bl.length := by rw [P.ix]; unfold ixL; simp
theorem Pts.head (P : Pts cb l bl ix) {j : Nat} (hj : j < bl.length) (hj' : j < ix.length) : ix[j] ∈ ents ⟨bl[j].toArray⟩ 0 cb := by
  have hne := P.ne j hj
  cases h : ents ⟨bl[j].toArray⟩ 0 cb with
  | nil => exact absurd h hne
  | cons e r =>
    have h2 := ents_head h
    have : ix[j] = e := by
      simp only [P.ix, ixL, List.getElem_map]
      exact h2
    rw [this]; simp
/-- What stands in an earlier block stands ahead. -/
theorem Pts.lt (P : Pts cb l bl ix) {q : Nat} {a b : En} (ha : a ∈ alA cb (bl.take q)) (hb : b ∈ alA cb (bl.drop q)) : cpE a b < 0 := by
  have h := P.up
  rw [← P.cut q] at h
  unfold Up at h
  exact (List.pairwise_append.1 h).2.2 a ha b hb
theorem Pts.upix (P : Pts cb l bl ix) : Up ix := by
  unfold Up
  rw [List.pairwise_iff_getElem]
  intro i j hi hj hij
  have hl := P.len
  refine P.lt (q := j) ?_ ?_
  · have h1 := P.head (show i < bl.length by omega) hi
    unfold alA
    refine List.mem_flatMap.2 ⟨bl[i], ?_, h1⟩
    rw [List.mem_take_iff_getElem]
    exact ⟨i, by omega, rfl⟩
  · have h1 := P.head (show j < bl.length by omega) hj
    unfold alA
    refine List.mem_flatMap.2 ⟨bl[j], ?_, h1⟩
    rw [List.mem_drop_iff_getElem]
    exact ⟨0, by omega, by simp⟩
theorem rF_low {ix : List En} (p : En) {j : Nat} (hj : j < ix.length) (h : j < rF ix p) : ¬ 0 < cpE ix[j] p := by
  unfold rF at h
  have h1 : (ix.takeWhile fun e => decide (¬ 0 < cpE e p))[j] = ix[j] := by
    have := List.takeWhile_prefix (p := fun e => decide (¬ 0 < cpE e p)) (l := ix)
    exact List.IsPrefix.getElem this h
  have h2 : (ix.takeWhile fun e => decide (¬ 0 < cpE e p))[j] ∈ ix.takeWhile fun e => decide (¬ 0 < cpE e p) := List.getElem_mem h
  have h3 := List.all_eq_true.1 (List.all_takeWhile (p := fun e => decide (¬ 0 < cpE e p)) (l := ix)) _ h2
  rw [h1] at h3
  simpa using h3
/-- Ahead of the first block for a place all stands ahead of the place. -/
theorem Pts.ahead (P : Pts cb l bl ix) (p : En) {a : En} (ha : a ∈ alA cb (bl.take (rF ix p - 1))) : cpE a p < 0 := by
  have hl := P.len
  have hr := rF_le ix p
  by_cases h0 : rF ix p - 1 = 0
  · rw [h0] at ha
    simp [alA] at ha
  · have hj : rF ix p - 1 < ix.length := by omega
    have h1 := rF_low p hj (by omega)
    have h2 : ix[rF ix p - 1] ∈ alA cb (bl.drop (rF ix p - 1)) := by
      have := P.head (show rF ix p - 1 < bl.length by omega) hj
      unfold alA
      refine List.mem_flatMap.2 ⟨_, ?_, this⟩
      rw [List.mem_drop_iff_getElem]
      exact ⟨0, by omega, by simp⟩
    exact cpE_lt_le (P.lt ha h2) (by omega)
theorem Pts.ge (P : Pts cb l bl ix) (p : En) : geV p l = geV p (alA cb (bl.drop (rF ix p - 1))) := by
  have h := P.cut (rF ix p - 1)
  conv => lhs; rw [← h]
  rw [geV_app]
  have : geV p (alA cb (bl.take (rF ix p - 1))) = [] := by
    unfold geV
    rw [List.filter_eq_nil_iff]
    intro a ha
    have := P.ahead p ha
    simp [this]
  rw [this, List.nil_append]
theorem alA_pre (cb : Nat) {pre : List (List UInt8)} {y : List UInt8} {bl : List (List UInt8)} (h : pre ++ [y] <+: bl) {q rest : List En} (he : ents ⟨y.toArray⟩ 0 cb = q ++ rest) : ∃ more, alA cb bl = (alA cb pre ++ q) ++ (rest ++ more) := by
  obtain ⟨t, ht⟩ := h
  refine ⟨alA cb t, ?_⟩
  rw [← ht]
  unfold alA at *
  rw [List.flatMap_append, List.flatMap_append]
  simp [he]
/-- What From tells. -/
theorem Pts.from (P : Pts cb l bl ix) {p : En} {m : Int} {t : Nat} {L : List En} (h : FrmO cb p m (bl.drop (rF ix p - 1)) t L) : L = (geV p l).take m.toNat := by
  rw [P.ge p]
  rcases h with ⟨h1, h2, h3⟩ | ⟨pre, y, q, rest, h1, h2, h3, h4, h5⟩
  · rw [← h2, List.take_of_length_le (by omega)]
  · obtain ⟨more, hm⟩ := alA_pre cb h1 h3
    rw [hm, geV_app, ← h4, ← h5]
    simp
/-- What Find tells. -/
theorem Pts.find (P : Pts cb l bl ix) {x : Int} {t : Nat} {L : List En} (hi : ∀ e ∈ l, 0 ≤ e.i) (h : FndO cb x (bl.drop (rF ix ⟨x, ⟨#[]⟩, -1, 0, false⟩ - 1)) t L) : L = hitV x l := by
  have hcut := P.cut (rF ix ⟨x, ⟨#[]⟩, -1, 0, false⟩ - 1)
  have hno : hitV x (alA cb (bl.take (rF ix ⟨x, ⟨#[]⟩, -1, 0, false⟩ - 1))) = [] := by
    unfold hitV
    rw [List.filter_eq_nil_iff]
    intro a ha
    have h1 := P.ahead _ ha
    have h2 := hi a (by rw [← hcut]; exact List.mem_append_left _ ha)
    simp only [decide_eq_true_eq]
    intro e
    unfold cpE at h1
    rw [if_pos e] at h1
    split at h1
    · have := (cmpI a.i (-1)).1.1 h1
      omega
    · have h3 : Lib.compareBytes a.c.data.toList [] < 0 := h1
      cases hc : a.c.data.toList with
      | nil => rw [hc] at h3; simp [Lib.compareBytes] at h3
      | cons c d => rw [hc] at h3; simp [Lib.compareBytes] at h3
  have hl : hitV x l = hitV x (alA cb (bl.drop (rF ix ⟨x, ⟨#[]⟩, -1, 0, false⟩ - 1))) := by
    conv => lhs; rw [← hcut]
    rw [hitV_app, hno, List.nil_append]
  rw [hl]
  rcases h with ⟨h1, h2, h3⟩ | ⟨pre, y, q, rest, h1, h2, h3, ⟨e, r, h4, h5⟩, h6, h7⟩
  · exact h3
  · obtain ⟨more, hm⟩ := alA_pre cb h1 h3
    rw [hm, hitV_app, ← h7]
    have : hitV x (rest ++ more) = [] := by
      unfold hitV
      rw [List.filter_eq_nil_iff]
      intro a ha
      have hup := P.up
      rw [← hcut, hm, h4] at hup
      unfold Up at hup
      have hu2 := (List.pairwise_append.1 (List.pairwise_append.1 hup).2.1).2.1
      rw [h4, List.cons_append] at ha
      rw [List.cons_append] at hu2
      simp only [decide_eq_true_eq]
      rcases List.mem_cons.1 ha with rfl | ha
      · omega
      · have := cpE_v ((List.pairwise_cons.1 hu2).1 a ha)
        omega
    rw [this, List.append_nil]
end
end Go.Proofs.YtdegclccbgpgiaaDoor
set_option linter.unusedVariables false
set_option linter.unusedSimpArgs false
namespace Go.Proofs.YtdegclccbgpgiaaDoor
open Go.RowKit Go.Proofs.SealMath
set_option maxRecDepth 100000 in
set_option maxHeartbeats 2000000 in
theorem same6_any (l : List En) (la lb : Option Addr) (ca cb : Nat) (w : World) (ha : LAt w la l) (hb : LAt w lb l) (hl : l.length < 4611686018427387904) :
    Calls Tryd.prog 12 #[.slice la l.length ca, .slice lb l.length cb] w fun e w' => e = .returned (.bool true) ∧ Drew w w' := by
  obtain ⟨n, hn⟩ : ∃ n, n = l.length := ⟨_, rfl⟩
  have HA := Hid.mk (And.intro ha (And.intro hb hn))
  rw [← hn] at hl ⊢
  clear ha hb hn
  go_enter Tryd.func12, Tryd.ntmps12
  go_wp2
  go_loopw [5] (fun u wr => ∃ i : Nat, u = .int .i64 i ∧ i ≤ n ∧ Drew w wr) (fun u _ => n - (intOf u).toNat)
  case atStart => exact ⟨0, rfl, Nat.zero_le _, Drew.refl _⟩
  case round =>
    obtain ⟨i, rfl, hi, hd⟩ := hrel
    by_cases hlt : i < n
    · have hln : i < l.length := by have := HA.out.2.2; omega
      have hne : l ≠ [] := fun h => by rw [h] at hln; simp at hln
      obtain ⟨g1, o1, e1, r1⟩ := HA.out.1.at' hne
      obtain ⟨g2, o2, e2, r2⟩ := HA.out.2.1.at' hne
      subst e1
      subst e2
      have hh : ∀ k : Nat, wr.heap[k]? = w.heap[k]? := fun k => by obtain ⟨m, rfl⟩ := hd; rfl
      obtain ⟨x0, x1, x2, x3, x4⟩ := row_en r1 (hh g1) i hln
      obtain ⟨y0, y1, y2, y3, y4⟩ := row_en r2 (hh g2) i hln
      obtain ⟨e, he⟩ : ∃ e, e = l[i] := ⟨_, rfl⟩
      rw [← he] at x0 x1 x2 x3 x4 y0 y1 y2 y3 y4
      have i1 : (i : Int) < (n : Int) := by omega
      have i2 : 0 ≤ (i : Int) := by omega
      clear he hh r1 r2 hne hln
      go_wp2
      go_quiet (fail)
      go_wp2
      refine ⟨⟨i + 1, rfl, hlt, hd.more _⟩, by simp only [intOf]; omega⟩
    · go_wp2
      go_ret
      exact ⟨rfl, hd⟩
theorem flat_len5 (l : List En) : (l.flatMap enC).length = l.length * 5 := by
  induction l with
  | nil => rfl
  | cons x l ih => rw [List.flatMap_cons, List.length_append, ih, enC_len, List.length_cons]; omega
theorem one5 (l : List En) : ∀ u ∈ l.flatMap enC, u.oneCell' = true := fun u hu => by
  obtain ⟨e, _, he⟩ := List.mem_flatMap.1 hu
  simp [enC] at he
  rcases he with rfl | rfl | rfl | rfl | rfl <;> rfl
/-- Entries that lie somewhere are put behind entries of the call's own. -/
theorem ent_app (W : World) (l m : List En) (v : Value) (h : W.ownsRow 0 40 5 v l.length (l.flatMap enC)) (a : Option Addr) (c : Nat) (hm : m ≠ [] → ∃ g off, a = some ⟨g, off, none⟩ ∧ RowAt W g off (m.flatMap enC)) (hb : (l.length + m.length) * 48 ≤ 140737488355328) :
    ∃ v' w', (Builtin.append_ #[24, 24] 24 #[v, .slice a m.length c]).run Tryd.prog W = .ok v' w' ∧ w'.ownsRow 0 40 5 v' (l ++ m).length ((l ++ m).flatMap enC) ∧ Stay (fun k => v.ownBlock = some k) W w' ∧ (∀ k, v'.ownBlock = some k → v.ownBlock = some k ∨ W.heap.size ≤ k) := by
  obtain ⟨i0, hi, hz0, hz1, hz2⟩ := info_parts infoEn
  by_cases h0 : m = []
  · subst h0
    obtain ⟨a0, c0, hv, hc0⟩ := slice_form h
    refine ⟨v, W, ?_, by simpa using h, .refl _ _, fun k hk => .inl hk⟩
    subst hv
    have hf : (Builtin.firstCells 5 0 (.slice a 0 c)).run Tryd.prog W = .ok #[] W := by cases a <;> simp [Builtin.firstCells, loadCells, loadCellsFrom]
    simp [Builtin.append_, run_underlying Tryd.underlying24, sizeOf, typeInfo, hi, hz1, Builtin.lenOf, hf, hc0]
    cases a0 <;> simp [storeCells]
  · obtain ⟨g, off, rfl, hr⟩ := hm h0
    obtain ⟨v', w', hrun, ho, hg, _, hloc⟩ := run_append_own_at (P := Tryd.prog) W 0 24 24 40 i0 _ 5 48 Tryd.underlying24 hi hz0 hz1 hz2 rfl (by decide) v l.length _ h ⟨g, off, none⟩ m.length c (m.flatMap enC) (flat_len5 m) (fun j u hu => by
      have e1 : (⟨g, off, none⟩ : Addr).add j = ⟨g, off + j, none⟩ := by unfold Addr.add; split <;> simp_all
      rw [e1]; exact hr j u hu) (one5 m) (by unfold maxLen; omega) (by omega) (Nat.zero_le _)
    refine ⟨v', w', hrun, by rw [List.length_append, List.flatMap_append]; exact ho, .grown hg (fun k hk => hk), fun k hk => ?_⟩
    rcases hloc with hl | hl
    · exact .inl (hl ▸ hk)
    · rw [hl] at hk; cases hk; exact .inr (Nat.le_refl _)
def mk9 : En := ⟨-9, ⟨#[]⟩, 0, 0, false⟩
end Go.Proofs.YtdegclccbgpgiaaDoor
set_option linter.unusedVariables false
set_option linter.unusedSimpArgs false
namespace Go.Proofs.YtdegclccbgpgiaaDoor
open Go.RowKit Go.Shelf Go.Proofs.SealMath
attribute [local go_sem] Oper.semAt_some
def tA : ByteArray := ⟨#[97, 97, 97, 97, 97, 97, 97, 97]⟩
def tB : ByteArray := ⟨#[98, 98, 98, 98, 98, 98, 98, 98]⟩
def eA : En := ⟨1, tA, 5, 2, false⟩
def eB : En := ⟨3, tB, 4, 1, true⟩
def hB : Hd := ⟨64, 0, 8, 0, 9, 0⟩
theorem bd_ab : bdE hB [eA, eB] = 0 := by decide +kernel
theorem bd_ba : bdE hB [eB, eA] = 50 := by decide +kernel
set_option maxRecDepth 100000 in
theorem letters_a (w : World) : Calls Tryd.prog 21 #[.int .u8 97] w fun r w' => r = .returned (.string tA) ∧ Below w.heap.size w w' := by
  have hcv := conv_lit w [97, 97, 97, 97, 97, 97, 97, 97] 8 8 #[.int .u8 97, .int .u8 97, .int .u8 97, .int .u8 97, .int .u8 97, .int .u8 97, .int .u8 97, .int .u8 97] rfl rfl
  go_enter Tryd.func21, Tryd.ntmps21
  go_wp2
  go_ret
  exact ⟨rfl, (Below.refl _ w).alloc (Nat.le_refl _) _⟩
set_option maxRecDepth 100000 in
theorem letters_b (w : World) : Calls Tryd.prog 21 #[.int .u8 98] w fun r w' => r = .returned (.string tB) ∧ Below w.heap.size w w' := by
  have hcv := conv_lit w [98, 98, 98, 98, 98, 98, 98, 98] 8 8 #[.int .u8 98, .int .u8 98, .int .u8 98, .int .u8 98, .int .u8 98, .int .u8 98, .int .u8 98, .int .u8 98] rfl rfl
  go_enter Tryd.func21, Tryd.ntmps21
  go_wp2
  go_ret
  exact ⟨rfl, (Below.refl _ w).alloc (Nat.le_refl _) _⟩
theorem LAt.stay {F : Nat → Prop} {w w' : World} {la : Option Addr} {l : List En} (h : LAt w la l) (s : Stay F w w') (hn : ∀ g off, la = some ⟨g, off, none⟩ → ¬ F g) : LAt w' la l := ⟨fun hne => by
  obtain ⟨g, off, e, hr⟩ := h.at' hne
  refine ⟨g, off, e, fun j x hx => ?_⟩
  have h1 := hr j x hx
  have h2 := s.block g (World.block_lt_of_cell? w _ h1) (hn g off e)
  simp only [World.cell?, h2] at h1 ⊢
  exact h1⟩
theorem rowAt_of {W : World} {g off : Nat} {cs : Array Value} {t : TypeId} (h : W.heap[g]? = some (.cells cs t (0, 0))) (l : List Value) (hl : ∀ j x, l[j]? = some x → cs[off + j]? = some x) : RowAt W g off l := fun j x hx => by
  rw [cell_of_row _ _ (off + j) _ _ (0, 0) h]; exact hl j x hx
theorem w4d (w : World) {V : World} (b : Below w.heap.size w V) : Below w.drew.heap.size w.drew V := ⟨b.os, b.tape, b.output, b.size, b.block⟩
theorem cAB {W : World} {lb : Nat} (h : W.heap[lb]? = some (.cells #[.int .i64 1, .string tA, .int .i64 5, .int .i64 2, .bool false, .int .i64 3, .string tB, .int .i64 4, .int .i64 1, .bool true] 40 (0, 0))) : W.cell? ⟨lb, 0, none⟩ = some (.int .i64 1) ∧ W.cell? ⟨lb, 1, none⟩ = some (.string tA) ∧ W.cell? ⟨lb, 2, none⟩ = some (.int .i64 5) ∧ W.cell? ⟨lb, 3, none⟩ = some (.int .i64 2) ∧ W.cell? ⟨lb, 4, none⟩ = some (.bool false) :=
  ⟨by rw [cell_of_row _ _ 0 _ _ (0, 0) h]; rfl, by rw [cell_of_row _ _ 1 _ _ (0, 0) h]; rfl, by rw [cell_of_row _ _ 2 _ _ (0, 0) h]; rfl, by rw [cell_of_row _ _ 3 _ _ (0, 0) h]; rfl, by rw [cell_of_row _ _ 4 _ _ (0, 0) h]; rfl⟩
theorem lAB {W : World} {lb : Nat} (h : W.heap[lb]? = some (.cells #[.int .i64 1, .string tA, .int .i64 5, .int .i64 2, .bool false, .int .i64 3, .string tB, .int .i64 4, .int .i64 1, .bool true] 40 (0, 0))) : LAt W (some ⟨lb, 0, none⟩) [eA, eB] ∧ LAt W (some ⟨lb, 5, none⟩) [eB] ∧ LAt W (some ⟨lb, 0, none⟩) [eA] := by
  refine ⟨⟨fun _ => ⟨lb, 0, rfl, rowAt_of h _ (fun j x hx => ?_)⟩⟩, ⟨fun _ => ⟨lb, 5, rfl, rowAt_of h _ (fun j x hx => ?_)⟩⟩, ⟨fun _ => ⟨lb, 0, rfl, rowAt_of h _ (fun j x hx => ?_)⟩⟩⟩
  · rw [Nat.zero_add]; simpa [eA, eB, enC] using hx
  · match j, hx with
    | 0, hx => simpa [eB, enC] using hx
    | 1, hx => simpa [eB, enC] using hx
    | 2, hx => simpa [eB, enC] using hx
    | 3, hx => simpa [eB, enC] using hx
    | 4, hx => simpa [eB, enC] using hx
    | k + 5, hx => simp [eB, enC] at hx
  · match j, hx with
    | 0, hx => simpa [eA, enC] using hx
    | 1, hx => simpa [eA, enC] using hx
    | 2, hx => simpa [eA, enC] using hx
    | 3, hx => simpa [eA, enC] using hx
    | 4, hx => simpa [eA, enC] using hx
    | k + 5, hx => simp [eA, enC] at hx
theorem FndO_le {cb : Nat} {x : Int} {bl : List (List UInt8)} {t : Nat} {L : List En} (h : FndO cb x bl t L) : t ≤ bl.length := by
  rcases h with ⟨h, -⟩ | ⟨pre, y, q, rest, h1, h2, -⟩
  · omega
  · have := h1.length_le
    simp at this
    omega
theorem FrmO_le {cb : Nat} {p : En} {m : Int} {bl : List (List UInt8)} {t : Nat} {L : List En} (h : FrmO cb p m bl t L) : t ≤ bl.length := by
  rcases h with ⟨h, -⟩ | ⟨pre, y, q, rest, h1, h2, -⟩
  · omega
  · have := h1.length_le
    simp at this
    omega
theorem hit_ab : hitV 3 [eA, eB] = [eB] := by unfold hitV; simp [eA, eB]
theorem ge_ab : (geV eA [eA, eB]).take (1 : Int).toNat = [eA] := by
  have c1 : cpE eA eA = 0 := by decide +kernel
  have c2 : cpE eB eA = 1 := by decide +kernel
  unfold geV
  simp [List.filter, c1, c2]
/-- A file that was built, opened. -/
theorem open_built (h : Hd) (l : List En) (w : World) (ht : Tab w) (hg : 0 < w.heap.size) (e : bdE h l = 0) (hs : (fileT h l).length ≤ 1099511627776) :
    Calls Tryd.prog 10 #[.string ⟨(fileT h l).toArray⟩] w fun r w' => Below w.heap.size w w' ∧ ∃ fb bv iv bl ix, r = .returned (.tuple #[Pt fb, .int .i64 0]) ∧ w.heap.size ≤ fb ∧ FA w' fb { h with n := l.length } bl ix bv iv 0 ∧ (∀ k, bv.ownBlock = some k → w.heap.size ≤ k) ∧ (∀ k, iv.ownBlock = some k → w.heap.size ≤ k) ∧ Pts (cbH h) l bl ix ∧ (bl.map (·.length + 14)).sum ≤ (fileT h l).length := by
  obtain ⟨h1, h2⟩ := op_file h l e
  obtain ⟨r1, -⟩ := opA_some h1
  obtain ⟨-, -, -, r4⟩ := rdA_some r1
  refine (open_any _ w ht hg (by rw [ba_len]; exact hs)).mono ?_
  rintro r w' ⟨b, hR⟩
  rw [h1] at hR
  simp only [] at hR
  obtain ⟨fb, bv, iv, rfl, hf, hF, hv, hi⟩ := hR
  rw [ba_len] at r4
  exact ⟨b, fb, bv, iv, _, _, rfl, hf, hF, hv, hi, Pts.of e, r4⟩
theorem file_len (h : Hd) (l : List En) (e : bdE h l = 0) : (fileT h l).length ≤ 1099511627776 := by
  obtain ⟨hh, hn, hls, hok⟩ := bdE_ok e
  obtain ⟨k1, k2, k3⟩ := hbT_len h l hok hn
  have hf := ftB_len h l
  have h6 := blkL_len lnB 6 (pk lnB (idx h l))
  rw [pk_flat] at h6
  have h7 := pk_len lnB (idx h l) (fun y hy => okL_len (k3 y hy))
  have h8 : ln lnB (idx h l) ≤ 4096 * (idx h l).length := ln_le lnB 4096 (idx h l) (fun y hy => okL_len (k3 y hy))
  unfold fileT
  rw [List.length_append, List.length_append, frL_len, h6]
  omega
set_option maxHeartbeats 8000000 in
set_option maxRecDepth 100000 in
theorem begun6_any (w : World) (ht : Tab w) (hg : 0 < w.heap.size) :
    Calls Tryd.prog 8 #[] w fun r w' => r = .returned (.bool true) ∧ Below w.heap.size w w' := by
  have HT := Hid.mk (And.intro ht hg)
  clear ht hg
  refine (callsIn_wide (n := 9)).1 ?_
  refine callsIn_of_wp Tryd.func8 rfl trivial ?_ rfl
  simp only [Tryd.ntmps8, List.size_toArray, List.length_nil, Nat.reduceAdd, Nat.reduceSub, Array.replicate_succ, Array.replicate_zero, List.push_toArray, List.append_toArray, List.nil_append, List.cons_append]
  gi_wp2_with fail
  refine ⟨trivial, (callsIn_wide.2 (letters_a _)).mono ?_⟩
  rintro r w1 ⟨rfl, b1⟩
  gi_wp2_with fail
  refine ⟨trivial, (callsIn_wide.2 (letters_b _)).mono ?_⟩
  rintro r w2 ⟨rfl, b2⟩
  have b12 := chain b1 b2 (Nat.le_refl _)
  clear b1 b2
  obtain ⟨W, hW⟩ : ∃ W, W = w2.alloc (.cells #[.int .i64 1, .string tA, .int .i64 5, .int .i64 2, .bool false, .int .i64 3, .string tB, .int .i64 4, .int .i64 1, .bool true] 40) := ⟨_, rfl⟩
  obtain ⟨lb, hlb⟩ : ∃ lb, lb = w2.heap.size := ⟨_, rfl⟩
  have bW : Below w.heap.size w W := by rw [hW]; exact chain b12 ((Below.refl _ w2).alloc (Nat.le_refl _) _) (Nat.le_refl _)
  have hrow : W.heap[lb]? = some (.cells #[.int .i64 1, .string tA, .int .i64 5, .int .i64 2, .bool false, .int .i64 3, .string tB, .int .i64 4, .int .i64 1, .bool true] 40 (0, 0)) := by rw [hW, hlb]; exact heap_alloc_last w2 _
  have hbW : lb < W.heap.size := (Array.getElem?_eq_some_iff.1 hrow).1
  gi_wp2_with fail
  rw [← hlb, ← hW]
  have L2 : LAt W (some ⟨lb, 0, none⟩) [eA, eB] := ⟨fun _ => ⟨lb, 0, rfl, rowAt_of hrow _ (fun j x hx => by rw [Nat.zero_add]; simpa [eA, eB, enC] using hx)⟩⟩
  obtain ⟨ht1, hg1⟩ := HT.out.1.blk HT.out.2 bW
  have hbd := build_any hB [eA, eB] (some ⟨lb, 0, none⟩) 2 W ht1 L2 (by decide)
  rw [bd_ab, show bdT hB [eA, eB] = fileT hB [eA, eB] by unfold bdT; rw [if_pos bd_ab]] at hbd
  obtain ⟨T, hT⟩ : ∃ T : ByteArray, T = ⟨(fileT hB [eA, eB]).toArray⟩ := ⟨_, rfl⟩
  rw [← hT] at hbd
  have H2 := Hid.mk (And.intro L2 (And.intro hrow bW))
  clear L2 hrow bW hW hlb b12 ht1 hg1
  simp only [hdC, hB] at hbd
  refine ⟨trivial, (callsIn_wide.2 hbd).mono ?_⟩
  clear hbd
  rintro r w3 ⟨rfl, b3⟩
  have bw3 := chain H2.out.2.2 b3 (Nat.le_refl _)
  obtain ⟨ht3, hg3⟩ := HT.out.1.blk HT.out.2 bw3
  have hop := open_built hB [eA, eB] w3 ht3 hg3 bd_ab (file_len _ _ bd_ab)
  rw [← hT] at hop
  clear ht3 hg3
  have HTT := Hid.mk hT
  clear hT
  gi_wp2_with fail
  refine ⟨trivial, (callsIn_wide.2 hop).mono ?_⟩
  clear hop
  rintro r w4 ⟨b4, fb, bv, iv, bl, ix, rfl, hfw, hF, hbv, hiv, hP, hsm⟩
  have bw4 := chain bw3 b4 (Nat.le_refl _)
  have hfl : lb < fb := Nat.lt_of_lt_of_le hbW (Nat.le_trans b3.size hfw)
  have row4 : w4.heap[lb]? = _ := (b4.block _ (Nat.lt_of_lt_of_le hbW b3.size)).trans ((b3.block _ hbW).trans H2.out.2.1)
  have HF := Hid.mk (And.intro hF (And.intro hP hsm))
  have HW4 := Hid.mk (And.intro bw4 (And.intro row4 (And.intro hfl (Nat.le_trans bw3.size hfw))))
  clear hF hP hsm hbv hiv bw4 row4 b4 b3 bw3 hfw hbW H2 hfl
  have r4 := HW4.out.2.1
  have c0 : w4.drew.cell? ⟨lb, 0, none⟩ = some (.int .i64 1) := by rw [cell_of_row w4.drew _ 0 _ _ (0, 0) r4]; rfl
  have c1 : w4.drew.cell? ⟨lb, 1, none⟩ = some (.string tA) := by rw [cell_of_row w4.drew _ 1 _ _ (0, 0) r4]; rfl
  have c2 : w4.drew.cell? ⟨lb, 2, none⟩ = some (.int .i64 5) := by rw [cell_of_row w4.drew _ 2 _ _ (0, 0) r4]; rfl
  have c3 : w4.drew.cell? ⟨lb, 3, none⟩ = some (.int .i64 2) := by rw [cell_of_row w4.drew _ 3 _ _ (0, 0) r4]; rfl
  have c4 : w4.drew.cell? ⟨lb, 4, none⟩ = some (.bool false) := by rw [cell_of_row w4.drew _ 4 _ _ (0, 0) r4]; rfl
  have c5 : w4.drew.cell? ⟨lb, 5, none⟩ = some (.int .i64 3) := by rw [cell_of_row w4.drew _ 5 _ _ (0, 0) r4]; rfl
  have c6 : w4.drew.cell? ⟨lb, 6, none⟩ = some (.string tB) := by rw [cell_of_row w4.drew _ 6 _ _ (0, 0) r4]; rfl
  have c7 : w4.drew.cell? ⟨lb, 7, none⟩ = some (.int .i64 4) := by rw [cell_of_row w4.drew _ 7 _ _ (0, 0) r4]; rfl
  have c8 : w4.drew.cell? ⟨lb, 8, none⟩ = some (.int .i64 1) := by rw [cell_of_row w4.drew _ 8 _ _ (0, 0) r4]; rfl
  have c9 : w4.drew.cell? ⟨lb, 9, none⟩ = some (.bool true) := by rw [cell_of_row w4.drew _ 9 _ _ (0, 0) r4]; rfl
  obtain ⟨W5, hW5⟩ : ∃ W5, W5 = w4.drew.alloc (.cells #[.int .i64 3, .string tB, .int .i64 4, .int .i64 1, .bool true, .int .i64 1, .string tA, .int .i64 5, .int .i64 2, .bool false] 40) := ⟨_, rfl⟩
  have b5 : Below w4.heap.size w4 W5 := by rw [hW5]; exact ((Below.refl _ w4).drew).alloc (Nat.le_refl _) _
  have hr5 : W5.heap[w4.heap.size]? = some (.cells #[.int .i64 3, .string tB, .int .i64 4, .int .i64 1, .bool true, .int .i64 1, .string tA, .int .i64 5, .int .i64 2, .bool false] 40 (0, 0)) := by rw [hW5]; exact heap_alloc_last w4.drew _
  have L5 : LAt W5 (some ⟨w4.heap.size, 0, none⟩) [eB, eA] := ⟨fun _ => ⟨w4.heap.size, 0, rfl, rowAt_of hr5 _ (fun j x hx => by rw [Nat.zero_add]; simpa [eA, eB, enC] using hx)⟩⟩
  obtain ⟨ht5, hg5⟩ := HT.out.1.blk HT.out.2 (chain HW4.out.1 b5 (Nat.le_refl _))
  have hbd := build_any hB [eB, eA] (some ⟨w4.heap.size, 0, none⟩) 2 W5 ht5 L5 (by decide)
  rw [bd_ba, show bdT hB [eB, eA] = [] by unfold bdT; rw [if_neg (by rw [bd_ba]; decide)]] at hbd
  simp only [hdC, hB] at hbd
  have T5 : W5.cell? ⟨lb, 0, none⟩ = some (.int .i64 1) ∧ W5.cell? ⟨lb, 1, none⟩ = some (.string tA) ∧ W5.cell? ⟨lb, 2, none⟩ = some (.int .i64 5) ∧ W5.cell? ⟨lb, 3, none⟩ = some (.int .i64 2) ∧ W5.cell? ⟨lb, 4, none⟩ = some (.bool false) ∧ W5.cell? ⟨lb, 5, none⟩ = some (.int .i64 3) ∧ W5.cell? ⟨lb, 6, none⟩ = some (.string tB) ∧ W5.cell? ⟨lb, 7, none⟩ = some (.int .i64 4) ∧ W5.cell? ⟨lb, 8, none⟩ = some (.int .i64 1) ∧ W5.cell? ⟨lb, 9, none⟩ = some (.bool true) := ⟨cell_lat (w4d w4 b5) c0, cell_lat (w4d w4 b5) c1, cell_lat (w4d w4 b5) c2, cell_lat (w4d w4 b5) c3, cell_lat (w4d w4 b5) c4, cell_lat (w4d w4 b5) c5, cell_lat (w4d w4 b5) c6, cell_lat (w4d w4 b5) c7, cell_lat (w4d w4 b5) c8, cell_lat (w4d w4 b5) c9⟩
  clear hr5 L5 ht5 hg5 r4
  subst hW5
  gi_wp2_with fail
  refine region_held mixed 14 rfl (S := fun w' => w'.cell? ⟨lb, 0, none⟩ = some (.int .i64 1) ∧ w'.cell? ⟨lb, 1, none⟩ = some (.string tA) ∧ w'.cell? ⟨lb, 2, none⟩ = some (.int .i64 5) ∧ w'.cell? ⟨lb, 3, none⟩ = some (.int .i64 2) ∧ w'.cell? ⟨lb, 4, none⟩ = some (.bool false) ∧ w'.cell? ⟨lb, 5, none⟩ = some (.int .i64 3) ∧ w'.cell? ⟨lb, 6, none⟩ = some (.string tB) ∧ w'.cell? ⟨lb, 7, none⟩ = some (.int .i64 4) ∧ w'.cell? ⟨lb, 8, none⟩ = some (.int .i64 1) ∧ w'.cell? ⟨lb, 9, none⟩ = some (.bool true)) ?_
  refine AnyS.take (i := 0) (v := ?vs0) (by kernel_rfl) rfl (by kernel_rfl) (by kernel_rfl) (by kernel_rfl) (fun _ _ _ h => h) ⟨Or.inl ⟨by kernel_rfl, fun w' hS => ?ys0⟩, fun _ => rfl⟩ ⟨c0, c1, c2, c3, c4, c5, c6, c7, c8, c9⟩ ?_
  case ys0 => go_simp; rfl
  refine AnyS.take (i := 1) (v := ?vs1) (by kernel_rfl) rfl (by kernel_rfl) (by kernel_rfl) (by kernel_rfl) (fun _ _ _ h => h) ⟨Or.inl ⟨by kernel_rfl, fun w' hS => ?ys1⟩, fun _ => rfl⟩ ⟨c0, c1, c2, c3, c4, c5, c6, c7, c8, c9⟩ ?_
  case ys1 => go_simp; rfl
  refine AnyS.take (i := 2) (v := ?vs2) (by kernel_rfl) rfl (by kernel_rfl) (by kernel_rfl) (by kernel_rfl) (fun _ _ _ h => h) ⟨Or.inl ⟨by kernel_rfl, fun w' hS => ?ys2⟩, fun _ => rfl⟩ ⟨c0, c1, c2, c3, c4, c5, c6, c7, c8, c9⟩ ?_
  case ys2 => go_simp; rfl
  refine AnyS.take (i := 3) (v := ?vs3) (by kernel_rfl) rfl (by kernel_rfl) (by kernel_rfl) (by kernel_rfl) (fun _ _ _ h => h) ⟨Or.inl ⟨by kernel_rfl, fun w' hS => ?ys3⟩, fun _ => rfl⟩ ⟨c0, c1, c2, c3, c4, c5, c6, c7, c8, c9⟩ ?_
  case ys3 => obtain ⟨g0, g1, g2, g3, g4, g5, g6, g7, g8, g9⟩ := hS; go_simp; rfl
  refine AnyS.take (i := 4) (v := ?vs4) (by kernel_rfl) rfl (by kernel_rfl) (by kernel_rfl) (by kernel_rfl) (fun _ _ _ h => h) ⟨Or.inl ⟨by kernel_rfl, fun w' hS => ?ys4⟩, fun _ => rfl⟩ ⟨c0, c1, c2, c3, c4, c5, c6, c7, c8, c9⟩ ?_
  case ys4 => go_simp; rfl
  refine AnyS.take (i := 5) (v := ?vs5) (by kernel_rfl) rfl (by kernel_rfl) (by kernel_rfl) (by kernel_rfl) (fun _ _ _ h => h) ⟨Or.inl ⟨by kernel_rfl, fun w' hS => ?ys5⟩, fun _ => rfl⟩ ⟨c0, c1, c2, c3, c4, c5, c6, c7, c8, c9⟩ ?_
  case ys5 => go_simp; rfl
  refine AnyS.take (i := 6) (v := ?vs6) (by kernel_rfl) rfl (by kernel_rfl) (by kernel_rfl) (by kernel_rfl) (fun _ _ _ h => h) ⟨Or.inl ⟨by kernel_rfl, fun w' hS => ?ys6⟩, fun _ => rfl⟩ ⟨c0, c1, c2, c3, c4, c5, c6, c7, c8, c9⟩ ?_
  case ys6 => obtain ⟨g0, g1, g2, g3, g4, g5, g6, g7, g8, g9⟩ := hS; go_simp; rfl
  refine AnyS.one (i := 7) (by kernel_rfl) (wpOpIn_step rfl (fun K hK => ?_))
  go_simp
  refine hK _ _ ⟨T5, ?_⟩
  clear hK K
  refine AnyS.one (i := 8) (by kernel_rfl) (wpOpIn_step rfl (fun K hK => ?_))
  go_simp
  refine ⟨trivial, (callsIn_wide.2 hbd).mono ?_⟩
  clear hbd
  rintro r w6 ⟨rfl, b6⟩
  have T6 : w6.cell? ⟨lb, 0, none⟩ = some (.int .i64 1) ∧ w6.cell? ⟨lb, 1, none⟩ = some (.string tA) ∧ w6.cell? ⟨lb, 2, none⟩ = some (.int .i64 5) ∧ w6.cell? ⟨lb, 3, none⟩ = some (.int .i64 2) ∧ w6.cell? ⟨lb, 4, none⟩ = some (.bool false) ∧ w6.cell? ⟨lb, 5, none⟩ = some (.int .i64 3) ∧ w6.cell? ⟨lb, 6, none⟩ = some (.string tB) ∧ w6.cell? ⟨lb, 7, none⟩ = some (.int .i64 4) ∧ w6.cell? ⟨lb, 8, none⟩ = some (.int .i64 1) ∧ w6.cell? ⟨lb, 9, none⟩ = some (.bool true) := ⟨cell_lat b6 T5.1, cell_lat b6 T5.2.1, cell_lat b6 T5.2.2.1, cell_lat b6 T5.2.2.2.1, cell_lat b6 T5.2.2.2.2.1, cell_lat b6 T5.2.2.2.2.2.1, cell_lat b6 T5.2.2.2.2.2.2.1, cell_lat b6 T5.2.2.2.2.2.2.2.1, cell_lat b6 T5.2.2.2.2.2.2.2.2.1, cell_lat b6 T5.2.2.2.2.2.2.2.2.2⟩
  refine hK _ _ ⟨T6, ?_⟩
  clear hK K
  refine AnyS.take (i := 9) (v := ?vs9) (by kernel_rfl) rfl (by kernel_rfl) (by kernel_rfl) (by kernel_rfl) (fun _ _ _ h => h) ⟨Or.inl ⟨by kernel_rfl, fun w' hS => ?ys9⟩, fun _ => rfl⟩ T6 ?_
  case ys9 => go_simp; rfl
  refine AnyS.take (i := 10) (v := ?vs10) (by kernel_rfl) rfl (by kernel_rfl) (by kernel_rfl) (by kernel_rfl) (fun _ _ _ h => h) ⟨Or.inl ⟨by kernel_rfl, fun w' hS => ?ys10⟩, fun _ => rfl⟩ T6 ?_
  case ys10 => go_simp; rfl
  refine AnyS.take (i := 11) (v := ?vs11) (by kernel_rfl) rfl (by kernel_rfl) (by kernel_rfl) (by kernel_rfl) (fun _ _ _ h => h) ⟨Or.inl ⟨by kernel_rfl, fun w' hS => ?ys11⟩, fun _ => rfl⟩ T6 ?_
  case ys11 => go_simp; rfl
  refine AnyS.take (i := 12) (v := ?vs12) (by kernel_rfl) rfl (by kernel_rfl) (by kernel_rfl) (by kernel_rfl) (fun _ _ _ h => h) ⟨Or.inl ⟨by kernel_rfl, fun w' hS => ?ys12⟩, fun _ => rfl⟩ T6 ?_
  case ys12 => go_simp; rfl
  refine AnyS.take (i := 13) (v := ?vs13) (by kernel_rfl) rfl (by kernel_rfl) (by kernel_rfl) (by kernel_rfl) (fun _ _ _ h => h) ⟨Or.inl ⟨by kernel_rfl, fun w' hS => ?ys13⟩, fun _ => rfl⟩ T6 ?_
  case ys13 => go_simp; rfl
  refine AnyS.done (by kernel_rfl) ?_
  have bw6 := chain (chain HW4.out.1 b5 (Nat.le_refl _)) b6 (Nat.le_refl _)
  have b46 := chain b5 b6 (Nat.le_refl _)
  have row6 : w6.heap[lb]? = _ := (b46.block _ (Array.getElem?_eq_some_iff.1 HW4.out.2.1).1).trans HW4.out.2.1
  have F6 := (HF.out.1.below b46).below (b_drew w6)
  have H6 := Hid.mk (And.intro bw6 (And.intro row6 F6))
  clear bw6 b46 row6 F6 T5 T6 b5 b6 c0 c1 c2 c3 c4 c5 c6 c7 c8 c9
  obtain ⟨P, hsm⟩ := HF.out.2
  have hfl : (fileT hB [eA, eB]).length ≤ 1099511627776 := file_len _ _ bd_ab
  have hs40 : (bl.map (·.length + 14)).sum ≤ 1099511627776 := Nat.le_trans hsm hfl
  have hlen := P.len
  have hbl := len_sum bl
  have r6 : w6.drew.heap[lb]? = _ := H6.out.2.1
  have S0 := cAB r6
  have hall := all_any fb _ bl ix bv iv 0 w6.drew H6.out.2.2 (by decide) (by decide) hs40
  rw [show cbH { hB with n := (([eA, eB] : List En).length : Int) } = cbH hB from rfl, P.al] at hall
  have hfnd := fun rd W (HF : FA W fb { hB with n := (([eA, eB] : List En).length : Int) } bl ix bv iv rd) (hr : rd ≤ 4 * 1099511627776) => find_any fb _ bl ix bv iv rd 3 W HF (by decide) hs40 hlen P.upix (by omega)
  have hfrm := fun rd W (HF : FA W fb { hB with n := (([eA, eB] : List En).length : Int) } bl ix bv iv rd) (hr : rd ≤ 4 * 1099511627776) => from_any fb _ bl ix bv iv rd eA 1 W HF (by decide) hs40 hlen P.upix (by omega) (by omega)
  gi_wp2_with fail
  refine region_held mixed 26 rfl (S := fun w' => w'.cell? ⟨lb, 0, none⟩ = some (.int .i64 1) ∧ w'.cell? ⟨lb, 1, none⟩ = some (.string tA) ∧ w'.cell? ⟨lb, 2, none⟩ = some (.int .i64 5) ∧ w'.cell? ⟨lb, 3, none⟩ = some (.int .i64 2) ∧ w'.cell? ⟨lb, 4, none⟩ = some (.bool false)) ?_
  refine AnyS.take (i := 0) (oi := { dst := some 46, op := Op.move (Operand.tmp 4), type := 30, pos := "plain.go:33", after := #[], guard := none }) (v := ?vz0) (by kernel_rfl) rfl (by kernel_rfl) (by kernel_rfl) (by kernel_rfl) (fun _ _ _ h => h) ⟨Or.inl ⟨by kernel_rfl, fun w' hS => ?yz0⟩, fun _ => rfl⟩ S0 ?_
  case yz0 => go_simp; rfl
  simp only [Act.put, List.setIfInBounds_toArray, List.set_cons_zero, List.set_cons_succ]
  refine AnyS.take (i := 2) (oi := { dst := some 48, op := Op.move (Operand.tmp 1), type := 24, pos := "plain.go:33", after := #[], guard := none }) (v := ?vz2) (by kernel_rfl) rfl (by kernel_rfl) (by kernel_rfl) (by kernel_rfl) (fun _ _ _ h => h) ⟨Or.inl ⟨by kernel_rfl, fun w' hS => ?yz2⟩, fun _ => rfl⟩ S0 ?_
  case yz2 => go_simp; rfl
  simp only [Act.put, List.setIfInBounds_toArray, List.set_cons_zero, List.set_cons_succ]
  refine AnyS.one (i := 1) (by kernel_rfl) (wpOpIn_step (o := { dst := some 47, op := Op.call { callee := Callee.value (Operand.func 13), args := #[Operand.tmp 46], argTypes := #[30] }, type := 24, pos := "plain.go:33", after := #[{ on := 0, ground := Ground.data }], guard := none }) rfl (fun K hK => ?_))
  go_simp
  refine ⟨trivial, (callsIn_wide.2 hall).mono ?_⟩
  clear hall
  rintro r w7 ⟨v7, rfl, rw7, lc7, b7⟩
  have r7 : w7.heap[lb]? = _ := (b7.block _ (Array.getElem?_eq_some_iff.1 r6).1).trans r6
  have S7 := cAB r7
  have F7 := H6.out.2.2.below b7
  obtain ⟨la7, ca7, rfl, hc7, LA7⟩ := lat_row rw7
  have hsm7 := same6_any [eA, eB] la7 (some ⟨lb, 0, none⟩) ca7 2 w7 LA7 (lAB r7).1 (by decide)
  refine hK _ _ ⟨S7, ?_⟩
  clear hK K
  refine AnyS.one (i := 3) (by kernel_rfl) (wpOpIn_step (o := { dst := some 49, op := Op.call { callee := Callee.value (Operand.func 12), args := #[Operand.tmp 47, Operand.tmp 48], argTypes := #[24, 24] }, type := 4, pos := "plain.go:33", after := #[{ on := 1, ground := Ground.data }, { on := 2, ground := Ground.data }, { on := 1, ground := Ground.chain }], guard := none }) rfl (fun K hK => ?_))
  go_simp
  refine ⟨trivial, (callsIn_wide.2 hsm7).mono ?_⟩
  clear hsm7
  rintro r w8 ⟨rfl, d8⟩
  have b8 := d8.below w7.heap.size
  have r8 : w8.heap[lb]? = _ := (b8.block _ (Array.getElem?_eq_some_iff.1 r7).1).trans r7
  have S8 := cAB r8
  have F8 := F7.below b8
  have hf8 := hfnd 0 w8 F8 (by omega)
  refine hK _ _ ⟨S8, ?_⟩
  clear hK K hfnd
  refine AnyS.take (i := 4) (oi := { dst := some 50, op := Op.move (Operand.tmp 49), type := 4, pos := "plain.go:33", after := #[{ on := 3, ground := Ground.data }, { on := 3, ground := Ground.chain }], guard := none }) (v := ?vz4) (by kernel_rfl) rfl (by kernel_rfl) (by kernel_rfl) (by kernel_rfl) (fun _ _ _ h => h) ⟨Or.inl ⟨by kernel_rfl, fun w' hS => ?yz4⟩, fun _ => rfl⟩ S8 ?_
  case yz4 => go_simp; rfl
  simp only [Act.put, List.setIfInBounds_toArray, List.set_cons_zero, List.set_cons_succ]
  refine AnyS.take (i := 5) (oi := { dst := some 51, op := Op.move (Operand.tmp 4), type := 30, pos := "plain.go:33", after := #[{ on := 4, ground := Ground.guard }], guard := some (4, true) }) (v := ?vz5) (by kernel_rfl) rfl (by kernel_rfl) (by kernel_rfl) (by kernel_rfl) (fun _ _ _ h => h) ⟨Or.inl ⟨by kernel_rfl, fun w' hS => ?yz5⟩, fun _ => rfl⟩ S8 ?_
  case yz5 => go_simp; rfl
  simp only [Act.put, List.setIfInBounds_toArray, List.set_cons_zero, List.set_cons_succ]
  refine AnyS.take (i := 7) (oi := { dst := some 53, op := Op.move (Operand.tmp 1), type := 24, pos := "plain.go:33", after := #[{ on := 4, ground := Ground.guard }], guard := some (4, true) }) (v := ?vz7) (by kernel_rfl) rfl (by kernel_rfl) (by kernel_rfl) (by kernel_rfl) (fun _ _ _ h => h) ⟨Or.inl ⟨by kernel_rfl, fun w' hS => ?yz7⟩, fun _ => rfl⟩ S8 ?_
  case yz7 => go_simp; rfl
  simp only [Act.put, List.setIfInBounds_toArray, List.set_cons_zero, List.set_cons_succ]
  refine AnyS.take (i := 8) (oi := { dst := some 54, op := Op.slice 24 (Operand.tmp 53) (some (Operand.const (Value.int IntKind.i64 1))) none none, type := 24, pos := "plain.go:33", after := #[{ on := 7, ground := Ground.data }, { on := 4, ground := Ground.guard }], guard := some (4, true) }) (v := ?vz8) (by kernel_rfl) rfl (by kernel_rfl) (by kernel_rfl) (by kernel_rfl) (fun _ _ _ h => h) ⟨Or.inl ⟨by kernel_rfl, fun w' hS => ?yz8⟩, fun _ => rfl⟩ S8 ?_
  case yz8 => go_simp; rfl
  simp only [Act.put, List.setIfInBounds_toArray, List.set_cons_zero, List.set_cons_succ]
  refine AnyS.one (i := 6) (by kernel_rfl) (wpOpIn_step (o := { dst := some 52, op := Op.call { callee := Callee.value (Operand.func 14), args := #[Operand.tmp 51, Operand.const (Value.int IntKind.i64 3)], argTypes := #[30, 3] }, type := 24, pos := "plain.go:33", after := #[{ on := 5, ground := Ground.data }, { on := 4, ground := Ground.chain }, { on := 4, ground := Ground.guard }], guard := some (4, true) }) rfl (fun K hK => ?_))
  rw [if_pos (by kernel_rfl)]
  go_simp
  refine ⟨trivial, (callsIn_wide.2 hf8).mono ?_⟩
  clear hf8
  rintro r w9 ⟨v9, t9, L9, rfl, f9, rw9, lc9, F9, st9⟩
  have e9 : L9 = [eB] := (P.find (by decide) f9).trans hit_ab
  subst e9
  have nlb : ¬ lb = fb := by have := HW4.out.2.2.1; omega
  have r9 : w9.heap[lb]? = _ := (st9.block _ (Array.getElem?_eq_some_iff.1 r8).1 nlb).trans r8
  have S9 := cAB r9
  obtain ⟨la9, ca9, rfl, hc9, LA9⟩ := lat_row rw9
  have hsm9 := same6_any [eB] la9 (some ⟨lb, 5, none⟩) ca9 1 w9 LA9 (lAB r9).2.1 (by decide)
  have ht9 : t9 ≤ bl.length := Nat.le_trans (FndO_le f9) (by rw [List.length_drop]; omega)
  refine hK _ _ ⟨S9, ?_⟩
  clear hK K
  refine AnyS.one (i := 9) (by kernel_rfl) (wpOpIn_step (o := { dst := some 55, op := Op.call { callee := Callee.value (Operand.func 12), args := #[Operand.tmp 52, Operand.tmp 54], argTypes := #[24, 24] }, type := 4, pos := "plain.go:33", after := #[{ on := 6, ground := Ground.data }, { on := 8, ground := Ground.data }, { on := 6, ground := Ground.chain }, { on := 4, ground := Ground.guard }], guard := some (4, true) }) rfl (fun K hK => ?_))
  rw [if_pos (by kernel_rfl)]
  go_simp
  refine ⟨trivial, (callsIn_wide.2 hsm9).mono ?_⟩
  clear hsm9
  rintro r w10 ⟨rfl, d10⟩
  have b10 := d10.below w9.heap.size
  have r10 : w10.heap[lb]? = _ := (b10.block _ (Array.getElem?_eq_some_iff.1 r9).1).trans r9
  have S10 := cAB r10
  have F10 := F9.below b10
  have hf10 := Hid.mk (hfrm (0 + t9) w10 F10 (by omega))
  refine hK _ _ ⟨S10, ?_⟩
  clear hK K hfrm hbl hs40 hlen hfl hsm ht9 f9
  refine AnyS.take (i := 10) (oi := { dst := some 56, op := Op.pick (Operand.tmp 50) (Operand.tmp 55) (Operand.const (Value.bool false)), type := 4, pos := "plain.go:33", after := #[{ on := 4, ground := Ground.data }, { on := 9, ground := Ground.data }], guard := none }) (v := ?vz10) (by kernel_rfl) rfl (by kernel_rfl) (by kernel_rfl) (by kernel_rfl) (fun _ _ _ h => h) ⟨Or.inl ⟨by kernel_rfl, fun w' hS => ?yz10⟩, fun _ => rfl⟩ S10 ?_
  case yz10 => go_simp; rfl
  simp only [Act.put, List.setIfInBounds_toArray, List.set_cons_zero, List.set_cons_succ]
  refine AnyS.take (i := 11) (oi := { dst := some 57, op := Op.move (Operand.tmp 56), type := 4, pos := "plain.go:33", after := #[{ on := 10, ground := Ground.data }, { on := 9, ground := Ground.chain }], guard := none }) (v := ?vz11) (by kernel_rfl) rfl (by kernel_rfl) (by kernel_rfl) (by kernel_rfl) (fun _ _ _ h => h) ⟨Or.inl ⟨by kernel_rfl, fun w' hS => ?yz11⟩, fun _ => rfl⟩ S10 ?_
  case yz11 => go_simp; rfl
  simp only [Act.put, List.setIfInBounds_toArray, List.set_cons_zero, List.set_cons_succ]
  refine AnyS.take (i := 12) (oi := { dst := some 58, op := Op.move (Operand.tmp 4), type := 30, pos := "plain.go:33", after := #[{ on := 11, ground := Ground.guard }], guard := some (11, true) }) (v := ?vz12) (by kernel_rfl) rfl (by kernel_rfl) (by kernel_rfl) (by kernel_rfl) (fun _ _ _ h => h) ⟨Or.inl ⟨by kernel_rfl, fun w' hS => ?yz12⟩, fun _ => rfl⟩ S10 ?_
  case yz12 => go_simp; rfl
  simp only [Act.put, List.setIfInBounds_toArray, List.set_cons_zero, List.set_cons_succ]
  refine AnyS.take (i := 13) (oi := { dst := some 59, op := Op.move (Operand.tmp 1), type := 24, pos := "plain.go:33", after := #[{ on := 11, ground := Ground.guard }], guard := some (11, true) }) (v := ?vz13) (by kernel_rfl) rfl (by kernel_rfl) (by kernel_rfl) (by kernel_rfl) (fun _ _ _ h => h) ⟨Or.inl ⟨by kernel_rfl, fun w' hS => ?yz13⟩, fun _ => rfl⟩ S10 ?_
  case yz13 => go_simp; rfl
  simp only [Act.put, List.setIfInBounds_toArray, List.set_cons_zero, List.set_cons_succ]
  refine AnyS.take (i := 14) (oi := { dst := some 60, op := Op.indexAddr 24 (Operand.tmp 59) (Operand.const (Value.int IntKind.i64 0)), type := 0, pos := "plain.go:33", after := #[{ on := 13, ground := Ground.data }, { on := 11, ground := Ground.guard }], guard := some (11, true) }) (v := ?vz14) (by kernel_rfl) rfl (by kernel_rfl) (by kernel_rfl) (by kernel_rfl) (fun _ _ _ h => h) ⟨Or.inl ⟨by kernel_rfl, fun w' hS => ?yz14⟩, fun _ => rfl⟩ S10 ?_
  case yz14 => go_simp; rfl
  simp only [Act.put, List.setIfInBounds_toArray, List.set_cons_zero, List.set_cons_succ]
  refine AnyS.take (i := 15) (oi := { dst := some 61, op := Op.load 40 (Operand.tmp 60), type := 40, pos := "plain.go:33", after := #[{ on := 14, ground := Ground.data }, { on := 11, ground := Ground.guard }], guard := some (11, true) }) (v := ?vz15) (by kernel_rfl) rfl (by kernel_rfl) (by kernel_rfl) (by kernel_rfl) (fun _ _ _ h => h) ⟨Or.inl ⟨by kernel_rfl, fun w' hS => ?yz15⟩, fun _ => rfl⟩ S10 ?_
  case yz15 => obtain ⟨g0, g1, g2, g3, g4⟩ := hS; go_simp; rfl
  simp only [Act.put, List.setIfInBounds_toArray, List.set_cons_zero, List.set_cons_succ]
  refine AnyS.take (i := 17) (oi := { dst := some 63, op := Op.move (Operand.tmp 1), type := 24, pos := "plain.go:33", after := #[{ on := 11, ground := Ground.guard }], guard := some (11, true) }) (v := ?vz17) (by kernel_rfl) rfl (by kernel_rfl) (by kernel_rfl) (by kernel_rfl) (fun _ _ _ h => h) ⟨Or.inl ⟨by kernel_rfl, fun w' hS => ?yz17⟩, fun _ => rfl⟩ S10 ?_
  case yz17 => go_simp; rfl
  simp only [Act.put, List.setIfInBounds_toArray, List.set_cons_zero, List.set_cons_succ]
  refine AnyS.take (i := 18) (oi := { dst := some 64, op := Op.slice 24 (Operand.tmp 63) none (some (Operand.const (Value.int IntKind.i64 1))) none, type := 24, pos := "plain.go:33", after := #[{ on := 17, ground := Ground.data }, { on := 11, ground := Ground.guard }], guard := some (11, true) }) (v := ?vz18) (by kernel_rfl) rfl (by kernel_rfl) (by kernel_rfl) (by kernel_rfl) (fun _ _ _ h => h) ⟨Or.inl ⟨by kernel_rfl, fun w' hS => ?yz18⟩, fun _ => rfl⟩ S10 ?_
  case yz18 => go_simp; rfl
  simp only [Act.put, List.setIfInBounds_toArray, List.set_cons_zero, List.set_cons_succ]
  refine AnyS.one (i := 16) (by kernel_rfl) (wpOpIn_step (o := { dst := some 62, op := Op.call { callee := Callee.value (Operand.func 16), args := #[Operand.tmp 58, Operand.tmp 61, Operand.const (Value.int IntKind.i64 1)], argTypes := #[30, 40, 3] }, type := 24, pos := "plain.go:33", after := #[{ on := 12, ground := Ground.data }, { on := 15, ground := Ground.data }, { on := 11, ground := Ground.chain }, { on := 11, ground := Ground.guard }], guard := some (11, true) }) rfl (fun K hK => ?_))
  rw [if_pos (by kernel_rfl)]
  go_simp
  refine ⟨trivial, (callsIn_wide.2 hf10.out).mono ?_⟩
  clear hf10
  rintro r w11 ⟨v11, t11, L11, rfl, f11, rw11, lc11, F11, st11⟩
  have e11 : L11 = [eA] := (P.from f11).trans ge_ab
  subst e11
  have r11 : w11.heap[lb]? = _ := (st11.block _ (Array.getElem?_eq_some_iff.1 r10).1 nlb).trans r10
  have S11 := cAB r11
  obtain ⟨la11, ca11, rfl, hc11, LA11⟩ := lat_row rw11
  have hsm11 := same6_any [eA] la11 (some ⟨lb, 0, none⟩) ca11 2 w11 LA11 (lAB r11).2.2 (by decide)
  refine hK _ _ ⟨S11, ?_⟩
  clear hK K
  refine AnyS.one (i := 19) (by kernel_rfl) (wpOpIn_step (o := { dst := some 65, op := Op.call { callee := Callee.value (Operand.func 12), args := #[Operand.tmp 62, Operand.tmp 64], argTypes := #[24, 24] }, type := 4, pos := "plain.go:33", after := #[{ on := 16, ground := Ground.data }, { on := 18, ground := Ground.data }, { on := 16, ground := Ground.chain }, { on := 11, ground := Ground.guard }], guard := some (11, true) }) rfl (fun K hK => ?_))
  rw [if_pos (by kernel_rfl)]
  go_simp
  refine ⟨trivial, (callsIn_wide.2 hsm11).mono ?_⟩
  clear hsm11
  rintro r w12 ⟨rfl, d12⟩
  have b12 := d12.below w11.heap.size
  have r12 : w12.heap[lb]? = _ := (b12.block _ (Array.getElem?_eq_some_iff.1 r11).1).trans r11
  have S12 := cAB r12
  have nfb : ∀ k, k < w.heap.size → ¬ k = fb := fun k hk => by have := HW4.out.2.2.2; omega
  have B8 : Below w.heap.size w w8 := chain (chain H6.out.1.drew b7 (Nat.le_refl _)) b8 (Nat.le_refl _)
  have B10 : Below w.heap.size w w10 := chain (B8.trans (st9.toBelow nfb B8.size)) b10 (Nat.le_refl _)
  have B12 : Below w.heap.size w w12 := chain (B10.trans (st11.toBelow nfb B10.size)) b12 (Nat.le_refl _)
  refine hK _ _ ⟨S12, ?_⟩
  clear hK K
  refine AnyS.take (i := 20) (oi := { dst := some 66, op := Op.pick (Operand.tmp 57) (Operand.tmp 65) (Operand.const (Value.bool false)), type := 4, pos := "plain.go:33", after := #[{ on := 11, ground := Ground.data }, { on := 19, ground := Ground.data }], guard := none }) (v := ?vz20) (by kernel_rfl) rfl (by kernel_rfl) (by kernel_rfl) (by kernel_rfl) (fun _ _ _ h => h) ⟨Or.inl ⟨by kernel_rfl, fun w' hS => ?yz20⟩, fun _ => rfl⟩ S12 ?_
  case yz20 => go_simp; rfl
  simp only [Act.put, List.setIfInBounds_toArray, List.set_cons_zero, List.set_cons_succ]
  refine AnyS.take (i := 21) (oi := { dst := some 67, op := Op.move (Operand.tmp 66), type := 4, pos := "plain.go:33", after := #[{ on := 20, ground := Ground.data }, { on := 19, ground := Ground.chain }], guard := none }) (v := ?vz21) (by kernel_rfl) rfl (by kernel_rfl) (by kernel_rfl) (by kernel_rfl) (fun _ _ _ h => h) ⟨Or.inl ⟨by kernel_rfl, fun w' hS => ?yz21⟩, fun _ => rfl⟩ S12 ?_
  case yz21 => go_simp; rfl
  simp only [Act.put, List.setIfInBounds_toArray, List.set_cons_zero, List.set_cons_succ]
  refine AnyS.take (i := 22) (oi := { dst := some 68, op := Op.move (Operand.tmp 7), type := 26, pos := "plain.go:33", after := #[{ on := 21, ground := Ground.guard }], guard := some (21, true) }) (v := ?vz22) (by kernel_rfl) rfl (by kernel_rfl) (by kernel_rfl) (by kernel_rfl) (fun _ _ _ h => h) ⟨Or.inl ⟨by kernel_rfl, fun w' hS => ?yz22⟩, fun _ => rfl⟩ S12 ?_
  case yz22 => go_simp; rfl
  simp only [Act.put, List.setIfInBounds_toArray, List.set_cons_zero, List.set_cons_succ]
  refine AnyS.take (i := 23) (oi := { dst := some 69, op := Op.binOp BinOp.eql 26 (Operand.tmp 68) (Operand.const (Value.int IntKind.i64 50)) 26, type := 4, pos := "plain.go:33", after := #[{ on := 22, ground := Ground.data }, { on := 21, ground := Ground.guard }], guard := some (21, true) }) (v := ?vz23) (by kernel_rfl) rfl (by kernel_rfl) (by kernel_rfl) (by kernel_rfl) (fun _ _ _ h => h) ⟨Or.inl ⟨by kernel_rfl, fun w' hS => ?yz23⟩, fun _ => rfl⟩ S12 ?_
  case yz23 => go_simp; rfl
  simp only [Act.put, List.setIfInBounds_toArray, List.set_cons_zero, List.set_cons_succ]
  refine AnyS.take (i := 24) (oi := { dst := some 70, op := Op.pick (Operand.tmp 67) (Operand.tmp 69) (Operand.const (Value.bool false)), type := 4, pos := "plain.go:33", after := #[{ on := 21, ground := Ground.data }, { on := 23, ground := Ground.data }], guard := none }) (v := ?vz24) (by kernel_rfl) rfl (by kernel_rfl) (by kernel_rfl) (by kernel_rfl) (fun _ _ _ h => h) ⟨Or.inl ⟨by kernel_rfl, fun w' hS => ?yz24⟩, fun _ => rfl⟩ S12 ?_
  case yz24 => go_simp; rfl
  simp only [Act.put, List.setIfInBounds_toArray, List.set_cons_zero, List.set_cons_succ]
  refine AnyS.take (i := 25) (oi := { dst := some 0, op := Op.assign (Operand.tmp 70), type := 4, pos := "plain.go:33", after := #[{ on := 24, ground := Ground.data }, { on := 21, ground := Ground.chain }, { on := 0, ground := Ground.phase }, { on := 1, ground := Ground.phase }, { on := 2, ground := Ground.phase }, { on := 3, ground := Ground.phase }, { on := 4, ground := Ground.phase }, { on := 5, ground := Ground.phase }, { on := 6, ground := Ground.phase }, { on := 7, ground := Ground.phase }, { on := 8, ground := Ground.phase }, { on := 9, ground := Ground.phase }, { on := 10, ground := Ground.phase }, { on := 11, ground := Ground.phase }, { on := 12, ground := Ground.phase }, { on := 13, ground := Ground.phase }, { on := 14, ground := Ground.phase }, { on := 15, ground := Ground.phase }, { on := 16, ground := Ground.phase }, { on := 17, ground := Ground.phase }, { on := 18, ground := Ground.phase }, { on := 19, ground := Ground.phase }, { on := 20, ground := Ground.phase }, { on := 21, ground := Ground.phase }, { on := 22, ground := Ground.phase }, { on := 23, ground := Ground.phase }, { on := 24, ground := Ground.phase }], guard := none }) (v := ?vz25) (by kernel_rfl) rfl (by kernel_rfl) (by kernel_rfl) (by kernel_rfl) (fun _ _ _ h => h) ⟨Or.inl ⟨by kernel_rfl, fun w' hS => ?yz25⟩, fun _ => rfl⟩ S12 ?_
  case yz25 => go_simp; rfl
  simp only [Act.put, List.setIfInBounds_toArray, List.set_cons_zero, List.set_cons_succ]
  refine AnyS.done (by kernel_rfl) ?_
  gi_wp2
  go_ret
  exact ⟨rfl, B12⟩
end Go.Proofs.YtdegclccbgpgiaaDoor
