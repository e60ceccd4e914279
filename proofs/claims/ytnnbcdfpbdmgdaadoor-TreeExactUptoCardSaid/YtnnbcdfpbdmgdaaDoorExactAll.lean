/-
  DERIVED. TRefP, TMath7, TRef7, TRef8, TRef9, TRefN, TTold, TSame, TExact0, TExact, TOpen, ExactRow, as one text.
-/
import Derived.Test.YtnnbcdfpbdmgdaaDoorScanHelp
import Derived.Maps.AppendAt
import Derived.Test.YtnnbcdfpbdmgdaaDoorTMath6
import Derived.Test.YtnnbcdfpbdmgdaaDoorRefA
import Derived.Test.YtnnbcdfpbdmgdaaDoorTDo
import Derived.Test.YtnnbcdfpbdmgdaaDoorTWork0
import Derived.Test.YtnnbcdfpbdmgdaaDoorTWork
import Derived.Test.YtnnbcdfpbdmgdaaDoorCards
import Derived.Test.YtnnbcdfpbdmgdaaDoorTie
import Derived.ProofKit
import Derived.LaidMore
import Derived.SizedLaws
import Derived.OpenShut
import Derived.Lib.LaidTab
import Derived.Stop.Joined
import Derived.SevenTiedAt
import Derived.Deep.Slices
import Derived.WideShapes
import Derived.ChangeShapes
import Derived.ChangeSlices
import Derived.Deep.DeepHandedRow
import Derived.JoinedCond
import Derived.ChangeMaps5
set_option linter.unusedVariables false
set_option linter.unusedSimpArgs false
namespace Go.Proofs.YtnnbcdfpbdmgdaaDoor
open Go.RowKit Go.Maps Go.Sort Go.Proofs.BitMath Go.Proofs.TreeMath
/-- While a hit's place is sought: the row has a hole at k; the hit lies in a box. -/
structure PCH {n : Nat} (B : Nat) (W wr : World) (g c hb : Nat) (x : Nat × Cd n) (L : List (Nat × Cd n)) (k : Nat) : Prop where
  be : Below B W wr
  row : ∃ u0 u1 u2, wr.ownsRow B 36 3 (.slice (some ⟨g, 0, none⟩) (L.length + 1) c) (L.length + 1) (holed L k [u0, u1, u2])
  up : ∀ j (hj : j < L.length), k ≤ j → hlt x L[j]
  bx : wr.heap[hb]? = some (.cells #[.int .i64 (x.1 : Nat), .int .i64 0, .string x.2.1] 36 (0, 0))
  ne : g ≠ hb
theorem PCH.drew {n : Nat} {B : Nat} {W wr : World} {g c hb : Nat} {x : Nat × Cd n} {L : List (Nat × Cd n)} {k : Nat} (h : PCH B W wr g c hb x L k) : PCH B W wr.drew g c hb x L k := ⟨h.be.drew, h.row, h.up, h.bx, h.ne⟩
theorem PCH.box {n : Nat} {B : Nat} {W wr : World} {g c hb : Nat} {x : Nat × Cd n} {L : List (Nat × Cd n)} {k : Nat} (h : PCH B W wr g c hb x L k) : wr.cell? ⟨hb, 0, none⟩ = some (.int .i64 (x.1 : Nat)) ∧ wr.cell? ⟨hb, 1, none⟩ = some (.int .i64 0) ∧ wr.cell? ⟨hb, 2, none⟩ = some (.string x.2.1) := by
  refine ⟨?_, ?_, ?_⟩ <;> simp [World.cell?, h.bx]
theorem stay3 (w : World) (g o : Nat) (x y z : Value) : Stay (fun k => k = g) w (set3 w g o x y z) := Stay.setCell (F := fun k => k = g) (Stay.setCell (F := fun k => k = g) (Stay.setCell (F := fun k => k = g) (Stay.refl _ w) (fun _ => rfl) _) (fun _ => rfl) _) (fun _ => rfl) _
theorem PCH.hole {n : Nat} {B : Nat} {W wr : World} {g c hb : Nat} {x : Nat × Cd n} {L : List (Nat × Cd n)} {k : Nat} (h : PCH B W wr g c hb x L k) (hk : k ≤ L.length) :
    ∃ u0 u1 u2, wr.cell? ⟨g, k * 3, none⟩ = some u0 ∧ wr.cell? ⟨g, k * 3 + 1, none⟩ = some u1 ∧ wr.cell? ⟨g, k * 3 + 2, none⟩ = some u2 ∧ (∀ j, wr.frozen? ⟨g, j, none⟩ = false) ∧ ∀ y0 y1 y2, (set3 wr g (k * 3) y0 y1 y2).ownsRow B 36 3 (.slice (some ⟨g, 0, none⟩) (L.length + 1) c) (L.length + 1) (holed L k [y0, y1, y2]) := by
  obtain ⟨u0, u1, u2, hr⟩ := h.row
  refine ⟨u0, u1, u2, ?_, ?_, ?_, (row_at hr 0 (by omega)).2, fun y0 y1 y2 => ?_⟩
  · rw [(row_at hr (k * 3) (by omega)).1]; exact holed_at hk _ rfl 0 (by omega)
  · rw [(row_at hr (k * 3 + 1) (by omega)).1]; exact holed_at hk _ rfl 1 (by omega)
  · rw [(row_at hr (k * 3 + 2) (by omega)).1]; exact holed_at hk _ rfl 2 (by omega)
  · rw [← holed_set hk u0 u1 u2 y0 y1 y2]
    exact (World.ownsRow.stored (World.ownsRow.stored (World.ownsRow.stored hr _ _).1 _ _).1 _ _).1
theorem PCH.prev {n : Nat} {B : Nat} {W wr : World} {g c hb : Nat} {x : Nat × Cd n} {L : List (Nat × Cd n)} {k : Nat} (h : PCH B W wr g c hb x L (k + 1)) (hk : k + 1 ≤ L.length) :
    wr.cell? ⟨g, k * 3, none⟩ = some (.int .i64 (L[k].1 : Nat)) ∧ wr.cell? ⟨g, k * 3 + 1, none⟩ = some (.int .i64 0) ∧ wr.cell? ⟨g, k * 3 + 2, none⟩ = some (.string L[k].2.1) := by
  obtain ⟨u0, u1, u2, hr⟩ := h.row
  refine ⟨?_, ?_, ?_⟩
  · rw [(row_at hr (k * 3) (by omega)).1]; exact holed_prev hk _ 0 (by omega)
  · rw [(row_at hr (k * 3 + 1) (by omega)).1]; exact holed_prev hk _ 1 (by omega)
  · rw [(row_at hr (k * 3 + 2) (by omega)).1]; exact holed_prev hk _ 2 (by omega)
theorem PCH.step {n : Nat} {B : Nat} {W wr : World} {g c hb : Nat} {x y : Nat × Cd n} {L : List (Nat × Cd n)} {k m y1 : Nat} {ys : ByteArray} (hk : k = m + 1) (hm : m < L.length) (hy : y = L[m]) (h1 : y1 = y.1) (h2 : ys = y.2.1) (h : PCH B W wr g c hb x L k) (hg : B ≤ g) (hx : hlt x y) :
    PCH B W (set3 wr g (k * 3) (.int .i64 (y1 : Nat)) (.int .i64 0) (.string ys)) g c hb x L m := by
  subst hk h1 h2
  subst hy
  obtain ⟨u0, u1, u2, -, -, -, -, hs⟩ := h.hole hm
  have h1 := hs (.int .i64 (L[m].1 : Nat)) (.int .i64 0) (.string L[m].2.1)
  have e : holed L (m + 1) [.int .i64 (L[m].1 : Nat), .int .i64 0, .string L[m].2.1] = holed L m [.int .i64 (L[m].1 : Nat), .int .i64 0, .string L[m].2.1] := holed_step hm
  rw [e] at h1
  refine ⟨((h.be.setCell hg _).setCell hg _).setCell hg _, ⟨_, _, _, h1⟩, fun j hj hkj => ?_, ?_, h.ne⟩
  · by_cases ej : j = m
    · subst ej; exact hx
    · exact h.up j hj (by omega)
  · exact ((stay3 wr g _ _ _ _).block hb (Array.getElem?_eq_some_iff.1 h.bx).1 (fun e => h.ne e.symm)).trans h.bx
/-- What put leaves. -/
def PutO {n : Nat} (B : Nat) (W : World) (q : Cd n) (r : Nat) (A : List (Cd n)) (e : Ending) (w' : World) : Prop :=
  ∃ v L, e = .returned v ∧ Below B W w' ∧ w'.ownsRow B 36 3 v L.length (L.flatMap hV) ∧ ScL q r A L
theorem PCH.fill {n : Nat} {B : Nat} {W wr : World} {g c hb : Nat} {q : Cd n} {r : Nat} {A : List (Cd n)} {x : Cd n} {L : List (Nat × Cd n)} {k d : Nat} (hd : d = dC x q) (h : PCH B W wr g c hb (d, x) L k) (hs : ScL q r A L) (hg : B ≤ g) (hk : k ≤ L.length) (hr : d ≤ r) (hlo : ∀ j (hj : j < L.length), j < k → hlt L[j] (d, x)) :
    PutO B W q r (A ++ [x]) (.returned (.slice (some ⟨g, 0, none⟩) (L.length + 1) c)) (set3 wr g (k * 3) (.int .i64 (d : Nat)) (.int .i64 0) (.string x.1)) := by
  subst hd
  obtain ⟨u0, u1, u2, -, -, -, -, hs1⟩ := h.hole hk
  have h1 := hs1 (.int .i64 (dC x q : Nat)) (.int .i64 0) (.string x.1)
  have e : holed L k [.int .i64 (dC x q : Nat), .int .i64 0, .string x.1] = (L.take k ++ (dC x q, x) :: L.drop k).flatMap hV := holed_put (dC x q, x)
  have el : (L.take k ++ (dC x q, x) :: L.drop k).length = L.length + 1 := by simp; omega
  rw [e] at h1
  exact ⟨_, L.take k ++ (dC x q, x) :: L.drop k, rfl, ((h.be.setCell hg _).setCell hg _).setCell hg _, by rw [el]; exact h1, hs.put hr hlo h.up⟩
set_option maxHeartbeats 4000000 in
set_option maxRecDepth 100000 in
theorem put_any {n : Nat} {B : Nat} {q : Cd n} {r : Nat} {A : List (Cd n)} {L : List (Nat × Cd n)} {v : Value} (x : Cd n) (d : Nat) (W : World) (hd : d = dC x q) (hr : W.ownsRow B 36 3 v L.length (L.flatMap hV)) (hs : ScL q r A L) (hx : x ∉ A) (hdr : d ≤ r) (hB : B ≤ W.heap.size) (hl : L.length ≤ 1099511627776) :
    Calls Tryd.prog 72 #[v, .agg #[.int .i64 (d : Nat), .int .i64 0, .string x.1]] W (PutO B W q r (A ++ [x])) := by
  obtain ⟨i0, hi0, hz0, hz1, hz2⟩ := info_parts infH
  obtain ⟨a7, c7, rfl, hc7⟩ := slice_form hr
  have hb1 : L.length + 1 ≤ maxLen := by unfold maxLen; omega
  have hb2 : (L.length + 1) * 32 ≤ 140737488355328 := by omega
  obtain ⟨WA, hWA⟩ : ∃ WA, WA = W.alloc (.cells #[.int .i64 (d : Nat), .int .i64 0, .string x.1] 36) := ⟨_, rfl⟩
  have bA : Below W.heap.size W WA := by rw [hWA]; exact (Below.refl _ W).alloc (Nat.le_refl _) _
  have hbx : WA.heap[W.heap.size]? = some (.cells #[.int .i64 (d : Nat), .int .i64 0, .string x.1] 36 (0, 0)) := by rw [hWA]; exact Array.getElem?_push_size
  obtain ⟨hb, hhb⟩ : ∃ hb, hb = W.heap.size := ⟨_, rfl⟩
  have a0 : WA.cell? ⟨hb, 0, none⟩ = some (.int .i64 (d : Nat)) := by rw [hhb]; simp [World.cell?, hbx]
  have a1 : WA.cell? ⟨hb, 1, none⟩ = some (.int .i64 0) := by rw [hhb]; simp [World.cell?, hbx]
  have a2 : WA.cell? ⟨hb, 2, none⟩ = some (.string x.1) := by rw [hhb]; simp [World.cell?, hbx]
  have rA := row_kept (F := fun _ => False) hr (.below bA) (fun _ _ h => h)
  have hsA : WA.heap.size = hb + 1 := by rw [hWA, hhb]; simp
  have HA := Hid.mk (And.intro bA (And.intro hbx (And.intro hhb (And.intro rA (And.intro hsA (And.intro hr hB))))))
  have HX := Hid.mk (And.intro hx (And.intro hd hs))
  have hbA : B ≤ WA.heap.size := Nat.le_trans hB bA.size
  have hcn : ∀ j u, ([.int .i64 (d : Nat), .int .i64 0, .string x.1] : List Value)[j]? = some u → ((W.alloc (.cells #[.int .i64 (d : Nat), .int .i64 0, .string x.1] 36)).alloc (.cells #[.int .i64 (d : Nat), .int .i64 0, .string x.1] 36)).cell? ((⟨W.heap.size + 1, 0, none⟩ : Addr).add j) = some u := by
    have := cell_three_new (W.alloc (.cells #[.int .i64 (d : Nat), .int .i64 0, .string x.1] 36)) (.int .i64 (d : Nat)) (.int .i64 0) (.string x.1) 36
    rw [World.size_alloc] at this
    exact this
  obtain ⟨v3, w3, hap, hr3, hg3, -, hloc⟩ := run_append_own_at (P := Tryd.prog) ((W.alloc (.cells #[.int .i64 (d : Nat), .int .i64 0, .string x.1] 36)).alloc (.cells #[.int .i64 (d : Nat), .int .i64 0, .string x.1] 36)) B 32 32 36 i0 (.agg #[.int .i64 0, .int .i64 0, .string ⟨#[]⟩]) 3 32 Tryd.underlying32 hi0 hz0 hz1 hz2 rfl (by decide) (.slice a7 L.length c7) L.length (L.flatMap hV) ((hr.alloc _).alloc _) ⟨W.heap.size + 1, 0, none⟩ 1 1 [.int .i64 (d : Nat), .int .i64 0, .string x.1] rfl hcn (by simp [Value.oneCell']) hb1 hb2 (by simp; omega)
  have b3 : Below B W w3 := (((Below.refl B W).alloc hB _).alloc (by simp; omega) _).grown hg3 (by simp; omega) (fun j hj => (hr.lt j hj).1)
  obtain ⟨nL, hnL⟩ : ∃ nL, nL = L.length := ⟨_, rfl⟩
  obtain ⟨g3, c3, hv3, hg3B⟩ : ∃ g3 c3, v3 = .slice (some ⟨g3, 0, none⟩) (nL + 1) c3 ∧ B ≤ g3 := by
    rcases hr3.2 with ⟨h2, h3⟩ | ⟨g3, c3, cur, h2, h3, -⟩
    · omega
    · exact ⟨g3, c3, by rw [hnL]; exact h2, h3⟩
  have hne3 : g3 ≠ hb := fun e => by
    rw [hv3] at hloc
    rcases hloc with h | h
    · have := row_lt hr (k := g3) h.symm
      omega
    · have h2 : g3 = ((W.alloc (.cells #[.int .i64 (d : Nat), .int .i64 0, .string x.1] 36)).alloc (.cells #[.int .i64 (d : Nat), .int .i64 0, .string x.1] 36)).heap.size := Option.some.inj h
      rw [e, hhb] at h2
      simp at h2
      omega
  have hbx3 : w3.heap[hb]? = some (.cells #[.int .i64 (d : Nat), .int .i64 0, .string x.1] 36 (0, 0)) := by
    have h2 := hg3.block hb (by simp; omega) (fun e => by
      have := row_lt hr (k := hb) e.symm
      omega)
    rw [h2, Below.heap_alloc _ _ _ (by simp; omega), hhb]
    exact Array.getElem?_push_size
  subst hv3
  have H3 := Hid.mk (show PCH B W w3 g3 c3 hb (d, x) L L.length from ⟨b3, ⟨_, _, _, by unfold holed; rw [List.take_length, List.drop_length]; rw [hnL] at hr3; exact hr3⟩, fun j hj h => by omega, hbx3, hne3⟩)
  have HAP := Hid.mk hap
  have HL := Hid.mk (And.intro hnL (And.intro hg3B (And.intro hs hhb)))
  rw [← hnL] at HAP H3 hl ⊢
  clear bA hbx hr hs hx hd hB hc7 hsA hcn a0 a1 a2 rA hbA hap hr3 hg3 hloc b3 hne3 hbx3 hg3B hnL hb1 hb2 hWA HA hhb
  go_enter Tryd.func72, Tryd.ntmps72
  go_wp2_with (first
    | (at_builtin; refine wpList_append_eq rfl _ _ _ _ rfl _ _ _ _ rfl rfl HAP.out ?_)
    | go_in)
  rw [← HL.out.2.2.2]
  go_loopw [5] (fun u wr => ∃ k : Nat, u = .int .i64 k ∧ k ≤ nL ∧ Hid (PCH B W wr g3 c3 hb (d, x) L k)) (fun u _ => (intOf u).toNat)
  case atStart => exact ⟨nL, rfl, Nat.le_refl _, H3⟩
  case round =>
    obtain ⟨k, rfl, hk, HK⟩ := hrel
    have kb0 : (0 : Int) ≤ (k : Int) := by omega
    have kb1 : (k : Int) < (nL : Int) + 1 := by omega
    obtain ⟨bx0, bx1, bx2⟩ := HK.out.box
    rcases Nat.eq_zero_or_pos k with hk0 | hk0
    · have k1 : decide ((0 : Int) < (k : Int)) = false := by simp; omega
      have k2 : decide (0 < k) = false := by simp; omega
      have HLo := Hid.mk (show ∀ j (hj : j < L.length), j < k → hlt L[j] (d, x) from fun j hj h => by omega)
      clear hk0
      go_wp2_with fail
      refine wp_region_held_drew (S := fun _ => True) (by kernel_rfl) ?_ (fun hHeld => ?_)
      · trivial
      refine wpAnyH_take (i := 0) (oi := { dst := some 12, op := Op.move (Operand.tmp 5), type := 3, pos := "kindredref12.go:174", after := #[], guard := none }) (v := ?va0) rfl (by kernel_rfl) (by kernel_rfl) (by kernel_rfl) (fun _ _ _ h => h) (Or.inl ⟨by rfl, ?ha0⟩) (by assumption) ?ra0
      case ha0 => (intro w0 hSw; (try dsimp only at hSw); go_simp; try (with_reducible rfl))
      simp only [Act.put, List.setIfInBounds_toArray, List.set_cons_zero, List.set_cons_succ]
      refine wpAnyH_take (i := 1) (oi := { dst := some 13, op := Op.binOp BinOp.gtr 3 (Operand.tmp 12) (Operand.const (Value.int IntKind.i64 0)) 3, type := 4, pos := "kindredref12.go:174", after := #[{ on := 0, ground := Ground.data }], guard := none }) (v := ?va1) rfl (by kernel_rfl) (by kernel_rfl) (by kernel_rfl) (fun _ _ _ h => h) (Or.inl ⟨by rfl, ?ha1⟩) (by assumption) ?ra1
      case ha1 => (intro w0 hSw; (try dsimp only at hSw); go_simp; try (with_reducible rfl))
      simp only [Act.put, List.setIfInBounds_toArray, List.set_cons_zero, List.set_cons_succ]
      refine wpAnyH_take (i := 2) (oi := { dst := some 14, op := Op.move (Operand.tmp 13), type := 4, pos := "kindredref12.go:174", after := #[{ on := 1, ground := Ground.data }], guard := none }) (v := ?va2) rfl (by kernel_rfl) (by kernel_rfl) (by kernel_rfl) (fun _ _ _ h => h) (Or.inl ⟨by rfl, ?ha2⟩) (by assumption) ?ra2
      case ha2 => (intro w0 hSw; (try dsimp only at hSw); go_simp; try (with_reducible rfl))
      simp only [Act.put, List.setIfInBounds_toArray, List.set_cons_zero, List.set_cons_succ]
      refine wpAnyH_take (i := 3) (oi := { dst := some 15, op := Op.move (Operand.tmp 0), type := 32, pos := "kindredref12.go:174", after := #[{ on := 2, ground := Ground.guard }], guard := some (2, true) }) rfl (by kernel_rfl) (by kernel_rfl) (by kernel_rfl) (fun _ _ _ h => h) (Or.inr ⟨by rfl, rfl⟩) (by assumption) ?_
      simp only [Act.put, List.setIfInBounds_toArray, List.set_cons_zero, List.set_cons_succ]
      refine wpAnyH_take (i := 4) (oi := { dst := some 16, op := Op.move (Operand.tmp 5), type := 3, pos := "kindredref12.go:174", after := #[{ on := 2, ground := Ground.guard }], guard := some (2, true) }) rfl (by kernel_rfl) (by kernel_rfl) (by kernel_rfl) (fun _ _ _ h => h) (Or.inr ⟨by rfl, rfl⟩) (by assumption) ?_
      simp only [Act.put, List.setIfInBounds_toArray, List.set_cons_zero, List.set_cons_succ]
      refine wpAnyH_take (i := 5) (oi := { dst := some 17, op := Op.binOp BinOp.sub 3 (Operand.tmp 16) (Operand.const (Value.int IntKind.i64 1)) 3, type := 3, pos := "kindredref12.go:174", after := #[{ on := 4, ground := Ground.data }, { on := 2, ground := Ground.guard }], guard := some (2, true) }) rfl (by kernel_rfl) (by kernel_rfl) (by kernel_rfl) (fun _ _ _ h => h) (Or.inr ⟨by rfl, rfl⟩) (by assumption) ?_
      simp only [Act.put, List.setIfInBounds_toArray, List.set_cons_zero, List.set_cons_succ]
      refine wpAnyH_take (i := 6) (oi := { dst := some 18, op := Op.indexAddr 32 (Operand.tmp 15) (Operand.tmp 17), type := 0, pos := "kindredref12.go:174", after := #[{ on := 3, ground := Ground.data }, { on := 5, ground := Ground.data }, { on := 2, ground := Ground.guard }], guard := some (2, true) }) rfl (by kernel_rfl) (by kernel_rfl) (by kernel_rfl) (fun _ _ _ h => h) (Or.inr ⟨by rfl, rfl⟩) (by assumption) ?_
      simp only [Act.put, List.setIfInBounds_toArray, List.set_cons_zero, List.set_cons_succ]
      refine wpAnyH_take (i := 7) (oi := { dst := some 19, op := Op.fieldAddr 36 (Operand.tmp 18) 0, type := 0, pos := "kindredref12.go:174", after := #[{ on := 6, ground := Ground.data }, { on := 2, ground := Ground.guard }], guard := some (2, true) }) rfl (by kernel_rfl) (by kernel_rfl) (by kernel_rfl) (fun _ _ _ h => h) (Or.inr ⟨by rfl, rfl⟩) (by assumption) ?_
      simp only [Act.put, List.setIfInBounds_toArray, List.set_cons_zero, List.set_cons_succ]
      refine wpAnyH_take (i := 8) (oi := { dst := some 20, op := Op.load 3 (Operand.tmp 19), type := 3, pos := "kindredref12.go:174", after := #[{ on := 7, ground := Ground.data }, { on := 2, ground := Ground.guard }], guard := some (2, true) }) rfl (by kernel_rfl) (by kernel_rfl) (by kernel_rfl) (fun _ _ _ h => h) (Or.inr ⟨by rfl, rfl⟩) (by assumption) ?_
      simp only [Act.put, List.setIfInBounds_toArray, List.set_cons_zero, List.set_cons_succ]
      refine wpAnyH_take (i := 9) (oi := { dst := some 21, op := Op.fieldAddr 36 (Operand.tmp 3) 0, type := 0, pos := "kindredref12.go:174", after := #[{ on := 2, ground := Ground.guard }], guard := some (2, true) }) rfl (by kernel_rfl) (by kernel_rfl) (by kernel_rfl) (fun _ _ _ h => h) (Or.inr ⟨by rfl, rfl⟩) (by assumption) ?_
      simp only [Act.put, List.setIfInBounds_toArray, List.set_cons_zero, List.set_cons_succ]
      refine wpAnyH_take (i := 10) (oi := { dst := some 22, op := Op.load 3 (Operand.tmp 21), type := 3, pos := "kindredref12.go:174", after := #[{ on := 9, ground := Ground.data }, { on := 2, ground := Ground.guard }], guard := some (2, true) }) rfl (by kernel_rfl) (by kernel_rfl) (by kernel_rfl) (fun _ _ _ h => h) (Or.inr ⟨by rfl, rfl⟩) (by assumption) ?_
      simp only [Act.put, List.setIfInBounds_toArray, List.set_cons_zero, List.set_cons_succ]
      refine wpAnyH_take (i := 11) (oi := { dst := some 23, op := Op.binOp BinOp.gtr 3 (Operand.tmp 20) (Operand.tmp 22) 3, type := 4, pos := "kindredref12.go:174", after := #[{ on := 8, ground := Ground.data }, { on := 10, ground := Ground.data }, { on := 2, ground := Ground.guard }], guard := some (2, true) }) rfl (by kernel_rfl) (by kernel_rfl) (by kernel_rfl) (fun _ _ _ h => h) (Or.inr ⟨by rfl, rfl⟩) (by assumption) ?_
      simp only [Act.put, List.setIfInBounds_toArray, List.set_cons_zero, List.set_cons_succ]
      refine wpAnyH_take (i := 12) (oi := { dst := some 24, op := Op.move (Operand.tmp 23), type := 4, pos := "kindredref12.go:174", after := #[{ on := 11, ground := Ground.data }, { on := 2, ground := Ground.chain }, { on := 2, ground := Ground.guard }], guard := some (2, true) }) rfl (by kernel_rfl) (by kernel_rfl) (by kernel_rfl) (fun _ _ _ h => h) (Or.inr ⟨by rfl, rfl⟩) (by assumption) ?_
      simp only [Act.put, List.setIfInBounds_toArray, List.set_cons_zero, List.set_cons_succ]
      refine wpAnyH_take (i := 13) (oi := { dst := some 25, op := Op.move (Operand.tmp 0), type := 32, pos := "kindredref12.go:174", after := #[{ on := 12, ground := Ground.guard }], guard := some (12, false) }) rfl (by kernel_rfl) (by kernel_rfl) (by kernel_rfl) (fun _ _ _ h => h) (Or.inr ⟨by rfl, rfl⟩) (by assumption) ?_
      simp only [Act.put, List.setIfInBounds_toArray, List.set_cons_zero, List.set_cons_succ]
      refine wpAnyH_take (i := 14) (oi := { dst := some 26, op := Op.move (Operand.tmp 5), type := 3, pos := "kindredref12.go:174", after := #[{ on := 12, ground := Ground.guard }], guard := some (12, false) }) rfl (by kernel_rfl) (by kernel_rfl) (by kernel_rfl) (fun _ _ _ h => h) (Or.inr ⟨by rfl, rfl⟩) (by assumption) ?_
      simp only [Act.put, List.setIfInBounds_toArray, List.set_cons_zero, List.set_cons_succ]
      refine wpAnyH_take (i := 15) (oi := { dst := some 27, op := Op.binOp BinOp.sub 3 (Operand.tmp 26) (Operand.const (Value.int IntKind.i64 1)) 3, type := 3, pos := "kindredref12.go:174", after := #[{ on := 14, ground := Ground.data }, { on := 12, ground := Ground.guard }], guard := some (12, false) }) rfl (by kernel_rfl) (by kernel_rfl) (by kernel_rfl) (fun _ _ _ h => h) (Or.inr ⟨by rfl, rfl⟩) (by assumption) ?_
      simp only [Act.put, List.setIfInBounds_toArray, List.set_cons_zero, List.set_cons_succ]
      refine wpAnyH_take (i := 16) (oi := { dst := some 28, op := Op.indexAddr 32 (Operand.tmp 25) (Operand.tmp 27), type := 0, pos := "kindredref12.go:174", after := #[{ on := 13, ground := Ground.data }, { on := 15, ground := Ground.data }, { on := 12, ground := Ground.guard }], guard := some (12, false) }) rfl (by kernel_rfl) (by kernel_rfl) (by kernel_rfl) (fun _ _ _ h => h) (Or.inr ⟨by rfl, rfl⟩) (by assumption) ?_
      simp only [Act.put, List.setIfInBounds_toArray, List.set_cons_zero, List.set_cons_succ]
      refine wpAnyH_take (i := 17) (oi := { dst := some 29, op := Op.fieldAddr 36 (Operand.tmp 28) 0, type := 0, pos := "kindredref12.go:174", after := #[{ on := 16, ground := Ground.data }, { on := 12, ground := Ground.guard }], guard := some (12, false) }) rfl (by kernel_rfl) (by kernel_rfl) (by kernel_rfl) (fun _ _ _ h => h) (Or.inr ⟨by rfl, rfl⟩) (by assumption) ?_
      simp only [Act.put, List.setIfInBounds_toArray, List.set_cons_zero, List.set_cons_succ]
      refine wpAnyH_take (i := 18) (oi := { dst := some 30, op := Op.load 3 (Operand.tmp 29), type := 3, pos := "kindredref12.go:174", after := #[{ on := 17, ground := Ground.data }, { on := 12, ground := Ground.guard }], guard := some (12, false) }) rfl (by kernel_rfl) (by kernel_rfl) (by kernel_rfl) (fun _ _ _ h => h) (Or.inr ⟨by rfl, rfl⟩) (by assumption) ?_
      simp only [Act.put, List.setIfInBounds_toArray, List.set_cons_zero, List.set_cons_succ]
      refine wpAnyH_take (i := 19) (oi := { dst := some 31, op := Op.fieldAddr 36 (Operand.tmp 3) 0, type := 0, pos := "kindredref12.go:174", after := #[{ on := 12, ground := Ground.guard }], guard := some (12, false) }) rfl (by kernel_rfl) (by kernel_rfl) (by kernel_rfl) (fun _ _ _ h => h) (Or.inr ⟨by rfl, rfl⟩) (by assumption) ?_
      simp only [Act.put, List.setIfInBounds_toArray, List.set_cons_zero, List.set_cons_succ]
      refine wpAnyH_take (i := 20) (oi := { dst := some 32, op := Op.load 3 (Operand.tmp 31), type := 3, pos := "kindredref12.go:174", after := #[{ on := 19, ground := Ground.data }, { on := 12, ground := Ground.guard }], guard := some (12, false) }) rfl (by kernel_rfl) (by kernel_rfl) (by kernel_rfl) (fun _ _ _ h => h) (Or.inr ⟨by rfl, rfl⟩) (by assumption) ?_
      simp only [Act.put, List.setIfInBounds_toArray, List.set_cons_zero, List.set_cons_succ]
      refine wpAnyH_take (i := 21) (oi := { dst := some 33, op := Op.binOp BinOp.eql 3 (Operand.tmp 30) (Operand.tmp 32) 3, type := 4, pos := "kindredref12.go:174", after := #[{ on := 18, ground := Ground.data }, { on := 20, ground := Ground.data }, { on := 12, ground := Ground.guard }], guard := some (12, false) }) rfl (by kernel_rfl) (by kernel_rfl) (by kernel_rfl) (fun _ _ _ h => h) (Or.inr ⟨by rfl, rfl⟩) (by assumption) ?_
      simp only [Act.put, List.setIfInBounds_toArray, List.set_cons_zero, List.set_cons_succ]
      refine wpAnyH_take (i := 22) (oi := { dst := some 34, op := Op.move (Operand.tmp 33), type := 4, pos := "kindredref12.go:174", after := #[{ on := 21, ground := Ground.data }, { on := 12, ground := Ground.chain }, { on := 12, ground := Ground.guard }], guard := some (12, false) }) rfl (by kernel_rfl) (by kernel_rfl) (by kernel_rfl) (fun _ _ _ h => h) (Or.inr ⟨by rfl, rfl⟩) (by assumption) ?_
      simp only [Act.put, List.setIfInBounds_toArray, List.set_cons_zero, List.set_cons_succ]
      refine wpAnyH_take (i := 23) (oi := { dst := some 35, op := Op.move (Operand.tmp 0), type := 32, pos := "kindredref12.go:174", after := #[{ on := 22, ground := Ground.guard }], guard := some (22, true) }) rfl (by kernel_rfl) (by kernel_rfl) (by kernel_rfl) (fun _ _ _ h => h) (Or.inr ⟨by rfl, rfl⟩) (by assumption) ?_
      simp only [Act.put, List.setIfInBounds_toArray, List.set_cons_zero, List.set_cons_succ]
      refine wpAnyH_take (i := 24) (oi := { dst := some 36, op := Op.move (Operand.tmp 5), type := 3, pos := "kindredref12.go:174", after := #[{ on := 22, ground := Ground.guard }], guard := some (22, true) }) rfl (by kernel_rfl) (by kernel_rfl) (by kernel_rfl) (fun _ _ _ h => h) (Or.inr ⟨by rfl, rfl⟩) (by assumption) ?_
      simp only [Act.put, List.setIfInBounds_toArray, List.set_cons_zero, List.set_cons_succ]
      refine wpAnyH_take (i := 25) (oi := { dst := some 37, op := Op.binOp BinOp.sub 3 (Operand.tmp 36) (Operand.const (Value.int IntKind.i64 1)) 3, type := 3, pos := "kindredref12.go:174", after := #[{ on := 24, ground := Ground.data }, { on := 22, ground := Ground.guard }], guard := some (22, true) }) rfl (by kernel_rfl) (by kernel_rfl) (by kernel_rfl) (fun _ _ _ h => h) (Or.inr ⟨by rfl, rfl⟩) (by assumption) ?_
      simp only [Act.put, List.setIfInBounds_toArray, List.set_cons_zero, List.set_cons_succ]
      refine wpAnyH_take (i := 26) (oi := { dst := some 38, op := Op.indexAddr 32 (Operand.tmp 35) (Operand.tmp 37), type := 0, pos := "kindredref12.go:174", after := #[{ on := 23, ground := Ground.data }, { on := 25, ground := Ground.data }, { on := 22, ground := Ground.guard }], guard := some (22, true) }) rfl (by kernel_rfl) (by kernel_rfl) (by kernel_rfl) (fun _ _ _ h => h) (Or.inr ⟨by rfl, rfl⟩) (by assumption) ?_
      simp only [Act.put, List.setIfInBounds_toArray, List.set_cons_zero, List.set_cons_succ]
      refine wpAnyH_take (i := 27) (oi := { dst := some 39, op := Op.fieldAddr 36 (Operand.tmp 38) 2, type := 0, pos := "kindredref12.go:174", after := #[{ on := 26, ground := Ground.data }, { on := 22, ground := Ground.guard }], guard := some (22, true) }) rfl (by kernel_rfl) (by kernel_rfl) (by kernel_rfl) (fun _ _ _ h => h) (Or.inr ⟨by rfl, rfl⟩) (by assumption) ?_
      simp only [Act.put, List.setIfInBounds_toArray, List.set_cons_zero, List.set_cons_succ]
      refine wpAnyH_take (i := 28) (oi := { dst := some 40, op := Op.load 9 (Operand.tmp 39), type := 9, pos := "kindredref12.go:174", after := #[{ on := 27, ground := Ground.data }, { on := 22, ground := Ground.guard }], guard := some (22, true) }) rfl (by kernel_rfl) (by kernel_rfl) (by kernel_rfl) (fun _ _ _ h => h) (Or.inr ⟨by rfl, rfl⟩) (by assumption) ?_
      simp only [Act.put, List.setIfInBounds_toArray, List.set_cons_zero, List.set_cons_succ]
      refine wpAnyH_take (i := 29) (oi := { dst := some 41, op := Op.fieldAddr 36 (Operand.tmp 3) 2, type := 0, pos := "kindredref12.go:174", after := #[{ on := 22, ground := Ground.guard }], guard := some (22, true) }) rfl (by kernel_rfl) (by kernel_rfl) (by kernel_rfl) (fun _ _ _ h => h) (Or.inr ⟨by rfl, rfl⟩) (by assumption) ?_
      simp only [Act.put, List.setIfInBounds_toArray, List.set_cons_zero, List.set_cons_succ]
      refine wpAnyH_take (i := 30) (oi := { dst := some 42, op := Op.load 9 (Operand.tmp 41), type := 9, pos := "kindredref12.go:174", after := #[{ on := 29, ground := Ground.data }, { on := 22, ground := Ground.guard }], guard := some (22, true) }) rfl (by kernel_rfl) (by kernel_rfl) (by kernel_rfl) (fun _ _ _ h => h) (Or.inr ⟨by rfl, rfl⟩) (by assumption) ?_
      simp only [Act.put, List.setIfInBounds_toArray, List.set_cons_zero, List.set_cons_succ]
      refine wpAnyH_take (i := 31) (oi := { dst := some 43, op := Op.binOp BinOp.gtr 9 (Operand.tmp 40) (Operand.tmp 42) 9, type := 4, pos := "kindredref12.go:174", after := #[{ on := 28, ground := Ground.data }, { on := 30, ground := Ground.data }, { on := 22, ground := Ground.guard }], guard := some (22, true) }) rfl (by kernel_rfl) (by kernel_rfl) (by kernel_rfl) (fun _ _ _ h => h) (Or.inr ⟨by rfl, rfl⟩) (by assumption) ?_
      simp only [Act.put, List.setIfInBounds_toArray, List.set_cons_zero, List.set_cons_succ]
      refine wpAnyH_take (i := 32) (oi := { dst := some 44, op := Op.pick (Operand.tmp 34) (Operand.tmp 43) (Operand.const (Value.bool false)), type := 4, pos := "kindredref12.go:174", after := #[{ on := 22, ground := Ground.data }, { on := 31, ground := Ground.data }, { on := 12, ground := Ground.guard }], guard := some (12, false) }) rfl (by kernel_rfl) (by kernel_rfl) (by kernel_rfl) (fun _ _ _ h => h) (Or.inr ⟨by rfl, rfl⟩) (by assumption) ?_
      simp only [Act.put, List.setIfInBounds_toArray, List.set_cons_zero, List.set_cons_succ]
      refine wpAnyH_take (i := 33) (oi := { dst := some 45, op := Op.pick (Operand.tmp 24) (Operand.const (Value.bool true)) (Operand.tmp 44), type := 4, pos := "kindredref12.go:174", after := #[{ on := 12, ground := Ground.data }, { on := 32, ground := Ground.data }, { on := 2, ground := Ground.guard }], guard := some (2, true) }) rfl (by kernel_rfl) (by kernel_rfl) (by kernel_rfl) (fun _ _ _ h => h) (Or.inr ⟨by rfl, rfl⟩) (by assumption) ?_
      simp only [Act.put, List.setIfInBounds_toArray, List.set_cons_zero, List.set_cons_succ]
      refine wpAnyH_take (i := 34) (oi := { dst := some 46, op := Op.pick (Operand.tmp 14) (Operand.tmp 45) (Operand.const (Value.bool false)), type := 4, pos := "kindredref12.go:174", after := #[{ on := 2, ground := Ground.data }, { on := 33, ground := Ground.data }], guard := none }) (v := ?va34) rfl (by kernel_rfl) (by kernel_rfl) (by kernel_rfl) (fun _ _ _ h => h) (Or.inl ⟨by rfl, ?ha34⟩) (by assumption) ?ra34
      case ha34 => (intro w0 hSw; (try dsimp only at hSw); go_simp; try (with_reducible rfl))
      simp only [Act.put, List.setIfInBounds_toArray, List.set_cons_zero, List.set_cons_succ]
      refine wpAnyH_done (by kernel_rfl) ?_ _
      obtain ⟨wz, hwz⟩ : ∃ wz, wz = wr.drew := ⟨_, rfl⟩
      rw [← hwz]
      have HZ := Hid.mk (show PCH B W wz g3 c3 hb (d, x) L k from by rw [hwz]; exact HK.out.drew)
      obtain ⟨u0, u1, u2, z0, z1, z2, zf, -⟩ := HZ.out.hole (by have := HL.out.1; omega)
      have zf0 := zf (k * 3)
      have zf1 := zf (k * 3 + 1)
      have zf2 := zf (k * 3 + 2)
      obtain ⟨cz0, cz1, cz2⟩ := HZ.out.box
      clear hwz zf HK bx0 bx1 bx2
      go_wp2_with fail
      go_ret
      have hfin := PCH.fill HX.out.2.1 HZ.out HL.out.2.2.1 HL.out.2.1 (by have := HL.out.1; omega) hdr HLo.out
      rw [← HL.out.1] at hfin
      exact hfin
    · obtain ⟨m, hm⟩ : ∃ m, k = m + 1 := ⟨k - 1, by omega⟩
      have hmL : m < L.length := by have := HL.out.1; omega
      have k1 : decide ((0 : Int) < (k : Int)) = true := by simp; omega
      have k2 : decide (0 < k) = true := by simp; omega
      have km : IntKind.i64.wrap ((k : Int) - 1) = (m : Int) := by rw [IntKind.wrap_i64]; omega
      have m0 : (0 : Int) ≤ (m : Int) := by omega
      have m1 : (m : Int) < (nL : Int) + 1 := by omega
      have m2 : m ≤ nL := by omega
      have HK' := HK.out
      rw [hm] at HK'
      obtain ⟨p0, p1, p2⟩ := HK'.prev (by omega)
      obtain ⟨y, hy⟩ : ∃ y, y = L[m] := ⟨_, rfl⟩
      have hsrt : ∀ j (hj : j < L.length), j < k → hlt L[j] (d, x) ∨ ¬ hlt y (d, x) := fun j hj hjk => by
        by_cases hyx : hlt y (d, x)
        · left
          by_cases e : j = m
          · subst e; rw [← hy]; exact hyx
          · exact hlt_trans (by rw [hy]; exact List.pairwise_iff_getElem.1 HL.out.2.2.1.srt j m hj hmL (by omega)) hyx
        · exact .inr hyx
      have hyA : y.2 ≠ x := fun e => HX.out.1 (by
        have := (HL.out.2.2.1.mem y).1 (by rw [hy]; exact List.getElem_mem _)
        rw [← e]; exact this.1)
      have HY := Hid.mk (And.intro hm (And.intro hmL (And.intro hy (And.intro hsrt hyA))))
      rw [← hy] at p0 p2
      clear hm hk0 HK' hy hsrt hyA
      obtain ⟨y1, hy1⟩ : ∃ y1, y1 = y.1 := ⟨_, rfl⟩
      obtain ⟨ys, hys⟩ : ∃ ys, ys = y.2.1 := ⟨_, rfl⟩
      rw [← hy1] at p0
      rw [← hys] at p2
      have HYY := Hid.mk (And.intro hy1 hys)
      clear hy1 hys
      by_cases hgt : d < y1
      · have g1 : decide ((d : Int) < (y1 : Int)) = true := by simp; omega
        have g2 : decide (d < y1) = true := by simp; omega
        have HGT := Hid.mk (show hlt (d, x) y from .inl (by show d < y.1; rw [← HYY.out.1]; exact hgt))
        clear hgt
        go_wp2_with fail
        refine wp_region_held_drew (S := fun w' => w'.cell? ⟨g3, m * 3, none⟩ = some (.int .i64 (y1 : Nat)) ∧ w'.cell? ⟨g3, m * 3 + 2, none⟩ = some (.string ys) ∧ w'.cell? ⟨hb, 0, none⟩ = some (.int .i64 (d : Nat)) ∧ w'.cell? ⟨hb, 2, none⟩ = some (.string x.1)) (by kernel_rfl) ?_ (fun hHeld => ?_)
        · exact ⟨p0, p2, bx0, bx2⟩
        refine wpAnyH_take (i := 0) (oi := { dst := some 12, op := Op.move (Operand.tmp 5), type := 3, pos := "kindredref12.go:174", after := #[], guard := none }) (v := ?vb0) rfl (by kernel_rfl) (by kernel_rfl) (by kernel_rfl) (fun _ _ _ h => h) (Or.inl ⟨by rfl, ?hb0⟩) (by assumption) ?rb0
        case hb0 => (intro w0 hSw; (try dsimp only at hSw); go_simp; try (with_reducible rfl))
        simp only [Act.put, List.setIfInBounds_toArray, List.set_cons_zero, List.set_cons_succ]
        refine wpAnyH_take (i := 1) (oi := { dst := some 13, op := Op.binOp BinOp.gtr 3 (Operand.tmp 12) (Operand.const (Value.int IntKind.i64 0)) 3, type := 4, pos := "kindredref12.go:174", after := #[{ on := 0, ground := Ground.data }], guard := none }) (v := ?vb1) rfl (by kernel_rfl) (by kernel_rfl) (by kernel_rfl) (fun _ _ _ h => h) (Or.inl ⟨by rfl, ?hb1⟩) (by assumption) ?rb1
        case hb1 => (intro w0 hSw; (try dsimp only at hSw); go_simp; try (with_reducible rfl))
        simp only [Act.put, List.setIfInBounds_toArray, List.set_cons_zero, List.set_cons_succ]
        refine wpAnyH_take (i := 2) (oi := { dst := some 14, op := Op.move (Operand.tmp 13), type := 4, pos := "kindredref12.go:174", after := #[{ on := 1, ground := Ground.data }], guard := none }) (v := ?vb2) rfl (by kernel_rfl) (by kernel_rfl) (by kernel_rfl) (fun _ _ _ h => h) (Or.inl ⟨by rfl, ?hb2⟩) (by assumption) ?rb2
        case hb2 => (intro w0 hSw; (try dsimp only at hSw); go_simp; try (with_reducible rfl))
        simp only [Act.put, List.setIfInBounds_toArray, List.set_cons_zero, List.set_cons_succ]
        refine wpAnyH_take (i := 3) (oi := { dst := some 15, op := Op.move (Operand.tmp 0), type := 32, pos := "kindredref12.go:174", after := #[{ on := 2, ground := Ground.guard }], guard := some (2, true) }) (v := ?vb3) rfl (by kernel_rfl) (by kernel_rfl) (by kernel_rfl) (fun _ _ _ h => h) (Or.inl ⟨by rfl, ?hb3⟩) (by assumption) ?rb3
        case hb3 => (intro w0 hSw; (try dsimp only at hSw); go_simp; try (with_reducible rfl))
        simp only [Act.put, List.setIfInBounds_toArray, List.set_cons_zero, List.set_cons_succ]
        refine wpAnyH_take (i := 4) (oi := { dst := some 16, op := Op.move (Operand.tmp 5), type := 3, pos := "kindredref12.go:174", after := #[{ on := 2, ground := Ground.guard }], guard := some (2, true) }) (v := ?vb4) rfl (by kernel_rfl) (by kernel_rfl) (by kernel_rfl) (fun _ _ _ h => h) (Or.inl ⟨by rfl, ?hb4⟩) (by assumption) ?rb4
        case hb4 => (intro w0 hSw; (try dsimp only at hSw); go_simp; try (with_reducible rfl))
        simp only [Act.put, List.setIfInBounds_toArray, List.set_cons_zero, List.set_cons_succ]
        refine wpAnyH_take (i := 5) (oi := { dst := some 17, op := Op.binOp BinOp.sub 3 (Operand.tmp 16) (Operand.const (Value.int IntKind.i64 1)) 3, type := 3, pos := "kindredref12.go:174", after := #[{ on := 4, ground := Ground.data }, { on := 2, ground := Ground.guard }], guard := some (2, true) }) (v := ?vb5) rfl (by kernel_rfl) (by kernel_rfl) (by kernel_rfl) (fun _ _ _ h => h) (Or.inl ⟨by rfl, ?hb5⟩) (by assumption) ?rb5
        case hb5 => (intro w0 hSw; (try dsimp only at hSw); go_simp; try (with_reducible rfl))
        simp only [Act.put, List.setIfInBounds_toArray, List.set_cons_zero, List.set_cons_succ]
        refine wpAnyH_take (i := 6) (oi := { dst := some 18, op := Op.indexAddr 32 (Operand.tmp 15) (Operand.tmp 17), type := 0, pos := "kindredref12.go:174", after := #[{ on := 3, ground := Ground.data }, { on := 5, ground := Ground.data }, { on := 2, ground := Ground.guard }], guard := some (2, true) }) (v := ?vb6) rfl (by kernel_rfl) (by kernel_rfl) (by kernel_rfl) (fun _ _ _ h => h) (Or.inl ⟨by rfl, ?hb6⟩) (by assumption) ?rb6
        case hb6 => (intro w0 hSw; (try dsimp only at hSw); go_simp; try (with_reducible rfl))
        simp only [Act.put, List.setIfInBounds_toArray, List.set_cons_zero, List.set_cons_succ]
        refine wpAnyH_take (i := 7) (oi := { dst := some 19, op := Op.fieldAddr 36 (Operand.tmp 18) 0, type := 0, pos := "kindredref12.go:174", after := #[{ on := 6, ground := Ground.data }, { on := 2, ground := Ground.guard }], guard := some (2, true) }) (v := ?vb7) rfl (by kernel_rfl) (by kernel_rfl) (by kernel_rfl) (fun _ _ _ h => h) (Or.inl ⟨by rfl, ?hb7⟩) (by assumption) ?rb7
        case hb7 => (intro w0 hSw; (try dsimp only at hSw); go_simp; try (with_reducible rfl))
        simp only [Act.put, List.setIfInBounds_toArray, List.set_cons_zero, List.set_cons_succ]
        refine wpAnyH_take (i := 8) (oi := { dst := some 20, op := Op.load 3 (Operand.tmp 19), type := 3, pos := "kindredref12.go:174", after := #[{ on := 7, ground := Ground.data }, { on := 2, ground := Ground.guard }], guard := some (2, true) }) (v := ?vb8) rfl (by kernel_rfl) (by kernel_rfl) (by kernel_rfl) (fun _ _ _ h => h) (Or.inl ⟨by rfl, ?hb8⟩) (by assumption) ?rb8
        case hb8 => (intro w0 hSw; (try dsimp only at hSw); go_simp; try (with_reducible rfl))
        simp only [Act.put, List.setIfInBounds_toArray, List.set_cons_zero, List.set_cons_succ]
        refine wpAnyH_take (i := 9) (oi := { dst := some 21, op := Op.fieldAddr 36 (Operand.tmp 3) 0, type := 0, pos := "kindredref12.go:174", after := #[{ on := 2, ground := Ground.guard }], guard := some (2, true) }) (v := ?vb9) rfl (by kernel_rfl) (by kernel_rfl) (by kernel_rfl) (fun _ _ _ h => h) (Or.inl ⟨by rfl, ?hb9⟩) (by assumption) ?rb9
        case hb9 => (intro w0 hSw; (try dsimp only at hSw); go_simp; try (with_reducible rfl))
        simp only [Act.put, List.setIfInBounds_toArray, List.set_cons_zero, List.set_cons_succ]
        refine wpAnyH_take (i := 10) (oi := { dst := some 22, op := Op.load 3 (Operand.tmp 21), type := 3, pos := "kindredref12.go:174", after := #[{ on := 9, ground := Ground.data }, { on := 2, ground := Ground.guard }], guard := some (2, true) }) (v := ?vb10) rfl (by kernel_rfl) (by kernel_rfl) (by kernel_rfl) (fun _ _ _ h => h) (Or.inl ⟨by rfl, ?hb10⟩) (by assumption) ?rb10
        case hb10 => (intro w0 hSw; (try dsimp only at hSw); go_simp; try (with_reducible rfl))
        simp only [Act.put, List.setIfInBounds_toArray, List.set_cons_zero, List.set_cons_succ]
        refine wpAnyH_take (i := 11) (oi := { dst := some 23, op := Op.binOp BinOp.gtr 3 (Operand.tmp 20) (Operand.tmp 22) 3, type := 4, pos := "kindredref12.go:174", after := #[{ on := 8, ground := Ground.data }, { on := 10, ground := Ground.data }, { on := 2, ground := Ground.guard }], guard := some (2, true) }) (v := ?vb11) rfl (by kernel_rfl) (by kernel_rfl) (by kernel_rfl) (fun _ _ _ h => h) (Or.inl ⟨by rfl, ?hb11⟩) (by assumption) ?rb11
        case hb11 => (intro w0 hSw; (try dsimp only at hSw); go_simp; try (with_reducible rfl))
        simp only [Act.put, List.setIfInBounds_toArray, List.set_cons_zero, List.set_cons_succ]
        refine wpAnyH_take (i := 12) (oi := { dst := some 24, op := Op.move (Operand.tmp 23), type := 4, pos := "kindredref12.go:174", after := #[{ on := 11, ground := Ground.data }, { on := 2, ground := Ground.chain }, { on := 2, ground := Ground.guard }], guard := some (2, true) }) (v := ?vb12) rfl (by kernel_rfl) (by kernel_rfl) (by kernel_rfl) (fun _ _ _ h => h) (Or.inl ⟨by rfl, ?hb12⟩) (by assumption) ?rb12
        case hb12 => (intro w0 hSw; (try dsimp only at hSw); go_simp; try (with_reducible rfl))
        simp only [Act.put, List.setIfInBounds_toArray, List.set_cons_zero, List.set_cons_succ]
        refine wpAnyH_take (i := 13) (oi := { dst := some 25, op := Op.move (Operand.tmp 0), type := 32, pos := "kindredref12.go:174", after := #[{ on := 12, ground := Ground.guard }], guard := some (12, false) }) rfl (by kernel_rfl) (by kernel_rfl) (by kernel_rfl) (fun _ _ _ h => h) (Or.inr ⟨by rfl, rfl⟩) (by assumption) ?_
        simp only [Act.put, List.setIfInBounds_toArray, List.set_cons_zero, List.set_cons_succ]
        refine wpAnyH_take (i := 14) (oi := { dst := some 26, op := Op.move (Operand.tmp 5), type := 3, pos := "kindredref12.go:174", after := #[{ on := 12, ground := Ground.guard }], guard := some (12, false) }) rfl (by kernel_rfl) (by kernel_rfl) (by kernel_rfl) (fun _ _ _ h => h) (Or.inr ⟨by rfl, rfl⟩) (by assumption) ?_
        simp only [Act.put, List.setIfInBounds_toArray, List.set_cons_zero, List.set_cons_succ]
        refine wpAnyH_take (i := 15) (oi := { dst := some 27, op := Op.binOp BinOp.sub 3 (Operand.tmp 26) (Operand.const (Value.int IntKind.i64 1)) 3, type := 3, pos := "kindredref12.go:174", after := #[{ on := 14, ground := Ground.data }, { on := 12, ground := Ground.guard }], guard := some (12, false) }) rfl (by kernel_rfl) (by kernel_rfl) (by kernel_rfl) (fun _ _ _ h => h) (Or.inr ⟨by rfl, rfl⟩) (by assumption) ?_
        simp only [Act.put, List.setIfInBounds_toArray, List.set_cons_zero, List.set_cons_succ]
        refine wpAnyH_take (i := 16) (oi := { dst := some 28, op := Op.indexAddr 32 (Operand.tmp 25) (Operand.tmp 27), type := 0, pos := "kindredref12.go:174", after := #[{ on := 13, ground := Ground.data }, { on := 15, ground := Ground.data }, { on := 12, ground := Ground.guard }], guard := some (12, false) }) rfl (by kernel_rfl) (by kernel_rfl) (by kernel_rfl) (fun _ _ _ h => h) (Or.inr ⟨by rfl, rfl⟩) (by assumption) ?_
        simp only [Act.put, List.setIfInBounds_toArray, List.set_cons_zero, List.set_cons_succ]
        refine wpAnyH_take (i := 17) (oi := { dst := some 29, op := Op.fieldAddr 36 (Operand.tmp 28) 0, type := 0, pos := "kindredref12.go:174", after := #[{ on := 16, ground := Ground.data }, { on := 12, ground := Ground.guard }], guard := some (12, false) }) rfl (by kernel_rfl) (by kernel_rfl) (by kernel_rfl) (fun _ _ _ h => h) (Or.inr ⟨by rfl, rfl⟩) (by assumption) ?_
        simp only [Act.put, List.setIfInBounds_toArray, List.set_cons_zero, List.set_cons_succ]
        refine wpAnyH_take (i := 18) (oi := { dst := some 30, op := Op.load 3 (Operand.tmp 29), type := 3, pos := "kindredref12.go:174", after := #[{ on := 17, ground := Ground.data }, { on := 12, ground := Ground.guard }], guard := some (12, false) }) rfl (by kernel_rfl) (by kernel_rfl) (by kernel_rfl) (fun _ _ _ h => h) (Or.inr ⟨by rfl, rfl⟩) (by assumption) ?_
        simp only [Act.put, List.setIfInBounds_toArray, List.set_cons_zero, List.set_cons_succ]
        refine wpAnyH_take (i := 19) (oi := { dst := some 31, op := Op.fieldAddr 36 (Operand.tmp 3) 0, type := 0, pos := "kindredref12.go:174", after := #[{ on := 12, ground := Ground.guard }], guard := some (12, false) }) rfl (by kernel_rfl) (by kernel_rfl) (by kernel_rfl) (fun _ _ _ h => h) (Or.inr ⟨by rfl, rfl⟩) (by assumption) ?_
        simp only [Act.put, List.setIfInBounds_toArray, List.set_cons_zero, List.set_cons_succ]
        refine wpAnyH_take (i := 20) (oi := { dst := some 32, op := Op.load 3 (Operand.tmp 31), type := 3, pos := "kindredref12.go:174", after := #[{ on := 19, ground := Ground.data }, { on := 12, ground := Ground.guard }], guard := some (12, false) }) rfl (by kernel_rfl) (by kernel_rfl) (by kernel_rfl) (fun _ _ _ h => h) (Or.inr ⟨by rfl, rfl⟩) (by assumption) ?_
        simp only [Act.put, List.setIfInBounds_toArray, List.set_cons_zero, List.set_cons_succ]
        refine wpAnyH_take (i := 21) (oi := { dst := some 33, op := Op.binOp BinOp.eql 3 (Operand.tmp 30) (Operand.tmp 32) 3, type := 4, pos := "kindredref12.go:174", after := #[{ on := 18, ground := Ground.data }, { on := 20, ground := Ground.data }, { on := 12, ground := Ground.guard }], guard := some (12, false) }) rfl (by kernel_rfl) (by kernel_rfl) (by kernel_rfl) (fun _ _ _ h => h) (Or.inr ⟨by rfl, rfl⟩) (by assumption) ?_
        simp only [Act.put, List.setIfInBounds_toArray, List.set_cons_zero, List.set_cons_succ]
        refine wpAnyH_take (i := 22) (oi := { dst := some 34, op := Op.move (Operand.tmp 33), type := 4, pos := "kindredref12.go:174", after := #[{ on := 21, ground := Ground.data }, { on := 12, ground := Ground.chain }, { on := 12, ground := Ground.guard }], guard := some (12, false) }) rfl (by kernel_rfl) (by kernel_rfl) (by kernel_rfl) (fun _ _ _ h => h) (Or.inr ⟨by rfl, rfl⟩) (by assumption) ?_
        simp only [Act.put, List.setIfInBounds_toArray, List.set_cons_zero, List.set_cons_succ]
        refine wpAnyH_take (i := 23) (oi := { dst := some 35, op := Op.move (Operand.tmp 0), type := 32, pos := "kindredref12.go:174", after := #[{ on := 22, ground := Ground.guard }], guard := some (22, true) }) rfl (by kernel_rfl) (by kernel_rfl) (by kernel_rfl) (fun _ _ _ h => h) (Or.inr ⟨by rfl, rfl⟩) (by assumption) ?_
        simp only [Act.put, List.setIfInBounds_toArray, List.set_cons_zero, List.set_cons_succ]
        refine wpAnyH_take (i := 24) (oi := { dst := some 36, op := Op.move (Operand.tmp 5), type := 3, pos := "kindredref12.go:174", after := #[{ on := 22, ground := Ground.guard }], guard := some (22, true) }) rfl (by kernel_rfl) (by kernel_rfl) (by kernel_rfl) (fun _ _ _ h => h) (Or.inr ⟨by rfl, rfl⟩) (by assumption) ?_
        simp only [Act.put, List.setIfInBounds_toArray, List.set_cons_zero, List.set_cons_succ]
        refine wpAnyH_take (i := 25) (oi := { dst := some 37, op := Op.binOp BinOp.sub 3 (Operand.tmp 36) (Operand.const (Value.int IntKind.i64 1)) 3, type := 3, pos := "kindredref12.go:174", after := #[{ on := 24, ground := Ground.data }, { on := 22, ground := Ground.guard }], guard := some (22, true) }) rfl (by kernel_rfl) (by kernel_rfl) (by kernel_rfl) (fun _ _ _ h => h) (Or.inr ⟨by rfl, rfl⟩) (by assumption) ?_
        simp only [Act.put, List.setIfInBounds_toArray, List.set_cons_zero, List.set_cons_succ]
        refine wpAnyH_take (i := 26) (oi := { dst := some 38, op := Op.indexAddr 32 (Operand.tmp 35) (Operand.tmp 37), type := 0, pos := "kindredref12.go:174", after := #[{ on := 23, ground := Ground.data }, { on := 25, ground := Ground.data }, { on := 22, ground := Ground.guard }], guard := some (22, true) }) rfl (by kernel_rfl) (by kernel_rfl) (by kernel_rfl) (fun _ _ _ h => h) (Or.inr ⟨by rfl, rfl⟩) (by assumption) ?_
        simp only [Act.put, List.setIfInBounds_toArray, List.set_cons_zero, List.set_cons_succ]
        refine wpAnyH_take (i := 27) (oi := { dst := some 39, op := Op.fieldAddr 36 (Operand.tmp 38) 2, type := 0, pos := "kindredref12.go:174", after := #[{ on := 26, ground := Ground.data }, { on := 22, ground := Ground.guard }], guard := some (22, true) }) rfl (by kernel_rfl) (by kernel_rfl) (by kernel_rfl) (fun _ _ _ h => h) (Or.inr ⟨by rfl, rfl⟩) (by assumption) ?_
        simp only [Act.put, List.setIfInBounds_toArray, List.set_cons_zero, List.set_cons_succ]
        refine wpAnyH_take (i := 28) (oi := { dst := some 40, op := Op.load 9 (Operand.tmp 39), type := 9, pos := "kindredref12.go:174", after := #[{ on := 27, ground := Ground.data }, { on := 22, ground := Ground.guard }], guard := some (22, true) }) rfl (by kernel_rfl) (by kernel_rfl) (by kernel_rfl) (fun _ _ _ h => h) (Or.inr ⟨by rfl, rfl⟩) (by assumption) ?_
        simp only [Act.put, List.setIfInBounds_toArray, List.set_cons_zero, List.set_cons_succ]
        refine wpAnyH_take (i := 29) (oi := { dst := some 41, op := Op.fieldAddr 36 (Operand.tmp 3) 2, type := 0, pos := "kindredref12.go:174", after := #[{ on := 22, ground := Ground.guard }], guard := some (22, true) }) rfl (by kernel_rfl) (by kernel_rfl) (by kernel_rfl) (fun _ _ _ h => h) (Or.inr ⟨by rfl, rfl⟩) (by assumption) ?_
        simp only [Act.put, List.setIfInBounds_toArray, List.set_cons_zero, List.set_cons_succ]
        refine wpAnyH_take (i := 30) (oi := { dst := some 42, op := Op.load 9 (Operand.tmp 41), type := 9, pos := "kindredref12.go:174", after := #[{ on := 29, ground := Ground.data }, { on := 22, ground := Ground.guard }], guard := some (22, true) }) rfl (by kernel_rfl) (by kernel_rfl) (by kernel_rfl) (fun _ _ _ h => h) (Or.inr ⟨by rfl, rfl⟩) (by assumption) ?_
        simp only [Act.put, List.setIfInBounds_toArray, List.set_cons_zero, List.set_cons_succ]
        refine wpAnyH_take (i := 31) (oi := { dst := some 43, op := Op.binOp BinOp.gtr 9 (Operand.tmp 40) (Operand.tmp 42) 9, type := 4, pos := "kindredref12.go:174", after := #[{ on := 28, ground := Ground.data }, { on := 30, ground := Ground.data }, { on := 22, ground := Ground.guard }], guard := some (22, true) }) rfl (by kernel_rfl) (by kernel_rfl) (by kernel_rfl) (fun _ _ _ h => h) (Or.inr ⟨by rfl, rfl⟩) (by assumption) ?_
        simp only [Act.put, List.setIfInBounds_toArray, List.set_cons_zero, List.set_cons_succ]
        refine wpAnyH_take (i := 32) (oi := { dst := some 44, op := Op.pick (Operand.tmp 34) (Operand.tmp 43) (Operand.const (Value.bool false)), type := 4, pos := "kindredref12.go:174", after := #[{ on := 22, ground := Ground.data }, { on := 31, ground := Ground.data }, { on := 12, ground := Ground.guard }], guard := some (12, false) }) rfl (by kernel_rfl) (by kernel_rfl) (by kernel_rfl) (fun _ _ _ h => h) (Or.inr ⟨by rfl, rfl⟩) (by assumption) ?_
        simp only [Act.put, List.setIfInBounds_toArray, List.set_cons_zero, List.set_cons_succ]
        refine wpAnyH_take (i := 33) (oi := { dst := some 45, op := Op.pick (Operand.tmp 24) (Operand.const (Value.bool true)) (Operand.tmp 44), type := 4, pos := "kindredref12.go:174", after := #[{ on := 12, ground := Ground.data }, { on := 32, ground := Ground.data }, { on := 2, ground := Ground.guard }], guard := some (2, true) }) (v := ?vb33) rfl (by kernel_rfl) (by kernel_rfl) (by kernel_rfl) (fun _ _ _ h => h) (Or.inl ⟨by rfl, ?hb33⟩) (by assumption) ?rb33
        case hb33 => (intro w0 hSw; (try dsimp only at hSw); go_simp; try (with_reducible rfl))
        simp only [Act.put, List.setIfInBounds_toArray, List.set_cons_zero, List.set_cons_succ]
        refine wpAnyH_take (i := 34) (oi := { dst := some 46, op := Op.pick (Operand.tmp 14) (Operand.tmp 45) (Operand.const (Value.bool false)), type := 4, pos := "kindredref12.go:174", after := #[{ on := 2, ground := Ground.data }, { on := 33, ground := Ground.data }], guard := none }) (v := ?vb34) rfl (by kernel_rfl) (by kernel_rfl) (by kernel_rfl) (fun _ _ _ h => h) (Or.inl ⟨by rfl, ?hb34⟩) (by assumption) ?rb34
        case hb34 => (intro w0 hSw; (try dsimp only at hSw); go_simp; try (with_reducible rfl))
        simp only [Act.put, List.setIfInBounds_toArray, List.set_cons_zero, List.set_cons_succ]
        refine wpAnyH_done (by kernel_rfl) ?_ _
        obtain ⟨wz, hwz⟩ : ∃ wz, wz = wr.drew := ⟨_, rfl⟩
        rw [← hwz]
        have HZ := Hid.mk (show PCH B W wz g3 c3 hb (d, x) L k from by rw [hwz]; exact HK.out.drew)
        obtain ⟨u0, u1, u2, z0, z1, z2, zf, -⟩ := HZ.out.hole (by have := HL.out.1; omega)
        have zf0 := zf (k * 3)
        have zf1 := zf (k * 3 + 1)
        have zf2 := zf (k * 3 + 2)
        have q0 : wz.cell? ⟨g3, m * 3, none⟩ = some (.int .i64 (y1 : Nat)) := by rw [hwz]; exact p0
        have q1 : wz.cell? ⟨g3, m * 3 + 1, none⟩ = some (.int .i64 0) := by rw [hwz]; exact p1
        have q2 : wz.cell? ⟨g3, m * 3 + 2, none⟩ = some (.string ys) := by rw [hwz]; exact p2
        clear hwz zf HK bx0 bx1 bx2 p0 p1 p2
        go_wp2_with fail
        exact ⟨⟨m, rfl, m2, Hid.mk (PCH.step HY.out.1 HY.out.2.1 HY.out.2.2.1 HYY.out.1 HYY.out.2 HZ.out HL.out.2.1 HGT.out)⟩, by simp only [intOf]; have := HY.out.1; omega⟩
      · have g1 : decide ((d : Int) < (y1 : Int)) = false := by simp; omega
        have g2 : decide (d < y1) = false := by simp; omega
        by_cases heq : y1 = d
        · subst heq
          by_cases hbl : byC x < byC y.2
          · have bl : Op.bytesLess ys.toList x.1.toList = false := by
              rw [HYY.out.2, bl_of]
              simp only [decide_eq_false_iff_not]
              exact fun h => List.lt_irrefl _ (List.lt_trans hbl h)
            have bl2 : (ys.toList == x.1.toList) = false := beq_false_of_ne (fun h => HY.out.2.2.2.2 (Subtype.ext (by rw [← HYY.out.2]; exact ba_of h)))
            have HGT := Hid.mk (show hlt (y1, x) y from .inr ⟨HYY.out.1, hbl⟩)
            clear hgt hbl
            go_wp2_with fail
            refine wp_region_held_drew (S := fun w' => w'.cell? ⟨g3, m * 3, none⟩ = some (.int .i64 (y1 : Nat)) ∧ w'.cell? ⟨g3, m * 3 + 2, none⟩ = some (.string ys) ∧ w'.cell? ⟨hb, 0, none⟩ = some (.int .i64 (y1 : Nat)) ∧ w'.cell? ⟨hb, 2, none⟩ = some (.string x.1)) (by kernel_rfl) ?_ (fun hHeld => ?_)
            · exact ⟨p0, p2, bx0, bx2⟩
            refine wpAnyH_take (i := 0) (oi := { dst := some 12, op := Op.move (Operand.tmp 5), type := 3, pos := "kindredref12.go:174", after := #[], guard := none }) (v := ?vc0) rfl (by kernel_rfl) (by kernel_rfl) (by kernel_rfl) (fun _ _ _ h => h) (Or.inl ⟨by rfl, ?hc0⟩) (by assumption) ?rc0
            case hc0 => (intro w0 hSw; (try dsimp only at hSw); go_simp; try (with_reducible rfl))
            simp only [Act.put, List.setIfInBounds_toArray, List.set_cons_zero, List.set_cons_succ]
            refine wpAnyH_take (i := 1) (oi := { dst := some 13, op := Op.binOp BinOp.gtr 3 (Operand.tmp 12) (Operand.const (Value.int IntKind.i64 0)) 3, type := 4, pos := "kindredref12.go:174", after := #[{ on := 0, ground := Ground.data }], guard := none }) (v := ?vc1) rfl (by kernel_rfl) (by kernel_rfl) (by kernel_rfl) (fun _ _ _ h => h) (Or.inl ⟨by rfl, ?hc1⟩) (by assumption) ?rc1
            case hc1 => (intro w0 hSw; (try dsimp only at hSw); go_simp; try (with_reducible rfl))
            simp only [Act.put, List.setIfInBounds_toArray, List.set_cons_zero, List.set_cons_succ]
            refine wpAnyH_take (i := 2) (oi := { dst := some 14, op := Op.move (Operand.tmp 13), type := 4, pos := "kindredref12.go:174", after := #[{ on := 1, ground := Ground.data }], guard := none }) (v := ?vc2) rfl (by kernel_rfl) (by kernel_rfl) (by kernel_rfl) (fun _ _ _ h => h) (Or.inl ⟨by rfl, ?hc2⟩) (by assumption) ?rc2
            case hc2 => (intro w0 hSw; (try dsimp only at hSw); go_simp; try (with_reducible rfl))
            simp only [Act.put, List.setIfInBounds_toArray, List.set_cons_zero, List.set_cons_succ]
            refine wpAnyH_take (i := 3) (oi := { dst := some 15, op := Op.move (Operand.tmp 0), type := 32, pos := "kindredref12.go:174", after := #[{ on := 2, ground := Ground.guard }], guard := some (2, true) }) (v := ?vc3) rfl (by kernel_rfl) (by kernel_rfl) (by kernel_rfl) (fun _ _ _ h => h) (Or.inl ⟨by rfl, ?hc3⟩) (by assumption) ?rc3
            case hc3 => (intro w0 hSw; (try dsimp only at hSw); go_simp; try (with_reducible rfl))
            simp only [Act.put, List.setIfInBounds_toArray, List.set_cons_zero, List.set_cons_succ]
            refine wpAnyH_take (i := 4) (oi := { dst := some 16, op := Op.move (Operand.tmp 5), type := 3, pos := "kindredref12.go:174", after := #[{ on := 2, ground := Ground.guard }], guard := some (2, true) }) (v := ?vc4) rfl (by kernel_rfl) (by kernel_rfl) (by kernel_rfl) (fun _ _ _ h => h) (Or.inl ⟨by rfl, ?hc4⟩) (by assumption) ?rc4
            case hc4 => (intro w0 hSw; (try dsimp only at hSw); go_simp; try (with_reducible rfl))
            simp only [Act.put, List.setIfInBounds_toArray, List.set_cons_zero, List.set_cons_succ]
            refine wpAnyH_take (i := 5) (oi := { dst := some 17, op := Op.binOp BinOp.sub 3 (Operand.tmp 16) (Operand.const (Value.int IntKind.i64 1)) 3, type := 3, pos := "kindredref12.go:174", after := #[{ on := 4, ground := Ground.data }, { on := 2, ground := Ground.guard }], guard := some (2, true) }) (v := ?vc5) rfl (by kernel_rfl) (by kernel_rfl) (by kernel_rfl) (fun _ _ _ h => h) (Or.inl ⟨by rfl, ?hc5⟩) (by assumption) ?rc5
            case hc5 => (intro w0 hSw; (try dsimp only at hSw); go_simp; try (with_reducible rfl))
            simp only [Act.put, List.setIfInBounds_toArray, List.set_cons_zero, List.set_cons_succ]
            refine wpAnyH_take (i := 6) (oi := { dst := some 18, op := Op.indexAddr 32 (Operand.tmp 15) (Operand.tmp 17), type := 0, pos := "kindredref12.go:174", after := #[{ on := 3, ground := Ground.data }, { on := 5, ground := Ground.data }, { on := 2, ground := Ground.guard }], guard := some (2, true) }) (v := ?vc6) rfl (by kernel_rfl) (by kernel_rfl) (by kernel_rfl) (fun _ _ _ h => h) (Or.inl ⟨by rfl, ?hc6⟩) (by assumption) ?rc6
            case hc6 => (intro w0 hSw; (try dsimp only at hSw); go_simp; try (with_reducible rfl))
            simp only [Act.put, List.setIfInBounds_toArray, List.set_cons_zero, List.set_cons_succ]
            refine wpAnyH_take (i := 7) (oi := { dst := some 19, op := Op.fieldAddr 36 (Operand.tmp 18) 0, type := 0, pos := "kindredref12.go:174", after := #[{ on := 6, ground := Ground.data }, { on := 2, ground := Ground.guard }], guard := some (2, true) }) (v := ?vc7) rfl (by kernel_rfl) (by kernel_rfl) (by kernel_rfl) (fun _ _ _ h => h) (Or.inl ⟨by rfl, ?hc7⟩) (by assumption) ?rc7
            case hc7 => (intro w0 hSw; (try dsimp only at hSw); go_simp; try (with_reducible rfl))
            simp only [Act.put, List.setIfInBounds_toArray, List.set_cons_zero, List.set_cons_succ]
            refine wpAnyH_take (i := 8) (oi := { dst := some 20, op := Op.load 3 (Operand.tmp 19), type := 3, pos := "kindredref12.go:174", after := #[{ on := 7, ground := Ground.data }, { on := 2, ground := Ground.guard }], guard := some (2, true) }) (v := ?vc8) rfl (by kernel_rfl) (by kernel_rfl) (by kernel_rfl) (fun _ _ _ h => h) (Or.inl ⟨by rfl, ?hc8⟩) (by assumption) ?rc8
            case hc8 => (intro w0 hSw; (try dsimp only at hSw); go_simp; try (with_reducible rfl))
            simp only [Act.put, List.setIfInBounds_toArray, List.set_cons_zero, List.set_cons_succ]
            refine wpAnyH_take (i := 9) (oi := { dst := some 21, op := Op.fieldAddr 36 (Operand.tmp 3) 0, type := 0, pos := "kindredref12.go:174", after := #[{ on := 2, ground := Ground.guard }], guard := some (2, true) }) (v := ?vc9) rfl (by kernel_rfl) (by kernel_rfl) (by kernel_rfl) (fun _ _ _ h => h) (Or.inl ⟨by rfl, ?hc9⟩) (by assumption) ?rc9
            case hc9 => (intro w0 hSw; (try dsimp only at hSw); go_simp; try (with_reducible rfl))
            simp only [Act.put, List.setIfInBounds_toArray, List.set_cons_zero, List.set_cons_succ]
            refine wpAnyH_take (i := 10) (oi := { dst := some 22, op := Op.load 3 (Operand.tmp 21), type := 3, pos := "kindredref12.go:174", after := #[{ on := 9, ground := Ground.data }, { on := 2, ground := Ground.guard }], guard := some (2, true) }) (v := ?vc10) rfl (by kernel_rfl) (by kernel_rfl) (by kernel_rfl) (fun _ _ _ h => h) (Or.inl ⟨by rfl, ?hc10⟩) (by assumption) ?rc10
            case hc10 => (intro w0 hSw; (try dsimp only at hSw); go_simp; try (with_reducible rfl))
            simp only [Act.put, List.setIfInBounds_toArray, List.set_cons_zero, List.set_cons_succ]
            refine wpAnyH_take (i := 11) (oi := { dst := some 23, op := Op.binOp BinOp.gtr 3 (Operand.tmp 20) (Operand.tmp 22) 3, type := 4, pos := "kindredref12.go:174", after := #[{ on := 8, ground := Ground.data }, { on := 10, ground := Ground.data }, { on := 2, ground := Ground.guard }], guard := some (2, true) }) (v := ?vc11) rfl (by kernel_rfl) (by kernel_rfl) (by kernel_rfl) (fun _ _ _ h => h) (Or.inl ⟨by rfl, ?hc11⟩) (by assumption) ?rc11
            case hc11 => (intro w0 hSw; (try dsimp only at hSw); go_simp; try (with_reducible rfl))
            simp only [Act.put, List.setIfInBounds_toArray, List.set_cons_zero, List.set_cons_succ]
            refine wpAnyH_take (i := 12) (oi := { dst := some 24, op := Op.move (Operand.tmp 23), type := 4, pos := "kindredref12.go:174", after := #[{ on := 11, ground := Ground.data }, { on := 2, ground := Ground.chain }, { on := 2, ground := Ground.guard }], guard := some (2, true) }) (v := ?vc12) rfl (by kernel_rfl) (by kernel_rfl) (by kernel_rfl) (fun _ _ _ h => h) (Or.inl ⟨by rfl, ?hc12⟩) (by assumption) ?rc12
            case hc12 => (intro w0 hSw; (try dsimp only at hSw); go_simp; try (with_reducible rfl))
            simp only [Act.put, List.setIfInBounds_toArray, List.set_cons_zero, List.set_cons_succ]
            refine wpAnyH_take (i := 13) (oi := { dst := some 25, op := Op.move (Operand.tmp 0), type := 32, pos := "kindredref12.go:174", after := #[{ on := 12, ground := Ground.guard }], guard := some (12, false) }) (v := ?vc13) rfl (by kernel_rfl) (by kernel_rfl) (by kernel_rfl) (fun _ _ _ h => h) (Or.inl ⟨by rfl, ?hc13⟩) (by assumption) ?rc13
            case hc13 => (intro w0 hSw; (try dsimp only at hSw); go_simp; try (with_reducible rfl))
            simp only [Act.put, List.setIfInBounds_toArray, List.set_cons_zero, List.set_cons_succ]
            refine wpAnyH_take (i := 14) (oi := { dst := some 26, op := Op.move (Operand.tmp 5), type := 3, pos := "kindredref12.go:174", after := #[{ on := 12, ground := Ground.guard }], guard := some (12, false) }) (v := ?vc14) rfl (by kernel_rfl) (by kernel_rfl) (by kernel_rfl) (fun _ _ _ h => h) (Or.inl ⟨by rfl, ?hc14⟩) (by assumption) ?rc14
            case hc14 => (intro w0 hSw; (try dsimp only at hSw); go_simp; try (with_reducible rfl))
            simp only [Act.put, List.setIfInBounds_toArray, List.set_cons_zero, List.set_cons_succ]
            refine wpAnyH_take (i := 15) (oi := { dst := some 27, op := Op.binOp BinOp.sub 3 (Operand.tmp 26) (Operand.const (Value.int IntKind.i64 1)) 3, type := 3, pos := "kindredref12.go:174", after := #[{ on := 14, ground := Ground.data }, { on := 12, ground := Ground.guard }], guard := some (12, false) }) (v := ?vc15) rfl (by kernel_rfl) (by kernel_rfl) (by kernel_rfl) (fun _ _ _ h => h) (Or.inl ⟨by rfl, ?hc15⟩) (by assumption) ?rc15
            case hc15 => (intro w0 hSw; (try dsimp only at hSw); go_simp; try (with_reducible rfl))
            simp only [Act.put, List.setIfInBounds_toArray, List.set_cons_zero, List.set_cons_succ]
            refine wpAnyH_take (i := 16) (oi := { dst := some 28, op := Op.indexAddr 32 (Operand.tmp 25) (Operand.tmp 27), type := 0, pos := "kindredref12.go:174", after := #[{ on := 13, ground := Ground.data }, { on := 15, ground := Ground.data }, { on := 12, ground := Ground.guard }], guard := some (12, false) }) (v := ?vc16) rfl (by kernel_rfl) (by kernel_rfl) (by kernel_rfl) (fun _ _ _ h => h) (Or.inl ⟨by rfl, ?hc16⟩) (by assumption) ?rc16
            case hc16 => (intro w0 hSw; (try dsimp only at hSw); go_simp; try (with_reducible rfl))
            simp only [Act.put, List.setIfInBounds_toArray, List.set_cons_zero, List.set_cons_succ]
            refine wpAnyH_take (i := 17) (oi := { dst := some 29, op := Op.fieldAddr 36 (Operand.tmp 28) 0, type := 0, pos := "kindredref12.go:174", after := #[{ on := 16, ground := Ground.data }, { on := 12, ground := Ground.guard }], guard := some (12, false) }) (v := ?vc17) rfl (by kernel_rfl) (by kernel_rfl) (by kernel_rfl) (fun _ _ _ h => h) (Or.inl ⟨by rfl, ?hc17⟩) (by assumption) ?rc17
            case hc17 => (intro w0 hSw; (try dsimp only at hSw); go_simp; try (with_reducible rfl))
            simp only [Act.put, List.setIfInBounds_toArray, List.set_cons_zero, List.set_cons_succ]
            refine wpAnyH_take (i := 18) (oi := { dst := some 30, op := Op.load 3 (Operand.tmp 29), type := 3, pos := "kindredref12.go:174", after := #[{ on := 17, ground := Ground.data }, { on := 12, ground := Ground.guard }], guard := some (12, false) }) (v := ?vc18) rfl (by kernel_rfl) (by kernel_rfl) (by kernel_rfl) (fun _ _ _ h => h) (Or.inl ⟨by rfl, ?hc18⟩) (by assumption) ?rc18
            case hc18 => (intro w0 hSw; (try dsimp only at hSw); go_simp; try (with_reducible rfl))
            simp only [Act.put, List.setIfInBounds_toArray, List.set_cons_zero, List.set_cons_succ]
            refine wpAnyH_take (i := 19) (oi := { dst := some 31, op := Op.fieldAddr 36 (Operand.tmp 3) 0, type := 0, pos := "kindredref12.go:174", after := #[{ on := 12, ground := Ground.guard }], guard := some (12, false) }) (v := ?vc19) rfl (by kernel_rfl) (by kernel_rfl) (by kernel_rfl) (fun _ _ _ h => h) (Or.inl ⟨by rfl, ?hc19⟩) (by assumption) ?rc19
            case hc19 => (intro w0 hSw; (try dsimp only at hSw); go_simp; try (with_reducible rfl))
            simp only [Act.put, List.setIfInBounds_toArray, List.set_cons_zero, List.set_cons_succ]
            refine wpAnyH_take (i := 20) (oi := { dst := some 32, op := Op.load 3 (Operand.tmp 31), type := 3, pos := "kindredref12.go:174", after := #[{ on := 19, ground := Ground.data }, { on := 12, ground := Ground.guard }], guard := some (12, false) }) (v := ?vc20) rfl (by kernel_rfl) (by kernel_rfl) (by kernel_rfl) (fun _ _ _ h => h) (Or.inl ⟨by rfl, ?hc20⟩) (by assumption) ?rc20
            case hc20 => (intro w0 hSw; (try dsimp only at hSw); go_simp; try (with_reducible rfl))
            simp only [Act.put, List.setIfInBounds_toArray, List.set_cons_zero, List.set_cons_succ]
            refine wpAnyH_take (i := 21) (oi := { dst := some 33, op := Op.binOp BinOp.eql 3 (Operand.tmp 30) (Operand.tmp 32) 3, type := 4, pos := "kindredref12.go:174", after := #[{ on := 18, ground := Ground.data }, { on := 20, ground := Ground.data }, { on := 12, ground := Ground.guard }], guard := some (12, false) }) (v := ?vc21) rfl (by kernel_rfl) (by kernel_rfl) (by kernel_rfl) (fun _ _ _ h => h) (Or.inl ⟨by rfl, ?hc21⟩) (by assumption) ?rc21
            case hc21 => (intro w0 hSw; (try dsimp only at hSw); go_simp; try (with_reducible rfl))
            simp only [Act.put, List.setIfInBounds_toArray, List.set_cons_zero, List.set_cons_succ]
            refine wpAnyH_take (i := 22) (oi := { dst := some 34, op := Op.move (Operand.tmp 33), type := 4, pos := "kindredref12.go:174", after := #[{ on := 21, ground := Ground.data }, { on := 12, ground := Ground.chain }, { on := 12, ground := Ground.guard }], guard := some (12, false) }) (v := ?vc22) rfl (by kernel_rfl) (by kernel_rfl) (by kernel_rfl) (fun _ _ _ h => h) (Or.inl ⟨by rfl, ?hc22⟩) (by assumption) ?rc22
            case hc22 => (intro w0 hSw; (try dsimp only at hSw); go_simp; try (with_reducible rfl))
            simp only [Act.put, List.setIfInBounds_toArray, List.set_cons_zero, List.set_cons_succ]
            refine wpAnyH_take (i := 23) (oi := { dst := some 35, op := Op.move (Operand.tmp 0), type := 32, pos := "kindredref12.go:174", after := #[{ on := 22, ground := Ground.guard }], guard := some (22, true) }) (v := ?vc23) rfl (by kernel_rfl) (by kernel_rfl) (by kernel_rfl) (fun _ _ _ h => h) (Or.inl ⟨by rfl, ?hc23⟩) (by assumption) ?rc23
            case hc23 => (intro w0 hSw; (try dsimp only at hSw); go_simp; try (with_reducible rfl))
            simp only [Act.put, List.setIfInBounds_toArray, List.set_cons_zero, List.set_cons_succ]
            refine wpAnyH_take (i := 24) (oi := { dst := some 36, op := Op.move (Operand.tmp 5), type := 3, pos := "kindredref12.go:174", after := #[{ on := 22, ground := Ground.guard }], guard := some (22, true) }) (v := ?vc24) rfl (by kernel_rfl) (by kernel_rfl) (by kernel_rfl) (fun _ _ _ h => h) (Or.inl ⟨by rfl, ?hc24⟩) (by assumption) ?rc24
            case hc24 => (intro w0 hSw; (try dsimp only at hSw); go_simp; try (with_reducible rfl))
            simp only [Act.put, List.setIfInBounds_toArray, List.set_cons_zero, List.set_cons_succ]
            refine wpAnyH_take (i := 25) (oi := { dst := some 37, op := Op.binOp BinOp.sub 3 (Operand.tmp 36) (Operand.const (Value.int IntKind.i64 1)) 3, type := 3, pos := "kindredref12.go:174", after := #[{ on := 24, ground := Ground.data }, { on := 22, ground := Ground.guard }], guard := some (22, true) }) (v := ?vc25) rfl (by kernel_rfl) (by kernel_rfl) (by kernel_rfl) (fun _ _ _ h => h) (Or.inl ⟨by rfl, ?hc25⟩) (by assumption) ?rc25
            case hc25 => (intro w0 hSw; (try dsimp only at hSw); go_simp; try (with_reducible rfl))
            simp only [Act.put, List.setIfInBounds_toArray, List.set_cons_zero, List.set_cons_succ]
            refine wpAnyH_take (i := 26) (oi := { dst := some 38, op := Op.indexAddr 32 (Operand.tmp 35) (Operand.tmp 37), type := 0, pos := "kindredref12.go:174", after := #[{ on := 23, ground := Ground.data }, { on := 25, ground := Ground.data }, { on := 22, ground := Ground.guard }], guard := some (22, true) }) (v := ?vc26) rfl (by kernel_rfl) (by kernel_rfl) (by kernel_rfl) (fun _ _ _ h => h) (Or.inl ⟨by rfl, ?hc26⟩) (by assumption) ?rc26
            case hc26 => (intro w0 hSw; (try dsimp only at hSw); go_simp; try (with_reducible rfl))
            simp only [Act.put, List.setIfInBounds_toArray, List.set_cons_zero, List.set_cons_succ]
            refine wpAnyH_take (i := 27) (oi := { dst := some 39, op := Op.fieldAddr 36 (Operand.tmp 38) 2, type := 0, pos := "kindredref12.go:174", after := #[{ on := 26, ground := Ground.data }, { on := 22, ground := Ground.guard }], guard := some (22, true) }) (v := ?vc27) rfl (by kernel_rfl) (by kernel_rfl) (by kernel_rfl) (fun _ _ _ h => h) (Or.inl ⟨by rfl, ?hc27⟩) (by assumption) ?rc27
            case hc27 => (intro w0 hSw; (try dsimp only at hSw); go_simp; try (with_reducible rfl))
            simp only [Act.put, List.setIfInBounds_toArray, List.set_cons_zero, List.set_cons_succ]
            refine wpAnyH_take (i := 28) (oi := { dst := some 40, op := Op.load 9 (Operand.tmp 39), type := 9, pos := "kindredref12.go:174", after := #[{ on := 27, ground := Ground.data }, { on := 22, ground := Ground.guard }], guard := some (22, true) }) (v := ?vc28) rfl (by kernel_rfl) (by kernel_rfl) (by kernel_rfl) (fun _ _ _ h => h) (Or.inl ⟨by rfl, ?hc28⟩) (by assumption) ?rc28
            case hc28 => (intro w0 hSw; (try dsimp only at hSw); go_simp; try (with_reducible rfl))
            simp only [Act.put, List.setIfInBounds_toArray, List.set_cons_zero, List.set_cons_succ]
            refine wpAnyH_take (i := 29) (oi := { dst := some 41, op := Op.fieldAddr 36 (Operand.tmp 3) 2, type := 0, pos := "kindredref12.go:174", after := #[{ on := 22, ground := Ground.guard }], guard := some (22, true) }) (v := ?vc29) rfl (by kernel_rfl) (by kernel_rfl) (by kernel_rfl) (fun _ _ _ h => h) (Or.inl ⟨by rfl, ?hc29⟩) (by assumption) ?rc29
            case hc29 => (intro w0 hSw; (try dsimp only at hSw); go_simp; try (with_reducible rfl))
            simp only [Act.put, List.setIfInBounds_toArray, List.set_cons_zero, List.set_cons_succ]
            refine wpAnyH_take (i := 30) (oi := { dst := some 42, op := Op.load 9 (Operand.tmp 41), type := 9, pos := "kindredref12.go:174", after := #[{ on := 29, ground := Ground.data }, { on := 22, ground := Ground.guard }], guard := some (22, true) }) (v := ?vc30) rfl (by kernel_rfl) (by kernel_rfl) (by kernel_rfl) (fun _ _ _ h => h) (Or.inl ⟨by rfl, ?hc30⟩) (by assumption) ?rc30
            case hc30 => (intro w0 hSw; (try dsimp only at hSw); go_simp; try (with_reducible rfl))
            simp only [Act.put, List.setIfInBounds_toArray, List.set_cons_zero, List.set_cons_succ]
            refine wpAnyH_take (i := 31) (oi := { dst := some 43, op := Op.binOp BinOp.gtr 9 (Operand.tmp 40) (Operand.tmp 42) 9, type := 4, pos := "kindredref12.go:174", after := #[{ on := 28, ground := Ground.data }, { on := 30, ground := Ground.data }, { on := 22, ground := Ground.guard }], guard := some (22, true) }) (v := ?vc31) rfl (by kernel_rfl) (by kernel_rfl) (by kernel_rfl) (fun _ _ _ h => h) (Or.inl ⟨by rfl, ?hc31⟩) (by assumption) ?rc31
            case hc31 => (intro w0 hSw; (try dsimp only at hSw); go_simp; try (with_reducible rfl))
            simp only [Act.put, List.setIfInBounds_toArray, List.set_cons_zero, List.set_cons_succ]
            refine wpAnyH_take (i := 32) (oi := { dst := some 44, op := Op.pick (Operand.tmp 34) (Operand.tmp 43) (Operand.const (Value.bool false)), type := 4, pos := "kindredref12.go:174", after := #[{ on := 22, ground := Ground.data }, { on := 31, ground := Ground.data }, { on := 12, ground := Ground.guard }], guard := some (12, false) }) (v := ?vc32) rfl (by kernel_rfl) (by kernel_rfl) (by kernel_rfl) (fun _ _ _ h => h) (Or.inl ⟨by rfl, ?hc32⟩) (by assumption) ?rc32
            case hc32 => (intro w0 hSw; (try dsimp only at hSw); go_simp; try (with_reducible rfl))
            simp only [Act.put, List.setIfInBounds_toArray, List.set_cons_zero, List.set_cons_succ]
            refine wpAnyH_take (i := 33) (oi := { dst := some 45, op := Op.pick (Operand.tmp 24) (Operand.const (Value.bool true)) (Operand.tmp 44), type := 4, pos := "kindredref12.go:174", after := #[{ on := 12, ground := Ground.data }, { on := 32, ground := Ground.data }, { on := 2, ground := Ground.guard }], guard := some (2, true) }) (v := ?vc33) rfl (by kernel_rfl) (by kernel_rfl) (by kernel_rfl) (fun _ _ _ h => h) (Or.inl ⟨by rfl, ?hc33⟩) (by assumption) ?rc33
            case hc33 => (intro w0 hSw; (try dsimp only at hSw); go_simp; try (with_reducible rfl))
            simp only [Act.put, List.setIfInBounds_toArray, List.set_cons_zero, List.set_cons_succ]
            refine wpAnyH_take (i := 34) (oi := { dst := some 46, op := Op.pick (Operand.tmp 14) (Operand.tmp 45) (Operand.const (Value.bool false)), type := 4, pos := "kindredref12.go:174", after := #[{ on := 2, ground := Ground.data }, { on := 33, ground := Ground.data }], guard := none }) (v := ?vc34) rfl (by kernel_rfl) (by kernel_rfl) (by kernel_rfl) (fun _ _ _ h => h) (Or.inl ⟨by rfl, ?hc34⟩) (by assumption) ?rc34
            case hc34 => (intro w0 hSw; (try dsimp only at hSw); go_simp; try (with_reducible rfl))
            simp only [Act.put, List.setIfInBounds_toArray, List.set_cons_zero, List.set_cons_succ]
            refine wpAnyH_done (by kernel_rfl) ?_ _
            obtain ⟨wz, hwz⟩ : ∃ wz, wz = wr.drew := ⟨_, rfl⟩
            rw [← hwz]
            have HZ := Hid.mk (show PCH B W wz g3 c3 hb (y1, x) L k from by rw [hwz]; exact HK.out.drew)
            obtain ⟨u0, u1, u2, z0, z1, z2, zf, -⟩ := HZ.out.hole (by have := HL.out.1; omega)
            have zf0 := zf (k * 3)
            have zf1 := zf (k * 3 + 1)
            have zf2 := zf (k * 3 + 2)
            have q0 : wz.cell? ⟨g3, m * 3, none⟩ = some (.int .i64 (y1 : Nat)) := by rw [hwz]; exact p0
            have q1 : wz.cell? ⟨g3, m * 3 + 1, none⟩ = some (.int .i64 0) := by rw [hwz]; exact p1
            have q2 : wz.cell? ⟨g3, m * 3 + 2, none⟩ = some (.string ys) := by rw [hwz]; exact p2
            clear hwz zf HK bx0 bx1 bx2 p0 p1 p2
            go_wp2_with fail
            exact ⟨⟨m, rfl, m2, Hid.mk (PCH.step HY.out.1 HY.out.2.1 HY.out.2.2.1 HYY.out.1 HYY.out.2 HZ.out HL.out.2.1 HGT.out)⟩, by simp only [intOf]; have := HY.out.1; omega⟩
          · have hyx : byC y.2 < byC x := lt_tot _ _ (fun e => HY.out.2.2.2.2 (Subtype.ext (ByteArray.ext (Array.toList_inj.1 e.symm)))) hbl
            have bl : Op.bytesLess ys.toList x.1.toList = true := by rw [HYY.out.2, bl_of]; simpa using hyx
            have HLo := Hid.mk (show ∀ j (hj : j < L.length), j < k → hlt L[j] (y1, x) from fun j hj h => (HY.out.2.2.2.1 j hj h).resolve_right (fun hn => hn (.inr ⟨HYY.out.1.symm, hyx⟩)))
            clear hgt hbl hyx
            go_wp2_with fail
            refine wp_region_held_drew (S := fun w' => w'.cell? ⟨g3, m * 3, none⟩ = some (.int .i64 (y1 : Nat)) ∧ w'.cell? ⟨g3, m * 3 + 2, none⟩ = some (.string ys) ∧ w'.cell? ⟨hb, 0, none⟩ = some (.int .i64 (y1 : Nat)) ∧ w'.cell? ⟨hb, 2, none⟩ = some (.string x.1)) (by kernel_rfl) ?_ (fun hHeld => ?_)
            · exact ⟨p0, p2, bx0, bx2⟩
            refine wpAnyH_take (i := 0) (oi := { dst := some 12, op := Op.move (Operand.tmp 5), type := 3, pos := "kindredref12.go:174", after := #[], guard := none }) (v := ?vd0) rfl (by kernel_rfl) (by kernel_rfl) (by kernel_rfl) (fun _ _ _ h => h) (Or.inl ⟨by rfl, ?hd0⟩) (by assumption) ?rd0
            case hd0 => (intro w0 hSw; (try dsimp only at hSw); go_simp; try (with_reducible rfl))
            simp only [Act.put, List.setIfInBounds_toArray, List.set_cons_zero, List.set_cons_succ]
            refine wpAnyH_take (i := 1) (oi := { dst := some 13, op := Op.binOp BinOp.gtr 3 (Operand.tmp 12) (Operand.const (Value.int IntKind.i64 0)) 3, type := 4, pos := "kindredref12.go:174", after := #[{ on := 0, ground := Ground.data }], guard := none }) (v := ?vd1) rfl (by kernel_rfl) (by kernel_rfl) (by kernel_rfl) (fun _ _ _ h => h) (Or.inl ⟨by rfl, ?hd1⟩) (by assumption) ?rd1
            case hd1 => (intro w0 hSw; (try dsimp only at hSw); go_simp; try (with_reducible rfl))
            simp only [Act.put, List.setIfInBounds_toArray, List.set_cons_zero, List.set_cons_succ]
            refine wpAnyH_take (i := 2) (oi := { dst := some 14, op := Op.move (Operand.tmp 13), type := 4, pos := "kindredref12.go:174", after := #[{ on := 1, ground := Ground.data }], guard := none }) (v := ?vd2) rfl (by kernel_rfl) (by kernel_rfl) (by kernel_rfl) (fun _ _ _ h => h) (Or.inl ⟨by rfl, ?hd2⟩) (by assumption) ?rd2
            case hd2 => (intro w0 hSw; (try dsimp only at hSw); go_simp; try (with_reducible rfl))
            simp only [Act.put, List.setIfInBounds_toArray, List.set_cons_zero, List.set_cons_succ]
            refine wpAnyH_take (i := 3) (oi := { dst := some 15, op := Op.move (Operand.tmp 0), type := 32, pos := "kindredref12.go:174", after := #[{ on := 2, ground := Ground.guard }], guard := some (2, true) }) (v := ?vd3) rfl (by kernel_rfl) (by kernel_rfl) (by kernel_rfl) (fun _ _ _ h => h) (Or.inl ⟨by rfl, ?hd3⟩) (by assumption) ?rd3
            case hd3 => (intro w0 hSw; (try dsimp only at hSw); go_simp; try (with_reducible rfl))
            simp only [Act.put, List.setIfInBounds_toArray, List.set_cons_zero, List.set_cons_succ]
            refine wpAnyH_take (i := 4) (oi := { dst := some 16, op := Op.move (Operand.tmp 5), type := 3, pos := "kindredref12.go:174", after := #[{ on := 2, ground := Ground.guard }], guard := some (2, true) }) (v := ?vd4) rfl (by kernel_rfl) (by kernel_rfl) (by kernel_rfl) (fun _ _ _ h => h) (Or.inl ⟨by rfl, ?hd4⟩) (by assumption) ?rd4
            case hd4 => (intro w0 hSw; (try dsimp only at hSw); go_simp; try (with_reducible rfl))
            simp only [Act.put, List.setIfInBounds_toArray, List.set_cons_zero, List.set_cons_succ]
            refine wpAnyH_take (i := 5) (oi := { dst := some 17, op := Op.binOp BinOp.sub 3 (Operand.tmp 16) (Operand.const (Value.int IntKind.i64 1)) 3, type := 3, pos := "kindredref12.go:174", after := #[{ on := 4, ground := Ground.data }, { on := 2, ground := Ground.guard }], guard := some (2, true) }) (v := ?vd5) rfl (by kernel_rfl) (by kernel_rfl) (by kernel_rfl) (fun _ _ _ h => h) (Or.inl ⟨by rfl, ?hd5⟩) (by assumption) ?rd5
            case hd5 => (intro w0 hSw; (try dsimp only at hSw); go_simp; try (with_reducible rfl))
            simp only [Act.put, List.setIfInBounds_toArray, List.set_cons_zero, List.set_cons_succ]
            refine wpAnyH_take (i := 6) (oi := { dst := some 18, op := Op.indexAddr 32 (Operand.tmp 15) (Operand.tmp 17), type := 0, pos := "kindredref12.go:174", after := #[{ on := 3, ground := Ground.data }, { on := 5, ground := Ground.data }, { on := 2, ground := Ground.guard }], guard := some (2, true) }) (v := ?vd6) rfl (by kernel_rfl) (by kernel_rfl) (by kernel_rfl) (fun _ _ _ h => h) (Or.inl ⟨by rfl, ?hd6⟩) (by assumption) ?rd6
            case hd6 => (intro w0 hSw; (try dsimp only at hSw); go_simp; try (with_reducible rfl))
            simp only [Act.put, List.setIfInBounds_toArray, List.set_cons_zero, List.set_cons_succ]
            refine wpAnyH_take (i := 7) (oi := { dst := some 19, op := Op.fieldAddr 36 (Operand.tmp 18) 0, type := 0, pos := "kindredref12.go:174", after := #[{ on := 6, ground := Ground.data }, { on := 2, ground := Ground.guard }], guard := some (2, true) }) (v := ?vd7) rfl (by kernel_rfl) (by kernel_rfl) (by kernel_rfl) (fun _ _ _ h => h) (Or.inl ⟨by rfl, ?hd7⟩) (by assumption) ?rd7
            case hd7 => (intro w0 hSw; (try dsimp only at hSw); go_simp; try (with_reducible rfl))
            simp only [Act.put, List.setIfInBounds_toArray, List.set_cons_zero, List.set_cons_succ]
            refine wpAnyH_take (i := 8) (oi := { dst := some 20, op := Op.load 3 (Operand.tmp 19), type := 3, pos := "kindredref12.go:174", after := #[{ on := 7, ground := Ground.data }, { on := 2, ground := Ground.guard }], guard := some (2, true) }) (v := ?vd8) rfl (by kernel_rfl) (by kernel_rfl) (by kernel_rfl) (fun _ _ _ h => h) (Or.inl ⟨by rfl, ?hd8⟩) (by assumption) ?rd8
            case hd8 => (intro w0 hSw; (try dsimp only at hSw); go_simp; try (with_reducible rfl))
            simp only [Act.put, List.setIfInBounds_toArray, List.set_cons_zero, List.set_cons_succ]
            refine wpAnyH_take (i := 9) (oi := { dst := some 21, op := Op.fieldAddr 36 (Operand.tmp 3) 0, type := 0, pos := "kindredref12.go:174", after := #[{ on := 2, ground := Ground.guard }], guard := some (2, true) }) (v := ?vd9) rfl (by kernel_rfl) (by kernel_rfl) (by kernel_rfl) (fun _ _ _ h => h) (Or.inl ⟨by rfl, ?hd9⟩) (by assumption) ?rd9
            case hd9 => (intro w0 hSw; (try dsimp only at hSw); go_simp; try (with_reducible rfl))
            simp only [Act.put, List.setIfInBounds_toArray, List.set_cons_zero, List.set_cons_succ]
            refine wpAnyH_take (i := 10) (oi := { dst := some 22, op := Op.load 3 (Operand.tmp 21), type := 3, pos := "kindredref12.go:174", after := #[{ on := 9, ground := Ground.data }, { on := 2, ground := Ground.guard }], guard := some (2, true) }) (v := ?vd10) rfl (by kernel_rfl) (by kernel_rfl) (by kernel_rfl) (fun _ _ _ h => h) (Or.inl ⟨by rfl, ?hd10⟩) (by assumption) ?rd10
            case hd10 => (intro w0 hSw; (try dsimp only at hSw); go_simp; try (with_reducible rfl))
            simp only [Act.put, List.setIfInBounds_toArray, List.set_cons_zero, List.set_cons_succ]
            refine wpAnyH_take (i := 11) (oi := { dst := some 23, op := Op.binOp BinOp.gtr 3 (Operand.tmp 20) (Operand.tmp 22) 3, type := 4, pos := "kindredref12.go:174", after := #[{ on := 8, ground := Ground.data }, { on := 10, ground := Ground.data }, { on := 2, ground := Ground.guard }], guard := some (2, true) }) (v := ?vd11) rfl (by kernel_rfl) (by kernel_rfl) (by kernel_rfl) (fun _ _ _ h => h) (Or.inl ⟨by rfl, ?hd11⟩) (by assumption) ?rd11
            case hd11 => (intro w0 hSw; (try dsimp only at hSw); go_simp; try (with_reducible rfl))
            simp only [Act.put, List.setIfInBounds_toArray, List.set_cons_zero, List.set_cons_succ]
            refine wpAnyH_take (i := 12) (oi := { dst := some 24, op := Op.move (Operand.tmp 23), type := 4, pos := "kindredref12.go:174", after := #[{ on := 11, ground := Ground.data }, { on := 2, ground := Ground.chain }, { on := 2, ground := Ground.guard }], guard := some (2, true) }) (v := ?vd12) rfl (by kernel_rfl) (by kernel_rfl) (by kernel_rfl) (fun _ _ _ h => h) (Or.inl ⟨by rfl, ?hd12⟩) (by assumption) ?rd12
            case hd12 => (intro w0 hSw; (try dsimp only at hSw); go_simp; try (with_reducible rfl))
            simp only [Act.put, List.setIfInBounds_toArray, List.set_cons_zero, List.set_cons_succ]
            refine wpAnyH_take (i := 13) (oi := { dst := some 25, op := Op.move (Operand.tmp 0), type := 32, pos := "kindredref12.go:174", after := #[{ on := 12, ground := Ground.guard }], guard := some (12, false) }) (v := ?vd13) rfl (by kernel_rfl) (by kernel_rfl) (by kernel_rfl) (fun _ _ _ h => h) (Or.inl ⟨by rfl, ?hd13⟩) (by assumption) ?rd13
            case hd13 => (intro w0 hSw; (try dsimp only at hSw); go_simp; try (with_reducible rfl))
            simp only [Act.put, List.setIfInBounds_toArray, List.set_cons_zero, List.set_cons_succ]
            refine wpAnyH_take (i := 14) (oi := { dst := some 26, op := Op.move (Operand.tmp 5), type := 3, pos := "kindredref12.go:174", after := #[{ on := 12, ground := Ground.guard }], guard := some (12, false) }) (v := ?vd14) rfl (by kernel_rfl) (by kernel_rfl) (by kernel_rfl) (fun _ _ _ h => h) (Or.inl ⟨by rfl, ?hd14⟩) (by assumption) ?rd14
            case hd14 => (intro w0 hSw; (try dsimp only at hSw); go_simp; try (with_reducible rfl))
            simp only [Act.put, List.setIfInBounds_toArray, List.set_cons_zero, List.set_cons_succ]
            refine wpAnyH_take (i := 15) (oi := { dst := some 27, op := Op.binOp BinOp.sub 3 (Operand.tmp 26) (Operand.const (Value.int IntKind.i64 1)) 3, type := 3, pos := "kindredref12.go:174", after := #[{ on := 14, ground := Ground.data }, { on := 12, ground := Ground.guard }], guard := some (12, false) }) (v := ?vd15) rfl (by kernel_rfl) (by kernel_rfl) (by kernel_rfl) (fun _ _ _ h => h) (Or.inl ⟨by rfl, ?hd15⟩) (by assumption) ?rd15
            case hd15 => (intro w0 hSw; (try dsimp only at hSw); go_simp; try (with_reducible rfl))
            simp only [Act.put, List.setIfInBounds_toArray, List.set_cons_zero, List.set_cons_succ]
            refine wpAnyH_take (i := 16) (oi := { dst := some 28, op := Op.indexAddr 32 (Operand.tmp 25) (Operand.tmp 27), type := 0, pos := "kindredref12.go:174", after := #[{ on := 13, ground := Ground.data }, { on := 15, ground := Ground.data }, { on := 12, ground := Ground.guard }], guard := some (12, false) }) (v := ?vd16) rfl (by kernel_rfl) (by kernel_rfl) (by kernel_rfl) (fun _ _ _ h => h) (Or.inl ⟨by rfl, ?hd16⟩) (by assumption) ?rd16
            case hd16 => (intro w0 hSw; (try dsimp only at hSw); go_simp; try (with_reducible rfl))
            simp only [Act.put, List.setIfInBounds_toArray, List.set_cons_zero, List.set_cons_succ]
            refine wpAnyH_take (i := 17) (oi := { dst := some 29, op := Op.fieldAddr 36 (Operand.tmp 28) 0, type := 0, pos := "kindredref12.go:174", after := #[{ on := 16, ground := Ground.data }, { on := 12, ground := Ground.guard }], guard := some (12, false) }) (v := ?vd17) rfl (by kernel_rfl) (by kernel_rfl) (by kernel_rfl) (fun _ _ _ h => h) (Or.inl ⟨by rfl, ?hd17⟩) (by assumption) ?rd17
            case hd17 => (intro w0 hSw; (try dsimp only at hSw); go_simp; try (with_reducible rfl))
            simp only [Act.put, List.setIfInBounds_toArray, List.set_cons_zero, List.set_cons_succ]
            refine wpAnyH_take (i := 18) (oi := { dst := some 30, op := Op.load 3 (Operand.tmp 29), type := 3, pos := "kindredref12.go:174", after := #[{ on := 17, ground := Ground.data }, { on := 12, ground := Ground.guard }], guard := some (12, false) }) (v := ?vd18) rfl (by kernel_rfl) (by kernel_rfl) (by kernel_rfl) (fun _ _ _ h => h) (Or.inl ⟨by rfl, ?hd18⟩) (by assumption) ?rd18
            case hd18 => (intro w0 hSw; (try dsimp only at hSw); go_simp; try (with_reducible rfl))
            simp only [Act.put, List.setIfInBounds_toArray, List.set_cons_zero, List.set_cons_succ]
            refine wpAnyH_take (i := 19) (oi := { dst := some 31, op := Op.fieldAddr 36 (Operand.tmp 3) 0, type := 0, pos := "kindredref12.go:174", after := #[{ on := 12, ground := Ground.guard }], guard := some (12, false) }) (v := ?vd19) rfl (by kernel_rfl) (by kernel_rfl) (by kernel_rfl) (fun _ _ _ h => h) (Or.inl ⟨by rfl, ?hd19⟩) (by assumption) ?rd19
            case hd19 => (intro w0 hSw; (try dsimp only at hSw); go_simp; try (with_reducible rfl))
            simp only [Act.put, List.setIfInBounds_toArray, List.set_cons_zero, List.set_cons_succ]
            refine wpAnyH_take (i := 20) (oi := { dst := some 32, op := Op.load 3 (Operand.tmp 31), type := 3, pos := "kindredref12.go:174", after := #[{ on := 19, ground := Ground.data }, { on := 12, ground := Ground.guard }], guard := some (12, false) }) (v := ?vd20) rfl (by kernel_rfl) (by kernel_rfl) (by kernel_rfl) (fun _ _ _ h => h) (Or.inl ⟨by rfl, ?hd20⟩) (by assumption) ?rd20
            case hd20 => (intro w0 hSw; (try dsimp only at hSw); go_simp; try (with_reducible rfl))
            simp only [Act.put, List.setIfInBounds_toArray, List.set_cons_zero, List.set_cons_succ]
            refine wpAnyH_take (i := 21) (oi := { dst := some 33, op := Op.binOp BinOp.eql 3 (Operand.tmp 30) (Operand.tmp 32) 3, type := 4, pos := "kindredref12.go:174", after := #[{ on := 18, ground := Ground.data }, { on := 20, ground := Ground.data }, { on := 12, ground := Ground.guard }], guard := some (12, false) }) (v := ?vd21) rfl (by kernel_rfl) (by kernel_rfl) (by kernel_rfl) (fun _ _ _ h => h) (Or.inl ⟨by rfl, ?hd21⟩) (by assumption) ?rd21
            case hd21 => (intro w0 hSw; (try dsimp only at hSw); go_simp; try (with_reducible rfl))
            simp only [Act.put, List.setIfInBounds_toArray, List.set_cons_zero, List.set_cons_succ]
            refine wpAnyH_take (i := 22) (oi := { dst := some 34, op := Op.move (Operand.tmp 33), type := 4, pos := "kindredref12.go:174", after := #[{ on := 21, ground := Ground.data }, { on := 12, ground := Ground.chain }, { on := 12, ground := Ground.guard }], guard := some (12, false) }) (v := ?vd22) rfl (by kernel_rfl) (by kernel_rfl) (by kernel_rfl) (fun _ _ _ h => h) (Or.inl ⟨by rfl, ?hd22⟩) (by assumption) ?rd22
            case hd22 => (intro w0 hSw; (try dsimp only at hSw); go_simp; try (with_reducible rfl))
            simp only [Act.put, List.setIfInBounds_toArray, List.set_cons_zero, List.set_cons_succ]
            refine wpAnyH_take (i := 23) (oi := { dst := some 35, op := Op.move (Operand.tmp 0), type := 32, pos := "kindredref12.go:174", after := #[{ on := 22, ground := Ground.guard }], guard := some (22, true) }) (v := ?vd23) rfl (by kernel_rfl) (by kernel_rfl) (by kernel_rfl) (fun _ _ _ h => h) (Or.inl ⟨by rfl, ?hd23⟩) (by assumption) ?rd23
            case hd23 => (intro w0 hSw; (try dsimp only at hSw); go_simp; try (with_reducible rfl))
            simp only [Act.put, List.setIfInBounds_toArray, List.set_cons_zero, List.set_cons_succ]
            refine wpAnyH_take (i := 24) (oi := { dst := some 36, op := Op.move (Operand.tmp 5), type := 3, pos := "kindredref12.go:174", after := #[{ on := 22, ground := Ground.guard }], guard := some (22, true) }) (v := ?vd24) rfl (by kernel_rfl) (by kernel_rfl) (by kernel_rfl) (fun _ _ _ h => h) (Or.inl ⟨by rfl, ?hd24⟩) (by assumption) ?rd24
            case hd24 => (intro w0 hSw; (try dsimp only at hSw); go_simp; try (with_reducible rfl))
            simp only [Act.put, List.setIfInBounds_toArray, List.set_cons_zero, List.set_cons_succ]
            refine wpAnyH_take (i := 25) (oi := { dst := some 37, op := Op.binOp BinOp.sub 3 (Operand.tmp 36) (Operand.const (Value.int IntKind.i64 1)) 3, type := 3, pos := "kindredref12.go:174", after := #[{ on := 24, ground := Ground.data }, { on := 22, ground := Ground.guard }], guard := some (22, true) }) (v := ?vd25) rfl (by kernel_rfl) (by kernel_rfl) (by kernel_rfl) (fun _ _ _ h => h) (Or.inl ⟨by rfl, ?hd25⟩) (by assumption) ?rd25
            case hd25 => (intro w0 hSw; (try dsimp only at hSw); go_simp; try (with_reducible rfl))
            simp only [Act.put, List.setIfInBounds_toArray, List.set_cons_zero, List.set_cons_succ]
            refine wpAnyH_take (i := 26) (oi := { dst := some 38, op := Op.indexAddr 32 (Operand.tmp 35) (Operand.tmp 37), type := 0, pos := "kindredref12.go:174", after := #[{ on := 23, ground := Ground.data }, { on := 25, ground := Ground.data }, { on := 22, ground := Ground.guard }], guard := some (22, true) }) (v := ?vd26) rfl (by kernel_rfl) (by kernel_rfl) (by kernel_rfl) (fun _ _ _ h => h) (Or.inl ⟨by rfl, ?hd26⟩) (by assumption) ?rd26
            case hd26 => (intro w0 hSw; (try dsimp only at hSw); go_simp; try (with_reducible rfl))
            simp only [Act.put, List.setIfInBounds_toArray, List.set_cons_zero, List.set_cons_succ]
            refine wpAnyH_take (i := 27) (oi := { dst := some 39, op := Op.fieldAddr 36 (Operand.tmp 38) 2, type := 0, pos := "kindredref12.go:174", after := #[{ on := 26, ground := Ground.data }, { on := 22, ground := Ground.guard }], guard := some (22, true) }) (v := ?vd27) rfl (by kernel_rfl) (by kernel_rfl) (by kernel_rfl) (fun _ _ _ h => h) (Or.inl ⟨by rfl, ?hd27⟩) (by assumption) ?rd27
            case hd27 => (intro w0 hSw; (try dsimp only at hSw); go_simp; try (with_reducible rfl))
            simp only [Act.put, List.setIfInBounds_toArray, List.set_cons_zero, List.set_cons_succ]
            refine wpAnyH_take (i := 28) (oi := { dst := some 40, op := Op.load 9 (Operand.tmp 39), type := 9, pos := "kindredref12.go:174", after := #[{ on := 27, ground := Ground.data }, { on := 22, ground := Ground.guard }], guard := some (22, true) }) (v := ?vd28) rfl (by kernel_rfl) (by kernel_rfl) (by kernel_rfl) (fun _ _ _ h => h) (Or.inl ⟨by rfl, ?hd28⟩) (by assumption) ?rd28
            case hd28 => (intro w0 hSw; (try dsimp only at hSw); go_simp; try (with_reducible rfl))
            simp only [Act.put, List.setIfInBounds_toArray, List.set_cons_zero, List.set_cons_succ]
            refine wpAnyH_take (i := 29) (oi := { dst := some 41, op := Op.fieldAddr 36 (Operand.tmp 3) 2, type := 0, pos := "kindredref12.go:174", after := #[{ on := 22, ground := Ground.guard }], guard := some (22, true) }) (v := ?vd29) rfl (by kernel_rfl) (by kernel_rfl) (by kernel_rfl) (fun _ _ _ h => h) (Or.inl ⟨by rfl, ?hd29⟩) (by assumption) ?rd29
            case hd29 => (intro w0 hSw; (try dsimp only at hSw); go_simp; try (with_reducible rfl))
            simp only [Act.put, List.setIfInBounds_toArray, List.set_cons_zero, List.set_cons_succ]
            refine wpAnyH_take (i := 30) (oi := { dst := some 42, op := Op.load 9 (Operand.tmp 41), type := 9, pos := "kindredref12.go:174", after := #[{ on := 29, ground := Ground.data }, { on := 22, ground := Ground.guard }], guard := some (22, true) }) (v := ?vd30) rfl (by kernel_rfl) (by kernel_rfl) (by kernel_rfl) (fun _ _ _ h => h) (Or.inl ⟨by rfl, ?hd30⟩) (by assumption) ?rd30
            case hd30 => (intro w0 hSw; (try dsimp only at hSw); go_simp; try (with_reducible rfl))
            simp only [Act.put, List.setIfInBounds_toArray, List.set_cons_zero, List.set_cons_succ]
            refine wpAnyH_take (i := 31) (oi := { dst := some 43, op := Op.binOp BinOp.gtr 9 (Operand.tmp 40) (Operand.tmp 42) 9, type := 4, pos := "kindredref12.go:174", after := #[{ on := 28, ground := Ground.data }, { on := 30, ground := Ground.data }, { on := 22, ground := Ground.guard }], guard := some (22, true) }) (v := ?vd31) rfl (by kernel_rfl) (by kernel_rfl) (by kernel_rfl) (fun _ _ _ h => h) (Or.inl ⟨by rfl, ?hd31⟩) (by assumption) ?rd31
            case hd31 => (intro w0 hSw; (try dsimp only at hSw); go_simp; try (with_reducible rfl))
            simp only [Act.put, List.setIfInBounds_toArray, List.set_cons_zero, List.set_cons_succ]
            refine wpAnyH_take (i := 32) (oi := { dst := some 44, op := Op.pick (Operand.tmp 34) (Operand.tmp 43) (Operand.const (Value.bool false)), type := 4, pos := "kindredref12.go:174", after := #[{ on := 22, ground := Ground.data }, { on := 31, ground := Ground.data }, { on := 12, ground := Ground.guard }], guard := some (12, false) }) (v := ?vd32) rfl (by kernel_rfl) (by kernel_rfl) (by kernel_rfl) (fun _ _ _ h => h) (Or.inl ⟨by rfl, ?hd32⟩) (by assumption) ?rd32
            case hd32 => (intro w0 hSw; (try dsimp only at hSw); go_simp; try (with_reducible rfl))
            simp only [Act.put, List.setIfInBounds_toArray, List.set_cons_zero, List.set_cons_succ]
            refine wpAnyH_take (i := 33) (oi := { dst := some 45, op := Op.pick (Operand.tmp 24) (Operand.const (Value.bool true)) (Operand.tmp 44), type := 4, pos := "kindredref12.go:174", after := #[{ on := 12, ground := Ground.data }, { on := 32, ground := Ground.data }, { on := 2, ground := Ground.guard }], guard := some (2, true) }) (v := ?vd33) rfl (by kernel_rfl) (by kernel_rfl) (by kernel_rfl) (fun _ _ _ h => h) (Or.inl ⟨by rfl, ?hd33⟩) (by assumption) ?rd33
            case hd33 => (intro w0 hSw; (try dsimp only at hSw); go_simp; try (with_reducible rfl))
            simp only [Act.put, List.setIfInBounds_toArray, List.set_cons_zero, List.set_cons_succ]
            refine wpAnyH_take (i := 34) (oi := { dst := some 46, op := Op.pick (Operand.tmp 14) (Operand.tmp 45) (Operand.const (Value.bool false)), type := 4, pos := "kindredref12.go:174", after := #[{ on := 2, ground := Ground.data }, { on := 33, ground := Ground.data }], guard := none }) (v := ?vd34) rfl (by kernel_rfl) (by kernel_rfl) (by kernel_rfl) (fun _ _ _ h => h) (Or.inl ⟨by rfl, ?hd34⟩) (by assumption) ?rd34
            case hd34 => (intro w0 hSw; (try dsimp only at hSw); go_simp; try (with_reducible rfl))
            simp only [Act.put, List.setIfInBounds_toArray, List.set_cons_zero, List.set_cons_succ]
            refine wpAnyH_done (by kernel_rfl) ?_ _
            obtain ⟨wz, hwz⟩ : ∃ wz, wz = wr.drew := ⟨_, rfl⟩
            rw [← hwz]
            have HZ := Hid.mk (show PCH B W wz g3 c3 hb (y1, x) L k from by rw [hwz]; exact HK.out.drew)
            obtain ⟨u0, u1, u2, z0, z1, z2, zf, -⟩ := HZ.out.hole (by have := HL.out.1; omega)
            have zf0 := zf (k * 3)
            have zf1 := zf (k * 3 + 1)
            have zf2 := zf (k * 3 + 2)
            obtain ⟨cz0, cz1, cz2⟩ := HZ.out.box
            clear hwz zf HK bx0 bx1 bx2 p0 p1 p2
            go_wp2_with fail
            go_ret
            have hfin := PCH.fill HX.out.2.1 HZ.out HL.out.2.2.1 HL.out.2.1 (by have := HL.out.1; omega) hdr HLo.out
            rw [← HL.out.1] at hfin
            exact hfin
        · have e1 : ((y1 : Int) == (d : Int)) = false := by simp; omega
          have e2 : (y1 == d) = false := by simp; omega
          have HLo := Hid.mk (show ∀ j (hj : j < L.length), j < k → hlt L[j] (d, x) from fun j hj h => (HY.out.2.2.2.1 j hj h).resolve_right (fun hn => hn (.inl (by show y.1 < d; rw [← HYY.out.1]; omega))))
          clear hgt heq
          go_wp2_with fail
          refine wp_region_held_drew (S := fun w' => w'.cell? ⟨g3, m * 3, none⟩ = some (.int .i64 (y1 : Nat)) ∧ w'.cell? ⟨g3, m * 3 + 2, none⟩ = some (.string ys) ∧ w'.cell? ⟨hb, 0, none⟩ = some (.int .i64 (d : Nat)) ∧ w'.cell? ⟨hb, 2, none⟩ = some (.string x.1)) (by kernel_rfl) ?_ (fun hHeld => ?_)
          · exact ⟨p0, p2, bx0, bx2⟩
          refine wpAnyH_take (i := 0) (oi := { dst := some 12, op := Op.move (Operand.tmp 5), type := 3, pos := "kindredref12.go:174", after := #[], guard := none }) (v := ?ve0) rfl (by kernel_rfl) (by kernel_rfl) (by kernel_rfl) (fun _ _ _ h => h) (Or.inl ⟨by rfl, ?he0⟩) (by assumption) ?re0
          case he0 => (intro w0 hSw; (try dsimp only at hSw); go_simp; try (with_reducible rfl))
          simp only [Act.put, List.setIfInBounds_toArray, List.set_cons_zero, List.set_cons_succ]
          refine wpAnyH_take (i := 1) (oi := { dst := some 13, op := Op.binOp BinOp.gtr 3 (Operand.tmp 12) (Operand.const (Value.int IntKind.i64 0)) 3, type := 4, pos := "kindredref12.go:174", after := #[{ on := 0, ground := Ground.data }], guard := none }) (v := ?ve1) rfl (by kernel_rfl) (by kernel_rfl) (by kernel_rfl) (fun _ _ _ h => h) (Or.inl ⟨by rfl, ?he1⟩) (by assumption) ?re1
          case he1 => (intro w0 hSw; (try dsimp only at hSw); go_simp; try (with_reducible rfl))
          simp only [Act.put, List.setIfInBounds_toArray, List.set_cons_zero, List.set_cons_succ]
          refine wpAnyH_take (i := 2) (oi := { dst := some 14, op := Op.move (Operand.tmp 13), type := 4, pos := "kindredref12.go:174", after := #[{ on := 1, ground := Ground.data }], guard := none }) (v := ?ve2) rfl (by kernel_rfl) (by kernel_rfl) (by kernel_rfl) (fun _ _ _ h => h) (Or.inl ⟨by rfl, ?he2⟩) (by assumption) ?re2
          case he2 => (intro w0 hSw; (try dsimp only at hSw); go_simp; try (with_reducible rfl))
          simp only [Act.put, List.setIfInBounds_toArray, List.set_cons_zero, List.set_cons_succ]
          refine wpAnyH_take (i := 3) (oi := { dst := some 15, op := Op.move (Operand.tmp 0), type := 32, pos := "kindredref12.go:174", after := #[{ on := 2, ground := Ground.guard }], guard := some (2, true) }) (v := ?ve3) rfl (by kernel_rfl) (by kernel_rfl) (by kernel_rfl) (fun _ _ _ h => h) (Or.inl ⟨by rfl, ?he3⟩) (by assumption) ?re3
          case he3 => (intro w0 hSw; (try dsimp only at hSw); go_simp; try (with_reducible rfl))
          simp only [Act.put, List.setIfInBounds_toArray, List.set_cons_zero, List.set_cons_succ]
          refine wpAnyH_take (i := 4) (oi := { dst := some 16, op := Op.move (Operand.tmp 5), type := 3, pos := "kindredref12.go:174", after := #[{ on := 2, ground := Ground.guard }], guard := some (2, true) }) (v := ?ve4) rfl (by kernel_rfl) (by kernel_rfl) (by kernel_rfl) (fun _ _ _ h => h) (Or.inl ⟨by rfl, ?he4⟩) (by assumption) ?re4
          case he4 => (intro w0 hSw; (try dsimp only at hSw); go_simp; try (with_reducible rfl))
          simp only [Act.put, List.setIfInBounds_toArray, List.set_cons_zero, List.set_cons_succ]
          refine wpAnyH_take (i := 5) (oi := { dst := some 17, op := Op.binOp BinOp.sub 3 (Operand.tmp 16) (Operand.const (Value.int IntKind.i64 1)) 3, type := 3, pos := "kindredref12.go:174", after := #[{ on := 4, ground := Ground.data }, { on := 2, ground := Ground.guard }], guard := some (2, true) }) (v := ?ve5) rfl (by kernel_rfl) (by kernel_rfl) (by kernel_rfl) (fun _ _ _ h => h) (Or.inl ⟨by rfl, ?he5⟩) (by assumption) ?re5
          case he5 => (intro w0 hSw; (try dsimp only at hSw); go_simp; try (with_reducible rfl))
          simp only [Act.put, List.setIfInBounds_toArray, List.set_cons_zero, List.set_cons_succ]
          refine wpAnyH_take (i := 6) (oi := { dst := some 18, op := Op.indexAddr 32 (Operand.tmp 15) (Operand.tmp 17), type := 0, pos := "kindredref12.go:174", after := #[{ on := 3, ground := Ground.data }, { on := 5, ground := Ground.data }, { on := 2, ground := Ground.guard }], guard := some (2, true) }) (v := ?ve6) rfl (by kernel_rfl) (by kernel_rfl) (by kernel_rfl) (fun _ _ _ h => h) (Or.inl ⟨by rfl, ?he6⟩) (by assumption) ?re6
          case he6 => (intro w0 hSw; (try dsimp only at hSw); go_simp; try (with_reducible rfl))
          simp only [Act.put, List.setIfInBounds_toArray, List.set_cons_zero, List.set_cons_succ]
          refine wpAnyH_take (i := 7) (oi := { dst := some 19, op := Op.fieldAddr 36 (Operand.tmp 18) 0, type := 0, pos := "kindredref12.go:174", after := #[{ on := 6, ground := Ground.data }, { on := 2, ground := Ground.guard }], guard := some (2, true) }) (v := ?ve7) rfl (by kernel_rfl) (by kernel_rfl) (by kernel_rfl) (fun _ _ _ h => h) (Or.inl ⟨by rfl, ?he7⟩) (by assumption) ?re7
          case he7 => (intro w0 hSw; (try dsimp only at hSw); go_simp; try (with_reducible rfl))
          simp only [Act.put, List.setIfInBounds_toArray, List.set_cons_zero, List.set_cons_succ]
          refine wpAnyH_take (i := 8) (oi := { dst := some 20, op := Op.load 3 (Operand.tmp 19), type := 3, pos := "kindredref12.go:174", after := #[{ on := 7, ground := Ground.data }, { on := 2, ground := Ground.guard }], guard := some (2, true) }) (v := ?ve8) rfl (by kernel_rfl) (by kernel_rfl) (by kernel_rfl) (fun _ _ _ h => h) (Or.inl ⟨by rfl, ?he8⟩) (by assumption) ?re8
          case he8 => (intro w0 hSw; (try dsimp only at hSw); go_simp; try (with_reducible rfl))
          simp only [Act.put, List.setIfInBounds_toArray, List.set_cons_zero, List.set_cons_succ]
          refine wpAnyH_take (i := 9) (oi := { dst := some 21, op := Op.fieldAddr 36 (Operand.tmp 3) 0, type := 0, pos := "kindredref12.go:174", after := #[{ on := 2, ground := Ground.guard }], guard := some (2, true) }) (v := ?ve9) rfl (by kernel_rfl) (by kernel_rfl) (by kernel_rfl) (fun _ _ _ h => h) (Or.inl ⟨by rfl, ?he9⟩) (by assumption) ?re9
          case he9 => (intro w0 hSw; (try dsimp only at hSw); go_simp; try (with_reducible rfl))
          simp only [Act.put, List.setIfInBounds_toArray, List.set_cons_zero, List.set_cons_succ]
          refine wpAnyH_take (i := 10) (oi := { dst := some 22, op := Op.load 3 (Operand.tmp 21), type := 3, pos := "kindredref12.go:174", after := #[{ on := 9, ground := Ground.data }, { on := 2, ground := Ground.guard }], guard := some (2, true) }) (v := ?ve10) rfl (by kernel_rfl) (by kernel_rfl) (by kernel_rfl) (fun _ _ _ h => h) (Or.inl ⟨by rfl, ?he10⟩) (by assumption) ?re10
          case he10 => (intro w0 hSw; (try dsimp only at hSw); go_simp; try (with_reducible rfl))
          simp only [Act.put, List.setIfInBounds_toArray, List.set_cons_zero, List.set_cons_succ]
          refine wpAnyH_take (i := 11) (oi := { dst := some 23, op := Op.binOp BinOp.gtr 3 (Operand.tmp 20) (Operand.tmp 22) 3, type := 4, pos := "kindredref12.go:174", after := #[{ on := 8, ground := Ground.data }, { on := 10, ground := Ground.data }, { on := 2, ground := Ground.guard }], guard := some (2, true) }) (v := ?ve11) rfl (by kernel_rfl) (by kernel_rfl) (by kernel_rfl) (fun _ _ _ h => h) (Or.inl ⟨by rfl, ?he11⟩) (by assumption) ?re11
          case he11 => (intro w0 hSw; (try dsimp only at hSw); go_simp; try (with_reducible rfl))
          simp only [Act.put, List.setIfInBounds_toArray, List.set_cons_zero, List.set_cons_succ]
          refine wpAnyH_take (i := 12) (oi := { dst := some 24, op := Op.move (Operand.tmp 23), type := 4, pos := "kindredref12.go:174", after := #[{ on := 11, ground := Ground.data }, { on := 2, ground := Ground.chain }, { on := 2, ground := Ground.guard }], guard := some (2, true) }) (v := ?ve12) rfl (by kernel_rfl) (by kernel_rfl) (by kernel_rfl) (fun _ _ _ h => h) (Or.inl ⟨by rfl, ?he12⟩) (by assumption) ?re12
          case he12 => (intro w0 hSw; (try dsimp only at hSw); go_simp; try (with_reducible rfl))
          simp only [Act.put, List.setIfInBounds_toArray, List.set_cons_zero, List.set_cons_succ]
          refine wpAnyH_take (i := 13) (oi := { dst := some 25, op := Op.move (Operand.tmp 0), type := 32, pos := "kindredref12.go:174", after := #[{ on := 12, ground := Ground.guard }], guard := some (12, false) }) (v := ?ve13) rfl (by kernel_rfl) (by kernel_rfl) (by kernel_rfl) (fun _ _ _ h => h) (Or.inl ⟨by rfl, ?he13⟩) (by assumption) ?re13
          case he13 => (intro w0 hSw; (try dsimp only at hSw); go_simp; try (with_reducible rfl))
          simp only [Act.put, List.setIfInBounds_toArray, List.set_cons_zero, List.set_cons_succ]
          refine wpAnyH_take (i := 14) (oi := { dst := some 26, op := Op.move (Operand.tmp 5), type := 3, pos := "kindredref12.go:174", after := #[{ on := 12, ground := Ground.guard }], guard := some (12, false) }) (v := ?ve14) rfl (by kernel_rfl) (by kernel_rfl) (by kernel_rfl) (fun _ _ _ h => h) (Or.inl ⟨by rfl, ?he14⟩) (by assumption) ?re14
          case he14 => (intro w0 hSw; (try dsimp only at hSw); go_simp; try (with_reducible rfl))
          simp only [Act.put, List.setIfInBounds_toArray, List.set_cons_zero, List.set_cons_succ]
          refine wpAnyH_take (i := 15) (oi := { dst := some 27, op := Op.binOp BinOp.sub 3 (Operand.tmp 26) (Operand.const (Value.int IntKind.i64 1)) 3, type := 3, pos := "kindredref12.go:174", after := #[{ on := 14, ground := Ground.data }, { on := 12, ground := Ground.guard }], guard := some (12, false) }) (v := ?ve15) rfl (by kernel_rfl) (by kernel_rfl) (by kernel_rfl) (fun _ _ _ h => h) (Or.inl ⟨by rfl, ?he15⟩) (by assumption) ?re15
          case he15 => (intro w0 hSw; (try dsimp only at hSw); go_simp; try (with_reducible rfl))
          simp only [Act.put, List.setIfInBounds_toArray, List.set_cons_zero, List.set_cons_succ]
          refine wpAnyH_take (i := 16) (oi := { dst := some 28, op := Op.indexAddr 32 (Operand.tmp 25) (Operand.tmp 27), type := 0, pos := "kindredref12.go:174", after := #[{ on := 13, ground := Ground.data }, { on := 15, ground := Ground.data }, { on := 12, ground := Ground.guard }], guard := some (12, false) }) (v := ?ve16) rfl (by kernel_rfl) (by kernel_rfl) (by kernel_rfl) (fun _ _ _ h => h) (Or.inl ⟨by rfl, ?he16⟩) (by assumption) ?re16
          case he16 => (intro w0 hSw; (try dsimp only at hSw); go_simp; try (with_reducible rfl))
          simp only [Act.put, List.setIfInBounds_toArray, List.set_cons_zero, List.set_cons_succ]
          refine wpAnyH_take (i := 17) (oi := { dst := some 29, op := Op.fieldAddr 36 (Operand.tmp 28) 0, type := 0, pos := "kindredref12.go:174", after := #[{ on := 16, ground := Ground.data }, { on := 12, ground := Ground.guard }], guard := some (12, false) }) (v := ?ve17) rfl (by kernel_rfl) (by kernel_rfl) (by kernel_rfl) (fun _ _ _ h => h) (Or.inl ⟨by rfl, ?he17⟩) (by assumption) ?re17
          case he17 => (intro w0 hSw; (try dsimp only at hSw); go_simp; try (with_reducible rfl))
          simp only [Act.put, List.setIfInBounds_toArray, List.set_cons_zero, List.set_cons_succ]
          refine wpAnyH_take (i := 18) (oi := { dst := some 30, op := Op.load 3 (Operand.tmp 29), type := 3, pos := "kindredref12.go:174", after := #[{ on := 17, ground := Ground.data }, { on := 12, ground := Ground.guard }], guard := some (12, false) }) (v := ?ve18) rfl (by kernel_rfl) (by kernel_rfl) (by kernel_rfl) (fun _ _ _ h => h) (Or.inl ⟨by rfl, ?he18⟩) (by assumption) ?re18
          case he18 => (intro w0 hSw; (try dsimp only at hSw); go_simp; try (with_reducible rfl))
          simp only [Act.put, List.setIfInBounds_toArray, List.set_cons_zero, List.set_cons_succ]
          refine wpAnyH_take (i := 19) (oi := { dst := some 31, op := Op.fieldAddr 36 (Operand.tmp 3) 0, type := 0, pos := "kindredref12.go:174", after := #[{ on := 12, ground := Ground.guard }], guard := some (12, false) }) (v := ?ve19) rfl (by kernel_rfl) (by kernel_rfl) (by kernel_rfl) (fun _ _ _ h => h) (Or.inl ⟨by rfl, ?he19⟩) (by assumption) ?re19
          case he19 => (intro w0 hSw; (try dsimp only at hSw); go_simp; try (with_reducible rfl))
          simp only [Act.put, List.setIfInBounds_toArray, List.set_cons_zero, List.set_cons_succ]
          refine wpAnyH_take (i := 20) (oi := { dst := some 32, op := Op.load 3 (Operand.tmp 31), type := 3, pos := "kindredref12.go:174", after := #[{ on := 19, ground := Ground.data }, { on := 12, ground := Ground.guard }], guard := some (12, false) }) (v := ?ve20) rfl (by kernel_rfl) (by kernel_rfl) (by kernel_rfl) (fun _ _ _ h => h) (Or.inl ⟨by rfl, ?he20⟩) (by assumption) ?re20
          case he20 => (intro w0 hSw; (try dsimp only at hSw); go_simp; try (with_reducible rfl))
          simp only [Act.put, List.setIfInBounds_toArray, List.set_cons_zero, List.set_cons_succ]
          refine wpAnyH_take (i := 21) (oi := { dst := some 33, op := Op.binOp BinOp.eql 3 (Operand.tmp 30) (Operand.tmp 32) 3, type := 4, pos := "kindredref12.go:174", after := #[{ on := 18, ground := Ground.data }, { on := 20, ground := Ground.data }, { on := 12, ground := Ground.guard }], guard := some (12, false) }) (v := ?ve21) rfl (by kernel_rfl) (by kernel_rfl) (by kernel_rfl) (fun _ _ _ h => h) (Or.inl ⟨by rfl, ?he21⟩) (by assumption) ?re21
          case he21 => (intro w0 hSw; (try dsimp only at hSw); go_simp; try (with_reducible rfl))
          simp only [Act.put, List.setIfInBounds_toArray, List.set_cons_zero, List.set_cons_succ]
          refine wpAnyH_take (i := 22) (oi := { dst := some 34, op := Op.move (Operand.tmp 33), type := 4, pos := "kindredref12.go:174", after := #[{ on := 21, ground := Ground.data }, { on := 12, ground := Ground.chain }, { on := 12, ground := Ground.guard }], guard := some (12, false) }) (v := ?ve22) rfl (by kernel_rfl) (by kernel_rfl) (by kernel_rfl) (fun _ _ _ h => h) (Or.inl ⟨by rfl, ?he22⟩) (by assumption) ?re22
          case he22 => (intro w0 hSw; (try dsimp only at hSw); go_simp; try (with_reducible rfl))
          simp only [Act.put, List.setIfInBounds_toArray, List.set_cons_zero, List.set_cons_succ]
          refine wpAnyH_take (i := 23) (oi := { dst := some 35, op := Op.move (Operand.tmp 0), type := 32, pos := "kindredref12.go:174", after := #[{ on := 22, ground := Ground.guard }], guard := some (22, true) }) rfl (by kernel_rfl) (by kernel_rfl) (by kernel_rfl) (fun _ _ _ h => h) (Or.inr ⟨by rfl, rfl⟩) (by assumption) ?_
          simp only [Act.put, List.setIfInBounds_toArray, List.set_cons_zero, List.set_cons_succ]
          refine wpAnyH_take (i := 24) (oi := { dst := some 36, op := Op.move (Operand.tmp 5), type := 3, pos := "kindredref12.go:174", after := #[{ on := 22, ground := Ground.guard }], guard := some (22, true) }) rfl (by kernel_rfl) (by kernel_rfl) (by kernel_rfl) (fun _ _ _ h => h) (Or.inr ⟨by rfl, rfl⟩) (by assumption) ?_
          simp only [Act.put, List.setIfInBounds_toArray, List.set_cons_zero, List.set_cons_succ]
          refine wpAnyH_take (i := 25) (oi := { dst := some 37, op := Op.binOp BinOp.sub 3 (Operand.tmp 36) (Operand.const (Value.int IntKind.i64 1)) 3, type := 3, pos := "kindredref12.go:174", after := #[{ on := 24, ground := Ground.data }, { on := 22, ground := Ground.guard }], guard := some (22, true) }) rfl (by kernel_rfl) (by kernel_rfl) (by kernel_rfl) (fun _ _ _ h => h) (Or.inr ⟨by rfl, rfl⟩) (by assumption) ?_
          simp only [Act.put, List.setIfInBounds_toArray, List.set_cons_zero, List.set_cons_succ]
          refine wpAnyH_take (i := 26) (oi := { dst := some 38, op := Op.indexAddr 32 (Operand.tmp 35) (Operand.tmp 37), type := 0, pos := "kindredref12.go:174", after := #[{ on := 23, ground := Ground.data }, { on := 25, ground := Ground.data }, { on := 22, ground := Ground.guard }], guard := some (22, true) }) rfl (by kernel_rfl) (by kernel_rfl) (by kernel_rfl) (fun _ _ _ h => h) (Or.inr ⟨by rfl, rfl⟩) (by assumption) ?_
          simp only [Act.put, List.setIfInBounds_toArray, List.set_cons_zero, List.set_cons_succ]
          refine wpAnyH_take (i := 27) (oi := { dst := some 39, op := Op.fieldAddr 36 (Operand.tmp 38) 2, type := 0, pos := "kindredref12.go:174", after := #[{ on := 26, ground := Ground.data }, { on := 22, ground := Ground.guard }], guard := some (22, true) }) rfl (by kernel_rfl) (by kernel_rfl) (by kernel_rfl) (fun _ _ _ h => h) (Or.inr ⟨by rfl, rfl⟩) (by assumption) ?_
          simp only [Act.put, List.setIfInBounds_toArray, List.set_cons_zero, List.set_cons_succ]
          refine wpAnyH_take (i := 28) (oi := { dst := some 40, op := Op.load 9 (Operand.tmp 39), type := 9, pos := "kindredref12.go:174", after := #[{ on := 27, ground := Ground.data }, { on := 22, ground := Ground.guard }], guard := some (22, true) }) rfl (by kernel_rfl) (by kernel_rfl) (by kernel_rfl) (fun _ _ _ h => h) (Or.inr ⟨by rfl, rfl⟩) (by assumption) ?_
          simp only [Act.put, List.setIfInBounds_toArray, List.set_cons_zero, List.set_cons_succ]
          refine wpAnyH_take (i := 29) (oi := { dst := some 41, op := Op.fieldAddr 36 (Operand.tmp 3) 2, type := 0, pos := "kindredref12.go:174", after := #[{ on := 22, ground := Ground.guard }], guard := some (22, true) }) rfl (by kernel_rfl) (by kernel_rfl) (by kernel_rfl) (fun _ _ _ h => h) (Or.inr ⟨by rfl, rfl⟩) (by assumption) ?_
          simp only [Act.put, List.setIfInBounds_toArray, List.set_cons_zero, List.set_cons_succ]
          refine wpAnyH_take (i := 30) (oi := { dst := some 42, op := Op.load 9 (Operand.tmp 41), type := 9, pos := "kindredref12.go:174", after := #[{ on := 29, ground := Ground.data }, { on := 22, ground := Ground.guard }], guard := some (22, true) }) rfl (by kernel_rfl) (by kernel_rfl) (by kernel_rfl) (fun _ _ _ h => h) (Or.inr ⟨by rfl, rfl⟩) (by assumption) ?_
          simp only [Act.put, List.setIfInBounds_toArray, List.set_cons_zero, List.set_cons_succ]
          refine wpAnyH_take (i := 31) (oi := { dst := some 43, op := Op.binOp BinOp.gtr 9 (Operand.tmp 40) (Operand.tmp 42) 9, type := 4, pos := "kindredref12.go:174", after := #[{ on := 28, ground := Ground.data }, { on := 30, ground := Ground.data }, { on := 22, ground := Ground.guard }], guard := some (22, true) }) rfl (by kernel_rfl) (by kernel_rfl) (by kernel_rfl) (fun _ _ _ h => h) (Or.inr ⟨by rfl, rfl⟩) (by assumption) ?_
          simp only [Act.put, List.setIfInBounds_toArray, List.set_cons_zero, List.set_cons_succ]
          refine wpAnyH_take (i := 32) (oi := { dst := some 44, op := Op.pick (Operand.tmp 34) (Operand.tmp 43) (Operand.const (Value.bool false)), type := 4, pos := "kindredref12.go:174", after := #[{ on := 22, ground := Ground.data }, { on := 31, ground := Ground.data }, { on := 12, ground := Ground.guard }], guard := some (12, false) }) (v := ?ve32) rfl (by kernel_rfl) (by kernel_rfl) (by kernel_rfl) (fun _ _ _ h => h) (Or.inl ⟨by rfl, ?he32⟩) (by assumption) ?re32
          case he32 => (intro w0 hSw; (try dsimp only at hSw); go_simp; try (with_reducible rfl))
          simp only [Act.put, List.setIfInBounds_toArray, List.set_cons_zero, List.set_cons_succ]
          refine wpAnyH_take (i := 33) (oi := { dst := some 45, op := Op.pick (Operand.tmp 24) (Operand.const (Value.bool true)) (Operand.tmp 44), type := 4, pos := "kindredref12.go:174", after := #[{ on := 12, ground := Ground.data }, { on := 32, ground := Ground.data }, { on := 2, ground := Ground.guard }], guard := some (2, true) }) (v := ?ve33) rfl (by kernel_rfl) (by kernel_rfl) (by kernel_rfl) (fun _ _ _ h => h) (Or.inl ⟨by rfl, ?he33⟩) (by assumption) ?re33
          case he33 => (intro w0 hSw; (try dsimp only at hSw); go_simp; try (with_reducible rfl))
          simp only [Act.put, List.setIfInBounds_toArray, List.set_cons_zero, List.set_cons_succ]
          refine wpAnyH_take (i := 34) (oi := { dst := some 46, op := Op.pick (Operand.tmp 14) (Operand.tmp 45) (Operand.const (Value.bool false)), type := 4, pos := "kindredref12.go:174", after := #[{ on := 2, ground := Ground.data }, { on := 33, ground := Ground.data }], guard := none }) (v := ?ve34) rfl (by kernel_rfl) (by kernel_rfl) (by kernel_rfl) (fun _ _ _ h => h) (Or.inl ⟨by rfl, ?he34⟩) (by assumption) ?re34
          case he34 => (intro w0 hSw; (try dsimp only at hSw); go_simp; try (with_reducible rfl))
          simp only [Act.put, List.setIfInBounds_toArray, List.set_cons_zero, List.set_cons_succ]
          refine wpAnyH_done (by kernel_rfl) ?_ _
          obtain ⟨wz, hwz⟩ : ∃ wz, wz = wr.drew := ⟨_, rfl⟩
          rw [← hwz]
          have HZ := Hid.mk (show PCH B W wz g3 c3 hb (d, x) L k from by rw [hwz]; exact HK.out.drew)
          obtain ⟨u0, u1, u2, z0, z1, z2, zf, -⟩ := HZ.out.hole (by have := HL.out.1; omega)
          have zf0 := zf (k * 3)
          have zf1 := zf (k * 3 + 1)
          have zf2 := zf (k * 3 + 2)
          obtain ⟨cz0, cz1, cz2⟩ := HZ.out.box
          clear hwz zf HK bx0 bx1 bx2 p0 p1 p2
          go_wp2_with fail
          go_ret
          have hfin := PCH.fill HX.out.2.1 HZ.out HL.out.2.2.1 HL.out.2.1 (by have := HL.out.1; omega) hdr HLo.out
          rw [← HL.out.1] at hfin
          exact hfin
end Go.Proofs.YtnnbcdfpbdmgdaaDoor
set_option linter.unusedVariables false
namespace Go.Proofs.TreeMath
variable {α : Type}
theorem Run.inv {T : List (Nd α)} {dq : Nat → Nat} {bd : List Nat → Nat} {w : Nat} {M L' : List St} {V V' : List Nat} (r : Run T dq bd w M V L' V') :
    (M = L' ∧ V = V') ∨ (∃ L s, M = L ++ [s] ∧ ¬ may (bd V) s ∧ Run T dq bd w L V L' V') ∨ (∃ L s, M = L ++ [s] ∧ may (bd V) s ∧ Run T dq bd w (L ++ kids T dq (bd (V ++ [s.node])) s.node 0 w) (V ++ [s.node]) L' V') := by
  induction r using Run.ind with
  | refl => exact .inl ⟨rfl, rfl⟩
  | skip h r _ => exact .inr (.inl ⟨_, _, rfl, h, r⟩)
  | look h r _ => exact .inr (.inr ⟨_, _, rfl, h, r⟩)
theorem snoc_inj {β : Type} {L M : List β} {s t : β} (h : L ++ [s] = M ++ [t]) : L = M ∧ s = t := by
  have := List.append_inj' h rfl
  exact ⟨this.1, by simpa using this.2⟩
theorem Run.det {T : List (Nd α)} {dq : Nat → Nat} {bd : List Nat → Nat} {w : Nat} {L L' : List St} {V V1 V2 : List Nat} (a : Run T dq bd w L V L' V1) (hL : L' = []) (b : Run T dq bd w L V [] V2) : V1 = V2 := by
  induction a using Run.ind with
  | refl L V =>
    subst hL
    rcases b.inv with ⟨-, h⟩ | ⟨L, s, h, -⟩ | ⟨L, s, h, -⟩
    · exact h
    · simp at h
    · simp at h
  | @skip L0 L1 V0 V1 s h r ih =>
    rcases b.inv with ⟨h2, -⟩ | ⟨L, s', h2, h3, b'⟩ | ⟨L, s', h2, h3, b'⟩
    · simp at h2
    · obtain ⟨rfl, rfl⟩ := snoc_inj h2
      exact ih hL b'
    · obtain ⟨rfl, rfl⟩ := snoc_inj h2
      exact absurd h3 h
  | @look L0 L1 V0 V1 s h r ih =>
    rcases b.inv with ⟨h2, -⟩ | ⟨L, s', h2, h3, b'⟩ | ⟨L, s', h2, h3, b'⟩
    · simp at h2
    · obtain ⟨rfl, rfl⟩ := snoc_inj h2
      exact absurd h h3
    · obtain ⟨rfl, rfl⟩ := snoc_inj h2
      exact ih hL b'
/-- One child more. -/
def step1 (T : List (Nd α)) (dq : Nat → Nat) (bd : List Nat → Nat) (p : List Nat → Nat → List Nat) (i e : Nat) (V : List Nat) : List Nat := match child T i e with
  | none => V
  | some c => if may (bd V) ⟨c, e, dq i⟩ then p V c else V
theorem gone_step (T : List (Nd α)) (dq : Nat → Nat) (bd : List Nat → Nat) (p : List Nat → Nat → List Nat) (i : Nat) : ∀ (k n : Nat) (V : List Nat), gone T dq bd p i (k + 1) n V = step1 T dq bd p i (n + k + 1) (gone T dq bd p i k n V)
  | 0, n, V => rfl
  | k + 1, n, V => by
    rw [gone, gone_step T dq bd p i k (n + 1)]
    rw [gone]
    rw [show n + 1 + k + 1 = n + (k + 1) + 1 by omega]
theorem gone_skip {T : List (Nd α)} {dq : Nat → Nat} {bd : List Nat → Nat} {p : List Nat → Nat → List Nat} {i : Nat} {V : List Nat} : ∀ (k : Nat), (∀ e c, 0 < e → e ≤ k → child T i e = some c → ¬ may (bd V) ⟨c, e, dq i⟩) → gone T dq bd p i k 0 V = V
  | 0, _ => rfl
  | k + 1, h => by
    rw [gone_step, gone_skip k (fun e c h1 h2 => h e c h1 (by omega))]
    unfold step1
    cases hc : child T i (0 + k + 1) with
    | none => rfl
    | some c =>
      simp only
      rw [if_neg (h _ c (by omega) (by omega) hc)]
theorem gone_end {T : List (Nd α)} {dq : Nat → Nat} {bd : List Nat → Nat} {p : List Nat → Nat → List Nat} {i : Nat} {V : List Nat} {m : Nat} : ∀ (k : Nat), (∀ e c, m < e → e ≤ m + k → child T i e = some c → ¬ may (bd (gone T dq bd p i m 0 V)) ⟨c, e, dq i⟩) → gone T dq bd p i (m + k) 0 V = gone T dq bd p i m 0 V
  | 0, _ => rfl
  | k + 1, h => by
    rw [← Nat.add_assoc, gone_step, gone_end k (fun e c h1 h2 => h e c h1 (by omega))]
    unfold step1
    cases hc : child T i (0 + (m + k) + 1) with
    | none => rfl
    | some c =>
      simp only
      rw [if_neg (h _ c (by omega) (by omega) hc)]
/-- What a search from the root looks at. -/
theorem run_all {d : α → α → Nat} {T : List (Nd α)} (h : WF d T) {dq : Nat → Nat} {bd : List Nat → Nat} (hbd : ∀ V v, bd (V ++ [v]) ≤ bd V) {w : Nat} (hT : 0 < T.length) {V : List Nat} (r : Run T dq bd w [⟨0, 0, 0⟩] [] [] V) : V = pre T dq bd w T.length [] 0 := by
  have r2 := run_pre h (dq := dq) hbd (w := w) T.length ⟨0, 0, 0⟩ [] [] (by simp) hT ⟨Nat.zero_le _, Nat.zero_le _⟩
  exact Run.det r rfl r2
/-- More fuel changes nothing. -/
theorem gone_congr {T : List (Nd α)} {dq : Nat → Nat} {bd : List Nat → Nat} {p p' : List Nat → Nat → List Nat} {i : Nat} (h : ∀ e c V, child T i e = some c → p V c = p' V c) : ∀ (k n : Nat) (V : List Nat), gone T dq bd p i k n V = gone T dq bd p' i k n V
  | 0, n, V => rfl
  | k + 1, n, V => by
    rw [gone_step, gone_step, gone_congr h k n V]
    unfold step1
    cases hc : child T i (n + k + 1) with
    | none => rfl
    | some c => simp only; rw [h _ c _ hc]
theorem pre_fuel {d : α → α → Nat} {T : List (Nd α)} (h : WF d T) {dq : Nat → Nat} {bd : List Nat → Nat} {w : Nat} : ∀ (f g : Nat) (V : List Nat) (i : Nat), i < T.length → T.length - i ≤ f → T.length - i ≤ g → pre T dq bd w f V i = pre T dq bd w g V i
  | 0, g, V, i, hi, h1, _ => by omega
  | f + 1, 0, V, i, hi, _, h2 => by omega
  | f + 1, g + 1, V, i, hi, h1, h2 => by
    rw [pre, pre]
    refine gone_congr (fun e c V hc => ?_) w 0 _
    obtain ⟨k1, k2⟩ := h.child_lt hc
    exact pre_fuel h f g V c k2 (by omega) (by omega)
end Go.Proofs.TreeMath
set_option linter.unusedVariables false
set_option linter.unusedSimpArgs false
namespace Go.Proofs.YtnnbcdfpbdmgdaaDoor
open Go.RowKit Go.Maps Go.Sort Go.Proofs.BitMath Go.Proofs.TreeMath
theorem gone_pre {α : Type} {T : List (Nd α)} {dq : Nat → Nat} {bd : List Nat → Nat} {p : List Nat → Nat → List Nat} (hp : ∀ V i, ∃ X, p V i = V ++ X) (i : Nat) (V : List Nat) (m : Nat) : ∀ k, ∃ X, gone T dq bd p i (m + k) 0 V = gone T dq bd p i m 0 V ++ X
  | 0 => ⟨[], by simp⟩
  | k + 1 => by
    obtain ⟨X, hX⟩ := gone_pre hp i V m k
    rw [← Nat.add_assoc, gone_step, hX]
    unfold step1
    cases hc : child T i (0 + (m + k) + 1) with
    | none => exact ⟨X, rfl⟩
    | some c =>
      simp only
      split
      · obtain ⟨Y, hY⟩ := hp (gone T dq bd p i m 0 V ++ X) c
        exact ⟨X ++ Y, by rw [hY, List.append_assoc]⟩
      · exact ⟨X, rfl⟩
/-- Nodes of the tree, none twice. -/
def Fin' {α : Type} (T : List (Nd α)) (V : List Nat) : Prop := V.Nodup ∧ ∀ v ∈ V, v < T.length
theorem Fin'.pre {α : Type} {T : List (Nd α)} {V X : List Nat} (h : Fin' T (V ++ X)) : Fin' T V := ⟨(List.nodup_append.1 h.1).1, fun v hv => h.2 v (List.mem_append_left _ hv)⟩
theorem Fin'.len {α : Type} {T : List (Nd α)} {V : List Nat} (h : Fin' T V) : V.length ≤ T.length := nodup_lt _ V h.1 h.2
theorem Fin'.out {α : Type} {T : List (Nd α)} {V X : List Nat} {i : Nat} (h : Fin' T (V ++ [i] ++ X)) : i ∉ V := fun hi => by
  have := List.nodup_append.1 (h.pre).1
  exact this.2.2 i hi i (by simp) rfl
theorem bd_const {n : Nat} {T : List (Nd (Cd n))} {V : List Nat} (h : Fin' T V) (hT : T.length ≤ 1099511627776) (r : Nat) (q : Cd n) : bdV T 9223372036854775807 r q V = r := by
  unfold bdV
  have h1 := h.len
  have h2 := lvc_len T V
  exact bdM_all r q _ (by omega)
theorem lvc_out {n : Nat} {T : List (Nd (Cd n))} (wf : WF dC T) {V : List Nat} {i : Nat} {nd : Nd (Cd n)} (hi : T[i]? = some nd) (h : i ∉ V) : nd.code ∉ lvc T V := fun hm => by
  obtain ⟨v, hv, m, h1, -, h3⟩ := mem_lvc.1 hm
  exact h (wf.codes v i m nd h1 hi h3 ▸ hv)
theorem setC_at' {w : World} {b i : Nat} {cs : Array Value} {t : TypeId} {fr : Nat × Nat} (h : w.heap[b]? = some (.cells cs t fr)) (v : Value) : (w.setCell ⟨b, i, none⟩ v).heap[b]? = some (.cells (cs.setIfInBounds i v) t fr) := by
  have hb := (Array.getElem?_eq_some_iff.1 h).1
  show (w.heap.modify b _)[b]? = _
  rw [Array.getElem?_modify, if_pos rfl, h]
  rfl
def optP (p : List Nat → Nat → List Nat) (V : List Nat) (o : Option Nat) : List Nat := match o with | none => V | some c => p V c
/-- While the document's tree is searched. -/
structure SW {n : Nat} (B0 : Nat) (W0 wr : World) (t wd : Nat) (T : List (Nd (Cd n))) (v : Value) (q : Cd n) (r : Nat) (sn : Int) (fv : Value) (V : List Nat) (L : List (Nat × Cd n)) : Prop where
  rt : RT B0 wr t wd T v (lkN sn V.length)
  row : wr.ownsRow W0.heap.size 36 3 fv L.length (L.flatMap hV)
  sc : ScL q r (lvc T V) L
  st : Stay (fun k => k = t ∨ W0.heap.size ≤ k) W0 wr
  foot : ∀ k, k = t ∨ v.ownBlock = some k → k < W0.heap.size
theorem SW.drew {n : Nat} {B0 : Nat} {W0 wr w' : World} {t wd : Nat} {T : List (Nd (Cd n))} {v : Value} {q : Cd n} {r : Nat} {sn : Int} {fv : Value} {V : List Nat} {L : List (Nat × Cd n)} (h : SW B0 W0 wr t wd T v q r sn fv V L) (d : Drew wr w') : SW B0 W0 w' t wd T v q r sn fv V L :=
  ⟨h.rt.below (d.below _), row_kept (F := fun _ => False) h.row (.below (d.below _)) (fun _ _ h => h), h.sc, h.st.andThen (Stay.below (F := fun _ => False) (d.below _)) (fun _ _ e => e.elim), h.foot⟩
/-- A node is looked at: the number goes up. -/
theorem SW.seen {n : Nat} {B0 : Nat} {W0 wr : World} {t wd : Nat} {T : List (Nd (Cd n))} {v : Value} {q : Cd n} {r : Nat} {sn : Int} {fv : Value} {V : List Nat} {L : List (Nat × Cd n)} (h : SW B0 W0 wr t wd T v q r sn fv V L) {i : Nat} :
    RT B0 (wr.setCell ⟨t, 2, none⟩ (.int .i64 (lkN sn (V.length + 1)))) t wd T v (lkN sn (V ++ [i]).length) ∧ (wr.setCell ⟨t, 2, none⟩ (.int .i64 (lkN sn (V.length + 1)))).ownsRow W0.heap.size 36 3 fv L.length (L.flatMap hV) ∧ Stay (fun k => k = t ∨ W0.heap.size ≤ k) W0 (wr.setCell ⟨t, 2, none⟩ (.int .i64 (lkN sn (V.length + 1)))) := by
  have hst : Stay (fun k => k = t) wr (wr.setCell ⟨t, 2, none⟩ (.int .i64 (lkN sn (V.length + 1)))) := Stay.setCell (F := fun k => k = t) (Stay.refl _ wr) (fun _ => rfl) _
  have htW := h.foot t (.inl rfl)
  refine ⟨?_, row_kept h.row hst (fun k hk e => ?_), h.st.andThen hst (fun k _ e => .inl e)⟩
  · rw [List.length_append, List.length_singleton]
    refine { h.rt with tree := setC_at' h.rt.tree _, row := row_kept h.rt.row hst (fun k hk e => h.rt.nb hk e), lk := lkN_wf _ _ }
  · have := (h.row.lt k hk).1
    omega
/-- A hit is put there. -/
theorem SW.put {n : Nat} {B0 : Nat} {W0 w w' : World} {t wd : Nat} {T : List (Nd (Cd n))} {v : Value} {q : Cd n} {r : Nat} {sn : Int} {fv' : Value} {V : List Nat} {L' : List (Nat × Cd n)} (rt : RT B0 w t wd T v (lkN sn V.length)) (st : Stay (fun k => k = t ∨ W0.heap.size ≤ k) W0 w) (foot : ∀ k, k = t ∨ v.ownBlock = some k → k < W0.heap.size) (b : Below W0.heap.size w w') (hr : w'.ownsRow W0.heap.size 36 3 fv' L'.length (L'.flatMap hV)) (hs : ScL q r (lvc T V) L') : SW B0 W0 w' t wd T v q r sn fv' V L' := by
  have hst : Stay (fun k => W0.heap.size ≤ k) w w' := ⟨b.os, b.tape, b.output, b.size, fun i hi hn => b.block i (by omega)⟩
  exact ⟨rt.kept hst (fun k hk e => by have := foot k hk; omega), hr, hs, st.andThen hst (fun k _ e => .inr e), foot⟩
/-- What within leaves. -/
def WinO {n : Nat} (B0 : Nat) (W0 : World) (t wd : Nat) (T : List (Nd (Cd n))) (v : Value) (q : Cd n) (r : Nat) (sn : Int) (V : List Nat) (e : Ending) (w' : World) : Prop := ∃ fv L, e = .returned fv ∧ SW B0 W0 w' t wd T v q r sn fv V L
set_option maxHeartbeats 4000000 in
set_option maxRecDepth 100000 in
theorem within_rec {n B0 t wd : Nat} {T : List (Nd (Cd n))} {v : Value} (q : Cd n) (r : Nat) (sn : Int) (W0 : World) (hr : r ≤ wd) (f : Nat)
    (ih : ∀ (i : Nat) (V : List Nat) (L : List (Nat × Cd n)) (fv : Value) (w : World), T.length - i ≤ f → i < T.length → SW B0 W0 w t wd T v q r sn fv V L → Fin' T (pre T (dqf T q) (bdV T 9223372036854775807 r q) wd f V i) → Calls Tryd.prog 63 #[.pointer (some ⟨t, 0, none⟩), .int .i64 i, .string q.1, .int .i64 r, fv] w (WinO B0 W0 t wd T v q r sn (pre T (dqf T q) (bdV T 9223372036854775807 r q) wd f V i)))
    (i : Nat) (V : List Nat) (L : List (Nat × Cd n)) (fv : Value) (w : World) (hf : T.length - i ≤ f + 1) (hi : i < T.length) (h : SW B0 W0 w t wd T v q r sn fv V L) (hF : Fin' T (pre T (dqf T q) (bdV T 9223372036854775807 r q) wd (f + 1) V i)) :
    Calls Tryd.prog 63 #[.pointer (some ⟨t, 0, none⟩), .int .i64 i, .string q.1, .int .i64 r, fv] w (WinO B0 W0 t wd T v q r sn (pre T (dqf T q) (bdV T 9223372036854775807 r q) wd (f + 1) V i)) := by
  obtain ⟨bd, hbd⟩ : ∃ bd, bd = bdV T 9223372036854775807 r q := ⟨_, rfl⟩
  obtain ⟨p, hp⟩ : ∃ p, p = pre T (dqf T q) bd wd f := ⟨_, rfl⟩
  have hpa : ∀ V i, ∃ X, p V i = V ++ X := by rw [hp]; exact pre_app T (dqf T q) bd wd f
  rw [← hbd] at hF ih ⊢
  rw [← hp] at ih
  rw [show pre T (dqf T q) bd wd (f + 1) V i = gone T (dqf T q) bd p i wd 0 (V ++ [i]) from by rw [hp]; rfl] at hF ⊢
  have hF0 : Fin' T (V ++ [i]) := by
    obtain ⟨X, hX⟩ := gone_app (T := T) (dq := dqf T q) (bd := bd) hpa i wd 0 (V ++ [i])
    rw [hX] at hF
    exact hF.pre
  have hiV : i ∉ V := Fin'.out (X := []) (by simpa using hF0)
  have hsm := h.rt.small
  have hn8 : wd = 8 * n := h.rt.eight
  have hw1024 : wd ≤ 1024 := by have := isW_bd h.rt.wid; omega
  have hw64 : 64 ≤ wd := by have := isW_bd h.rt.wid; omega
  obtain ⟨nd, hnd⟩ : ∃ nd, nd = T[i] := ⟨_, rfl⟩
  have hTi : T[i]? = some nd := by rw [List.getElem?_eq_getElem hi, hnd]
  obtain ⟨g, cp, hv, c0, c1, -, -, -, -, -⟩ := h.rt.at_ i hi
  rw [← hnd] at c0 c1
  obtain ⟨t0, t1, t2, tf⟩ := h.rt.cell
  have tf2 := tf 2
  have hgt : g ≠ t := h.rt.nb (by rw [hv]; rfl)
  obtain ⟨s0, hs0⟩ : ∃ s0, s0 = lkN sn V.length := ⟨_, rfl⟩
  obtain ⟨s1, hs1⟩ : ∃ s1, s1 = lkN sn (V.length + 1) := ⟨_, rfl⟩
  have hlk : IntKind.i64.wrap (s0 + 1) = s1 := by rw [hs0, hs1, lkN_succ]
  rw [← hs0] at t2
  obtain ⟨ln, hln⟩ : ∃ ln, ln = T.length := ⟨_, rfl⟩
  obtain ⟨d, hd⟩ : ∃ d, d = dC nd.code q := ⟨_, rfl⟩
  have hd8 : d ≤ wd := by rw [hd, hn8]; exact dC_le _ _
  obtain ⟨hA1, hA2, hA3⟩ := h.seen (i := i)
  rw [← hs1] at hA1 hA2 hA3
  obtain ⟨w1, hw1⟩ : ∃ w1, w1 = w.setCell ⟨t, 2, none⟩ (.int .i64 s1) := ⟨_, rfl⟩
  rw [← hw1] at hA1 hA2 hA3
  have hfar := far_any nd.code q w1 (by omega)
  rw [← hd] at hfar
  have i1 : (i : Int) < (ln : Int) := by omega
  have i2 : 0 ≤ (i : Int) := by omega
  have hx : nd.code ∉ lvc T V := lvc_out h.rt.wf hTi hiV
  have hdq : dqf T q i = d := by rw [dqf_eq hTi, hd]
  have HH := Hid.mk (And.intro h (And.intro hA1 (And.intro hA2 (And.intro hA3 (And.intro hTi (And.intro hd (And.intro hx (And.intro hF (And.intro hF0 (And.intro hpa (And.intro hdq (And.intro hbd (And.intro hln hv)))))))))))))
  have HBC := Hid.mk (show ∀ V', Fin' T V' → bd V' = r from fun V' hV => by rw [hbd]; exact bd_const hV hsm r q)
  have HI := Hid.mk ih
  have HFL := Hid.mk hf
  have HCC := Hid.mk (show ∀ (w' : World) (s : Int), RT B0 w' t wd T v s → w'.cell? ⟨t, 0, none⟩ = some (.int .i64 wd) ∧ w'.cell? ⟨t, 1, none⟩ = some (.slice (some ⟨g, 0, none⟩) ln cp) ∧ w'.cell? ⟨g, i * 4, none⟩ = some (.string nd.code.1) ∧ w'.cell? ⟨g, i * 4 + 1, none⟩ = some (.bool nd.live) from fun w' s hw => by
    obtain ⟨x0, x1, -, -⟩ := hw.cell
    obtain ⟨g', cp', e', y0, y1, -⟩ := hw.at_ i hi
    rw [hv] at e'
    cases e'
    rw [← hnd] at y0 y1
    exact ⟨x0, by rw [x1, hv, hln], y0, y1⟩)
  rw [hv] at t1
  rw [← hln] at t1
  have hlb : ln ≤ 1099511627776 := by omega
  obtain ⟨cd, hcd⟩ : ∃ cd, cd = nd.code := ⟨_, rfl⟩
  obtain ⟨lv, hlv⟩ : ∃ lv, lv = nd.live := ⟨_, rfl⟩
  have HC := Hid.mk (And.intro hcd hlv)
  rw [← hcd] at c0 hfar HCC
  rw [← hlv] at c1 HCC
  obtain ⟨fa, fl, fc, hfv⟩ : ∃ fa fl fc, fv = .slice fa fl fc := by
    obtain ⟨a', c', e', -⟩ := slice_form h.row
    exact ⟨_, _, _, e'⟩
  subst hfv
  clear h hA1 hA2 hA3 hTi hd hx hF hF0 hpa hdq hbd hp hln hv hnd hiV ih hs0 hs1 hsm hn8 hcd hlv hf tf hi
  go_enter Tryd.func63, Tryd.ntmps63
  go_wp2_with fail
  rw [← hw1]
  refine hfar.mono ?_
  rintro e w2 ⟨rfl, hw2⟩
  subst hw2
  have HW := Hid.mk hw1
  clear hw1 hfar c0 c1 t0 t1 t2 tf2
  obtain ⟨t0, t1, c0, c1⟩ := HCC.out w2 _ HH.out.2.1
  have hl0 : (lvc T V).length ≤ ln := by
    have h1 := lvc_len T V
    obtain ⟨-, -, -, -, -, -, -, -, f0, -, -, -, f4, -⟩ := HH.out
    have h2 : V.length ≤ T.length := (Fin'.pre f0).len
    omega
  have hLl : L.length ≤ ln := Nat.le_trans HH.out.1.sc.len hl0
  cases lv with
  | true =>
    by_cases hdr : d ≤ r
    · have dr1 : ((d : Nat) : Int) ≤ ((r : Nat) : Int) := by omega
      have hput := put_any (r := r) (A := lvc T V) (L := L) (v := .slice fa fl fc) cd d w2 (by rw [HC.out.1]; exact HH.out.2.2.2.2.2.1) HH.out.2.2.1 HH.out.1.sc (by rw [HC.out.1]; exact HH.out.2.2.2.2.2.2.1) hdr HH.out.2.2.2.1.size (by omega)
      go_wp2_with (first
        | (go_at_call 72; refine hput.mono ?_; rintro e3 w3 ⟨fv3, L3, rfl, b3, r3, s3⟩)
        | fail)
      have HS := Hid.mk (show SW B0 W0 w3 t wd T v q r sn fv3 (V ++ [i]) L3 from SW.put HH.out.2.1 HH.out.2.2.2.1 HH.out.1.foot b3 r3 (by
        rw [lvc_yes HH.out.2.2.2.2.1 HC.out.2.symm, ← HC.out.1]; exact s3))
      obtain ⟨z0, z1, z2, z3⟩ := HCC.out w3 _ HS.out.rt
      obtain ⟨fa3, fl3, fc3, hfv3⟩ : ∃ fa fl fc, fv3 = .slice fa fl fc := by
        obtain ⟨a', c', e', -⟩ := slice_form r3
        exact ⟨_, _, _, e'⟩
      subst hfv3
      clear b3 r3 s3 hput t0 t1 c0 c1 dr1
      obtain ⟨E0, hE0⟩ : ∃ E0 : Nat, (E0 : Int) = max 1 ((d : Int) - (r : Int)) := ⟨(max 1 ((d : Int) - (r : Int))).toNat, by omega⟩
      have hE1 : 1 ≤ E0 := by omega
      have hE2 : E0 ≤ wd := by omega
      have wdr : IntKind.i64.wrap ((d : Int) - (r : Int)) = (d : Int) - (r : Int) := by rw [IntKind.wrap_i64]; omega
      obtain ⟨D2, hD2⟩ : ∃ D2, D2 = d + r := ⟨_, rfl⟩
      have wdr2 : IntKind.i64.wrap ((d : Int) + (r : Int)) = (D2 : Int) := by rw [IntKind.wrap_i64]; omega
      have HD2 := Hid.mk hD2
      have hsk : gone T (dqf T q) bd p i (E0 - 1) 0 (V ++ [i]) = V ++ [i] := gone_skip _ (fun e c h1 h2 hc hm => by
        obtain ⟨-, -, -, -, -, -, -, -, f0, -, f2, f3, f4, -⟩ := HH.out
        rw [HBC.out _ f0, f2] at hm
        have := hm.1
        simp only at this
        omega)
      have HSK := Hid.mk hsk
      clear hsk
      have HE0 := Hid.mk hE0
      clear hE0 hD2
      go_wp2_with fail
      go_loopw [4, 12, 13] (fun u4 u12 u13 wr => ∃ (E : Nat) (L5 : List (Nat × Cd n)) (Vc : List Nat), u12 = .int .i64 E ∧ E0 ≤ E ∧ E ≤ wd + 1 ∧ Hid (Vc = gone T (dqf T q) bd p i (E - 1) 0 (V ++ [i]) ∧ SW B0 W0 wr t wd T v q r sn u4 Vc L5)) (fun _ u12 _ _ => wd + 1 - (intOf u12).toNat)
      case atStart => exact ⟨E0, L3, V ++ [i], by first | rfl | (refine ival ?_; first | exact HE0.out.symm | (have := HE0.out; omega) | (have := HE0.out; split <;> omega)), Nat.le_refl _, by omega, Hid.mk ⟨HSK.out.symm, HS.out⟩⟩
      case round =>
        obtain ⟨E, L5, Vc, rfl, hE3, hE4, HJ⟩ := hrel
        obtain ⟨x0, x1, -, -⟩ := HCC.out wr _ HJ.out.2.rt
        obtain ⟨xa, xl, xc, hxv⟩ : ∃ xa xl xc, u4 = .slice xa xl xc := by
          obtain ⟨a', c', e', -⟩ := slice_form HJ.out.2.row
          exact ⟨_, _, _, e'⟩
        subst hxv
        by_cases hin : E ≤ d + r ∧ E ≤ wd
        · have b1 : decide (((E : Nat) : Int) ≤ (D2 : Int)) = true := by have := HD2.out; simp; omega
          have b2 : decide (((E : Nat) : Int) ≤ ((wd : Nat) : Int)) = true := by simp; omega
          have b3 : decide (E ≤ D2) = true := by have := HD2.out; simp; omega
          have b4 : decide (E ≤ wd) = true := by simp; omega
          have hwE : IntKind.i64.wrap ((E : Int) + 1) = ((E + 1 : Nat) : Int) := by rw [IntKind.wrap_i64]; omega
          have hch := child_any wr HJ.out.2.rt i E
          obtain ⟨o, ho⟩ : ∃ o, o = child T i E := ⟨_, rfl⟩
          rw [← ho] at hch
          have hst : gone T (dqf T q) bd p i (E + 1 - 1) 0 (V ++ [i]) = optP p Vc o := by
            have e1 : E + 1 - 1 = (E - 1) + 1 := by omega
            rw [e1, gone_step, ← HJ.out.1]
            unfold step1
            rw [show 0 + (E - 1) + 1 = E by omega, ← ho]
            cases o with
            | none => rfl
            | some c =>
              refine if_pos ?_
              obtain ⟨-, -, -, -, -, -, -, f8, f0, f1, f2, f3, f4, -⟩ := HH.out
              obtain ⟨X, hX⟩ := gone_pre (T := T) (dq := dqf T q) (bd := bd) f1 i (V ++ [i]) (E - 1) (wd - (E - 1))
              rw [show E - 1 + (wd - (E - 1)) = wd by omega] at hX
              rw [hX, ← HJ.out.1] at f8
              rw [HBC.out _ (Fin'.pre f8), f2]
              exact ⟨by simp only; have := HE0.out; omega, by simp only; omega⟩
          have HO := Hid.mk (And.intro ho hst)
          have HIN := Hid.mk hin
          clear ho hst hin
          go_wp2_with fail
          refine hch.mono ?_
          rintro e6 w6 ⟨rfl, hd6⟩
          have hS6 := HJ.out.2.drew hd6
          cases o with
          | none =>
            have HN := Hid.mk hS6
            clear hS6 hd6 hch
            simp only [chI]
            go_wp2_with fail
            exact ⟨⟨E + 1, L5, Vc, by push_cast; rfl, by omega, by have := HIN.out.2; omega, Hid.mk ⟨HO.out.2.symm, HN.out⟩⟩, by simp only [intOf]; have := HIN.out.2; omega⟩
          | some c =>
            obtain ⟨k1, k2⟩ := HJ.out.2.rt.wf.child_lt HO.out.1.symm
            have hrec := HI.out c Vc L5 (.slice xa xl xc) w6 (by have := HFL.out; omega) k2 hS6 (by
              obtain ⟨-, -, -, -, -, -, -, f8, f0, f1, f2, f3, f4, -⟩ := HH.out
              have hin2 := HIN.out.2
              obtain ⟨X, hX⟩ := gone_pre (T := T) (dq := dqf T q) (bd := bd) f1 i (V ++ [i]) (E + 1 - 1) (wd - (E + 1 - 1))
              rw [show E + 1 - 1 + (wd - (E + 1 - 1)) = wd by omega, HO.out.2] at hX
              rw [hX] at f8
              exact Fin'.pre f8)
            have c1 : (0 : Int) ≤ (c : Int) := by omega
            obtain ⟨y0, y1, -, -⟩ := HCC.out w6 _ hS6.rt
            clear hS6 hd6 hch k1 k2
            simp only [chI]
            go_wp2_with (first
              | (go_at_call 63; refine hrec.mono ?_; rintro e7 w7 ⟨fv7, L7, rfl, hS7⟩; obtain ⟨a7, c7, hf7, -⟩ := slice_form hS7.row; subst hf7)
              | fail)
            exact ⟨⟨E + 1, L7, p Vc c, by push_cast; rfl, by omega, by have := HIN.out.2; omega, Hid.mk ⟨HO.out.2.symm, hS7⟩⟩, by simp only [intOf]; have := HIN.out.2; omega⟩
        · have hend : gone T (dqf T q) bd p i wd 0 (V ++ [i]) = Vc := by
            rw [HJ.out.1]
            obtain ⟨-, -, -, -, -, -, -, f8, f0, f1, f2, f3, f4, -⟩ := HH.out
            have hg := gone_end (T := T) (dq := dqf T q) (bd := bd) (p := p) (i := i) (V := V ++ [i]) (m := E - 1) (wd - (E - 1)) (fun e c h1 h2 hc hm => by
              obtain ⟨X, hX⟩ := gone_pre (T := T) (dq := dqf T q) (bd := bd) f1 i (V ++ [i]) (E - 1) (wd - (E - 1))
              rw [show E - 1 + (wd - (E - 1)) = wd by omega] at hX
              rw [hX] at f8
              rw [f2] at hm
              rw [HBC.out _ (Fin'.pre f8)] at hm
              have := hm.2
              simp only at this
              omega)
            rw [show E - 1 + (wd - (E - 1)) = wd by omega] at hg
            exact hg
          have HEN := Hid.mk hend
          clear hend
          by_cases hb : E ≤ d + r
          · have b1 : decide (((E : Nat) : Int) ≤ (D2 : Int)) = true := by have := HD2.out; simp; omega
            have b2 : decide (((E : Nat) : Int) ≤ ((wd : Nat) : Int)) = false := by simp; omega
            have b3 : decide (E ≤ D2) = true := by have := HD2.out; simp; omega
            have b4 : decide (E ≤ wd) = false := by simp; omega
            clear hin hb
            go_wp2_with fail
            go_ret
            rw [HEN.out]
            exact ⟨_, L5, rfl, HJ.out.2⟩
          · have b1 : decide (((E : Nat) : Int) ≤ (D2 : Int)) = false := by have := HD2.out; simp; omega
            have b3 : decide (E ≤ D2) = false := by have := HD2.out; simp; omega
            clear hin hb
            go_wp2_with fail
            go_ret
            rw [HEN.out]
            exact ⟨_, L5, rfl, HJ.out.2⟩
    · have dr1 : ¬ ((d : Nat) : Int) ≤ ((r : Nat) : Int) := by omega
      obtain ⟨L3, hL3⟩ : ∃ L3, L3 = L := ⟨_, rfl⟩
      have HS := Hid.mk (show SW B0 W0 w2 t wd T v q r sn (.slice fa fl fc) (V ++ [i]) L3 from by
        rw [hL3]
        exact SW.put HH.out.2.1 HH.out.2.2.2.1 HH.out.1.foot (Below.refl _ _) HH.out.2.2.1 (by
          rw [lvc_yes HH.out.2.2.2.2.1 HC.out.2.symm]; exact HH.out.1.sc.skip (by rw [← HH.out.2.2.2.2.2.1]; omega)))
      clear hL3
      obtain ⟨E0, hE0⟩ : ∃ E0 : Nat, (E0 : Int) = max 1 ((d : Int) - (r : Int)) := ⟨(max 1 ((d : Int) - (r : Int))).toNat, by omega⟩
      have hE1 : 1 ≤ E0 := by omega
      have hE2 : E0 ≤ wd := by omega
      have wdr : IntKind.i64.wrap ((d : Int) - (r : Int)) = (d : Int) - (r : Int) := by rw [IntKind.wrap_i64]; omega
      obtain ⟨D2, hD2⟩ : ∃ D2, D2 = d + r := ⟨_, rfl⟩
      have wdr2 : IntKind.i64.wrap ((d : Int) + (r : Int)) = (D2 : Int) := by rw [IntKind.wrap_i64]; omega
      have HD2 := Hid.mk hD2
      have hsk : gone T (dqf T q) bd p i (E0 - 1) 0 (V ++ [i]) = V ++ [i] := gone_skip _ (fun e c h1 h2 hc hm => by
        obtain ⟨-, -, -, -, -, -, -, -, f0, -, f2, f3, f4, -⟩ := HH.out
        rw [HBC.out _ f0, f2] at hm
        have := hm.1
        simp only at this
        omega)
      have HSK := Hid.mk hsk
      clear hsk
      have HE0 := Hid.mk hE0
      clear hE0 hD2
      go_wp2_with fail
      go_loopw [4, 12, 13] (fun u4 u12 u13 wr => ∃ (E : Nat) (L5 : List (Nat × Cd n)) (Vc : List Nat), u12 = .int .i64 E ∧ E0 ≤ E ∧ E ≤ wd + 1 ∧ Hid (Vc = gone T (dqf T q) bd p i (E - 1) 0 (V ++ [i]) ∧ SW B0 W0 wr t wd T v q r sn u4 Vc L5)) (fun _ u12 _ _ => wd + 1 - (intOf u12).toNat)
      case atStart => exact ⟨E0, L3, V ++ [i], by first | rfl | (refine ival ?_; first | exact HE0.out.symm | (have := HE0.out; omega) | (have := HE0.out; split <;> omega)), Nat.le_refl _, by omega, Hid.mk ⟨HSK.out.symm, HS.out⟩⟩
      case round =>
        obtain ⟨E, L5, Vc, rfl, hE3, hE4, HJ⟩ := hrel
        obtain ⟨x0, x1, -, -⟩ := HCC.out wr _ HJ.out.2.rt
        obtain ⟨xa, xl, xc, hxv⟩ : ∃ xa xl xc, u4 = .slice xa xl xc := by
          obtain ⟨a', c', e', -⟩ := slice_form HJ.out.2.row
          exact ⟨_, _, _, e'⟩
        subst hxv
        by_cases hin : E ≤ d + r ∧ E ≤ wd
        · have b1 : decide (((E : Nat) : Int) ≤ (D2 : Int)) = true := by have := HD2.out; simp; omega
          have b2 : decide (((E : Nat) : Int) ≤ ((wd : Nat) : Int)) = true := by simp; omega
          have b3 : decide (E ≤ D2) = true := by have := HD2.out; simp; omega
          have b4 : decide (E ≤ wd) = true := by simp; omega
          have hwE : IntKind.i64.wrap ((E : Int) + 1) = ((E + 1 : Nat) : Int) := by rw [IntKind.wrap_i64]; omega
          have hch := child_any wr HJ.out.2.rt i E
          obtain ⟨o, ho⟩ : ∃ o, o = child T i E := ⟨_, rfl⟩
          rw [← ho] at hch
          have hst : gone T (dqf T q) bd p i (E + 1 - 1) 0 (V ++ [i]) = optP p Vc o := by
            have e1 : E + 1 - 1 = (E - 1) + 1 := by omega
            rw [e1, gone_step, ← HJ.out.1]
            unfold step1
            rw [show 0 + (E - 1) + 1 = E by omega, ← ho]
            cases o with
            | none => rfl
            | some c =>
              refine if_pos ?_
              obtain ⟨-, -, -, -, -, -, -, f8, f0, f1, f2, f3, f4, -⟩ := HH.out
              obtain ⟨X, hX⟩ := gone_pre (T := T) (dq := dqf T q) (bd := bd) f1 i (V ++ [i]) (E - 1) (wd - (E - 1))
              rw [show E - 1 + (wd - (E - 1)) = wd by omega] at hX
              rw [hX, ← HJ.out.1] at f8
              rw [HBC.out _ (Fin'.pre f8), f2]
              exact ⟨by simp only; have := HE0.out; omega, by simp only; omega⟩
          have HO := Hid.mk (And.intro ho hst)
          have HIN := Hid.mk hin
          clear ho hst hin
          go_wp2_with fail
          refine hch.mono ?_
          rintro e6 w6 ⟨rfl, hd6⟩
          have hS6 := HJ.out.2.drew hd6
          cases o with
          | none =>
            have HN := Hid.mk hS6
            clear hS6 hd6 hch
            simp only [chI]
            go_wp2_with fail
            exact ⟨⟨E + 1, L5, Vc, by push_cast; rfl, by omega, by have := HIN.out.2; omega, Hid.mk ⟨HO.out.2.symm, HN.out⟩⟩, by simp only [intOf]; have := HIN.out.2; omega⟩
          | some c =>
            obtain ⟨k1, k2⟩ := HJ.out.2.rt.wf.child_lt HO.out.1.symm
            have hrec := HI.out c Vc L5 (.slice xa xl xc) w6 (by have := HFL.out; omega) k2 hS6 (by
              obtain ⟨-, -, -, -, -, -, -, f8, f0, f1, f2, f3, f4, -⟩ := HH.out
              have hin2 := HIN.out.2
              obtain ⟨X, hX⟩ := gone_pre (T := T) (dq := dqf T q) (bd := bd) f1 i (V ++ [i]) (E + 1 - 1) (wd - (E + 1 - 1))
              rw [show E + 1 - 1 + (wd - (E + 1 - 1)) = wd by omega, HO.out.2] at hX
              rw [hX] at f8
              exact Fin'.pre f8)
            have c1 : (0 : Int) ≤ (c : Int) := by omega
            obtain ⟨y0, y1, -, -⟩ := HCC.out w6 _ hS6.rt
            clear hS6 hd6 hch k1 k2
            simp only [chI]
            go_wp2_with (first
              | (go_at_call 63; refine hrec.mono ?_; rintro e7 w7 ⟨fv7, L7, rfl, hS7⟩; obtain ⟨a7, c7, hf7, -⟩ := slice_form hS7.row; subst hf7)
              | fail)
            exact ⟨⟨E + 1, L7, p Vc c, by push_cast; rfl, by omega, by have := HIN.out.2; omega, Hid.mk ⟨HO.out.2.symm, hS7⟩⟩, by simp only [intOf]; have := HIN.out.2; omega⟩
        · have hend : gone T (dqf T q) bd p i wd 0 (V ++ [i]) = Vc := by
            rw [HJ.out.1]
            obtain ⟨-, -, -, -, -, -, -, f8, f0, f1, f2, f3, f4, -⟩ := HH.out
            have hg := gone_end (T := T) (dq := dqf T q) (bd := bd) (p := p) (i := i) (V := V ++ [i]) (m := E - 1) (wd - (E - 1)) (fun e c h1 h2 hc hm => by
              obtain ⟨X, hX⟩ := gone_pre (T := T) (dq := dqf T q) (bd := bd) f1 i (V ++ [i]) (E - 1) (wd - (E - 1))
              rw [show E - 1 + (wd - (E - 1)) = wd by omega] at hX
              rw [hX] at f8
              rw [f2] at hm
              rw [HBC.out _ (Fin'.pre f8)] at hm
              have := hm.2
              simp only at this
              omega)
            rw [show E - 1 + (wd - (E - 1)) = wd by omega] at hg
            exact hg
          have HEN := Hid.mk hend
          clear hend
          by_cases hb : E ≤ d + r
          · have b1 : decide (((E : Nat) : Int) ≤ (D2 : Int)) = true := by have := HD2.out; simp; omega
            have b2 : decide (((E : Nat) : Int) ≤ ((wd : Nat) : Int)) = false := by simp; omega
            have b3 : decide (E ≤ D2) = true := by have := HD2.out; simp; omega
            have b4 : decide (E ≤ wd) = false := by simp; omega
            clear hin hb
            go_wp2_with fail
            go_ret
            rw [HEN.out]
            exact ⟨_, L5, rfl, HJ.out.2⟩
          · have b1 : decide (((E : Nat) : Int) ≤ (D2 : Int)) = false := by have := HD2.out; simp; omega
            have b3 : decide (E ≤ D2) = false := by have := HD2.out; simp; omega
            clear hin hb
            go_wp2_with fail
            go_ret
            rw [HEN.out]
            exact ⟨_, L5, rfl, HJ.out.2⟩
  | false =>
    obtain ⟨L3, hL3⟩ : ∃ L3, L3 = L := ⟨_, rfl⟩
    have HS := Hid.mk (show SW B0 W0 w2 t wd T v q r sn (.slice fa fl fc) (V ++ [i]) L3 from by
      rw [hL3]
      exact SW.put HH.out.2.1 HH.out.2.2.2.1 HH.out.1.foot (Below.refl _ _) HH.out.2.2.1 (by
        rw [lvc_no HH.out.2.2.2.2.1 HC.out.2.symm]; exact HH.out.1.sc))
    clear hL3
    obtain ⟨E0, hE0⟩ : ∃ E0 : Nat, (E0 : Int) = max 1 ((d : Int) - (r : Int)) := ⟨(max 1 ((d : Int) - (r : Int))).toNat, by omega⟩
    have hE1 : 1 ≤ E0 := by omega
    have hE2 : E0 ≤ wd := by omega
    have wdr : IntKind.i64.wrap ((d : Int) - (r : Int)) = (d : Int) - (r : Int) := by rw [IntKind.wrap_i64]; omega
    obtain ⟨D2, hD2⟩ : ∃ D2, D2 = d + r := ⟨_, rfl⟩
    have wdr2 : IntKind.i64.wrap ((d : Int) + (r : Int)) = (D2 : Int) := by rw [IntKind.wrap_i64]; omega
    have HD2 := Hid.mk hD2
    have hsk : gone T (dqf T q) bd p i (E0 - 1) 0 (V ++ [i]) = V ++ [i] := gone_skip _ (fun e c h1 h2 hc hm => by
      obtain ⟨-, -, -, -, -, -, -, -, f0, -, f2, f3, f4, -⟩ := HH.out
      rw [HBC.out _ f0, f2] at hm
      have := hm.1
      simp only at this
      omega)
    have HSK := Hid.mk hsk
    clear hsk
    have HE0 := Hid.mk hE0
    clear hE0 hD2
    go_wp2_with fail
    go_loopw [4, 12, 13] (fun u4 u12 u13 wr => ∃ (E : Nat) (L5 : List (Nat × Cd n)) (Vc : List Nat), u12 = .int .i64 E ∧ E0 ≤ E ∧ E ≤ wd + 1 ∧ Hid (Vc = gone T (dqf T q) bd p i (E - 1) 0 (V ++ [i]) ∧ SW B0 W0 wr t wd T v q r sn u4 Vc L5)) (fun _ u12 _ _ => wd + 1 - (intOf u12).toNat)
    case atStart => exact ⟨E0, L3, V ++ [i], by first | rfl | (refine ival ?_; first | exact HE0.out.symm | (have := HE0.out; omega) | (have := HE0.out; split <;> omega)), Nat.le_refl _, by omega, Hid.mk ⟨HSK.out.symm, HS.out⟩⟩
    case round =>
      obtain ⟨E, L5, Vc, rfl, hE3, hE4, HJ⟩ := hrel
      obtain ⟨x0, x1, -, -⟩ := HCC.out wr _ HJ.out.2.rt
      obtain ⟨xa, xl, xc, hxv⟩ : ∃ xa xl xc, u4 = .slice xa xl xc := by
        obtain ⟨a', c', e', -⟩ := slice_form HJ.out.2.row
        exact ⟨_, _, _, e'⟩
      subst hxv
      by_cases hin : E ≤ d + r ∧ E ≤ wd
      · have b1 : decide (((E : Nat) : Int) ≤ (D2 : Int)) = true := by have := HD2.out; simp; omega
        have b2 : decide (((E : Nat) : Int) ≤ ((wd : Nat) : Int)) = true := by simp; omega
        have b3 : decide (E ≤ D2) = true := by have := HD2.out; simp; omega
        have b4 : decide (E ≤ wd) = true := by simp; omega
        have hwE : IntKind.i64.wrap ((E : Int) + 1) = ((E + 1 : Nat) : Int) := by rw [IntKind.wrap_i64]; omega
        have hch := child_any wr HJ.out.2.rt i E
        obtain ⟨o, ho⟩ : ∃ o, o = child T i E := ⟨_, rfl⟩
        rw [← ho] at hch
        have hst : gone T (dqf T q) bd p i (E + 1 - 1) 0 (V ++ [i]) = optP p Vc o := by
          have e1 : E + 1 - 1 = (E - 1) + 1 := by omega
          rw [e1, gone_step, ← HJ.out.1]
          unfold step1
          rw [show 0 + (E - 1) + 1 = E by omega, ← ho]
          cases o with
          | none => rfl
          | some c =>
            refine if_pos ?_
            obtain ⟨-, -, -, -, -, -, -, f8, f0, f1, f2, f3, f4, -⟩ := HH.out
            obtain ⟨X, hX⟩ := gone_pre (T := T) (dq := dqf T q) (bd := bd) f1 i (V ++ [i]) (E - 1) (wd - (E - 1))
            rw [show E - 1 + (wd - (E - 1)) = wd by omega] at hX
            rw [hX, ← HJ.out.1] at f8
            rw [HBC.out _ (Fin'.pre f8), f2]
            exact ⟨by simp only; have := HE0.out; omega, by simp only; omega⟩
        have HO := Hid.mk (And.intro ho hst)
        have HIN := Hid.mk hin
        clear ho hst hin
        go_wp2_with fail
        refine hch.mono ?_
        rintro e6 w6 ⟨rfl, hd6⟩
        have hS6 := HJ.out.2.drew hd6
        cases o with
        | none =>
          have HN := Hid.mk hS6
          clear hS6 hd6 hch
          simp only [chI]
          go_wp2_with fail
          exact ⟨⟨E + 1, L5, Vc, by push_cast; rfl, by omega, by have := HIN.out.2; omega, Hid.mk ⟨HO.out.2.symm, HN.out⟩⟩, by simp only [intOf]; have := HIN.out.2; omega⟩
        | some c =>
          obtain ⟨k1, k2⟩ := HJ.out.2.rt.wf.child_lt HO.out.1.symm
          have hrec := HI.out c Vc L5 (.slice xa xl xc) w6 (by have := HFL.out; omega) k2 hS6 (by
            obtain ⟨-, -, -, -, -, -, -, f8, f0, f1, f2, f3, f4, -⟩ := HH.out
            have hin2 := HIN.out.2
            obtain ⟨X, hX⟩ := gone_pre (T := T) (dq := dqf T q) (bd := bd) f1 i (V ++ [i]) (E + 1 - 1) (wd - (E + 1 - 1))
            rw [show E + 1 - 1 + (wd - (E + 1 - 1)) = wd by omega, HO.out.2] at hX
            rw [hX] at f8
            exact Fin'.pre f8)
          have c1 : (0 : Int) ≤ (c : Int) := by omega
          obtain ⟨y0, y1, -, -⟩ := HCC.out w6 _ hS6.rt
          clear hS6 hd6 hch k1 k2
          simp only [chI]
          go_wp2_with (first
            | (go_at_call 63; refine hrec.mono ?_; rintro e7 w7 ⟨fv7, L7, rfl, hS7⟩; obtain ⟨a7, c7, hf7, -⟩ := slice_form hS7.row; subst hf7)
            | fail)
          exact ⟨⟨E + 1, L7, p Vc c, by push_cast; rfl, by omega, by have := HIN.out.2; omega, Hid.mk ⟨HO.out.2.symm, hS7⟩⟩, by simp only [intOf]; have := HIN.out.2; omega⟩
      · have hend : gone T (dqf T q) bd p i wd 0 (V ++ [i]) = Vc := by
          rw [HJ.out.1]
          obtain ⟨-, -, -, -, -, -, -, f8, f0, f1, f2, f3, f4, -⟩ := HH.out
          have hg := gone_end (T := T) (dq := dqf T q) (bd := bd) (p := p) (i := i) (V := V ++ [i]) (m := E - 1) (wd - (E - 1)) (fun e c h1 h2 hc hm => by
            obtain ⟨X, hX⟩ := gone_pre (T := T) (dq := dqf T q) (bd := bd) f1 i (V ++ [i]) (E - 1) (wd - (E - 1))
            rw [show E - 1 + (wd - (E - 1)) = wd by omega] at hX
            rw [hX] at f8
            rw [f2] at hm
            rw [HBC.out _ (Fin'.pre f8)] at hm
            have := hm.2
            simp only at this
            omega)
          rw [show E - 1 + (wd - (E - 1)) = wd by omega] at hg
          exact hg
        have HEN := Hid.mk hend
        clear hend
        by_cases hb : E ≤ d + r
        · have b1 : decide (((E : Nat) : Int) ≤ (D2 : Int)) = true := by have := HD2.out; simp; omega
          have b2 : decide (((E : Nat) : Int) ≤ ((wd : Nat) : Int)) = false := by simp; omega
          have b3 : decide (E ≤ D2) = true := by have := HD2.out; simp; omega
          have b4 : decide (E ≤ wd) = false := by simp; omega
          clear hin hb
          go_wp2_with fail
          go_ret
          rw [HEN.out]
          exact ⟨_, L5, rfl, HJ.out.2⟩
        · have b1 : decide (((E : Nat) : Int) ≤ (D2 : Int)) = false := by have := HD2.out; simp; omega
          have b3 : decide (E ≤ D2) = false := by have := HD2.out; simp; omega
          clear hin hb
          go_wp2_with fail
          go_ret
          rw [HEN.out]
          exact ⟨_, L5, rfl, HJ.out.2⟩
end Go.Proofs.YtnnbcdfpbdmgdaaDoor
set_option linter.unusedVariables false
set_option linter.unusedSimpArgs false
namespace Go.Proofs.YtnnbcdfpbdmgdaaDoor
open Go.RowKit Go.Maps Go.Sort Go.Proofs.BitMath Go.Proofs.TreeMath
theorem run_si {α : Type} {d : α → α → Nat} (hs : ∀ a b, d a b = d b a) (ht : ∀ a b c, d a c ≤ d a b + d b c) {T : List (Nd α)} (h : WF d T) {q : α} {dq : Nat → Nat} (hq : ∀ (i : Nat) (n : Nd α), T[i]? = some n → dq i = d n.code q) {bd : List Nat → Nat} (hbd : ∀ V v, bd (V ++ [v]) ≤ bd V) {w : Nat} (hw : ∀ (j : Nat) (m : Nd α), T[j]? = some m → m.over ≠ none → m.dist ≤ w) {L L' : List St} {V V' : List Nat} (r : Run T dq bd w L V L' V') (i : SI d T q bd V L) : SI d T q bd V' L' := by
  induction r using Run.ind with
  | refl => exact i
  | skip hm r ih => exact ih (i.skip hs ht h hm)
  | @look L0 L1 V0 V1 s hm r ih =>
    have hl := (i.ok s (by simp)).lt
    have hn : T[s.node]? = some T[s.node] := List.getElem?_eq_getElem hl
    exact ih (i.visit hs ht h hbd hn (kids_kids' h (hq _ _ hn) hw))
/-- What a search from the beginning has met. -/
theorem run_start {n : Nat} {T : List (Nd (Cd n))} (wf : WF dC T) {k b0 wd : Nat} (hk : 1 ≤ k) (h8 : wd = 8 * n) {q : Cd n} {V : List Nat} (r : Run T (dqf T q) (bdV T k b0 q) wd (st0 T) [] [] V) : SI dC T q (bdV T k b0 q) V [] := by
  refine run_si dC_comm dC_tri wf (fun i nd hi => dqf_eq hi) (bdV_snoc hk b0 q) (w := wd) (fun j m hj ho => ?_) r ?_
  · cases hm : m.over with
    | none => exact absurd hm ho
    | some u => have := (dist_le wf hj hm).2; omega
  · unfold st0
    by_cases hT : T.length = 0
    · rw [if_pos hT]
      exact SI.none q _ (List.eq_nil_of_length_eq_zero hT)
    · rw [if_neg hT]
      exact SI.start wf q _ (by omega)
theorem run_fin {n : Nat} {T : List (Nd (Cd n))} (wf : WF dC T) {k b0 wd : Nat} (hk : 1 ≤ k) (h8 : wd = 8 * n) {q : Cd n} {V : List Nat} (r : Run T (dqf T q) (bdV T k b0 q) wd (st0 T) [] [] V) : Fin' T V := ⟨(run_start wf hk h8 r).nd, (run_start wf hk h8 r).vin⟩
/-- The document's search goes the same way. -/
theorem pre_run {n : Nat} {T : List (Nd (Cd n))} (wf : WF dC T) {k b0 wd : Nat} (hk : 1 ≤ k) {q : Cd n} (hT : 0 < T.length) : Run T (dqf T q) (bdV T k b0 q) wd (st0 T) [] [] (pre T (dqf T q) (bdV T k b0 q) wd T.length [] 0) := by
  unfold st0
  rw [if_neg (by omega)]
  have := run_pre wf (dq := dqf T q) (bd := bdV T k b0 q) (bdV_snoc hk b0 q) (w := wd) T.length ⟨0, 0, 0⟩ [] [] (by simp) hT ⟨Nat.zero_le _, Nat.zero_le _⟩
  simpa using this
theorem run_one {n : Nat} {T : List (Nd (Cd n))} {k b0 wd : Nat} {q : Cd n} {V V' : List Nat} (r : Run T (dqf T q) (bdV T k b0 q) wd (st0 T) [] [] V) (r' : Run T (dqf T q) (bdV T k b0 q) wd (st0 T) [] [] V') : V = V' := Run.det r rfl r'
/-- What is found within is what the program answers. -/
theorem win_ans {n : Nat} {T : List (Nd (Cd n))} (wf : WF dC T) (hsm : T.length ≤ 1099511627776) {r wd : Nat} (h8 : wd = 8 * n) {q : Cd n} {V : List Nat} (hr : Run T (dqf T q) (bdV T 9223372036854775807 r q) wd (st0 T) [] [] V) {L : List (Nat × Cd n)} (hs : ScL q r (lvc T V) L) : ansL 9223372036854775807 r q (lives T) = L := by
  have si := run_start wf (by omega) h8 hr
  have hF := run_fin wf (by omega) h8 hr
  have hl : (lives T).length ≤ T.length := lives_len_le T
  refine ansL_eq wf.lives_nodup hs.srt (fun x => ?_)
  rw [hs.mem, bdM_all r q _ (by omega)]
  constructor
  · rintro ⟨h1, h2, h3⟩
    obtain ⟨v, -, nd, a1, a2, a3⟩ := mem_lvc.1 h1
    exact ⟨mem_lives.2 ⟨v, nd, a1, a2, a3⟩, h2, h3⟩
  · rintro ⟨h1, h2, h3⟩
    obtain ⟨v, nd, a1, a2, a3⟩ := mem_lives.1 h1
    exact ⟨mem_lvc.2 ⟨v, si.done v nd a1 a2 (by rw [bd_const hF hsm, a3, h2]; exact h3), nd, a1, a2, a3⟩, h2, h3⟩
theorem within_all {n B0 t wd : Nat} {T : List (Nd (Cd n))} {v : Value} (q : Cd n) (r : Nat) (sn : Int) (W0 : World) (hr : r ≤ wd) : ∀ (f i : Nat) (V : List Nat) (L : List (Nat × Cd n)) (fv : Value) (w : World), T.length - i ≤ f → i < T.length → SW B0 W0 w t wd T v q r sn fv V L → Fin' T (pre T (dqf T q) (bdV T 9223372036854775807 r q) wd f V i) → Calls Tryd.prog 63 #[.pointer (some ⟨t, 0, none⟩), .int .i64 i, .string q.1, .int .i64 r, fv] w (WinO B0 W0 t wd T v q r sn (pre T (dqf T q) (bdV T 9223372036854775807 r q) wd f V i))
  | 0, i, V, L, fv, w, hf, hi, _, _ => by omega
  | f + 1, i, V, L, fv, w, hf, hi, h, hF => within_rec q r sn W0 hr f (within_all q r sn W0 hr f) i V L fv w hf hi h hF
/-- What a search of the document's tree leaves. -/
structure RSrch {n : Nat} (B0 : Nat) (W w' : World) (t wd : Nat) (T : List (Nd (Cd n))) (v : Value) (sn : Int) (k b0 : Nat) (q : Cd n) (fv : Value) (nv : Nat) : Prop where
  row : w'.ownsRow W.heap.size 36 3 fv (ansL k b0 q (lives T)).length ((ansL k b0 q (lives T)).flatMap hV)
  rt : RT B0 w' t wd T v (lkN sn nv)
  st : Stay (fun j => j = t ∨ W.heap.size ≤ j) W w'
  run : ∃ V : List Nat, nv = V.length ∧ Run T (dqf T q) (bdV T k b0 q) wd (st0 T) [] [] V
def RWithO {n : Nat} (B0 : Nat) (W : World) (t wd : Nat) (T : List (Nd (Cd n))) (v : Value) (sn : Int) (s : ByteArray) (r : Int) (e : Ending) (w' : World) : Prop :=
  (s.size ≠ n ∧ e = .returned (.tuple #[.slice none 0 0, .int .i64 11]) ∧ Drew W w') ∨
  (s.size = n ∧ ¬ (0 ≤ r ∧ r ≤ wd) ∧ e = .returned (.tuple #[.slice none 0 0, .int .i64 101]) ∧ Drew W w') ∨
  ∃ (hs : s.size = n) (fv : Value) (nv : Nat), 0 ≤ r ∧ r ≤ wd ∧ e = .returned (.tuple #[fv, .int .i64 0]) ∧ RSrch B0 W w' t wd T v sn 9223372036854775807 r.toNat ⟨s, hs⟩ fv nv
theorem st0_nil {α : Type} {T : List (Nd α)} (h : T.length = 0) : st0 T = [] := if_pos h
theorem sw_start {n B0 t wd : Nat} {W : World} {T : List (Nd (Cd n))} {v : Value} {sn : Int} (h : RT B0 W t wd T v sn) (q : Cd n) (r : Nat) : SW B0 W W t wd T v q r sn (.slice none 0 0) [] [] :=
  ⟨by rw [List.length_nil, lkN_zero h.lk]; exact h, ⟨rfl, .inl ⟨rfl, rfl⟩⟩, ScL.nil q r, Stay.refl _ _, fun k hk => by
    rcases hk with rfl | hk
    · exact h.lt
    · exact row_lt h.row hk⟩
set_option maxHeartbeats 2000000 in
set_option maxRecDepth 100000 in
theorem rwithin_any {n B0 t wd : Nat} {T : List (Nd (Cd n))} {v : Value} {sn : Int} (W : World) (h : RT B0 W t wd T v sn) (s : ByteArray) (r : Int) :
    Calls Tryd.prog 46 #[.pointer (some ⟨t, 0, none⟩), .string s, .int .i64 r] W (RWithO B0 W t wd T v sn s r) := by
  obtain ⟨t0, t1, t2, tf⟩ := h.cell
  have h8 : ((wd : Nat) : Int) / 8 = (n : Int) := by have := h.eight; omega
  have n8 : n ≤ 128 := by have := isW_bd h.wid; have := h.eight; omega
  have hw1024 : wd ≤ 1024 := by have := isW_bd h.wid; omega
  have hwn : wrap64 (n : Int) = (n : Int) := by unfold wrap64; omega
  by_cases hs : s.size = n
  · have e1 : (((s.size : Nat) : Int) != (n : Int)) = false := by rw [bne_eq_false_iff_eq]; omega
    obtain ⟨q, hq⟩ : ∃ q : Cd n, q.1 = s := ⟨⟨s, hs⟩, rfl⟩
    have hq2 : ∀ hs' : s.size = n, (⟨s, hs'⟩ : Cd n) = q := fun _ => Subtype.ext hq.symm
    by_cases hr : 0 ≤ r ∧ r ≤ wd
    · obtain ⟨r', rfl⟩ : ∃ r' : Nat, r = r' := ⟨r.toNat, by omega⟩
      have r1 : ¬ ((r' : Nat) : Int) < 0 := by omega
      have r2 : decide (((wd : Nat) : Int) < ((r' : Nat) : Int)) = false := by simp; omega
      have r3 : decide (wd < r') = false := by simp; omega
      obtain ⟨a, cp, hv, hcp⟩ := h.form
      have hfin : ∀ (w' : World) (fv : Value) (V : List Nat) (L : List (Nat × Cd n)), SW B0 W w' t wd T v q r' sn fv V L → Run T (dqf T q) (bdV T 9223372036854775807 r' q) wd (st0 T) [] [] V → RWithO B0 W t wd T v sn s (r' : Int) (.returned (.tuple #[fv, .int .i64 0])) w' := fun w' fv V L hS hR => by
        refine .inr (.inr ⟨hs, fv, V.length, hr.1, hr.2, rfl, ?_⟩)
        rw [hq2 hs, Int.toNat_natCast]
        exact ⟨by rw [win_ans h.wf h.small h.eight hR hS.sc]; exact hS.row, hS.rt, hS.st, V, rfl, hR⟩
      have HF := Hid.mk hfin
      by_cases hT : T.length = 0
      · have hE := hfin W _ [] [] (sw_start h q r') (by rw [st0_nil hT]; exact .refl _ _)
        have HE := Hid.mk hE
        rw [hv, hT] at t1
        clear hE hfin h hv hcp hr
        go_enter Tryd.func46, Tryd.ntmps46
        go_wp2_with fail
        go_ret2
        exact HE.out
      · have hR := pre_run h.wf (k := 9223372036854775807) (b0 := r') (wd := wd) (by omega) (q := q) (show 0 < T.length by omega)
        have hrec := within_all (B0 := B0) (t := t) (v := v) q r' sn W (by omega) T.length 0 [] [] (.slice none 0 0) W (by omega) (by omega) (sw_start h q r') (run_fin h.wf (by omega) h.eight hR)
        rw [hq] at hrec
        have HR := Hid.mk hR
        obtain ⟨ln, hln⟩ : ∃ ln, ln = T.length := ⟨_, rfl⟩
        have l0 : ((ln : Int) == 0) = false := by simp; omega
        rw [hv, ← hln] at t1
        clear hR hfin h hv hcp hr hln hT
        go_enter Tryd.func46, Tryd.ntmps46
        go_wp2_with (first
          | (go_at_call 63; refine hrec.mono ?_; rintro e7 w7 ⟨fv7, L7, rfl, hS7⟩; obtain ⟨a7, c7, hf7, -⟩ := slice_form hS7.row; subst hf7)
          | fail)
        go_ret2
        exact HF.out _ _ _ _ hS7 HR.out
    · have HE := Hid.mk (show RWithO B0 W t wd T v sn s r (.returned (.tuple #[.slice none 0 0, .int .i64 101])) W from .inr (.inl ⟨hs, hr, rfl, Drew.refl _⟩))
      by_cases hr0 : r < 0
      · clear h
        go_enter Tryd.func46, Tryd.ntmps46
        go_wp2_with fail
        all_goals (go_ret2; exact HE.out)
      · have r2 : decide (((wd : Nat) : Int) < r) = true := by simp; omega
        have r3 : ((wd : Nat) : Int) < r := by omega
        clear h
        go_enter Tryd.func46, Tryd.ntmps46
        go_wp2_with fail
        all_goals (go_ret2; exact HE.out)
  · have e1 : (((s.size : Nat) : Int) != (n : Int)) = true := by rw [bne_iff_ne]; omega
    clear h
    go_enter Tryd.func46, Tryd.ntmps46
    go_wp2_with fail
    go_ret2
    exact .inl ⟨hs, rfl, Drew.refl _⟩
end Go.Proofs.YtnnbcdfpbdmgdaaDoor
set_option linter.unusedVariables false
set_option linter.unusedSimpArgs false
namespace Go.Proofs.YtnnbcdfpbdmgdaaDoor
open Go.RowKit Go.Maps Go.Sort Go.Proofs.BitMath Go.Proofs.TreeMath
def optQ (p : List Nat → Nat → List Nat) (V : List Nat) (d bb E : Nat) (o : Option Nat) : List Nat := match o with
  | none => V
  | some c => if d ≤ E + bb ∧ E ≤ d + bb then p V c else V
/-- How far a code may be, by what was found. -/
theorem bound_of {n wd : Nat} {q : Cd n} {A : List (Cd n)} {L : List (Nat × Cd n)} (hA : A.Nodup) (hlen : A.length < 9223372036854775807) (hwd : 8 * n ≤ wd) (hs : ScL q wd A L) {k : Nat} (hk : 1 ≤ k) : (L.length < k → bdM k wd q A = wd) ∧ (∀ h : k - 1 < L.length, bdM k wd q A = L[k - 1].1) := by
  have e := hs.ans hA hlen
  have hbd := bdM_all wd q A hlen
  have hall : ∀ c ∈ A, dC c q ≤ bdM 9223372036854775807 wd q A := fun c hc => by rw [hbd]; exact Nat.le_trans (dC_le c q) hwd
  have hperm := ans_perm hA hall
  rw [e] at hperm
  have hpl := hperm.length_eq
  rw [List.length_map] at hpl
  have hql : (dqs q A).length = A.length := by simp [dqs]
  refine ⟨fun h => ?_, fun hp => ?_⟩
  · unfold bdM
    exact lower_few _ _ (by omega)
  · have hsd : (L.map Prod.fst).Pairwise (· ≤ ·) := by
      rw [List.pairwise_map]
      exact hs.srt.imp fun h => hlt_le h
    have hlp : L[k - 1].1 ≤ wd := ((hs.mem L[k - 1]).1 (List.getElem_mem _)).2.2
    have c1 := count_lt hsd (p := k - 1) (by simpa using hp)
    have c2 := count_le hsd (p := k - 1) (by simpa using hp)
    rw [List.getElem_map] at c1 c2
    have e1 : lc (L.map Prod.fst) L[k - 1].1 = lc (dqs q A) L[k - 1].1 := hperm.countP_eq _
    have e2 : lc (L.map Prod.fst) (L[k - 1].1 + 1) = lc (dqs q A) (L[k - 1].1 + 1) := hperm.countP_eq _
    unfold bdM
    exact lower_one (by omega) hlp (by omega) (.inr (by omega))
set_option maxHeartbeats 400000 in
theorem rbound_any {n B0 t wd : Nat} {W0 w : World} {T : List (Nd (Cd n))} {v : Value} {q : Cd n} {sn : Int} {fv : Value} {V : List Nat} {L : List (Nat × Cd n)} (h : SW B0 W0 w t wd T v q wd sn fv V L) (hF : Fin' T V) (k : Nat) (hk1 : 1 ≤ k) (hk2 : k ≤ 4096) :
    Calls Tryd.prog 65 #[.pointer (some ⟨t, 0, none⟩), fv, .int .i64 k] w fun e w' => e = .returned (.int .i64 (bdV T k wd q V : Nat)) ∧ Drew w w' := by
  obtain ⟨t0, -, -, -⟩ := h.rt.cell
  have hl := lvc_len T V
  have hl2 := hF.len
  have hsm := h.rt.small
  obtain ⟨p1, p2⟩ := bound_of (lvc_nodup h.rt.wf hF.1) (by omega) (by have := h.rt.eight; omega) h.sc hk1
  have hLl := h.sc.len
  obtain ⟨a, c, rfl, hc, hat⟩ := HAt.row h.row
  obtain ⟨m, hm⟩ : ∃ m, m = L.length := ⟨_, rfl⟩
  have hmb : m ≤ 1099511627776 := by omega
  by_cases hlt : L.length < k
  · have h1 := p1 hlt
    have HE := Hid.mk h1
    have m1 : decide ((m : Int) < (k : Int)) = true := by simp; omega
    have m2 : decide (m < k) = true := by simp; omega
    rw [← hm]
    clear h hat p1 p2 h1 hlt hm hl hl2 hsm hLl hc
    go_enter Tryd.func65, Tryd.ntmps65
    go_wp2
    go_ret
    exact ⟨ret_int (by rw [show bdV T k wd q V = wd from HE.out]), Drew.refl _⟩
  · have hp : k - 1 < L.length := by omega
    have h1 := p2 hp
    have HE := Hid.mk h1
    have m1 : decide ((m : Int) < (k : Int)) = false := by simp; omega
    have m2 : decide (m < k) = false := by simp; omega
    obtain ⟨g, hg, c0, -, -⟩ := hat (k - 1) hp
    obtain ⟨j, hj⟩ : ∃ j, j = k - 1 := ⟨_, rfl⟩
    have wj : IntKind.i64.wrap ((k : Int) - 1) = (j : Int) := by rw [IntKind.wrap_i64]; omega
    have j0 : (0 : Int) ≤ (j : Int) := by omega
    have j1 : (j : Int) < (m : Int) := by omega
    obtain ⟨D, hD⟩ : ∃ D, D = L[k - 1].1 := ⟨_, rfl⟩
    rw [← hD, ← hj] at c0
    have HD := Hid.mk hD
    subst hg
    rw [← hm]
    clear h hat p1 p2 h1 hlt hm hl hl2 hsm hLl hc hD hj
    go_enter Tryd.func65, Tryd.ntmps65
    go_wp2
    go_ret
    exact ⟨ret_int (by rw [HD.out]; exact congrArg _ HE.out.symm), Drew.refl _⟩
set_option maxHeartbeats 4000000 in
set_option maxRecDepth 100000 in
theorem near_rec {n B0 t wd : Nat} {T : List (Nd (Cd n))} {v : Value} (q : Cd n) (k : Nat) (sn : Int) (W0 : World) (hk1 : 1 ≤ k) (hk2 : k ≤ 4096) (f : Nat)
    (ih : ∀ (i : Nat) (V : List Nat) (L : List (Nat × Cd n)) (fv : Value) (w : World), T.length - i ≤ f → i < T.length → SW B0 W0 w t wd T v q wd sn fv V L → Fin' T (pre T (dqf T q) (bdV T k wd q) wd f V i) → Calls Tryd.prog 64 #[.pointer (some ⟨t, 0, none⟩), .int .i64 i, .string q.1, .int .i64 k, fv] w (WinO B0 W0 t wd T v q wd sn (pre T (dqf T q) (bdV T k wd q) wd f V i)))
    (i : Nat) (V : List Nat) (L : List (Nat × Cd n)) (fv : Value) (w : World) (hf : T.length - i ≤ f + 1) (hi : i < T.length) (h : SW B0 W0 w t wd T v q wd sn fv V L) (hF : Fin' T (pre T (dqf T q) (bdV T k wd q) wd (f + 1) V i)) :
    Calls Tryd.prog 64 #[.pointer (some ⟨t, 0, none⟩), .int .i64 i, .string q.1, .int .i64 k, fv] w (WinO B0 W0 t wd T v q wd sn (pre T (dqf T q) (bdV T k wd q) wd (f + 1) V i)) := by
  obtain ⟨bd, hbd⟩ : ∃ bd, bd = bdV T k wd q := ⟨_, rfl⟩
  obtain ⟨p, hp⟩ : ∃ p, p = pre T (dqf T q) bd wd f := ⟨_, rfl⟩
  have hpa : ∀ V i, ∃ X, p V i = V ++ X := by rw [hp]; exact pre_app T (dqf T q) bd wd f
  rw [← hbd] at hF ih ⊢
  rw [← hp] at ih
  rw [show pre T (dqf T q) bd wd (f + 1) V i = gone T (dqf T q) bd p i wd 0 (V ++ [i]) from by rw [hp]; rfl] at hF ⊢
  have hF0 : Fin' T (V ++ [i]) := by
    obtain ⟨X, hX⟩ := gone_app (T := T) (dq := dqf T q) (bd := bd) hpa i wd 0 (V ++ [i])
    rw [hX] at hF
    exact hF.pre
  have hiV : i ∉ V := Fin'.out (X := []) (by simpa using hF0)
  have hsm := h.rt.small
  have hn8 : wd = 8 * n := h.rt.eight
  have hw1024 : wd ≤ 1024 := by have := isW_bd h.rt.wid; omega
  have hw64 : 64 ≤ wd := by have := isW_bd h.rt.wid; omega
  obtain ⟨nd, hnd⟩ : ∃ nd, nd = T[i] := ⟨_, rfl⟩
  have hTi : T[i]? = some nd := by rw [List.getElem?_eq_getElem hi, hnd]
  obtain ⟨g, cp, hv, c0, c1, -, -, -, -, -⟩ := h.rt.at_ i hi
  rw [← hnd] at c0 c1
  obtain ⟨t0, t1, t2, tf⟩ := h.rt.cell
  have tf2 := tf 2
  have hgt : g ≠ t := h.rt.nb (by rw [hv]; rfl)
  obtain ⟨s0, hs0⟩ : ∃ s0, s0 = lkN sn V.length := ⟨_, rfl⟩
  obtain ⟨s1, hs1⟩ : ∃ s1, s1 = lkN sn (V.length + 1) := ⟨_, rfl⟩
  have hlk : IntKind.i64.wrap (s0 + 1) = s1 := by rw [hs0, hs1, lkN_succ]
  rw [← hs0] at t2
  obtain ⟨ln, hln⟩ : ∃ ln, ln = T.length := ⟨_, rfl⟩
  obtain ⟨d, hd⟩ : ∃ d, d = dC nd.code q := ⟨_, rfl⟩
  have hd8 : d ≤ wd := by rw [hd, hn8]; exact dC_le _ _
  obtain ⟨hA1, hA2, hA3⟩ := h.seen (i := i)
  rw [← hs1] at hA1 hA2 hA3
  obtain ⟨w1, hw1⟩ : ∃ w1, w1 = w.setCell ⟨t, 2, none⟩ (.int .i64 s1) := ⟨_, rfl⟩
  rw [← hw1] at hA1 hA2 hA3
  have hfar := far_any nd.code q w1 (by omega)
  rw [← hd] at hfar
  have i1 : (i : Int) < (ln : Int) := by omega
  have i2 : 0 ≤ (i : Int) := by omega
  have hx : nd.code ∉ lvc T V := lvc_out h.rt.wf hTi hiV
  have hdq : dqf T q i = d := by rw [dqf_eq hTi, hd]
  have HH := Hid.mk (And.intro h (And.intro hA1 (And.intro hA2 (And.intro hA3 (And.intro hTi (And.intro hd (And.intro hx (And.intro hF (And.intro hF0 (And.intro hpa (And.intro hdq (And.intro hbd (And.intro hln hv)))))))))))))
  have HI := Hid.mk ih
  have HFL := Hid.mk hf
  have HCC := Hid.mk (show ∀ (w' : World) (s : Int), RT B0 w' t wd T v s → w'.cell? ⟨t, 0, none⟩ = some (.int .i64 wd) ∧ w'.cell? ⟨t, 1, none⟩ = some (.slice (some ⟨g, 0, none⟩) ln cp) ∧ w'.cell? ⟨g, i * 4, none⟩ = some (.string nd.code.1) ∧ w'.cell? ⟨g, i * 4 + 1, none⟩ = some (.bool nd.live) from fun w' s hw => by
    obtain ⟨x0, x1, -, -⟩ := hw.cell
    obtain ⟨g', cp', e', y0, y1, -⟩ := hw.at_ i hi
    rw [hv] at e'
    cases e'
    rw [← hnd] at y0 y1
    exact ⟨x0, by rw [x1, hv, hln], y0, y1⟩)
  rw [hv] at t1
  rw [← hln] at t1
  have hlb : ln ≤ 1099511627776 := by omega
  obtain ⟨cd, hcd⟩ : ∃ cd, cd = nd.code := ⟨_, rfl⟩
  obtain ⟨lv, hlv⟩ : ∃ lv, lv = nd.live := ⟨_, rfl⟩
  have HC := Hid.mk (And.intro hcd hlv)
  rw [← hcd] at c0 hfar HCC
  rw [← hlv] at c1 HCC
  obtain ⟨fa, fl, fc, hfv⟩ : ∃ fa fl fc, fv = .slice fa fl fc := by
    obtain ⟨a', c', e', -⟩ := slice_form h.row
    exact ⟨_, _, _, e'⟩
  subst hfv
  clear h hA1 hA2 hA3 hTi hd hx hF hF0 hpa hdq hbd hp hln hv hnd hiV ih hs0 hs1 hsm hn8 hcd hlv hf tf hi
  go_enter Tryd.func64, Tryd.ntmps64
  go_wp2_with fail
  rw [← hw1]
  refine hfar.mono ?_
  rintro e w2 ⟨rfl, hw2⟩
  subst hw2
  have HW := Hid.mk hw1
  clear hw1 hfar c0 c1 t0 t1 t2 tf2
  obtain ⟨t0, t1, c0, c1⟩ := HCC.out w2 _ HH.out.2.1
  have hl0 : (lvc T V).length ≤ ln := by
    have h1 := lvc_len T V
    obtain ⟨-, -, -, -, -, -, -, -, f0, -, -, -, f4, -⟩ := HH.out
    have h2 : V.length ≤ T.length := (Fin'.pre f0).len
    omega
  have hLl : L.length ≤ ln := Nat.le_trans HH.out.1.sc.len hl0
  cases lv with
  | true =>
    have hput := put_any (r := wd) (A := lvc T V) (L := L) (v := .slice fa fl fc) cd d w2 (by rw [HC.out.1]; exact HH.out.2.2.2.2.2.1) HH.out.2.2.1 HH.out.1.sc (by rw [HC.out.1]; exact HH.out.2.2.2.2.2.2.1) hd8 HH.out.2.2.2.1.size (by omega)
    go_wp2_with (first
      | (go_at_call 72; refine hput.mono ?_; rintro e3 w3 ⟨fv3, L3, rfl, b3, r3, s3⟩)
      | fail)
    have HS := Hid.mk (show SW B0 W0 w3 t wd T v q wd sn fv3 (V ++ [i]) L3 from SW.put HH.out.2.1 HH.out.2.2.2.1 HH.out.1.foot b3 r3 (by
      rw [lvc_yes HH.out.2.2.2.2.1 HC.out.2.symm, ← HC.out.1]; exact s3))
    obtain ⟨z0, z1, z2, z3⟩ := HCC.out w3 _ HS.out.rt
    obtain ⟨fa3, fl3, fc3, hfv3⟩ : ∃ fa fl fc, fv3 = .slice fa fl fc := by
      obtain ⟨a', c', e', -⟩ := slice_form r3
      exact ⟨_, _, _, e'⟩
    subst hfv3
    clear b3 r3 s3 hput t0 t1 c0 c1
    go_wp2_with fail
    go_loopw [4, 12, 13, 14] (fun u4 u12 u13 u14 wr => ∃ (E : Nat) (L5 : List (Nat × Cd n)) (Vc : List Nat), u12 = .int .i64 E ∧ 1 ≤ E ∧ E ≤ wd + 1 ∧ Hid (Vc = gone T (dqf T q) bd p i (E - 1) 0 (V ++ [i]) ∧ SW B0 W0 wr t wd T v q wd sn u4 Vc L5)) (fun _ u12 _ _ _ => wd + 1 - (intOf u12).toNat)
    case atStart => exact ⟨1, L3, V ++ [i], rfl, Nat.le_refl _, by omega, Hid.mk ⟨rfl, HS.out⟩⟩
    case round =>
      obtain ⟨E, L5, Vc, rfl, hE3, hE4, HJ⟩ := hrel
      obtain ⟨x0, x1, -, -⟩ := HCC.out wr _ HJ.out.2.rt
      obtain ⟨xa, xl, xc, hxv⟩ : ∃ xa xl xc, u4 = .slice xa xl xc := by
        obtain ⟨a', c', e', -⟩ := slice_form HJ.out.2.row
        exact ⟨_, _, _, e'⟩
      subst hxv
      by_cases hin : E ≤ wd
      · have b2 : decide (((E : Nat) : Int) ≤ ((wd : Nat) : Int)) = true := by simp; omega
        have b4 : decide (E ≤ wd) = true := by simp; omega
        have hwE : IntKind.i64.wrap ((E : Int) + 1) = ((E + 1 : Nat) : Int) := by rw [IntKind.wrap_i64]; omega
        have hFc : Fin' T Vc := by
          obtain ⟨-, -, -, -, -, -, -, f8, f0, f1, f2, f3, f4, -⟩ := HH.out
          obtain ⟨X, hX⟩ := gone_pre (T := T) (dq := dqf T q) (bd := bd) f1 i (V ++ [i]) (E - 1) (wd - (E - 1))
          rw [show E - 1 + (wd - (E - 1)) = wd by omega] at hX
          rw [hX, ← HJ.out.1] at f8
          exact Fin'.pre f8
        have hch := child_any wr HJ.out.2.rt i E
        obtain ⟨o, ho⟩ : ∃ o, o = child T i E := ⟨_, rfl⟩
        rw [← ho] at hch
        obtain ⟨bb, hbb⟩ : ∃ bb, bb = bd Vc := ⟨_, rfl⟩
        have hbw : bb ≤ wd := by rw [hbb, HH.out.2.2.2.2.2.2.2.2.2.2.2.1]; exact bdV_le T k wd q Vc
        have hst : gone T (dqf T q) bd p i (E + 1 - 1) 0 (V ++ [i]) = optQ p Vc d bb E o := by
          have e1 : E + 1 - 1 = (E - 1) + 1 := by omega
          rw [e1, gone_step, ← HJ.out.1]
          unfold step1
          rw [show 0 + (E - 1) + 1 = E by omega]
          rw [← ho, ← hbb, HH.out.2.2.2.2.2.2.2.2.2.2.1]
          rfl
        have hbnd := fun w' (d' : Drew wr w') => rbound_any (HJ.out.2.drew d') hFc k hk1 hk2
        rw [show bdV T k wd q Vc = bb from by rw [hbb, HH.out.2.2.2.2.2.2.2.2.2.2.2.1]] at hbnd
        have HO := Hid.mk (And.intro ho hst)
        have HIN := Hid.mk (And.intro hin hFc)
        obtain ⟨DM, hDM⟩ : ∃ DM : Int, DM = (d : Int) - (bb : Int) := ⟨_, rfl⟩
        obtain ⟨DP, hDP⟩ : ∃ DP : Nat, DP = d + bb := ⟨_, rfl⟩
        have wdm : IntKind.i64.wrap ((d : Int) - (bb : Int)) = DM := by rw [IntKind.wrap_i64]; omega
        have wdp : IntKind.i64.wrap ((d : Int) + (bb : Int)) = (DP : Int) := by rw [IntKind.wrap_i64]; omega
        have HDD := Hid.mk (And.intro hDM hDP)
        clear ho hst hin hFc hbb hDM hDP
        go_wp2_with fail
        refine hch.mono ?_
        rintro e6 w6 ⟨rfl, hd6⟩
        have hS6 := HJ.out.2.drew hd6
        have hb6 := hbnd w6 hd6
        cases o with
        | none =>
          have HN := Hid.mk hS6
          clear hS6 hd6 hch hbnd
          simp only [chI]
          go_wp2_with (first
            | (go_at_call 65; refine hb6.mono ?_; rintro e7 w7 ⟨rfl, hd7⟩)
            | fail)
          exact ⟨⟨E + 1, L5, Vc, by push_cast; rfl, by omega, by have := HIN.out.1; omega, Hid.mk ⟨HO.out.2.symm, HN.out.drew hd7⟩⟩, by simp only [intOf]; have := HIN.out.1; omega⟩
        | some c =>
          obtain ⟨k1, k2⟩ := HJ.out.2.rt.wf.child_lt HO.out.1.symm
          have c1 : (0 : Int) ≤ (c : Int) := by omega
          have HN := Hid.mk hS6
          have HK2 := Hid.mk (And.intro k1 k2)
          clear hS6 hd6 hch hbnd k1 k2
          by_cases hA : DM ≤ (E : Int)
          · have a1 : decide (DM ≤ ((E : Nat) : Int)) = true := by simp; omega
            by_cases hB : E ≤ DP
            · have a2 : decide (((E : Nat) : Int) ≤ (DP : Int)) = true := by simp; omega
              have a3 : decide (E ≤ DP) = true := by simp; omega
              have hyes : gone T (dqf T q) bd p i (E + 1 - 1) 0 (V ++ [i]) = p Vc c := by
                rw [HO.out.2]
                exact if_pos ⟨by have := HDD.out.1; omega, by have := HDD.out.2; omega⟩
              have HY := Hid.mk hyes
              have hrec := fun w' (d' : Drew w6 w') => HI.out c Vc L5 (.slice xa xl xc) w' (by have := HFL.out; have := HK2.out; omega) HK2.out.2 (HN.out.drew d') (by
                obtain ⟨-, -, -, -, -, -, -, f8, f0, f1, f2, f3, f4, -⟩ := HH.out
                have hin2 := HIN.out.1
                obtain ⟨X, hX⟩ := gone_pre (T := T) (dq := dqf T q) (bd := bd) f1 i (V ++ [i]) (E + 1 - 1) (wd - (E + 1 - 1))
                rw [show E + 1 - 1 + (wd - (E + 1 - 1)) = wd by omega, HY.out] at hX
                rw [hX] at f8
                exact Fin'.pre f8)
              clear hyes hA hB
              simp only [chI]
              go_wp2_with (first
                | (go_at_call 65; refine hb6.mono ?_; rintro e7 w7 ⟨rfl, hd7⟩; have hr7 := hrec w7 hd7)
                | (go_at_call 64; refine hr7.mono ?_; rintro e8 w8 ⟨fv8, L8, rfl, hS8⟩; obtain ⟨a8, c8, hf8, -⟩ := slice_form hS8.row; subst hf8)
                | fail)
              exact ⟨⟨E + 1, L8, p Vc c, by push_cast; rfl, by omega, by have := HIN.out.1; omega, Hid.mk ⟨HY.out.symm, hS8⟩⟩, by simp only [intOf]; have := HIN.out.1; omega⟩
            · have a2 : decide (((E : Nat) : Int) ≤ (DP : Int)) = false := by simp; omega
              have a3 : decide (E ≤ DP) = false := by simp; omega
              have hno : gone T (dqf T q) bd p i (E + 1 - 1) 0 (V ++ [i]) = Vc := by
                rw [HO.out.2]
                exact if_neg (fun h => by have := HDD.out.2; omega)
              have HY := Hid.mk hno
              clear hno hA hB
              simp only [chI]
              go_wp2_with (first
                | (go_at_call 65; refine hb6.mono ?_; rintro e7 w7 ⟨rfl, hd7⟩)
                | fail)
              exact ⟨⟨E + 1, L5, Vc, by push_cast; rfl, by omega, by have := HIN.out.1; omega, Hid.mk ⟨HY.out.symm, HN.out.drew hd7⟩⟩, by simp only [intOf]; have := HIN.out.1; omega⟩
          · have a1 : decide (DM ≤ ((E : Nat) : Int)) = false := by simp; omega
            have hno : gone T (dqf T q) bd p i (E + 1 - 1) 0 (V ++ [i]) = Vc := by
              rw [HO.out.2]
              exact if_neg (fun h => by have := HDD.out.1; omega)
            have HY := Hid.mk hno
            clear hno hA
            simp only [chI]
            go_wp2_with (first
              | (go_at_call 65; refine hb6.mono ?_; rintro e7 w7 ⟨rfl, hd7⟩)
              | fail)
            exact ⟨⟨E + 1, L5, Vc, by push_cast; rfl, by omega, by have := HIN.out.1; omega, Hid.mk ⟨HY.out.symm, HN.out.drew hd7⟩⟩, by simp only [intOf]; have := HIN.out.1; omega⟩
      · have hend : gone T (dqf T q) bd p i wd 0 (V ++ [i]) = Vc := by rw [HJ.out.1, show E - 1 = wd by omega]
        have HEN := Hid.mk hend
        have b2 : decide (((E : Nat) : Int) ≤ ((wd : Nat) : Int)) = false := by simp; omega
        have b4 : decide (E ≤ wd) = false := by simp; omega
        clear hend hin
        go_wp2_with fail
        go_ret
        rw [HEN.out]
        exact ⟨_, L5, rfl, HJ.out.2⟩
  | false =>
    obtain ⟨L3, hL3⟩ : ∃ L3, L3 = L := ⟨_, rfl⟩
    have HS := Hid.mk (show SW B0 W0 w2 t wd T v q wd sn (.slice fa fl fc) (V ++ [i]) L3 from by
      rw [hL3]
      exact SW.put HH.out.2.1 HH.out.2.2.2.1 HH.out.1.foot (Below.refl _ _) HH.out.2.2.1 (by
        rw [lvc_no HH.out.2.2.2.2.1 HC.out.2.symm]; exact HH.out.1.sc))
    clear hL3
    go_wp2_with fail
    go_loopw [4, 12, 13, 14] (fun u4 u12 u13 u14 wr => ∃ (E : Nat) (L5 : List (Nat × Cd n)) (Vc : List Nat), u12 = .int .i64 E ∧ 1 ≤ E ∧ E ≤ wd + 1 ∧ Hid (Vc = gone T (dqf T q) bd p i (E - 1) 0 (V ++ [i]) ∧ SW B0 W0 wr t wd T v q wd sn u4 Vc L5)) (fun _ u12 _ _ _ => wd + 1 - (intOf u12).toNat)
    case atStart => exact ⟨1, L3, V ++ [i], rfl, Nat.le_refl _, by omega, Hid.mk ⟨rfl, HS.out⟩⟩
    case round =>
      obtain ⟨E, L5, Vc, rfl, hE3, hE4, HJ⟩ := hrel
      obtain ⟨x0, x1, -, -⟩ := HCC.out wr _ HJ.out.2.rt
      obtain ⟨xa, xl, xc, hxv⟩ : ∃ xa xl xc, u4 = .slice xa xl xc := by
        obtain ⟨a', c', e', -⟩ := slice_form HJ.out.2.row
        exact ⟨_, _, _, e'⟩
      subst hxv
      by_cases hin : E ≤ wd
      · have b2 : decide (((E : Nat) : Int) ≤ ((wd : Nat) : Int)) = true := by simp; omega
        have b4 : decide (E ≤ wd) = true := by simp; omega
        have hwE : IntKind.i64.wrap ((E : Int) + 1) = ((E + 1 : Nat) : Int) := by rw [IntKind.wrap_i64]; omega
        have hFc : Fin' T Vc := by
          obtain ⟨-, -, -, -, -, -, -, f8, f0, f1, f2, f3, f4, -⟩ := HH.out
          obtain ⟨X, hX⟩ := gone_pre (T := T) (dq := dqf T q) (bd := bd) f1 i (V ++ [i]) (E - 1) (wd - (E - 1))
          rw [show E - 1 + (wd - (E - 1)) = wd by omega] at hX
          rw [hX, ← HJ.out.1] at f8
          exact Fin'.pre f8
        have hch := child_any wr HJ.out.2.rt i E
        obtain ⟨o, ho⟩ : ∃ o, o = child T i E := ⟨_, rfl⟩
        rw [← ho] at hch
        obtain ⟨bb, hbb⟩ : ∃ bb, bb = bd Vc := ⟨_, rfl⟩
        have hbw : bb ≤ wd := by rw [hbb, HH.out.2.2.2.2.2.2.2.2.2.2.2.1]; exact bdV_le T k wd q Vc
        have hst : gone T (dqf T q) bd p i (E + 1 - 1) 0 (V ++ [i]) = optQ p Vc d bb E o := by
          have e1 : E + 1 - 1 = (E - 1) + 1 := by omega
          rw [e1, gone_step, ← HJ.out.1]
          unfold step1
          rw [show 0 + (E - 1) + 1 = E by omega]
          rw [← ho, ← hbb, HH.out.2.2.2.2.2.2.2.2.2.2.1]
          rfl
        have hbnd := fun w' (d' : Drew wr w') => rbound_any (HJ.out.2.drew d') hFc k hk1 hk2
        rw [show bdV T k wd q Vc = bb from by rw [hbb, HH.out.2.2.2.2.2.2.2.2.2.2.2.1]] at hbnd
        have HO := Hid.mk (And.intro ho hst)
        have HIN := Hid.mk (And.intro hin hFc)
        obtain ⟨DM, hDM⟩ : ∃ DM : Int, DM = (d : Int) - (bb : Int) := ⟨_, rfl⟩
        obtain ⟨DP, hDP⟩ : ∃ DP : Nat, DP = d + bb := ⟨_, rfl⟩
        have wdm : IntKind.i64.wrap ((d : Int) - (bb : Int)) = DM := by rw [IntKind.wrap_i64]; omega
        have wdp : IntKind.i64.wrap ((d : Int) + (bb : Int)) = (DP : Int) := by rw [IntKind.wrap_i64]; omega
        have HDD := Hid.mk (And.intro hDM hDP)
        clear ho hst hin hFc hbb hDM hDP
        go_wp2_with fail
        refine hch.mono ?_
        rintro e6 w6 ⟨rfl, hd6⟩
        have hS6 := HJ.out.2.drew hd6
        have hb6 := hbnd w6 hd6
        cases o with
        | none =>
          have HN := Hid.mk hS6
          clear hS6 hd6 hch hbnd
          simp only [chI]
          go_wp2_with (first
            | (go_at_call 65; refine hb6.mono ?_; rintro e7 w7 ⟨rfl, hd7⟩)
            | fail)
          exact ⟨⟨E + 1, L5, Vc, by push_cast; rfl, by omega, by have := HIN.out.1; omega, Hid.mk ⟨HO.out.2.symm, HN.out.drew hd7⟩⟩, by simp only [intOf]; have := HIN.out.1; omega⟩
        | some c =>
          obtain ⟨k1, k2⟩ := HJ.out.2.rt.wf.child_lt HO.out.1.symm
          have c1 : (0 : Int) ≤ (c : Int) := by omega
          have HN := Hid.mk hS6
          have HK2 := Hid.mk (And.intro k1 k2)
          clear hS6 hd6 hch hbnd k1 k2
          by_cases hA : DM ≤ (E : Int)
          · have a1 : decide (DM ≤ ((E : Nat) : Int)) = true := by simp; omega
            by_cases hB : E ≤ DP
            · have a2 : decide (((E : Nat) : Int) ≤ (DP : Int)) = true := by simp; omega
              have a3 : decide (E ≤ DP) = true := by simp; omega
              have hyes : gone T (dqf T q) bd p i (E + 1 - 1) 0 (V ++ [i]) = p Vc c := by
                rw [HO.out.2]
                exact if_pos ⟨by have := HDD.out.1; omega, by have := HDD.out.2; omega⟩
              have HY := Hid.mk hyes
              have hrec := fun w' (d' : Drew w6 w') => HI.out c Vc L5 (.slice xa xl xc) w' (by have := HFL.out; have := HK2.out; omega) HK2.out.2 (HN.out.drew d') (by
                obtain ⟨-, -, -, -, -, -, -, f8, f0, f1, f2, f3, f4, -⟩ := HH.out
                have hin2 := HIN.out.1
                obtain ⟨X, hX⟩ := gone_pre (T := T) (dq := dqf T q) (bd := bd) f1 i (V ++ [i]) (E + 1 - 1) (wd - (E + 1 - 1))
                rw [show E + 1 - 1 + (wd - (E + 1 - 1)) = wd by omega, HY.out] at hX
                rw [hX] at f8
                exact Fin'.pre f8)
              clear hyes hA hB
              simp only [chI]
              go_wp2_with (first
                | (go_at_call 65; refine hb6.mono ?_; rintro e7 w7 ⟨rfl, hd7⟩; have hr7 := hrec w7 hd7)
                | (go_at_call 64; refine hr7.mono ?_; rintro e8 w8 ⟨fv8, L8, rfl, hS8⟩; obtain ⟨a8, c8, hf8, -⟩ := slice_form hS8.row; subst hf8)
                | fail)
              exact ⟨⟨E + 1, L8, p Vc c, by push_cast; rfl, by omega, by have := HIN.out.1; omega, Hid.mk ⟨HY.out.symm, hS8⟩⟩, by simp only [intOf]; have := HIN.out.1; omega⟩
            · have a2 : decide (((E : Nat) : Int) ≤ (DP : Int)) = false := by simp; omega
              have a3 : decide (E ≤ DP) = false := by simp; omega
              have hno : gone T (dqf T q) bd p i (E + 1 - 1) 0 (V ++ [i]) = Vc := by
                rw [HO.out.2]
                exact if_neg (fun h => by have := HDD.out.2; omega)
              have HY := Hid.mk hno
              clear hno hA hB
              simp only [chI]
              go_wp2_with (first
                | (go_at_call 65; refine hb6.mono ?_; rintro e7 w7 ⟨rfl, hd7⟩)
                | fail)
              exact ⟨⟨E + 1, L5, Vc, by push_cast; rfl, by omega, by have := HIN.out.1; omega, Hid.mk ⟨HY.out.symm, HN.out.drew hd7⟩⟩, by simp only [intOf]; have := HIN.out.1; omega⟩
          · have a1 : decide (DM ≤ ((E : Nat) : Int)) = false := by simp; omega
            have hno : gone T (dqf T q) bd p i (E + 1 - 1) 0 (V ++ [i]) = Vc := by
              rw [HO.out.2]
              exact if_neg (fun h => by have := HDD.out.1; omega)
            have HY := Hid.mk hno
            clear hno hA
            simp only [chI]
            go_wp2_with (first
              | (go_at_call 65; refine hb6.mono ?_; rintro e7 w7 ⟨rfl, hd7⟩)
              | fail)
            exact ⟨⟨E + 1, L5, Vc, by push_cast; rfl, by omega, by have := HIN.out.1; omega, Hid.mk ⟨HY.out.symm, HN.out.drew hd7⟩⟩, by simp only [intOf]; have := HIN.out.1; omega⟩
      · have hend : gone T (dqf T q) bd p i wd 0 (V ++ [i]) = Vc := by rw [HJ.out.1, show E - 1 = wd by omega]
        have HEN := Hid.mk hend
        have b2 : decide (((E : Nat) : Int) ≤ ((wd : Nat) : Int)) = false := by simp; omega
        have b4 : decide (E ≤ wd) = false := by simp; omega
        clear hend hin
        go_wp2_with fail
        go_ret
        rw [HEN.out]
        exact ⟨_, L5, rfl, HJ.out.2⟩
end Go.Proofs.YtnnbcdfpbdmgdaaDoor
set_option linter.unusedVariables false
set_option linter.unusedSimpArgs false
namespace Go.Proofs.YtnnbcdfpbdmgdaaDoor
open Go.RowKit Go.Maps Go.Sort Go.Proofs.BitMath Go.Proofs.TreeMath
theorem near_all {n B0 t wd : Nat} {T : List (Nd (Cd n))} {v : Value} (q : Cd n) (k : Nat) (sn : Int) (W0 : World) (hk1 : 1 ≤ k) (hk2 : k ≤ 4096) : ∀ (f i : Nat) (V : List Nat) (L : List (Nat × Cd n)) (fv : Value) (w : World), T.length - i ≤ f → i < T.length → SW B0 W0 w t wd T v q wd sn fv V L → Fin' T (pre T (dqf T q) (bdV T k wd q) wd f V i) → Calls Tryd.prog 64 #[.pointer (some ⟨t, 0, none⟩), .int .i64 i, .string q.1, .int .i64 k, fv] w (WinO B0 W0 t wd T v q wd sn (pre T (dqf T q) (bdV T k wd q) wd f V i))
  | 0, i, V, L, fv, w, hf, hi, _, _ => by omega
  | f + 1, i, V, L, fv, w, hf, hi, h, hF => near_rec q k sn W0 hk1 hk2 f (near_all q k sn W0 hk1 hk2 f) i V L fv w hf hi h hF
/-- The first of what is found, up to the bound, are what the program answers. -/
theorem near_ans {n : Nat} {T : List (Nd (Cd n))} (wf : WF dC T) {k wd : Nat} (hk : 1 ≤ k) (h8 : wd = 8 * n) {q : Cd n} {V : List Nat} (hr : Run T (dqf T q) (bdV T k wd q) wd (st0 T) [] [] V) {L : List (Nat × Cd n)} (hs : ScL q wd (lvc T V) L) {x : Nat} (h1 : ∀ j (hj : j < L.length), j < x → L[j].1 ≤ bdV T k wd q V) (h2 : ∀ hx : x < L.length, bdV T k wd q V < L[x].1) : ansL k wd q (lives T) = L.take x := by
  have si := run_start wf hk h8 hr
  rw [← ans_eq wf hk si]
  show ansL k wd q (lvc T V) = _
  refine ansL_eq (lvc_nodup wf si.nd) (hs.srt.sublist (List.take_sublist x L)) (fun y => ?_)
  show y ∈ L.take x ↔ y.2 ∈ lvc T V ∧ dC y.2 q = y.1 ∧ y.1 ≤ bdV T k wd q V
  have hb := bdV_le T k wd q V
  constructor
  · intro hy
    obtain ⟨j, hj, rfl⟩ := List.getElem_of_mem hy
    rw [List.length_take] at hj
    rw [List.getElem_take]
    have hm := (hs.mem L[j]).1 (List.getElem_mem _)
    exact ⟨hm.1, hm.2.1, h1 j (by omega) (by omega)⟩
  · rintro ⟨a1, a2, a3⟩
    have hy : y ∈ L := (hs.mem y).2 ⟨a1, a2, by omega⟩
    obtain ⟨j, hj, rfl⟩ := List.getElem_of_mem hy
    by_cases hjx : j < x
    · rw [List.mem_take_iff_getElem]
      exact ⟨j, by omega, rfl⟩
    · exfalso
      have h4 := h2 (by omega)
      have h5 : L[x].1 ≤ L[j].1 := by
        by_cases e : x = j
        · subst e; exact Nat.le_refl _
        · exact hlt_le (List.pairwise_iff_getElem.1 hs.srt x j (by omega) hj (by omega))
      omega
def RNearO {n : Nat} (B0 : Nat) (W : World) (t wd : Nat) (T : List (Nd (Cd n))) (v : Value) (sn : Int) (s : ByteArray) (k : Int) (e : Ending) (w' : World) : Prop :=
  (s.size ≠ n ∧ e = .returned (.tuple #[.slice none 0 0, .int .i64 11]) ∧ Drew W w') ∨
  (s.size = n ∧ ¬ (0 ≤ k ∧ k ≤ 4096) ∧ e = .returned (.tuple #[.slice none 0 0, .int .i64 100]) ∧ Drew W w') ∨
  (s.size = n ∧ k = 0 ∧ e = .returned (.tuple #[.slice none 0 0, .int .i64 0]) ∧ Drew W w') ∨
  ∃ (hs : s.size = n) (fv : Value) (nv : Nat), 1 ≤ k ∧ k ≤ 4096 ∧ e = .returned (.tuple #[fv, .int .i64 0]) ∧ RSrch B0 W w' t wd T v sn k.toNat wd ⟨s, hs⟩ fv nv
set_option maxHeartbeats 4000000 in
set_option maxRecDepth 100000 in
theorem rnearest_any {n B0 t wd : Nat} {T : List (Nd (Cd n))} {v : Value} {sn : Int} (W : World) (h : RT B0 W t wd T v sn) (s : ByteArray) (k : Int) :
    Calls Tryd.prog 48 #[.pointer (some ⟨t, 0, none⟩), .string s, .int .i64 k] W (RNearO B0 W t wd T v sn s k) := by
  obtain ⟨t0, t1, t2, tf⟩ := h.cell
  obtain ⟨i0, hi0, hz0, hz1, hz2⟩ := info_parts infH
  have h8 : ((wd : Nat) : Int) / 8 = (n : Int) := by have := h.eight; omega
  have n8 : n ≤ 128 := by have := isW_bd h.wid; have := h.eight; omega
  have hw1024 : wd ≤ 1024 := by have := isW_bd h.wid; omega
  have hwn : wrap64 (n : Int) = (n : Int) := by unfold wrap64; omega
  by_cases hs : s.size = n
  · have e1 : (((s.size : Nat) : Int) != (n : Int)) = false := by rw [bne_eq_false_iff_eq]; omega
    obtain ⟨q, hq⟩ : ∃ q : Cd n, q.1 = s := ⟨⟨s, hs⟩, rfl⟩
    have hq2 : ∀ hs' : s.size = n, (⟨s, hs'⟩ : Cd n) = q := fun _ => Subtype.ext hq.symm
    by_cases hr : 0 ≤ k ∧ k ≤ 4096
    · obtain ⟨k', rfl⟩ : ∃ k' : Nat, k = k' := ⟨k.toNat, by omega⟩
      have r1 : ¬ ((k' : Nat) : Int) < 0 := by omega
      have r2 : decide ((4096 : Int) < ((k' : Nat) : Int)) = false := by simp; omega
      have r3 : decide (4096 < k') = false := by simp; omega
      obtain ⟨a, cp, hv, hcp⟩ := h.form
      rcases Nat.eq_zero_or_pos k' with hk0 | hk0
      · have HE := Hid.mk (show RNearO B0 W t wd T v sn s (k' : Int) (.returned (.tuple #[.slice none 0 0, .int .i64 0])) W from .inr (.inr (.inl ⟨hs, by omega, rfl, Drew.refl _⟩)))
        subst hk0
        clear h hcp hr r2 r3 hv
        go_enter Tryd.func48, Tryd.ntmps48
        go_wp2_with fail
        all_goals (go_ret2; exact HE.out)
      · have k0 : (((k' : Nat) : Int) == 0) = false := by simp; omega
        have hfin : ∀ (w' : World) (fv : Value) (V : List Nat) (M : List (Nat × Cd n)), w'.ownsRow W.heap.size 36 3 fv M.length (M.flatMap hV) → RT B0 w' t wd T v (lkN sn V.length) → Stay (fun j => j = t ∨ W.heap.size ≤ j) W w' → Run T (dqf T q) (bdV T k' wd q) wd (st0 T) [] [] V → ansL k' wd q (lives T) = M → RNearO B0 W t wd T v sn s (k' : Int) (.returned (.tuple #[fv, .int .i64 0])) w' := fun w' fv V M hrow hrt hst hR hM => by
          refine .inr (.inr (.inr ⟨hs, fv, V.length, by omega, hr.2, rfl, ?_⟩))
          rw [hq2 hs, Int.toNat_natCast]
          exact ⟨by rw [hM]; exact hrow, hrt, hst, V, rfl, hR⟩
        have HF := Hid.mk hfin
        by_cases hT : T.length = 0
        · have hT0 : T = [] := List.eq_nil_of_length_eq_zero hT
          have hE := hfin W (.slice none 0 0) [] [] ⟨rfl, .inl ⟨rfl, rfl⟩⟩ (by rw [List.length_nil, lkN_zero h.lk]; exact h) (Stay.refl _ _) (by rw [st0_nil hT]; exact .refl _ _) (ansL_eq h.wf.lives_nodup List.Pairwise.nil (fun x => by subst hT0; simp [lives]))
          have HE := Hid.mk hE
          rw [hv, hT] at t1
          clear hE hfin h hv hcp hr hT0
          go_enter Tryd.func48, Tryd.ntmps48
          go_wp2_with fail
          all_goals (go_ret2; exact HE.out)
        · have hR := pre_run h.wf (k := k') (b0 := wd) (wd := wd) (by omega) (q := q) (show 0 < T.length by omega)
          have hFin := run_fin h.wf (by omega) h.eight hR
          have hrec := near_all (B0 := B0) (t := t) (v := v) q k' sn W (by omega) (by omega) T.length 0 [] [] (.slice none 0 0) W (by omega) (by omega) (sw_start h q wd) hFin
          rw [hq] at hrec
          obtain ⟨V, hV⟩ : ∃ V, V = pre T (dqf T q) (bdV T k' wd q) wd T.length [] 0 := ⟨_, rfl⟩
          rw [← hV] at hR hFin hrec
          have HR := Hid.mk (And.intro hR (And.intro hFin (And.intro h.wf (And.intro h.eight h.small))))
          obtain ⟨ln, hln⟩ : ∃ ln, ln = T.length := ⟨_, rfl⟩
          have l0 : ((ln : Int) == 0) = false := by simp; omega
          have hk2 : k' ≤ 4096 := by omega
          rw [hv, ← hln] at t1
          clear hR hFin hfin h hv hcp hr hln hT hV
          go_enter Tryd.func48, Tryd.ntmps48
          go_wp2_with fail
          refine hrec.mono ?_
          rintro e1' w1 ⟨fv1, L, rfl, hS⟩
          obtain ⟨a1, c1, hf1, -⟩ := slice_form hS.row
          have hbn := rbound_any hS HR.out.2.1 k' hk0 hk2
          subst hf1
          obtain ⟨m, hm⟩ : ∃ m, m = L.length := ⟨_, rfl⟩
          have hmb : m ≤ 1099511627776 := by have h1 := hS.sc.len; have h2 := lvc_len T V; have h3 := HR.out.2.1.len; have h4 := HR.out.2.2.2.2; omega
          obtain ⟨bb, hbb⟩ : ∃ bb, bb = bdV T k' wd q V := ⟨_, rfl⟩
          rw [← hbb, ← hm] at hbn
          rw [← hm]
          have HB := Hid.mk (And.intro hm hbb)
          have HS := Hid.mk hS
          clear hrec hS hm hbb
          go_wp2_with (first
            | (go_at_call 65; refine hbn.mono ?_; rintro e2 w2 ⟨rfl, hd2⟩)
            | fail)
          have hS2 := HS.out.drew hd2
          have HS2 := Hid.mk hS2
          obtain ⟨aa, cc, haa, -, hat⟩ := HAt.row hS2.row
          rw [← HB.out.1] at haa
          cases haa
          have HAT := Hid.mk hat
          clear hS2 hat hbn hd2 HS
          go_loopw [9, 11] (fun u9 u11 wr => ∃ (i : Nat), u11 = .int .i64 i ∧ i ≤ m ∧ Hid (Below w2.heap.size w2 wr ∧ wr.ownsRow w2.heap.size 36 3 u9 i ((L.take i).flatMap hV) ∧ ∀ j (hj : j < L.length), j < i → L[j].1 ≤ bb)) (fun _ u11 _ => m - (intOf u11).toNat)
          case atStart => exact ⟨0, rfl, Nat.zero_le _, Hid.mk ⟨Below.refl _ _, ⟨by simp, .inl ⟨rfl, rfl⟩⟩, fun j hj h => by omega⟩⟩
          case round =>
            obtain ⟨i, rfl, hi, HJ⟩ := hrel
            have i2 : (0 : Int) ≤ (i : Int) := by omega
            obtain ⟨ya, yc, hyv, -⟩ := slice_form HJ.out.2.1
            subst hyv
            have fin : (∀ hx : i < L.length, bb < L[i].1) → RNearO B0 W t wd T v sn s (k' : Int) (.returned (.tuple #[.slice ya i yc, .int .i64 0])) wr := fun hx => by
              have hil : i ≤ L.length := by have := HB.out.1; omega
              have hst2 : Stay (fun _ => False) w2 wr := .below HJ.out.1
              refine HF.out wr (.slice ya i yc) V (L.take i) ?_ (HS2.out.rt.below HJ.out.1) (HS2.out.st.andThen hst2 (fun _ _ e => e.elim)) HR.out.1 (near_ans HR.out.2.2.1 hk0 HR.out.2.2.2.1 HR.out.1 HS2.out.sc (fun j hj hji => by rw [← HB.out.2]; exact HJ.out.2.2 j hj hji) (fun hxx => by rw [← HB.out.2]; exact hx hxx))
              rw [List.length_take, Nat.min_eq_left hil]
              exact row_mono HJ.out.2.1 HS2.out.st.size
            by_cases hlt : i < m
            · have hiL : i < L.length := by have := HB.out.1; omega
              have i1 : decide ((i : Int) < (m : Int)) = true := by simp; omega
              have i1' : (i : Int) < (m : Int) := by omega
              have i3 : decide (i < m) = true := by simp; omega
              obtain ⟨g, hg, x0, x1, x2⟩ := (HAT.out.below HJ.out.1) i hiL
              subst hg
              have htk : (L.take (i + 1)).flatMap hV = (L.take i).flatMap hV ++ hV L[i] := by rw [List.take_succ_eq_append_getElem hiL, List.flatMap_append]; simp
              obtain ⟨y1, hy1⟩ : ∃ y1, y1 = L[i].1 := ⟨_, rfl⟩
              obtain ⟨ys, hys⟩ : ∃ ys, ys = L[i].2.1 := ⟨_, rfl⟩
              rw [← hy1] at x0
              rw [← hys] at x2
              have hV1 : hV L[i] = [.int .i64 (y1 : Nat), .int .i64 0, .string ys] := by rw [hy1, hys]; rfl
              rw [hV1] at htk
              have HT := Hid.mk (And.intro htk (And.intro hy1 fin))
              have hwi : IntKind.i64.wrap ((i : Int) + 1) = ((i + 1 : Nat) : Int) := by rw [IntKind.wrap_i64]; omega
              clear hy1 hys hV1 htk fin
              by_cases hyb : y1 ≤ bb
              · have y2 : decide (((y1 : Nat) : Int) ≤ ((bb : Nat) : Int)) = true := by simp; omega
                have y3 : decide (y1 ≤ bb) = true := by simp; omega
                have hb1 : i + 1 ≤ maxLen := by unfold maxLen; omega
                have hb2 : (i + 1) * 32 ≤ 140737488355328 := by omega
                have HY := Hid.mk hyb
                have r1' := HJ.out.2.1
                have b1' := HJ.out.1
                clear hyb
                go_wp2_with (first
                  | (at_builtin; refine wpList_append_own _ rfl _ _ 32 rfl w2.heap.size 36 i0 (.agg #[.int .i64 0, .int .i64 0, .string ⟨#[]⟩]) 3 32 Tryd.underlying32 hi0 hz0 hz1 hz2 rfl (by decide) _ _ _ rfl (r1'.alloc _) ⟨wr.heap.size, 0, none⟩ 1 1 [.int .i64 (y1 : Nat), .int .i64 0, .string ys] rfl rfl (cell_three_new _ _ _ _ _) (by simp [Value.oneCell']) hb1 hb2 (by have := b1'.size; simp; omega) ?_; intro v3 w3 hr3 hg3 hnil3; have b3 : Below w2.heap.size w2 w3 := (b1'.alloc b1'.size _).grown hg3 (by have := b1'.size; simp; omega) (fun j hj => (r1'.lt j hj).1))
                  | go_in)
                exact ⟨⟨i + 1, by push_cast; rfl, hlt, Hid.mk ⟨b3, by rw [HT.out.1]; exact hr3, fun j hj hji => by
                  by_cases e : j = i
                  · subst e; rw [← HT.out.2.1]; exact HY.out
                  · exact HJ.out.2.2 j hj (by omega)⟩⟩, by simp only [intOf]; omega⟩
              · have y2 : decide (((y1 : Nat) : Int) ≤ ((bb : Nat) : Int)) = false := by simp; omega
                have y3 : decide (y1 ≤ bb) = false := by simp; omega
                have HE := Hid.mk (HT.out.2.2 (fun _ => by rw [← HT.out.2.1]; omega))
                clear hyb
                go_wp2_with fail
                go_ret2
                exact HE.out
            · have i1 : decide ((i : Int) < (m : Int)) = false := by simp; omega
              have i3 : decide (i < m) = false := by simp; omega
              have HE := Hid.mk (fin (fun hx => by have := HB.out.1; omega))
              clear fin
              go_wp2_with fail
              go_ret2
              exact HE.out
    · have HE := Hid.mk (show RNearO B0 W t wd T v sn s k (.returned (.tuple #[.slice none 0 0, .int .i64 100])) W from .inr (.inl ⟨hs, hr, rfl, Drew.refl _⟩))
      by_cases hr0 : k < 0
      · clear h
        go_enter Tryd.func48, Tryd.ntmps48
        go_wp2_with fail
        all_goals (go_ret2; exact HE.out)
      · have r2 : decide ((4096 : Int) < k) = true := by simp; omega
        have r3 : (4096 : Int) < k := by omega
        clear h
        go_enter Tryd.func48, Tryd.ntmps48
        go_wp2_with fail
        all_goals (go_ret2; exact HE.out)
  · have e1 : (((s.size : Nat) : Int) != (n : Int)) = true := by rw [bne_iff_ne]; omega
    clear h
    go_enter Tryd.func48, Tryd.ntmps48
    go_wp2_with fail
    go_ret2
    exact .inl ⟨hs, rfl, Drew.refl _⟩
end Go.Proofs.YtnnbcdfpbdmgdaaDoor
set_option linter.unusedVariables false
set_option linter.unusedSimpArgs false
namespace Go.Proofs.YtnnbcdfpbdmgdaaDoor
open Go.RowKit Go.Maps Go.Sort Go.Proofs.BitMath Go.Proofs.TreeMath
/-- What a call answers. -/
def ToldC {n : Nat} (B : Nat) (W1 w1 : World) (t wd : Nat) (T : List (Nd (Cd n))) (v : Value) (sn : Int) (K : Int) (s : ByteArray) (N : Int) (r : Ending) : Prop :=
  (K = 1 ∧ ∃ y e, r = .returned (gotV y e nilS 0 0 0 0) ∧ RAddO B W1 t wd T v sn s (.returned (.tuple #[.bool y, .int .i64 e])) w1) ∨
   (K = 2 ∧ ∃ y, r = .returned (gotV y 0 nilS 0 0 0 0) ∧ RDropO B W1 t wd T v sn s (.returned (.bool y)) w1) ∨
   (K = 3 ∧ ∃ y, r = .returned (gotV y 0 nilS 0 0 0 0) ∧ Drew W1 w1 ∧ (y = true ↔ ∃ c ∈ lives T, c.1 = s)) ∨
   (K = 4 ∧ ∃ fv e d, r = .returned (gotV false e fv 0 0 0 d) ∧ RWithO B W1 t wd T v sn s N (.returned (.tuple #[fv, .int .i64 e])) w1 ∧ RT B w1 t wd T v d) ∨
   (K = 5 ∧ ∃ fv e d, r = .returned (gotV false e fv 0 0 0 d) ∧ RNearO B W1 t wd T v sn s N (.returned (.tuple #[fv, .int .i64 e])) w1 ∧ RT B w1 t wd T v d) ∨
   (¬ (1 ≤ K ∧ K ≤ 5) ∧ ∃ a b c d : Int, r = .returned (gotV false 0 nilS a b c d) ∧ Drew W1 w1 ∧ ((K = 6 ∧ a = (lives T).length ∧ b = T.length ∧ (∃ k : Nat, c = k ∧ DepO T k) ∧ d = sn) ∨ (K ≠ 6 ∧ a = 0 ∧ b = 0 ∧ c = 0 ∧ d = 0)))
def ToldO {n : Nat} (B : Nat) (W : World) (t wd : Nat) (T : List (Nd (Cd n))) (v : Value) (sn : Int) (K : Int) (s : ByteArray) (N : Int) (r : Ending) (W' : World) : Prop :=
  ∃ W1 w1 gb, Below W.heap.size W W1 ∧ RT B W1 t wd T v sn ∧ W.heap.size ≤ gb ∧ gb < W1.heap.size ∧ ToldC B W1 w1 t wd T v sn K s N r ∧ Stay (fun k => k = gb) w1 W'
set_option maxHeartbeats 4000000 in
set_option maxRecDepth 100000 in
theorem told_any {n B t wd : Nat} {T : List (Nd (Cd n))} {v : Value} {sn : Int} (K : Int) (s : ByteArray) (N : Int) (W : World) (h : RT B W t wd T v sn) (hB : B ≤ W.heap.size) (hsm : T.length < 1099511627776) :
    Calls Tryd.prog 29 #[.pointer (some ⟨t, 0, none⟩), opV K s N] W (ToldO B W t wd T v sn K s N) := by
  have htl : t < W.heap.size := h.lt
  obtain ⟨W1, hW1⟩ : ∃ W1, W1 = (W.alloc (.cells #[.int .i64 K, .string s, .int .i64 N] 40)).alloc (.cells zGot 42) := ⟨_, rfl⟩
  have b1 : Below W.heap.size W W1 := by rw [hW1]; exact ((Below.refl _ W).alloc (Nat.le_refl _) _).alloc (by simp) _
  have hsz : W1.heap.size = W.heap.size + 2 := by rw [hW1]; simp
  have hgb : W1.heap[W.heap.size + 1]? = some (.cells zGot 42 (0, 0)) := by
    rw [hW1, show W.heap.size + 1 = (W.alloc (.cells #[.int .i64 K, .string s, .int .i64 N] 40)).heap.size by simp]
    exact Array.getElem?_push_size
  have h1 := h.below b1
  have hB1 : B ≤ W1.heap.size := Nat.le_trans hB b1.size
  have hrl : ∀ k, v.ownBlock = some k → k < W.heap.size := fun k hk => row_lt h.row hk
  have HT := Hid.mk (And.intro h1 (And.intro b1 (And.intro hsz hgb)))
  have mv : ∀ (w' : World) (T' : List (Nd (Cd n))), RMoved B W1 w' t wd T' v sn → w'.heap[W.heap.size + 1]? = some (.cells zGot 42 (0, 0)) := fun w' T' m =>
    (m.stay.block _ (by omega) (fun e => by
      rcases e with e | e
      · omega
      · have := hrl _ e; omega)).trans hgb
  have sv : ∀ (w' : World) (k b0 nv : Nat) (q : Cd n) (fv : Value), RSrch B W1 w' t wd T v sn k b0 q fv nv → w'.heap[W.heap.size + 1]? = some (.cells zGot 42 (0, 0)) := fun w' k b0 nv q fv m =>
    (m.st.block _ (by omega) (fun e => by rcases e with e | e <;> omega)).trans hgb
  have bv : ∀ (w' : World), Drew W1 w' → w'.heap[W.heap.size + 1]? = some (.cells zGot 42 (0, 0)) := fun w' d => ((d.below W1.heap.size).block _ (by omega)).trans hgb
  have MV := Hid.mk (And.intro mv (And.intro sv bv))
  have fin : ∀ (r : Ending) (w1 W' : World), ToldC B W1 w1 t wd T v sn K s N r → Stay (fun k => k = W.heap.size + 1) w1 W' → ToldO B W t wd T v sn K s N r W' := fun r w1 W' hc hst => ⟨W1, w1, W.heap.size + 1, b1, h1, by omega, by omega, hc, hst⟩
  have FN := Hid.mk fin
  clear h b1 hgb hsz mv sv bv fin hrl
  by_cases k1 : K = 1
  · subst k1
    have HC := Hid.mk (radd_any W1 HT.out.1 s hsm hB1)
    go_enter Tryd.func29, Tryd.ntmps29
    go_wp2_with fail
    rw [← hW1]
    refine HC.out.mono ?_
    rintro r w' ho
    obtain ⟨⟨y, e, rfl⟩, hbx⟩ : (∃ y e, r = .returned (.tuple #[.bool y, .int .i64 e])) ∧ w'.heap[W.heap.size + 1]? = some (.cells zGot 42 (0, 0)) := by
      rcases ho with ⟨-, h2, h3⟩ | ⟨hs, -, h2, h3⟩ | ⟨-, j, nd, -, -, h2, h3⟩
      · exact ⟨⟨_, _, h2⟩, MV.out.2.2 _ h3⟩
      · exact ⟨⟨_, _, h2⟩, MV.out.1 _ _ h3⟩
      · exact ⟨⟨_, _, h2⟩, MV.out.1 _ _ h3⟩
    obtain ⟨c0, c1, c2, c3, c4, c5, c6, cf⟩ := box7 hbx
    have HO := Hid.mk ho
    have HB := Hid.mk hbx
    clear ho hbx
    go_wp2_with fail
    obtain ⟨f0, f1, f2, f3, f4, f5, f6⟩ := rd7 HB.out (.bool y) (.int .i64 e) nilS (.int .i64 0) (.int .i64 0) (.int .i64 0) (.int .i64 0)
    refine bodyPost_ret (v := .agg #[(.bool y), (.int .i64 e), nilS, (.int .i64 0), (.int .i64 0), (.int .i64 0), (.int .i64 0)]) (by simp [results, Tryd.results29, go_sem, f0, f1, f2, f3, f4, f5, f6]; try rfl) rfl ?_
    exact FN.out _ _ _ (.inl ⟨rfl, y, e, rfl, HO.out⟩) (st7 w' _ _ _ _ _ _ _ _)
  by_cases k2 : K = 2
  · subst k2
    have HC := Hid.mk (rdrop_any W1 HT.out.1 s hB1)
    go_enter Tryd.func29, Tryd.ntmps29
    go_wp2_with fail
    rw [← hW1]
    refine HC.out.mono ?_
    rintro r w' ho
    obtain ⟨⟨y, rfl⟩, hbx⟩ : (∃ y, r = .returned (.bool y)) ∧ w'.heap[W.heap.size + 1]? = some (.cells zGot 42 (0, 0)) := by
      rcases ho with ⟨-, h2, h3⟩ | ⟨j, nd, -, -, -, h2, (⟨-, h3⟩ | ⟨-, cs, -, -, h3⟩)⟩
      · exact ⟨⟨_, h2⟩, MV.out.2.2 _ h3⟩
      · exact ⟨⟨_, h2⟩, MV.out.1 _ _ h3⟩
      · exact ⟨⟨_, h2⟩, MV.out.1 _ _ h3⟩
    obtain ⟨c0, c1, c2, c3, c4, c5, c6, cf⟩ := box7 hbx
    have HO := Hid.mk ho
    have HB := Hid.mk hbx
    clear ho hbx
    go_wp2_with fail
    obtain ⟨f0, f1, f2, f3, f4, f5, f6⟩ := rd7 HB.out (.bool y) (.int .i64 0) nilS (.int .i64 0) (.int .i64 0) (.int .i64 0) (.int .i64 0)
    refine bodyPost_ret (v := .agg #[(.bool y), (.int .i64 0), nilS, (.int .i64 0), (.int .i64 0), (.int .i64 0), (.int .i64 0)]) (by simp [results, Tryd.results29, go_sem, f0, f1, f2, f3, f4, f5, f6]; try rfl) rfl ?_
    exact FN.out _ _ _ (.inr (.inl ⟨rfl, y, rfl, HO.out⟩)) (st7 w' _ _ _ _ _ _ _ _)
  by_cases k3 : K = 3
  · subst k3
    have HC := Hid.mk (rhas_any W1 HT.out.1 s)
    go_enter Tryd.func29, Tryd.ntmps29
    go_wp2_with fail
    rw [← hW1]
    refine HC.out.mono ?_
    rintro r w' ⟨y, rfl, hy, hb⟩
    obtain ⟨c0, c1, c2, c3, c4, c5, c6, cf⟩ := box7 (MV.out.2.2 _ hb)
    have HB := Hid.mk (MV.out.2.2 _ hb)
    have HO := Hid.mk (And.intro hb hy)
    clear hb hy
    go_wp2_with fail
    obtain ⟨f0, f1, f2, f3, f4, f5, f6⟩ := rd7 HB.out (.bool y) (.int .i64 0) nilS (.int .i64 0) (.int .i64 0) (.int .i64 0) (.int .i64 0)
    refine bodyPost_ret (v := .agg #[(.bool y), (.int .i64 0), nilS, (.int .i64 0), (.int .i64 0), (.int .i64 0), (.int .i64 0)]) (by simp [results, Tryd.results29, go_sem, f0, f1, f2, f3, f4, f5, f6]; try rfl) rfl ?_
    exact FN.out _ _ _ (.inr (.inr (.inl ⟨rfl, y, rfl, HO.out.1, HO.out.2⟩))) (st7 w' _ _ _ _ _ _ _ _)
  by_cases k4 : K = 4
  · subst k4
    have HC := Hid.mk (rwithin_any W1 HT.out.1 s N)
    go_enter Tryd.func29, Tryd.ntmps29
    go_wp2_with fail
    rw [← hW1]
    refine HC.out.mono ?_
    rintro r w' ho
    obtain ⟨⟨fv, e, rfl⟩, hbx, sn2, hrt⟩ : (∃ fv e, r = .returned (.tuple #[fv, .int .i64 e])) ∧ w'.heap[W.heap.size + 1]? = some (.cells zGot 42 (0, 0)) ∧ ∃ sn2, RT B w' t wd T v sn2 := by
      rcases ho with ⟨-, h2, h3⟩ | ⟨-, -, h2, h3⟩ | ⟨hs, fv, nv, -, -, h2, h3⟩
      · exact ⟨⟨_, _, h2⟩, MV.out.2.2 _ h3, _, HT.out.1.below (h3.below _)⟩
      · exact ⟨⟨_, _, h2⟩, MV.out.2.2 _ h3, _, HT.out.1.below (h3.below _)⟩
      · exact ⟨⟨_, _, h2⟩, MV.out.2.1 _ _ _ _ _ _ h3, _, h3.rt⟩
    obtain ⟨va, vl, vc, rfl⟩ : ∃ va vl vc, fv = .slice va vl vc := by
      rcases ho with ⟨-, h2, h3⟩ | ⟨-, -, h2, h3⟩ | ⟨hs, fv, nv, -, -, h2, h3⟩
      · cases h2; exact ⟨_, _, _, rfl⟩
      · cases h2; exact ⟨_, _, _, rfl⟩
      · cases h2
        obtain ⟨a, c, e, -⟩ := slice_form h3.row
        exact ⟨_, _, _, e⟩
    obtain ⟨c0, c1, c2, c3, c4, c5, c6, cf⟩ := box7 hbx
    have hlk := rlooked_any w' hrt
    have HX := Hid.mk hrt
    have HO := Hid.mk ho
    have HB := Hid.mk hbx
    clear ho hbx hrt
    go_wp2_with (go_at_call 47; refine hlk.mono ?_; rintro e' w2 ⟨rfl, hd2⟩; obtain ⟨nq2, rfl⟩ := hd2)
    have HB2 := Hid.mk (show (w'.drewN nq2).heap[W.heap.size + 1]? = some (.cells zGot 42 (0, 0)) from HB.out)
    obtain ⟨f0, f1, f2, f3, f4, f5, f6⟩ := rd7 HB2.out (.bool false) (.int .i64 e) (.slice va vl vc) (.int .i64 0) (.int .i64 0) (.int .i64 0) (.int .i64 sn2)
    refine bodyPost_ret (v := .agg #[(.bool false), (.int .i64 e), (.slice va vl vc), (.int .i64 0), (.int .i64 0), (.int .i64 0), (.int .i64 sn2)]) (by simp [results, Tryd.results29, go_sem, f0, f1, f2, f3, f4, f5, f6]; try rfl) rfl ?_
    refine FN.out _ w' _ (.inr <| .inr <| .inr <| .inl ⟨rfl, _, e, _, rfl, HO.out, HX.out⟩) ?_
    exact (Stay.below (F := fun k => k = W.heap.size + 1) (Drew.below (show Drew w' (w'.drewN nq2) from ⟨nq2, rfl⟩) _)).trans (st7 _ _ _ _ _ _ _ _ _)
  by_cases k5 : K = 5
  · subst k5
    have HC := Hid.mk (rnearest_any W1 HT.out.1 s N)
    go_enter Tryd.func29, Tryd.ntmps29
    go_wp2_with fail
    rw [← hW1]
    refine HC.out.mono ?_
    rintro r w' ho
    obtain ⟨⟨fv, e, rfl⟩, hbx, sn2, hrt⟩ : (∃ fv e, r = .returned (.tuple #[fv, .int .i64 e])) ∧ w'.heap[W.heap.size + 1]? = some (.cells zGot 42 (0, 0)) ∧ ∃ sn2, RT B w' t wd T v sn2 := by
      rcases ho with ⟨-, h2, h3⟩ | ⟨-, -, h2, h3⟩ | ⟨-, -, h2, h3⟩ | ⟨hs, fv, nv, -, -, h2, h3⟩
      · exact ⟨⟨_, _, h2⟩, MV.out.2.2 _ h3, _, HT.out.1.below (h3.below _)⟩
      · exact ⟨⟨_, _, h2⟩, MV.out.2.2 _ h3, _, HT.out.1.below (h3.below _)⟩
      · exact ⟨⟨_, _, h2⟩, MV.out.2.2 _ h3, _, HT.out.1.below (h3.below _)⟩
      · exact ⟨⟨_, _, h2⟩, MV.out.2.1 _ _ _ _ _ _ h3, _, h3.rt⟩
    obtain ⟨va, vl, vc, rfl⟩ : ∃ va vl vc, fv = .slice va vl vc := by
      rcases ho with ⟨-, h2, h3⟩ | ⟨-, -, h2, h3⟩ | ⟨-, -, h2, h3⟩ | ⟨hs, fv, nv, -, -, h2, h3⟩
      · cases h2; exact ⟨_, _, _, rfl⟩
      · cases h2; exact ⟨_, _, _, rfl⟩
      · cases h2; exact ⟨_, _, _, rfl⟩
      · cases h2
        obtain ⟨a, c, e, -⟩ := slice_form h3.row
        exact ⟨_, _, _, e⟩
    obtain ⟨c0, c1, c2, c3, c4, c5, c6, cf⟩ := box7 hbx
    have hlk := rlooked_any w' hrt
    have HX := Hid.mk hrt
    have HO := Hid.mk ho
    have HB := Hid.mk hbx
    clear ho hbx hrt
    go_wp2_with (go_at_call 47; refine hlk.mono ?_; rintro e' w2 ⟨rfl, hd2⟩; obtain ⟨nq2, rfl⟩ := hd2)
    have HB2 := Hid.mk (show (w'.drewN nq2).heap[W.heap.size + 1]? = some (.cells zGot 42 (0, 0)) from HB.out)
    obtain ⟨f0, f1, f2, f3, f4, f5, f6⟩ := rd7 HB2.out (.bool false) (.int .i64 e) (.slice va vl vc) (.int .i64 0) (.int .i64 0) (.int .i64 0) (.int .i64 sn2)
    refine bodyPost_ret (v := .agg #[(.bool false), (.int .i64 e), (.slice va vl vc), (.int .i64 0), (.int .i64 0), (.int .i64 0), (.int .i64 sn2)]) (by simp [results, Tryd.results29, go_sem, f0, f1, f2, f3, f4, f5, f6]; try rfl) rfl ?_
    refine FN.out _ w' _ (.inr <| .inr <| .inr <| .inr <| .inl ⟨rfl, _, e, _, rfl, HO.out, HX.out⟩) ?_
    exact (Stay.below (F := fun k => k = W.heap.size + 1) (Drew.below (show Drew w' (w'.drewN nq2) from ⟨nq2, rfl⟩) _)).trans (st7 _ _ _ _ _ _ _ _ _)
  by_cases k6 : K = 6
  · subst k6
    have hl1 := rlen_any W1 HT.out.1
    go_enter Tryd.func29, Tryd.ntmps29
    go_wp2_with fail
    rw [← hW1]
    refine hl1.mono ?_
    rintro e w2 ⟨rfl, d2⟩
    have hl2 := rnodes_any w2 (HT.out.1.below (d2.below _))
    go_wp2_with fail
    refine hl2.mono ?_
    rintro e w3 ⟨rfl, d3'⟩
    have d3 := d2.trans d3'
    have hl3 := rdepth_any w3 (HT.out.1.below (d3.below _))
    go_wp2_with fail
    refine hl3.mono ?_
    rintro e w4 ⟨kd, rfl, hkd, d4'⟩
    have d4 := d3.trans d4'
    have hl4 := rlooked_any w4 (HT.out.1.below (d4.below _))
    go_wp2_with fail
    refine hl4.mono ?_
    rintro e w5 ⟨rfl, d5'⟩
    have d5 := d4.trans d5'
    obtain ⟨c0, c1, c2, c3, c4, c5, c6, cf⟩ := box7 (MV.out.2.2 _ d5)
    have HB := Hid.mk (MV.out.2.2 _ d5)
    have HD := Hid.mk (And.intro d5 hkd)
    clear d2 d3 d4 d3' d4' d5' hl1 hl2 hl3 hl4 hkd d5 hW1
    go_wp2_with fail
    obtain ⟨f0, f1, f2, f3, f4, f5, f6⟩ := rd7 HB.out (.bool false) (.int .i64 0) nilS (.int .i64 ((lives T).length : Nat)) (.int .i64 (T.length : Nat)) (.int .i64 (kd : Nat)) (.int .i64 sn)
    refine bodyPost_ret (v := .agg #[(.bool false), (.int .i64 0), nilS, (.int .i64 ((lives T).length : Nat)), (.int .i64 (T.length : Nat)), (.int .i64 (kd : Nat)), (.int .i64 sn)]) (by simp [results, Tryd.results29, go_sem, f0, f1, f2, f3, f4, f5, f6]; try rfl) rfl ?_
    exact FN.out _ _ _ (.inr (.inr (.inr (.inr (.inr ⟨by omega, _, _, _, _, rfl, HD.out.1, .inl ⟨rfl, rfl, rfl, ⟨kd, rfl, HD.out.2⟩, rfl⟩⟩))))) (st7 _ _ _ _ _ _ _ _ _)
  · have e1 : (K == 1) = false := by simpa using k1
    have e2 : (K == 2) = false := by simpa using k2
    have e3 : (K == 3) = false := by simpa using k3
    have e4 : (K == 4) = false := by simpa using k4
    have e5 : (K == 5) = false := by simpa using k5
    have e6 : (K == 6) = false := by simpa using k6
    have HK := Hid.mk (show ¬ (1 ≤ K ∧ K ≤ 5) by omega)
    have HK6 := Hid.mk k6
    clear k1 k2 k3 k4 k5 k6
    go_enter Tryd.func29, Tryd.ntmps29
    go_wp2_with fail
    rw [← hW1]
    obtain ⟨c0, c1, c2, c3, c4, c5, c6, cf⟩ := box7 (MV.out.2.2 _ (Drew.refl _))
    refine bodyPost_ret (v := gotV false 0 nilS 0 0 0 0) (by simp [gotV, results, Tryd.results29, go_sem, c0, c1, c2, c3, c4, c5, c6]; try rfl) rfl ?_
    exact FN.out _ _ _ (.inr (.inr (.inr (.inr (.inr ⟨HK.out, _, _, _, _, rfl, Drew.refl _, .inr ⟨HK6.out, rfl, rfl, rfl, rfl⟩⟩))))) (.refl _ _)
end Go.Proofs.YtnnbcdfpbdmgdaaDoor
set_option linter.unusedVariables false
set_option linter.unusedSimpArgs false
namespace Go.Proofs.YtnnbcdfpbdmgdaaDoor
open Go.RowKit Go.Maps Go.Sort Go.Proofs.BitMath Go.Proofs.TreeMath
theorem gbox {w : World} {gb : Nat} {v0 v1 v2 v3 v4 v5 v6 : Value} (h : w.heap[gb]? = some (.cells #[v0, v1, v2, v3, v4, v5, v6] 42 (0, 0))) : w.cell? ⟨gb, 0, none⟩ = some v0 ∧ w.cell? ⟨gb, 1, none⟩ = some v1 ∧ w.cell? ⟨gb, 2, none⟩ = some v2 ∧ w.cell? ⟨gb, 3, none⟩ = some v3 ∧ w.cell? ⟨gb, 4, none⟩ = some v4 ∧ w.cell? ⟨gb, 5, none⟩ = some v5 ∧ w.cell? ⟨gb, 6, none⟩ = some v6 := by
  refine ⟨?_, ?_, ?_, ?_, ?_, ?_, ?_⟩ <;> simp [World.cell?, h]
set_option maxHeartbeats 2000000 in
set_option maxRecDepth 100000 in
theorem same_any {m : Nat} (l : List (Nat × Cd m)) (va vb : Option Addr) (ca cb : Nat) (y : Bool) (e a b c d : Int) (w : World) (ha : HAt w va l) (hb : HAt w vb l) (hl : l.length < 4611686018427387904) :
    Calls Tryd.prog 28 #[gotV y e (.slice va l.length ca) a b c d, gotV y e (.slice vb l.length cb) a b c d] w fun r w' => r = .returned (.bool true) ∧ Below w.heap.size w w' := by
  obtain ⟨ln, hln⟩ : ∃ ln, ln = l.length := ⟨_, rfl⟩
  obtain ⟨w2, hw2⟩ : ∃ w2, w2 = (w.alloc (.cells #[.bool y, .int .i64 e, .slice va ln ca, .int .i64 a, .int .i64 b, .int .i64 c, .int .i64 d] 42)).alloc (.cells #[.bool y, .int .i64 e, .slice vb ln cb, .int .i64 a, .int .i64 b, .int .i64 c, .int .i64 d] 42) := ⟨_, rfl⟩
  have b2 : Below w.heap.size w w2 := by rw [hw2]; exact ((Below.refl _ w).alloc (Nat.le_refl _) _).alloc (by simp) _
  have h1 : w2.heap[w.heap.size]? = some (.cells #[.bool y, .int .i64 e, .slice va ln ca, .int .i64 a, .int .i64 b, .int .i64 c, .int .i64 d] 42 (0, 0)) := by
    rw [hw2, Below.heap_alloc _ _ _ (by simp)]
    exact Array.getElem?_push_size
  have h2 : w2.heap[w.heap.size + 1]? = some (.cells #[.bool y, .int .i64 e, .slice vb ln cb, .int .i64 a, .int .i64 b, .int .i64 c, .int .i64 d] 42 (0, 0)) := by
    rw [hw2, show w.heap.size + 1 = (w.alloc (.cells #[.bool y, .int .i64 e, .slice va ln ca, .int .i64 a, .int .i64 b, .int .i64 c, .int .i64 d] 42)).heap.size by simp]
    exact Array.getElem?_push_size
  have hsame : ∀ w', Drew w2 w' → Calls Tryd.prog 23 #[.slice va ln ca, .slice vb ln cb] w' fun e w'' => e = .returned (.bool true) ∧ Drew w' w'' := fun w' dd => by
    rw [hln]
    exact sameHits_any l va vb ca cb w' ((ha.below b2).below (dd.below _)) ((hb.below b2).below (dd.below _)) hl
  have hs2 := hsame w2 (Drew.refl _)
  have HA := Hid.mk (And.intro b2 (And.intro h1 h2))
  rw [← hln]
  simp only [gotV]
  clear ha hb hl hln b2 hsame h1 h2
  go_enter Tryd.func28, Tryd.ntmps28
  go_wp2_with fail
  rw [← hw2]
  clear hw2
  refine hs2.mono ?_
  rintro e' w3 ⟨rfl, d3⟩
  have b23 : Below w2.heap.size w2 w3 := d3.below _
  obtain ⟨p0, p1, p2, p3, p4, p5, p6⟩ := gbox ((b23.block _ (Array.getElem?_eq_some_iff.1 HA.out.2.1).1).trans HA.out.2.1)
  obtain ⟨q0, q1, q2, q3, q4, q5, q6⟩ := gbox ((b23.block _ (Array.getElem?_eq_some_iff.1 HA.out.2.2).1).trans HA.out.2.2)
  have HB := Hid.mk (chain HA.out.1 b23 (Nat.le_refl _))
  clear d3 b23 hs2
  go_wp2
  all_goals first
    | (go_ret; exact ⟨rfl, HB.out⟩)
    | skip
end Go.Proofs.YtnnbcdfpbdmgdaaDoor
set_option linter.unusedVariables false
set_option linter.unusedSimpArgs false
namespace Go.Proofs.YtnnbcdfpbdmgdaaDoor
open Go.RowKit Go.Maps Go.Sort Go.Proofs.BitMath Go.Proofs.TreeMath
/-- What told may write. -/
theorem told_frame {n : Nat} {B : Nat} {w W' : World} {t wd : Nat} {T : List (Nd (Cd n))} {v : Value} {sn : Int} {K N : Int} {s : ByteArray} {r : Ending} (ht : ToldO B w t wd T v sn K s N r W') : Stay (fun k => k = t ∨ v.ownBlock = some k ∨ w.heap.size ≤ k) w W' := by
  obtain ⟨W1, w1, gb, b1, hrt1, hg1, hg2, hc, hst⟩ := ht
  have hs1 := b1.size
  have dr : ∀ w', Drew W1 w' → Stay (fun k => k = t ∨ v.ownBlock = some k ∨ w.heap.size ≤ k) W1 w' := fun w' d => .below (d.below _)
  have mv : ∀ (T' : List (Nd (Cd n))) w', RMoved B W1 w' t wd T' v sn → Stay (fun k => k = t ∨ v.ownBlock = some k ∨ w.heap.size ≤ k) W1 w' := fun T' w' m => m.stay.mono (fun k _ e => e.elim .inl (fun e => .inr (.inl e)))
  have sv : ∀ w' (k b0 nv : Nat) (q : Cd n) (fv : Value), RSrch B W1 w' t wd T v sn k b0 q fv nv → Stay (fun k => k = t ∨ v.ownBlock = some k ∨ w.heap.size ≤ k) W1 w' := fun w' k b0 nv q fv m => m.st.mono (fun k _ e => e.elim .inl (fun e => .inr (.inr (by omega))))
  have hop : Stay (fun k => k = t ∨ v.ownBlock = some k ∨ w.heap.size ≤ k) W1 w1 := by
    rcases hc with ⟨-, y, e, -, ho⟩ | ⟨-, y, -, ho⟩ | ⟨-, y, -, hb, -⟩ | ⟨-, fv, e, d, -, ho, -⟩ | ⟨-, fv, e, d, -, ho, -⟩ | ⟨-, a, b, c, d, -, hb, -⟩
    · rcases ho with ⟨-, -, m⟩ | ⟨hs, -, -, m⟩ | ⟨-, j, nd, -, -, -, m⟩
      · exact dr _ m
      · exact mv _ _ m
      · exact mv _ _ m
    · rcases ho with ⟨-, -, m⟩ | ⟨j, nd, -, -, -, -, (⟨-, m⟩ | ⟨-, cs, -, -, m⟩)⟩
      · exact dr _ m
      · exact mv _ _ m
      · exact mv _ _ m
    · exact dr _ hb
    · rcases ho with ⟨-, -, m⟩ | ⟨-, -, -, m⟩ | ⟨hs, fv', nv, -, -, -, m⟩
      · exact dr _ m
      · exact dr _ m
      · exact sv _ _ _ _ _ _ m
    · rcases ho with ⟨-, -, m⟩ | ⟨-, -, -, m⟩ | ⟨-, -, -, m⟩ | ⟨hs, fv', nv, -, -, -, m⟩
      · exact dr _ m
      · exact dr _ m
      · exact dr _ m
      · exact sv _ _ _ _ _ _ m
    · exact dr _ hb
  exact ((Stay.below b1).trans hop).andThen hst (fun k _ e => .inr (.inr (by omega)))
/-- Both trees. -/
structure BT {n : Nat} (W0 wr : World) (t wd : Nat) (T : List (Nd (Cd n))) (bs : List Nat) (ms : List (Option Nat)) (x : Num) (t' : Nat) (v : Value) : Prop where
  ot : OT W0 wr t wd T bs ms x
  rt : RT W0.heap.size wr t' wd T v x.looked
  own' : W0.heap.size ≤ t'
/-- Their blocks are apart. -/
theorem BT.ap {n : Nat} {W0 wr : World} {t wd : Nat} {T : List (Nd (Cd n))} {bs : List Nat} {ms : List (Option Nat)} {x : Num} {t' : Nat} {v : Value} {sn : Int} {T2 : List (Nd (Cd n))} {B : Nat} (h : TR wr t wd T bs ms x) (r : RT B wr t' wd T2 v sn) {k : Nat} (hk : TFoot t bs ms k) : ¬ (k = t' ∨ v.ownBlock = some k) := fun e => by
  rcases e with e | e
  · subst e
    rcases h.kind hk r.tree with e2 | e2 <;> cases e2
  · obtain ⟨cur, hc⟩ := row_block r.row e
    rcases h.kind hk hc with e2 | e2 <;> cases e2
theorem rt_do {n : Nat} {wr W' : World} {t wd : Nat} {T : List (Nd (Cd n))} {bs : List Nat} {ms : List (Option Nat)} {x : Num} {K N : Int} {s : ByteArray} {r : Ending} {B t' : Nat} {v : Value} {sn : Int} {T2 : List (Nd (Cd n))} (h : TR wr t wd T bs ms x) (rt : RT B wr t' wd T2 v sn) (hd : DoO wr t wd T bs ms x K s N r W') : RT B W' t' wd T2 v sn :=
  rt.kept (do_frame hd) (fun k hk e => by
    rcases e with e | e
    · exact BT.ap (W0 := wr) h rt e hk
    · rcases hk with hk | hk
      · have := rt.lt; omega
      · have := row_lt rt.row hk; omega)
theorem setLive_same {α : Type} {T : List (Nd α)} {j : Nat} {nd : Nd α} (h : T[j]? = some nd) {b : Bool} (hl : nd.live = b) : setLive T j b = T := by
  refine List.ext_getElem? fun i => ?_
  by_cases e : j = i
  · subst e
    unfold setLive
    rw [List.getElem?_modify, h]
    simp
    rw [← hl]
  · unfold setLive
    rw [List.getElem?_modify]
    simp [e]
theorem rise_one {n : Nat} {A cs cs' : List (Cd n)} (h : cs.Perm A) (h' : cs'.Perm A) (r : Rising cs) (r' : Rising cs') : cs = cs' :=
  sorted_ext (fun a b => byC a < byC b) (fun a h => List.lt_irrefl _ h) (fun a b h k => List.lt_irrefl _ (List.lt_trans h k)) cs cs' r r' (fun x => by rw [h.mem_iff, h'.mem_iff])
theorem TR.depO {n : Nat} {W : World} {t wd : Nat} {T : List (Nd (Cd n))} {bs : List Nat} {ms : List (Option Nat)} {x : Num} (h : TR W t wd T bs ms x) : DepO T x.dep := ⟨h.dep, h.depE⟩
theorem TR.look_one {n : Nat} {W : World} {t wd : Nat} {T T2 : List (Nd (Cd n))} {bs bs2 : List Nat} {ms ms2 : List (Option Nat)} {x x2 : Num} (h : TR W t wd T bs ms x) (k : TR W t wd T2 bs2 ms2 x2) : x.looked = x2.looked := by
  have h1 := h.cell.2.2.2.2.2
  have h2 := k.cell.2.2.2.2.2
  rw [h1] at h2
  simpa using h2
theorem RT.seen_one {n B : Nat} {W : World} {t wd : Nat} {T T2 : List (Nd (Cd n))} {v v2 : Value} {s s2 : Int} (h : RT B W t wd T v s) (k : RT B W t wd T2 v2 s2) : s = s2 := by
  have h1 := h.cell.2.2.1
  have h2 := k.cell.2.2.1
  rw [h1] at h2
  simpa using h2
/-- What the two calls leave. -/
def Step2 {n : Nat} (W0 w2 : World) (t wd : Nat) (T : List (Nd (Cd n))) (t' : Nat) (r1 r2 : Ending) : Prop :=
  ∃ (T' : List (Nd (Cd n))) (bs' : List Nat) (ms' : List (Option Nat)) (x' : Num) (v' : Value) (y : Bool) (e a b c d : Int) (L : List (Nat × Cd n)) (va vb : Option Addr) (ca cb : Nat),
    r1 = .returned (gotV y e (.slice va L.length ca) a b c d) ∧ r2 = .returned (gotV y e (.slice vb L.length cb) a b c d) ∧ HAt w2 va L ∧ HAt w2 vb L ∧ BT W0 w2 t wd T' bs' ms' x' t' v' ∧ T'.length ≤ T.length + 1 ∧ L.length ≤ T.length
theorem hat_nil {n : Nat} (w : World) (a : Option Addr) : HAt (n := n) w a [] := fun i hi => by simp at hi
set_option maxHeartbeats 4000000 in
theorem step2 {n : Nat} {W0 wr w1 w2 : World} {t wd : Nat} {T : List (Nd (Cd n))} {bs : List Nat} {ms : List (Option Nat)} {x : Num} {t' : Nat} {v : Value} {K N : Int} {s : ByteArray} {r1 r2 : Ending} (h : BT W0 wr t wd T bs ms x t' v) (hd : DoO wr t wd T bs ms x K s N r1 w1) (ht : ToldO W0.heap.size w1 t' wd T v x.looked K s N r2 w2) : Step2 W0 w2 t wd T t' r1 r2 := by
  have hfr := told_frame ht
  have hdf := do_frame hd
  have hrt1 := rt_do h.ot.tr h.rt hd
  obtain ⟨W1, wa, gb, b1, htr1, hg1, hg2, hc, hst⟩ := hd
  obtain ⟨W2, wb, gb', b2, hrt2, hg1', hg2', hc', hst'⟩ := ht
  have o1 := h.ot.below b1
  have hft : ∀ k, TFoot t bs ms k → k < wr.heap.size := fun k hk => h.ot.tr.lt hk
  have hgW : W0.heap.size ≤ gb := Nat.le_trans h.ot.be.size hg1
  have hs1 : W0.heap.size ≤ w1.heap.size := Nat.le_trans h.ot.be.size hdf.size
  -- the program's tree, behind both
  have over : ∀ {T' : List (Nd (Cd n))} {bs' : List Nat} {ms' : List (Option Nat)} {x' : Num}, OT W0 w1 t wd T' bs' ms' x' → OT W0 w2 t wd T' bs' ms' x' := fun {T' bs' ms' x'} o => by
    refine ⟨o.tr.kept hfr (fun k hk e => ?_), o.own, o.be.trans (hfr.toBelow (fun k hk e => ?_) hs1)⟩
    · rcases e with e | e | e
      · exact BT.ap (W0 := W0) o.tr hrt1 hk (.inl e)
      · exact BT.ap (W0 := W0) o.tr hrt1 hk (.inr e)
      · have := o.tr.lt hk; omega
    · rcases e with e | e | e
      · have := h.own'; omega
      · have := (h.rt.row.lt k e).1; omega
      · omega
  have same : Below W1.heap.size W1 wa → OT W0 w1 t wd T bs ms x := fun b => (o1.below b).boxed (wd1 := W0) (W1 := W0) (fun k hk e => by have := hft k hk; omega) hgW hst
  have moved : ∀ (T' : List (Nd (Cd n))), Moved W1 wa t wd T' bs ms x → ∃ bs' ms' x', OT W0 w1 t wd T' bs' ms' x' ∧ x'.looked = x.looked := fun T' m => by
    obtain ⟨⟨bs', ms', x', m1, m2, m3⟩, m4⟩ := m
    have hf : ∀ k, TFoot t bs' ms' k → k ≠ gb := fun k hk e => by
      rcases m3 k hk with e2 | e2
      · have := hft k e2; omega
      · omega
    refine ⟨bs', ms', x', OT.boxed (wd1 := W0) (W1 := W0) ⟨m1, fun k hk => ?_, o1.be.trans (m4.toBelow (fun k hk e => by have := h.ot.own k e; omega) o1.be.size)⟩ hf hgW hst, m2⟩
    rcases m3 k hk with e2 | e2
    · exact h.ot.own k e2
    · exact Nat.le_trans o1.be.size e2
  have hats : ∀ {u : Value} {L : List (Nat × Cd n)}, wa.ownsRow W1.heap.size 36 3 u L.length (L.flatMap hV) → ∃ va vc, u = .slice va L.length vc ∧ HAt w2 va L := fun {u L} hr => by
    have hr' := row_kept hr hst (fun k hk e => by have := (hr.lt k hk).1; omega)
    have hr'' := row_kept hr' hfr (fun k hk e => by
      obtain ⟨cur, hcur⟩ := row_block hr' hk
      rcases e with e | e | e
      · rw [e, hrt1.tree] at hcur; simp at hcur
      · obtain ⟨cur2, hc2⟩ := row_block hrt1.row e
        rw [hc2] at hcur; simp at hcur
      · have := row_lt hr' hk; omega)
    obtain ⟨a, c, e, -, ha⟩ := HAt.row hr''
    exact ⟨a, c, e, ha⟩
  -- the document's tree
  have hrl : ∀ k, v.ownBlock = some k → k < w1.heap.size := fun k hk => row_lt hrt1.row hk
  have same' : Drew W2 wb → RT W0.heap.size w2 t' wd T v x.looked := fun d => (hrt2.below (d.below _)).kept hst' (fun k hk e => by
    rcases hk with hk | hk
    · have := hrt1.lt; omega
    · have := hrl k hk; omega)
  have moved' : ∀ (T' : List (Nd (Cd n))), RMoved W0.heap.size W2 wb t' wd T' v x.looked → ∃ v', RT W0.heap.size w2 t' wd T' v' x.looked := fun T' m => by
    obtain ⟨⟨v', m1, m2⟩, m3⟩ := m
    refine ⟨v', m1.kept hst' (fun k hk e => ?_)⟩
    rcases hk with hk | hk
    · have := hrt1.lt; omega
    · rcases m2 k hk with e2 | e2
      · have := hrl k e2; omega
      · omega
  have hats' : ∀ {u : Value} {L : List (Nat × Cd n)}, wb.ownsRow W2.heap.size 36 3 u L.length (L.flatMap hV) → ∃ va vc, u = .slice va L.length vc ∧ HAt w2 va L := fun {u L} hr => by
    have hr' := row_kept hr hst' (fun k hk e => by have := (hr.lt k hk).1; omega)
    obtain ⟨a, c, e, -, ha⟩ := HAt.row hr'
    exact ⟨a, c, e, ha⟩
  have srt : ∀ (sn2 : Int), RT W0.heap.size wb t' wd T v sn2 → RT W0.heap.size w2 t' wd T v sn2 := fun sn2 m => m.kept hst' (fun k hk e => by
    rcases hk with hk | hk
    · have := hrt1.lt; omega
    · have := hrl k hk; omega)
  have bt : ∀ {T' : List (Nd (Cd n))} {bs' : List Nat} {ms' : List (Option Nat)} {x' : Num} {v' : Value}, OT W0 w1 t wd T' bs' ms' x' → RT W0.heap.size w2 t' wd T' v' x'.looked → BT W0 w2 t wd T' bs' ms' x' t' v' := fun o r => ⟨over o, r, h.own'⟩
  have wf := h.ot.tr.wf
  have nil : ∀ (T' : List (Nd (Cd n))) (bs' : List Nat) (ms' : List (Option Nat)) (x' : Num) (v' : Value) (y : Bool) (e a b c d : Int), OT W0 w1 t wd T' bs' ms' x' → RT W0.heap.size w2 t' wd T' v' x'.looked → T'.length ≤ T.length + 1 → Step2 W0 w2 t wd T t' (.returned (gotV y e nilS a b c d)) (.returned (gotV y e nilS a b c d)) := fun T' bs' ms' x' v' y e a b c d o r hl =>
    ⟨T', bs', ms', x', v', y, e, a, b, c, d, [], none, none, 0, 0, rfl, rfl, hat_nil _ _, hat_nil _ _, bt o r, hl, Nat.zero_le _⟩
  rcases hc with ⟨rfl, y, e, rfl, ho⟩ | ⟨rfl, y, rfl, ho⟩ | ⟨rfl, y, rfl, hb, hy⟩ | ⟨rfl, u, e, d, rfl, ho, x2, hx2, hd2⟩ | ⟨rfl, u, e, d, rfl, ho, x2, hx2, hd2⟩ | ⟨hK, a, b, c, d, rfl, hb, habcd⟩
  · -- Add
    rcases hc' with ⟨-, y', e', rfl, ho'⟩ | ⟨h', -⟩ | ⟨h', -⟩ | ⟨h', -⟩ | ⟨h', -⟩ | ⟨h', -⟩
    · rcases ho with ⟨n1, n2, n3⟩ | ⟨hs, (⟨n1, n2, n3⟩ | ⟨j, nd, hj, hcd, (⟨hl, n2, n3⟩ | ⟨hl, n2, n3⟩)⟩)⟩
      · rcases ho' with ⟨m1, m2, m3⟩ | ⟨m1, -⟩ | ⟨m1, -⟩
        · cases n2; cases m2
          obtain ⟨bs', ms', x', o, hx⟩ := moved T n3
          exact nil T bs' ms' x' v _ _ _ _ _ _ o (by rw [hx]; exact same' m3) (by omega)
        · exact absurd m1 n1
        · exact absurd m1 n1
      · rcases ho' with ⟨m1, m2, m3⟩ | ⟨m1, m2, m3, m4⟩ | ⟨-, j, nd, m1, m2, -⟩
        · exact absurd hs m1
        · cases n2; cases m3
          obtain ⟨bs', ms', x', o, hx⟩ := moved _ n3
          obtain ⟨v', r⟩ := moved' _ m4
          exact nil _ bs' ms' x' v' _ _ _ _ _ _ o (by rw [hx]; exact r) (by rw [hang_len wf]; exact Nat.le_refl _)
        · exact absurd (Subtype.ext m2) (n1 j nd m1)
      · rcases ho' with ⟨m1, m2, m3⟩ | ⟨m1, m2, m3, m4⟩ | ⟨-, j2, nd2, m1, m2, m3, m4⟩
        · exact absurd hs m1
        · exact absurd (by rw [hcd]) (m2 j nd hj)
        · have ej : j2 = j := wf.codes j2 j nd2 nd m1 hj (Subtype.ext (by rw [hcd]; exact m2))
          subst ej
          rw [hj] at m1
          cases m1
          rw [hl] at m3
          cases n2; cases m3
          obtain ⟨bs', ms', x', o, hx⟩ := moved _ n3
          obtain ⟨v', r⟩ := moved' _ m4
          rw [setLive_same hj hl] at r
          exact nil _ bs' ms' x' v' _ _ _ _ _ _ o (by rw [hx]; exact r) (by omega)
      · rcases ho' with ⟨m1, m2, m3⟩ | ⟨m1, m2, m3, m4⟩ | ⟨-, j2, nd2, m1, m2, m3, m4⟩
        · exact absurd hs m1
        · exact absurd (by rw [hcd]) (m2 j nd hj)
        · have ej : j2 = j := wf.codes j2 j nd2 nd m1 hj (Subtype.ext (by rw [hcd]; exact m2))
          subst ej
          rw [hj] at m1
          cases m1
          rw [hl] at m3
          cases n2; cases m3
          obtain ⟨bs', ms', x', o, hx⟩ := moved _ n3
          obtain ⟨v', r⟩ := moved' _ m4
          exact nil _ bs' ms' x' v' _ _ _ _ _ _ o (by rw [hx]; exact r) (by rw [setLive_len]; omega)
    all_goals (exfalso; omega)
  · -- Drop
    rcases hc' with ⟨h', -⟩ | ⟨-, y', rfl, ho'⟩ | ⟨h', -⟩ | ⟨h', -⟩ | ⟨h', -⟩ | ⟨h', -⟩
    · exfalso; omega
    · rcases ho with ⟨n0, n2, n3⟩ | ⟨j, nd, hj, hcd, hl, n2, n3⟩
      · rcases ho' with ⟨-, m2, m3⟩ | ⟨j2, nd2, m1, m2, m3, -⟩
        · cases n2; cases m2
          obtain ⟨bs', ms', x', o, hx⟩ := moved _ n3
          exact nil T bs' ms' x' v _ _ _ _ _ _ o (by rw [hx]; exact same' m3) (by omega)
        · exact absurd m2 (n0 _ (mem_lives.2 ⟨j2, nd2, m1, m3, rfl⟩))
      · rcases ho' with ⟨m0, -⟩ | ⟨j2, nd2, m1, m2, m3, m4, m5⟩
        · exact absurd hcd (m0 _ (mem_lives.2 ⟨j, nd, hj, hl, rfl⟩))
        · have ej : j2 = j := wf.codes j2 j nd2 nd m1 hj (Subtype.ext (by rw [m2, hcd]))
          subst ej
          cases n2; cases m4
          have hll := lives_len T j2 nd false hj
          have h1 := h.ot.tr.live
          have h2 := h.ot.tr.all
          simp [hl] at hll
          rcases n3 with ⟨hdd, n4⟩ | ⟨hdd, cs, p1, p2, n4⟩
          · rcases m5 with ⟨-, m6⟩ | ⟨hee, -⟩
            · obtain ⟨bs', ms', x', o, hx⟩ := moved _ n4
              obtain ⟨v', r⟩ := moved' _ m6
              exact nil _ bs' ms' x' v' _ _ _ _ _ _ o (by rw [hx]; exact r) (by rw [setLive_len]; omega)
            · exfalso; omega
          · rcases m5 with ⟨hee, -⟩ | ⟨-, cs', p1', p2', m6⟩
            · exfalso; omega
            · obtain rfl := rise_one p1 p1' p2 p2'
              obtain ⟨bs', ms', x', o, hx⟩ := moved _ n4
              obtain ⟨v', r⟩ := moved' _ m6
              refine nil _ bs' ms' x' v' _ _ _ _ _ _ o (by rw [hx]; exact r) ?_
              have hnd : cs.Nodup := p1.nodup_iff.2 (wf.setLive j2 false).lives_nodup
              obtain ⟨-, -, w3⟩ := hangs_wf (d := dC) (fun a b => dC_zero a b) cs [] (WF.nil _) (by simpa using hnd)
              have hcl := p1.length_eq
              have h6 : (hangs dC [] cs).length = cs.length := by simpa using w3
              omega
    all_goals (exfalso; omega)
  · -- Has
    rcases hc' with ⟨h', -⟩ | ⟨h', -⟩ | ⟨-, y', rfl, hb', hy'⟩ | ⟨h', -⟩ | ⟨h', -⟩ | ⟨h', -⟩
    · exfalso; omega
    · exfalso; omega
    · obtain rfl : y = y' := by
        cases y <;> cases y'
        · rfl
        · exact absurd (hy.2 (hy'.1 rfl)) (by decide)
        · exact absurd (hy'.2 (hy.1 rfl)) (by decide)
        · rfl
      exact nil T bs ms x v _ _ _ _ _ _ (same hb) (same' hb') (by omega)
    all_goals (exfalso; omega)
  · -- Within
    rcases hc' with ⟨h', -⟩ | ⟨h', -⟩ | ⟨h', -⟩ | ⟨-, u', e', d', rfl, ho', hx2'⟩ | ⟨h', -⟩ | ⟨h', -⟩
    · exfalso; omega
    · exfalso; omega
    · exfalso; omega
    · rcases ho with ⟨n1, n2, n3⟩ | ⟨n0, n1, n2, n3⟩ | ⟨hs, fv, nv, n0, n1, n2, sr⟩
      · rcases ho' with ⟨-, m2, m3⟩ | ⟨m1, -⟩ | ⟨m1, -⟩
        · cases n2; cases m2
          have e1 := hx2.look_one (htr1.below n3)
          have e2 := hx2'.seen_one (hrt2.below (m3.below _))
          rw [← hd2, e1, e2]
          exact nil T bs ms x v _ _ _ _ _ _ (same n3) (same' m3) (by omega)
        · exact absurd m1 n1
        · exact absurd m1 n1
      · rcases ho' with ⟨m1, -⟩ | ⟨-, -, m2, m3⟩ | ⟨-, -, -, m1, m2, -⟩
        · exact absurd n0 m1
        · cases n2; cases m2
          have e1 := hx2.look_one (htr1.below n3)
          have e2 := hx2'.seen_one (hrt2.below (m3.below _))
          rw [← hd2, e1, e2]
          exact nil T bs ms x v _ _ _ _ _ _ (same n3) (same' m3) (by omega)
        · exact absurd ⟨m1, m2⟩ n1
      · rcases ho' with ⟨m1, -⟩ | ⟨-, m1, -⟩ | ⟨hs', fv', nv', m0, m1, m2, sr'⟩
        · exact absurd hs m1
        · exact absurd ⟨n0, n1⟩ m1
        · cases n2; cases m2
          obtain ⟨V, hV, hR⟩ := sr.run
          obtain ⟨V', hV', hR'⟩ := sr'.run
          obtain rfl := run_one hR hR'
          have e1 := hx2.look_one sr.tr
          have e2 := hx2'.seen_one sr'.rt
          obtain ⟨va, vc, hva, ha⟩ := hats sr.row
          obtain ⟨vb, vd, hvb, hb⟩ := hats' sr'.row
          subst hva hvb
          have e3 : d' = d := by rw [e2, ← hd2, e1, hV, hV']
          subst e3
          have o := (o1.srch sr).boxed (wd1 := W0) (W1 := W0) (fun k hk e => by have := hft k hk; omega) hgW hst
          exact ⟨T, bs, ms, _, v, false, 0, 0, 0, 0, _, _, va, vb, vc, vd, rfl, rfl, ha, hb, bt o (by show RT _ _ _ _ _ _ (lkN x.looked nv); rw [hV, ← hV']; exact srt _ sr'.rt), by omega, Nat.le_trans sr.ge sr.le⟩
    all_goals (exfalso; omega)
  · -- Nearest
    rcases hc' with ⟨h', -⟩ | ⟨h', -⟩ | ⟨h', -⟩ | ⟨h', -⟩ | ⟨-, u', e', d', rfl, ho', hx2'⟩ | ⟨h', -⟩
    · exfalso; omega
    · exfalso; omega
    · exfalso; omega
    · exfalso; omega
    · rcases ho with ⟨n1, n2, n3⟩ | ⟨n0, n1, n2, n3⟩ | ⟨n0, n1, n2, n3⟩ | ⟨hs, fv, nv, n0, n1, n2, sr⟩
      · rcases ho' with ⟨-, m2, m3⟩ | ⟨m1, -⟩ | ⟨m1, -⟩ | ⟨m1, -⟩
        · cases n2; cases m2
          have e1 := hx2.look_one (htr1.below n3)
          have e2 := hx2'.seen_one (hrt2.below (m3.below _))
          rw [← hd2, e1, e2]
          exact nil T bs ms x v _ _ _ _ _ _ (same n3) (same' m3) (by omega)
        · exact absurd m1 n1
        · exact absurd m1 n1
        · exact absurd m1 n1
      · rcases ho' with ⟨m1, -⟩ | ⟨-, -, m2, m3⟩ | ⟨-, m1, -⟩ | ⟨-, -, -, m1, m2, -⟩
        · exact absurd n0 m1
        · cases n2; cases m2
          have e1 := hx2.look_one (htr1.below n3)
          have e2 := hx2'.seen_one (hrt2.below (m3.below _))
          rw [← hd2, e1, e2]
          exact nil T bs ms x v _ _ _ _ _ _ (same n3) (same' m3) (by omega)
        · exact absurd ⟨by omega, by omega⟩ n1
        · exact absurd ⟨by omega, m2⟩ n1
      · rcases ho' with ⟨m1, -⟩ | ⟨-, m1, -⟩ | ⟨-, -, m2, m3⟩ | ⟨-, -, -, m1, m2, -⟩
        · exact absurd n0 m1
        · exact absurd ⟨by omega, by omega⟩ m1
        · cases n2; cases m2
          have e1 := hx2.look_one (htr1.below n3)
          have e2 := hx2'.seen_one (hrt2.below (m3.below _))
          rw [← hd2, e1, e2]
          exact nil T bs ms x v _ _ _ _ _ _ (same n3) (same' m3) (by omega)
        · exfalso; omega
      · rcases ho' with ⟨m1, -⟩ | ⟨-, m1, -⟩ | ⟨-, m1, -⟩ | ⟨hs', fv', nv', m0, m1, m2, sr'⟩
        · exact absurd hs m1
        · exact absurd ⟨by omega, n1⟩ m1
        · exfalso; omega
        · cases n2; cases m2
          obtain ⟨V, hV, hR⟩ := sr.run
          obtain ⟨V', hV', hR'⟩ := sr'.run
          obtain rfl := run_one hR hR'
          have e1 := hx2.look_one sr.tr
          have e2 := hx2'.seen_one sr'.rt
          obtain ⟨va, vc, hva, ha⟩ := hats sr.row
          obtain ⟨vb, vd, hvb, hb⟩ := hats' sr'.row
          subst hva hvb
          have e3 : d' = d := by rw [e2, ← hd2, e1, hV, hV']
          subst e3
          have o := (o1.srch sr).boxed (wd1 := W0) (W1 := W0) (fun k hk e => by have := hft k hk; omega) hgW hst
          exact ⟨T, bs, ms, _, v, false, 0, 0, 0, 0, _, _, va, vb, vc, vd, rfl, rfl, ha, hb, bt o (by show RT _ _ _ _ _ _ (lkN x.looked nv); rw [hV, ← hV']; exact srt _ sr'.rt), by omega, Nat.le_trans sr.ge sr.le⟩
    all_goals (exfalso; omega)
  · -- Tell, and the others
    rcases hc' with ⟨h', -⟩ | ⟨h', -⟩ | ⟨h', -⟩ | ⟨h', -⟩ | ⟨h', -⟩ | ⟨-, a', b', c', d', rfl, hb', habcd'⟩
    · exfalso; omega
    · exfalso; omega
    · exfalso; omega
    · exfalso; omega
    · exfalso; omega
    · rcases habcd with ⟨k6, rfl, rfl, rfl, rfl⟩ | ⟨k6, rfl, rfl, rfl, rfl⟩
      · rcases habcd' with ⟨-, rfl, rfl, ⟨kd, rfl, hkd⟩, rfl⟩ | ⟨k6', -⟩
        · rw [h.ot.tr.live, h.ot.tr.depO.one hkd]
          exact nil T bs ms x v _ _ _ _ _ _ (same hb) (same' hb') (by omega)
        · exact absurd k6 k6'
      · rcases habcd' with ⟨k6', -⟩ | ⟨-, rfl, rfl, rfl, rfl⟩
        · exact absurd k6' k6
        · exact nil T bs ms x v _ _ _ _ _ _ (same hb) (same' hb') (by omega)
end Go.Proofs.YtnnbcdfpbdmgdaaDoor
set_option linter.unusedVariables false
set_option linter.unusedSimpArgs false
namespace Go.Proofs.YtnnbcdfpbdmgdaaDoor
open Go.RowKit Go.Maps Go.Sort Go.Proofs.BitMath Go.Proofs.TreeMath
theorem do_form {n : Nat} {wr W' : World} {t wd : Nat} {T : List (Nd (Cd n))} {bs : List Nat} {ms : List (Option Nat)} {x : Num} {K N : Int} {s : ByteArray} {r : Ending} (hd : DoO wr t wd T bs ms x K s N r W') : ∃ (y : Bool) (e : Int) (va : Option Addr) (len vc : Nat) (a b c d : Int), r = .returned (gotV y e (.slice va len vc) a b c d) := by
  obtain ⟨W1, w1, gb, b1, htr1, hg1, hg2, hc, hst⟩ := hd
  rcases hc with ⟨rfl, y, e, rfl, ho⟩ | ⟨rfl, y, rfl, ho⟩ | ⟨rfl, y, rfl, hb, -⟩ | ⟨rfl, v, e, d, rfl, ho, -⟩ | ⟨rfl, v, e, d, rfl, ho, -⟩ | ⟨hK, a, b, c, d, rfl, hb, -⟩
  · exact ⟨_, _, _, _, _, _, _, _, _, rfl⟩
  · exact ⟨_, _, _, _, _, _, _, _, _, rfl⟩
  · exact ⟨_, _, _, _, _, _, _, _, _, rfl⟩
  · rcases ho with ⟨-, h2, hb⟩ | ⟨-, -, h2, hb⟩ | ⟨hs, v', nv, -, -, h2, sr⟩
    · cases h2; exact ⟨_, _, _, _, _, _, _, _, _, rfl⟩
    · cases h2; exact ⟨_, _, _, _, _, _, _, _, _, rfl⟩
    · cases h2
      obtain ⟨va, vc, rfl, -⟩ := slice_form sr.row
      exact ⟨_, _, _, _, _, _, _, _, _, rfl⟩
  · rcases ho with ⟨-, h2, hb⟩ | ⟨-, -, h2, hb⟩ | ⟨-, -, h2, hb⟩ | ⟨hs, v', nv, -, -, h2, sr⟩
    · cases h2; exact ⟨_, _, _, _, _, _, _, _, _, rfl⟩
    · cases h2; exact ⟨_, _, _, _, _, _, _, _, _, rfl⟩
    · cases h2; exact ⟨_, _, _, _, _, _, _, _, _, rfl⟩
    · cases h2
      obtain ⟨va, vc, rfl, -⟩ := slice_form sr.row
      exact ⟨_, _, _, _, _, _, _, _, _, rfl⟩
  · exact ⟨_, _, _, _, _, _, _, _, _, rfl⟩
theorem told_form {n : Nat} {B : Nat} {w W' : World} {t wd : Nat} {T : List (Nd (Cd n))} {v : Value} {sn : Int} {K N : Int} {s : ByteArray} {r : Ending} (ht : ToldO B w t wd T v sn K s N r W') : ∃ (y : Bool) (e : Int) (va : Option Addr) (len vc : Nat) (a b c d : Int), r = .returned (gotV y e (.slice va len vc) a b c d) := by
  obtain ⟨W1, w1, gb, b1, hrt1, hg1, hg2, hc, hst⟩ := ht
  rcases hc with ⟨-, y, e, rfl, ho⟩ | ⟨-, y, rfl, ho⟩ | ⟨-, y, rfl, hb, -⟩ | ⟨-, fv, e, d, rfl, ho, -⟩ | ⟨-, fv, e, d, rfl, ho, -⟩ | ⟨-, a, b, c, d, rfl, hb, -⟩
  · exact ⟨_, _, _, _, _, _, _, _, _, rfl⟩
  · exact ⟨_, _, _, _, _, _, _, _, _, rfl⟩
  · exact ⟨_, _, _, _, _, _, _, _, _, rfl⟩
  · rcases ho with ⟨-, h2, m⟩ | ⟨-, -, h2, m⟩ | ⟨hs, fv', nv, -, -, h2, sr⟩
    · cases h2; exact ⟨_, _, _, _, _, _, _, _, _, rfl⟩
    · cases h2; exact ⟨_, _, _, _, _, _, _, _, _, rfl⟩
    · cases h2
      obtain ⟨va, vc, rfl, -⟩ := slice_form sr.row
      exact ⟨_, _, _, _, _, _, _, _, _, rfl⟩
  · rcases ho with ⟨-, h2, m⟩ | ⟨-, -, h2, m⟩ | ⟨-, -, h2, m⟩ | ⟨hs, fv', nv, -, -, h2, sr⟩
    · cases h2; exact ⟨_, _, _, _, _, _, _, _, _, rfl⟩
    · cases h2; exact ⟨_, _, _, _, _, _, _, _, _, rfl⟩
    · cases h2; exact ⟨_, _, _, _, _, _, _, _, _, rfl⟩
    · cases h2
      obtain ⟨va, vc, rfl, -⟩ := slice_form sr.row
      exact ⟨_, _, _, _, _, _, _, _, _, rfl⟩
  · exact ⟨_, _, _, _, _, _, _, _, _, rfl⟩
theorem bt_do {n : Nat} {W0 wr W' : World} {t wd : Nat} {T : List (Nd (Cd n))} {bs : List Nat} {ms : List (Option Nat)} {x : Num} {t' : Nat} {v : Value} {K N : Int} {s : ByteArray} {r : Ending} (h : BT W0 wr t wd T bs ms x t' v) (hd : DoO wr t wd T bs ms x K s N r W') : Below W0.heap.size W0 W' :=
  h.ot.be.trans ((do_frame hd).toBelow (fun k hk e => by
    rcases e with e | e
    · have := h.ot.own k e; omega
    · have := h.ot.be.size; omega) h.ot.be.size)
/-- The two answers, and what same says of them. -/
theorem step_same {n : Nat} {W0 wr w1 w2 : World} {t wd : Nat} {T : List (Nd (Cd n))} {bs : List Nat} {ms : List (Option Nat)} {x : Num} {t' : Nat} {v : Value} {K N : Int} {s : ByteArray} {y1 y2 : Bool} {e1 e2 a1 a2 b1 b2 c1 c2 d1 d2 : Int} {va vb : Option Addr} {l1 l2 ca cb : Nat} (h : BT W0 wr t wd T bs ms x t' v) (hd : DoO wr t wd T bs ms x K s N (.returned (gotV y1 e1 (.slice va l1 ca) a1 b1 c1 d1)) w1) (ht : ToldO W0.heap.size w1 t' wd T v x.looked K s N (.returned (gotV y2 e2 (.slice vb l2 cb) a2 b2 c2 d2)) w2) (hsm : T.length ≤ 1099511627776) :
    (∃ (T' : List (Nd (Cd n))) (bs' : List Nat) (ms' : List (Option Nat)) (x' : Num) (v' : Value), BT W0 w2 t wd T' bs' ms' x' t' v' ∧ T'.length ≤ T.length + 1) ∧ Calls Tryd.prog 28 #[gotV y1 e1 (.slice va l1 ca) a1 b1 c1 d1, gotV y2 e2 (.slice vb l2 cb) a2 b2 c2 d2] w2 fun r w' => r = .returned (.bool true) ∧ Below w2.heap.size w2 w' := by
  obtain ⟨T', bs', ms', x', v', y, e, a, b, c, d, L, va', vb', ca', cb', q1, q2, ha, hb, hbt, hle, hLl⟩ := step2 h hd ht
  simp [gotV] at q1 q2
  obtain ⟨rfl, rfl, ⟨rfl, rfl, rfl⟩, rfl, rfl, rfl, rfl⟩ := q1
  obtain ⟨rfl, rfl, ⟨rfl, rfl, rfl⟩, rfl, rfl, rfl, rfl⟩ := q2
  exact ⟨⟨T', bs', ms', x', v', hbt, hle⟩, same_any L _ _ _ _ _ _ _ _ _ _ w2 ha hb (by omega)⟩
theorem BT.below {n : Nat} {W0 w w' : World} {t wd : Nat} {T : List (Nd (Cd n))} {bs : List Nat} {ms : List (Option Nat)} {x : Num} {t' : Nat} {v : Value} (h : BT W0 w t wd T bs ms x t' v) (b : Below w.heap.size w w') : BT W0 w' t wd T bs ms x t' v := ⟨h.ot.below b, h.rt.below b, h.own'⟩
set_option maxHeartbeats 400000 in
theorem rnew_no (wd : Int) (W : World) (hw : isW wd = false) : Calls Tryd.prog 27 #[.int .i64 wd] W (fun r w' => r = .returned (.pointer none) ∧ w' = W) := by
  by_cases h1 : wd < 64
  · go_enter Tryd.func27, Tryd.ntmps27
    clear hw
    go_wp2
    all_goals (go_ret; exact ⟨rfl, rfl⟩)
  · by_cases h2 : 1024 < wd
    · go_enter Tryd.func27, Tryd.ntmps27
      clear hw
      go_wp2
      all_goals (go_ret; exact ⟨rfl, rfl⟩)
    · have h3 : (wd % 64 == 0) = false := by rw [← isW_pos (by omega) (by omega)]; exact hw
      have e3 : (wd % 64 != 0) = true := by simpa using h3
      have e4 : (Int.tmod wd 64 != 0) = true := by rw [Int.tmod_eq_emod_of_nonneg (by omega)]; exact e3
      clear hw h3
      go_enter Tryd.func27, Tryd.ntmps27
      go_wp2
      all_goals (go_ret; exact ⟨rfl, rfl⟩)
/-- While the script is played. -/
structure EI {n : Nat} (W wr : World) (t wd t' i : Nat) (T : List (Nd (Cd n))) (bs : List Nat) (ms : List (Option Nat)) (x : Num) (v : Value) : Prop where
  bt : BT W wr t wd T bs ms x t' v
  le : T.length ≤ i
set_option maxHeartbeats 4000000 in
set_option maxRecDepth 100000 in
theorem law_exact (wd : Int) (l : List Op3) (la : Option Addr) (lc : Nat) (W : World) (ht : Tab W) (hl : OAt W la l) (hll : l.length ≤ 1048576) : Calls Tryd.prog 6 #[.int .i64 wd, .slice la l.length lc] W fun r w' => r = .returned (.bool true) ∧ Below W.heap.size W w' := by
  have hW0 : 0 < W.heap.size := World.block_lt_of_cell? W ⟨0, 0, none⟩ (ht 0 (by omega))
  have htW : ∀ (w : World), Below W.heap.size W w → Tab w := fun w b => ht.below b hW0
  have HW := Hid.mk htW
  obtain ⟨ln, hln⟩ : ∃ ln, ln = l.length := ⟨_, rfl⟩
  have HL := Hid.mk (And.intro hl hln)
  rw [← hln] at hll ⊢
  clear hl hln ht htW
  by_cases hw : isW wd = true
  · obtain ⟨w8, rfl⟩ : ∃ w8 : Nat, wd = w8 := ⟨wd.toNat, by have := isW_bd hw; omega⟩
    obtain ⟨n, hn⟩ : ∃ n, w8 = 8 * n := ⟨w8 / 8, by have h1 := isW_mod hw; omega⟩
    have hnew := new_yes w8 n W hw hn
    have HN2 := Hid.mk (fun w => rnew_yes W.heap.size w8 n w hw hn)
    clear hw hn
    go_enter Tryd.func6, Tryd.ntmps6
    go_wp2_with fail
    refine hnew.mono ?_
    rintro e w1 ⟨rfl, htr, b1⟩
    go_wp2_with fail
    refine (HN2.out w1).mono ?_
    rintro e w2 ⟨rfl, hrt, b2⟩
    obtain ⟨t, hte⟩ : ∃ t, t = W.heap.size := ⟨_, rfl⟩
    obtain ⟨t', hte'⟩ : ∃ t', t' = w1.heap.size := ⟨_, rfl⟩
    have htp : 0 < t := by omega
    have H0 := Hid.mk (show EI (n := n) W w2 t w8 t' 0 [] [] [] ⟨0, 0, 0, 0⟩ (.slice none 0 0) from ⟨⟨⟨by rw [hte]; exact htr.below b2, (fun k hk => by
      rcases hk with rfl | hk | hk
      · rw [hte]; exact Nat.le_refl _
      · cases hk
      · cases hk), chain b1 b2 (Nat.le_refl _)⟩, by rw [hte']; exact hrt, by rw [hte']; exact b1.size⟩, Nat.le_refl _⟩)
    rw [← hte, ← hte']
    clear htr b1 b2 hte hte' hrt hnew
    go_wp2_with fail
    go_loopw [7] (fun u wr => ∃ (i : Nat) (T : List (Nd (Cd n))) (bs : List Nat) (ms : List (Option Nat)) (x : Num) (v : Value), u = .int .i64 i ∧ i ≤ ln ∧ Hid (EI W wr t w8 t' i T bs ms x v)) (fun u _ => ln - (intOf u).toNat)
    case atStart => exact ⟨0, [], [], [], ⟨0, 0, 0, 0⟩, _, rfl, Nat.zero_le _, H0⟩
    case round =>
      obtain ⟨i, T, bs, ms, x, v, rfl, hi, HJ⟩ := hrel
      have hsmT : T.length < 1099511627776 := by have := HJ.out.le; omega
      by_cases hlt : i < ln
      · have i1 : (i : Int) < (ln : Int) := by omega
        have i2 : (0 : Int) ≤ (i : Int) := by omega
        have hwi : IntKind.i64.wrap ((i : Int) + 1) = ((i + 1 : Nat) : Int) := by rw [IntKind.wrap_i64]; omega
        obtain ⟨g, off, ela, o0, o1, o2⟩ := (HL.out.1.below (HJ.out.bt.ot.be)).at' i (by rw [← HL.out.2]; exact hlt)
        subst ela
        have hS0 : ∀ w', Below W.heap.size W w' → w'.cell? ⟨g, off + i * 3, none⟩ = some (.int .i64 (l[i]'(by rw [← HL.out.2]; exact hlt)).1) ∧ w'.cell? ⟨g, off + i * 3 + 1, none⟩ = some (.string (l[i]'(by rw [← HL.out.2]; exact hlt)).2.1) ∧ w'.cell? ⟨g, off + i * 3 + 2, none⟩ = some (.int .i64 (l[i]'(by rw [← HL.out.2]; exact hlt)).2.2) := fun w' b => by
          obtain ⟨g2, off2, e2, p0, p1, p2⟩ := (HL.out.1.below b).at' i (by rw [← HL.out.2]; exact hlt)
          cases e2
          exact ⟨p0, p1, p2⟩
        obtain ⟨Kd, hKd⟩ : ∃ Kd, Kd = (l[i]'(by rw [← HL.out.2]; exact hlt)).1 := ⟨_, rfl⟩
        obtain ⟨s, hs⟩ : ∃ s, s = (l[i]'(by rw [← HL.out.2]; exact hlt)).2.1 := ⟨_, rfl⟩
        obtain ⟨N, hN⟩ : ∃ N, N = (l[i]'(by rw [← HL.out.2]; exact hlt)).2.2 := ⟨_, rfl⟩
        rw [← hKd] at o0
        rw [← hs] at o1
        rw [← hN] at o2
        have HSS := Hid.mk (show ∀ w', Below W.heap.size W w' → (Below W.heap.size W w' ∧ w'.cell? ⟨g, off + i * 3, none⟩ = some (.int .i64 Kd) ∧ w'.cell? ⟨g, off + i * 3 + 1, none⟩ = some (.string s) ∧ w'.cell? ⟨g, off + i * 3 + 2, none⟩ = some (.int .i64 N)) from fun w' b => ⟨b, by rw [hKd, hs, hN]; exact hS0 w' b⟩)
        have HBT := Hid.mk (HJ.out.bt.below (Below.refl wr.heap.size wr).drew)
        have hdo := do_any Kd s N wr.drew HBT.out.ot.tr (HW.out _ HBT.out.ot.be) htp hsmT
        clear hS0 hKd hs hN o0 o1 o2
        go_wp2_with fail
        refine wp_region_held_drew (S := fun w' => Below W.heap.size W w' ∧ w'.cell? ⟨g, off + i * 3, none⟩ = some (.int .i64 Kd) ∧ w'.cell? ⟨g, off + i * 3 + 1, none⟩ = some (.string s) ∧ w'.cell? ⟨g, off + i * 3 + 2, none⟩ = some (.int .i64 N)) (by kernel_rfl) ?_ (fun hHeld => ?_)
        · exact HSS.out _ HBT.out.ot.be
        refine wpAnyH_take (i := 0) (oi := { dst := some 25, op := Op.move (Operand.tmp 5), type := 24, pos := "law.go:112", after := #[], guard := none }) (v := ?v1) rfl (by kernel_rfl) (by kernel_rfl) (by kernel_rfl) (fun _ _ _ h => h) (Or.inl ⟨by rfl, ?h1⟩) (by assumption) ?r1
        case h1 => (intro w0 hSw; (try dsimp only at hSw); go_simp; try (with_reducible rfl))
        simp only [Act.put, List.setIfInBounds_toArray, List.set_cons_zero, List.set_cons_succ]
        refine wpAnyH_take (i := 1) (oi := { dst := some 26, op := Op.move (Operand.tmp 1), type := 38, pos := "law.go:112", after := #[], guard := none }) (v := ?v2) rfl (by kernel_rfl) (by kernel_rfl) (by kernel_rfl) (fun _ _ _ h => h) (Or.inl ⟨by rfl, ?h2⟩) (by assumption) ?r2
        case h2 => (intro w0 hSw; (try dsimp only at hSw); go_simp; try (with_reducible rfl))
        simp only [Act.put, List.setIfInBounds_toArray, List.set_cons_zero, List.set_cons_succ]
        refine wpAnyH_take (i := 2) (oi := { dst := some 27, op := Op.move (Operand.tmp 7), type := 3, pos := "law.go:112", after := #[], guard := none }) (v := ?v3) rfl (by kernel_rfl) (by kernel_rfl) (by kernel_rfl) (fun _ _ _ h => h) (Or.inl ⟨by rfl, ?h3⟩) (by assumption) ?r3
        case h3 => (intro w0 hSw; (try dsimp only at hSw); go_simp; try (with_reducible rfl))
        simp only [Act.put, List.setIfInBounds_toArray, List.set_cons_zero, List.set_cons_succ]
        refine wpAnyH_take (i := 3) (oi := { dst := some 28, op := Op.indexAddr 38 (Operand.tmp 26) (Operand.tmp 27), type := 0, pos := "law.go:112", after := #[{ on := 1, ground := Ground.data }, { on := 2, ground := Ground.data }], guard := none }) (v := ?v4) rfl (by kernel_rfl) (by kernel_rfl) (by kernel_rfl) (fun _ _ _ h => h) (Or.inl ⟨by rfl, ?h4⟩) (by assumption) ?r4
        case h4 => (intro w0 hSw; (try dsimp only at hSw); go_simp; try (with_reducible rfl))
        simp only [Act.put, List.setIfInBounds_toArray, List.set_cons_zero, List.set_cons_succ]
        refine wpAnyH_take (i := 4) (oi := { dst := some 29, op := Op.load 40 (Operand.tmp 28), type := 40, pos := "law.go:112", after := #[{ on := 3, ground := Ground.data }], guard := none }) (v := ?v5) rfl (by kernel_rfl) (by kernel_rfl) (by kernel_rfl) (fun _ _ _ h => h) (Or.inl ⟨by rfl, ?h5⟩) (by assumption) ?r5
        case h5 => (intro w0 hSw; (try dsimp only at hSw); go_simp; try (with_reducible rfl))
        simp only [Act.put, List.setIfInBounds_toArray, List.set_cons_zero, List.set_cons_succ]
        refine wpAnyH_take (i := 6) (oi := { dst := some 31, op := Op.move (Operand.tmp 6), type := 51, pos := "law.go:112", after := #[], guard := none }) (v := ?v6) rfl (by kernel_rfl) (by kernel_rfl) (by kernel_rfl) (fun _ _ _ h => h) (Or.inl ⟨by rfl, ?h6⟩) (by assumption) ?r6
        case h6 => (intro w0 hSw; (try dsimp only at hSw); go_simp; try (with_reducible rfl))
        simp only [Act.put, List.setIfInBounds_toArray, List.set_cons_zero, List.set_cons_succ]
        refine wpAnyH_take (i := 7) (oi := { dst := some 32, op := Op.move (Operand.tmp 1), type := 38, pos := "law.go:112", after := #[], guard := none }) (v := ?v7) rfl (by kernel_rfl) (by kernel_rfl) (by kernel_rfl) (fun _ _ _ h => h) (Or.inl ⟨by rfl, ?h7⟩) (by assumption) ?r7
        case h7 => (intro w0 hSw; (try dsimp only at hSw); go_simp; try (with_reducible rfl))
        simp only [Act.put, List.setIfInBounds_toArray, List.set_cons_zero, List.set_cons_succ]
        refine wpAnyH_take (i := 8) (oi := { dst := some 33, op := Op.move (Operand.tmp 7), type := 3, pos := "law.go:112", after := #[], guard := none }) (v := ?v8) rfl (by kernel_rfl) (by kernel_rfl) (by kernel_rfl) (fun _ _ _ h => h) (Or.inl ⟨by rfl, ?h8⟩) (by assumption) ?r8
        case h8 => (intro w0 hSw; (try dsimp only at hSw); go_simp; try (with_reducible rfl))
        simp only [Act.put, List.setIfInBounds_toArray, List.set_cons_zero, List.set_cons_succ]
        refine wpAnyH_take (i := 9) (oi := { dst := some 34, op := Op.indexAddr 38 (Operand.tmp 32) (Operand.tmp 33), type := 0, pos := "law.go:112", after := #[{ on := 7, ground := Ground.data }, { on := 8, ground := Ground.data }], guard := none }) (v := ?v9) rfl (by kernel_rfl) (by kernel_rfl) (by kernel_rfl) (fun _ _ _ h => h) (Or.inl ⟨by rfl, ?h9⟩) (by assumption) ?r9
        case h9 => (intro w0 hSw; (try dsimp only at hSw); go_simp; try (with_reducible rfl))
        simp only [Act.put, List.setIfInBounds_toArray, List.set_cons_zero, List.set_cons_succ]
        refine wpAnyH_take (i := 10) (oi := { dst := some 35, op := Op.load 40 (Operand.tmp 34), type := 40, pos := "law.go:112", after := #[{ on := 9, ground := Ground.data }], guard := none }) (v := ?v10) rfl (by kernel_rfl) (by kernel_rfl) (by kernel_rfl) (fun _ _ _ h => h) (Or.inl ⟨by rfl, ?h10⟩) (by assumption) ?r10
        case h10 => (intro w0 hSw; (try dsimp only at hSw); go_simp; try (with_reducible rfl))
        simp only [Act.put, List.setIfInBounds_toArray, List.set_cons_zero, List.set_cons_succ]
        refine wpAnyH_ready (rs := [5]) (by kernel_rfl) (by simp) ?_
        refine AllReadyH.cons rfl (fun K hK => ?_) AllReadyH.nil
        go_simp
        go_wp2_with (go_at_call 20; refine hdo.mono ?_; rintro r1 w3 hd1; obtain ⟨y1, e1, va1, l1, c1, a1, b1, g1, d1, hr1⟩ := do_form hd1; subst hr1; have HD1 := Hid.mk hd1; have bW3 := bt_do HBT.out hd1; have hto := told_any Kd s N w3 (rt_do HBT.out.ot.tr HBT.out.rt hd1) (Nat.le_trans HBT.out.ot.be.size (do_frame hd1).size) hsmT; clear hd1; simp only [gotV])
        refine hK.out _ _ ?_ (fun hHeld => ?_)
        · exact HSS.out _ bW3
        clear hK K
        refine wpAnyH_ready (rs := [11]) (by kernel_rfl) (by simp) ?_
        refine AllReadyH.cons rfl (fun K hK => ?_) AllReadyH.nil
        go_simp
        go_wp2_with (go_at_call 29; refine hto.mono ?_; rintro r2 w4 ht2; obtain ⟨y2, e2, va2, l2, c2, a2, b2, g2, d2, hr2⟩ := told_form ht2; subst hr2; obtain ⟨hnx, hsame⟩ := step_same HBT.out HD1.out ht2 (by omega); have HNX := Hid.mk hnx; clear hnx ht2; simp only [gotV] at hsame ⊢)
        refine hK.out _ _ ?_ (fun hHeld => ?_)
        · obtain ⟨T', bs', ms', x', v', hbt', -⟩ := HNX.out; exact HSS.out _ hbt'.ot.be
        clear hK K
        refine wpAnyH_ready (rs := [12]) (by kernel_rfl) (by simp) ?_
        refine AllReadyH.cons rfl (fun K hK => ?_) AllReadyH.nil
        go_simp
        go_wp2_with (go_at_call 28; refine hsame.mono ?_; rintro e5 w5 ⟨rfl, b5⟩)
        refine hK.out _ _ ?_ (fun hHeld => ?_)
        · obtain ⟨T', bs', ms', x', v', hbt', -⟩ := HNX.out; exact HSS.out _ (chain hbt'.ot.be b5 (Nat.le_refl _))
        clear hK K
        refine wpAnyH_take (i := 13) (oi := { dst := some 38, op := Op.unOp UnOp.not 4 (Operand.tmp 37), type := 4, pos := "law.go:112", after := #[{ on := 12, ground := Ground.data }], guard := none }) (v := ?v11) rfl (by kernel_rfl) (by kernel_rfl) (by kernel_rfl) (fun _ _ _ h => h) (Or.inl ⟨by rfl, ?h11⟩) (by assumption) ?r11
        case h11 => (intro w0 hSw; (try dsimp only at hSw); go_simp; try (with_reducible rfl))
        simp only [Act.put, List.setIfInBounds_toArray, List.set_cons_zero, List.set_cons_succ]
        refine wpAnyH_done (by kernel_rfl) ?_ _
        obtain ⟨T', bs', ms', x', v', hbt', hle'⟩ := HNX.out
        have HFI := Hid.mk (show EI W w5 t w8 t' (i + 1) T' bs' ms' x' v' from ⟨hbt'.below b5, by have := HJ.out.le; omega⟩)
        clear hbt' hle'
        go_wp2_with fail
        exact ⟨⟨i + 1, T', bs', ms', x', v', by push_cast; rfl, hlt, HFI⟩, by simp only [intOf]; omega⟩
      · have i1 : ¬ (i : Int) < (ln : Int) := by omega
        have hdo := do_any 6 ⟨#[]⟩ 0 wr HJ.out.bt.ot.tr (HW.out _ HJ.out.bt.ot.be) htp hsmT
        go_wp2_with fail
        refine hdo.mono ?_
        rintro r1 w3 hd1
        obtain ⟨y1, e1, va1, l1, c1, a1, b1, g1, d1, hr1⟩ := do_form hd1
        subst hr1
        have hto := told_any 6 ⟨#[]⟩ 0 w3 (rt_do HJ.out.bt.ot.tr HJ.out.bt.rt hd1) (Nat.le_trans HJ.out.bt.ot.be.size (do_frame hd1).size) hsmT
        have HD1 := Hid.mk hd1
        clear hd1 hdo
        simp only [gotV]
        go_wp2_with fail
        refine hto.mono ?_
        rintro r2 w4 ht2
        obtain ⟨y2, e2, va2, l2, c2, a2, b2, g2, d2, hr2⟩ := told_form ht2
        subst hr2
        obtain ⟨⟨T', bs', ms', x', v', hbt', hle'⟩, hsame⟩ := step_same HJ.out.bt HD1.out ht2 (by omega)
        simp only [gotV] at hsame ⊢
        clear ht2 hto
        go_wp2_with (first
          | (go_at_call 28; refine hsame.mono ?_; rintro e5 w5 ⟨rfl, b5⟩)
          | fail)
        go_ret
        exact ⟨rfl, chain hbt'.ot.be b5 (Nat.le_refl _)⟩
  · have hw' : isW wd = false := by simpa using hw
    have hnew := new_no wd W hw'
    have hnew2 := rnew_no wd W hw'
    clear hw hw'
    go_enter Tryd.func6, Tryd.ntmps6
    go_wp2_with (first
      | (go_at_call 10; refine hnew.mono ?_; rintro e w' ⟨rfl, rfl⟩)
      | (go_at_call 27; refine hnew2.mono ?_; rintro e w' ⟨rfl, rfl⟩)
      | fail)
    go_ret
    exact ⟨rfl, Below.refl _ _⟩
end Go.Proofs.YtnnbcdfpbdmgdaaDoor
set_option linter.unusedVariables false
set_option linter.unusedSimpArgs false
namespace Go.Proofs.YtnnbcdfpbdmgdaaDoor
open Go.ChangeShapes Go.WideShapes Go.ChangeAt Go.WideMaps Go.WideElems Go.RowKit Go.Deep
theorem own : ownKnob Tryd.prog.godebug = none := by kernel_rfl
theorem gTab : Tryd.prog.globalNamed "kindred/bits.halfOnes" = some 0 := by kernel_rfl
theorem tTab : (Tryd.prog.globals[0]?).map (·.type) = some 113 := by kernel_rfl
theorem cells3 : Tryd.prog.cellsOf 3 = 1 := by kernel_rfl
theorem cells9 : Tryd.prog.cellsOf 9 = 1 := by kernel_rfl
theorem cTab : Tryd.prog.cellsOf 113 = 16 := by kernel_rfl
theorem cellsOp : Tryd.prog.cellsOf 40 = 3 := by kernel_rfl
theorem laidOut : laidOutB Tryd.prog = true := by kernel_rfl
theorem add_plain (b off j : Nat) : (⟨b, off, none⟩ : Addr).add j = ⟨b, off + j, none⟩ := by unfold Addr.add; split <;> simp_all
/-- What the rows list. -/
abbrev lst : List (String × DataW Unit) := [("kindred/bits.halfOnes", Rows.laid_kindred_bits_halfOnes)]
theorem door_met (os : Os) (args : Array Value) : laidMetH Tryd.prog lst ((World.doorLaid Tryd.prog 400 os).forCall (fun _ _ => 0) ⟨#[], args, []⟩).memory :=
  laidMetH_of_parts3 (fuel := 8) (laidMet_of_run' 8 (by kernel_rfl) (by kernel_rfl)) (by kernel_rfl) (by kernel_rfl)
/-- The table, out of the condition. -/
theorem tab_of {W : World} (h : laidMetH Tryd.prog lst W) : Tab W := by
  rw [MakeChecks.laidMetH_plain _ _ _ (by kernel_rfl)] at h
  have hT := Lib.tabIs_of_head (k := .i64) (zs := [0, 1, 1, 2, 1, 2, 2, 3, 1, 2, 2, 3, 2, 3, 3, 4]) (rest := []) gTab tTab Tryd.underlying113 Tryd.underlying3 cells3 cTab h
  exact fun i hi => hT.cell gTab i hi
set_option maxRecDepth 100000 in
theorem op_trod {H : Type} {enc : TypeId × Value → H} {W : World} {base : Nat} {spare : Nat → Bool} {held : Bool} {fuel : Nat} {cs : List Value} {x : DataW H × List MemPlace}
    (h : DataW.trod enc Tryd.prog W base spare held fuel 40 cs = some x) : ∃ e : Op3, cs = oC e := by
  obtain ⟨xs, k, hk, hxy, hlen, hxl, hf⟩ := DataW.trod_struct Tryd.underlying40 h
  rw [cellsOp] at hlen
  match xs, hxl, cs, hlen with
  | [y0, y1, y2], _, [v0, v1, v2], _ =>
    have g0 := hf 0 _ rfl
    have g1 := hf 1 _ rfl
    have g2 := hf 2 _ rfl
    simp [cells3, cells9] at g0 g1 g2
    obtain ⟨z0, hz0, _⟩ := DataW.trod_int Tryd.underlying3 g0
    obtain ⟨z1, hz1, hd1, _⟩ := DataW.trod_string Tryd.underlying9 g1
    obtain ⟨z2, hz2, _⟩ := DataW.trod_int Tryd.underlying3 g2
    simp at hz0 hz1 hz2
    subst hz0 hz1 hz2
    exact ⟨(z0, z1, z2), rfl⟩
theorem bulk_pos {H : Type} (d : DataW H) : 1 ≤ Rows.uptoBulk d := by
  cases d with
  | lit l => cases l <;> simp [Rows.uptoBulk]
  | nil => simp [Rows.uptoBulk]
  | ptr d => simp [Rows.uptoBulk]
  | slice e s => simp [Rows.uptoBulk]
  | agg p => simp [Rows.uptoBulk]
  | iface t d => simp [Rows.uptoBulk]
  | map e => simp [Rows.uptoBulk]
  | held h => simp [Rows.uptoBulk]
theorem bulk_len {H : Type} : ∀ l : List (DataW H), l.length ≤ Rows.uptoBulkAll l
  | [] => Nat.zero_le _
  | d :: l => by
    have h1 := bulk_len l
    have h2 := bulk_pos d
    simp only [Rows.uptoBulkAll, List.length_cons]; omega
set_option maxRecDepth 100000 in
theorem open_ops {H : Type} {enc : TypeId × Value → H} {W : World} {base : Nat} {spare : Nat → Bool} {held : Bool} {fuel : Nat} {a0 : Option Addr} {len cap : Nat} {d : DataW H} {ps : List MemPlace}
    (h : DataW.trod enc Tryd.prog W base spare held fuel 38 [.slice a0 len cap] = some (d, ps)) :
    ∃ l : List Op3, l.length = len ∧ OAt W a0 l ∧ l.length ≤ Rows.uptoBulk d := by
  rcases open_slice Tryd.underlying38 h with ⟨hcs, _⟩ | ⟨a, len', cap', m, n, D, Pl, hcs, _, hlc, _, hm, hx, hel⟩
  · simp at hcs
    obtain ⟨rfl, rfl, rfl⟩ := hcs
    exact ⟨[], rfl, ⟨fun i hi => by simp at hi⟩, Nat.zero_le _⟩
  · simp at hcs
    obtain ⟨rfl, rfl, rfl⟩ := hcs
    have hlm : len ≤ m := by rw [hm]; split <;> omega
    simp only [Prod.mk.injEq] at hx
    obtain ⟨hd, hps⟩ := hx
    have each : ∀ i, i < len → ∃ e : Op3, ∀ j v, (oC e)[j]? = some v → W.cell? ((a.add (i * 3)).add j) = some v := by
      intro i hi
      obtain ⟨cs', h1, h2⟩ := hel i (by omega)
      rw [cellsOp] at h1
      obtain ⟨_, hlen, hcell⟩ := World.cells?_some h1
      obtain ⟨e, rfl⟩ := op_trod h2
      refine ⟨e, fun j v hv => ?_⟩
      have hj : j < 3 := by have := (List.getElem?_eq_some_iff.1 hv).1; simpa [oC] using this
      rw [hcell j hj, hv]
    have hF : ∃ F : Nat → Op3, ∀ i, i < len → ∀ j v, (oC (F i))[j]? = some v → W.cell? ((a.add (i * 3)).add j) = some v := by
      have hh : ∀ i, ∃ e : Op3, i < len → ∀ j v, (oC e)[j]? = some v → W.cell? ((a.add (i * 3)).add j) = some v := fun i => by
        by_cases hi : i < len
        · obtain ⟨e, he⟩ := each i hi
          exact ⟨e, fun _ => he⟩
        · exact ⟨(0, ⟨#[]⟩, 0), fun h => absurd h hi⟩
      exact Classical.axiomOfChoice hh
    obtain ⟨F, hF⟩ := hF
    refine ⟨(List.range len).map F, by simp, ⟨fun i hi => ?_⟩, ?_⟩
    · have hi' : i < len := by simpa using hi
      obtain ⟨b, off, spot⟩ := a
      have hsp : spot = none := by
        have := World.cell?_spot (hF 0 (by omega) 0 _ rfl)
        simpa [Addr.add] using this
      subst hsp
      have h0 := hF i hi' 0 _ rfl
      have h1 := hF i hi' 1 _ rfl
      have h2 := hF i hi' 2 _ rfl
      rw [add_plain, add_plain] at h0 h1 h2
      refine ⟨b, off, rfl, ?_, ?_, ?_⟩
      · simpa using h0
      · simpa using h1
      · simpa using h2
    · rw [hd]
      have := bulk_len ((List.range len).map D)
      simp only [Rows.uptoBulk]
      simp at this ⊢
      omega
end Go.Proofs.YtnnbcdfpbdmgdaaDoor
set_option linter.unusedVariables false
set_option linter.unusedSimpArgs false
namespace Go.Proofs.YtnnbcdfpbdmgdaaDoor
open Go.ChangeMaps (open_string shut_string)
open Go.ChangeShapes Go.WideShapes Go.ChangeAt Go.WideMaps Go.WideElems Go.RowKit
theorem exact_small {H : Type} {k : Int} {d : DataW H} (hk : Rows.uptoSmall H [.lit (.int .i64 k), d] = true) : Rows.uptoBulk d ≤ 1048576 := by
  have h : Rows.uptoBulkAll [DataW.lit (H := H) (.int .i64 k), d] ≤ 1048576 := of_decide_eq_true hk
  simp only [Rows.uptoBulkAll, Rows.uptoBulk] at h
  omega
theorem exact_reads (os : Os) {H : Type} (enc : TypeId × Value → H) : ∃ places, DataW.whole enc Tryd.prog ((World.doorLaid Tryd.prog 400 os).forCall (fun _ _ => 0) ⟨#[], #[.int .i64 0, .slice none 0 0], []⟩).memory Tryd.f6.params.toList Rows.treeExactSpec.vars false #[Value.int .i64 0, .slice none 0 0].toList 8 = some ([.lit (.int .i64 0), .nil], [], places) :=
  ⟨[], by kernel_rfl⟩
set_option maxRecDepth 100000 in
theorem exact_lifted (os : Os) (started : os.Started) (H : Type) (enc : TypeId × Value → H) (F : Stop.Interp) :
    ReturnsInHanded {} Tryd.checked os 6 .any ((Rows.OpenSpec.upto Rows.treeExactSpec).preRow enc Tryd.prog Tryd.f6 Rows.treeExactUptoRow.domain false Rows.treeExactUptoRow.laid) (((Rows.OpenSpec.upto Rows.treeExactSpec).at F).post enc Tryd.prog Tryd.f6 false true false false) := by
  obtain ⟨places, hx⟩ := exact_reads os enc
  refine returnsInHanded_of_row (C := Tryd.checked) (s := Rows.OpenSpec.upto Rows.treeExactSpec) own started (by kernel_rfl) Tryd.func6
    (witness_row_at (enc := enc) (C := Tryd.checked) false (World.doorLaid Tryd.prog 400 os) #[.int .i64 0, .slice none 0 0] rfl (by kernel_rfl) (by kernel_rfl) (by kernel_rfl)
      (OpenSpec.preRow_of_cond 8 hx (by kernel_rfl) (fun k hk => by cases hk; kernel_rfl) (by kernel_rfl) (laidMet_of_run' 8 (by kernel_rfl) (by kernel_rfl)))) ?_
  intro W base args ds gs before hval0 hW0 _ hcond _ hL0 _ _
  have hL : laidMetH Tryd.prog lst W := hL0
  have hW : DataW.Whole enc Tryd.prog Tryd.f6.params.toList Rows.treeExactSpec.vars false W args.toList ds gs before := hW0
  have hk : Rows.uptoSmall H (ds ++ gs) = true := hcond _ rfl
  show Calls Tryd.prog 6 args W _
  have hval : ∀ (j : Nat) t v, Tryd.f6.params[j]? = some t → args[j]? = some v → Value.okWide Tryd.prog W .any base t v := hval0
  clear hval0 hW0 hL0 hcond
  have hW' := hW
  obtain ⟨p, q, hA0, hV, rfl, hfz, hnd⟩ := hW
  have hA : DataW.TrodAll enc Tryd.prog W 0 (fun _ => true) true Tryd.f6.params.toList args.toList ds p := hA0
  rw [Tryd.params6] at hA hval
  obtain ⟨v0, v1, d0, d1, p0, p1, rfl, rfl, rfl, h0, h1⟩ := trodAll_two hA
  obtain ⟨rfl, rfl⟩ := trodVars_none hV
  obtain ⟨k, rfl, rfl, rfl, wk⟩ := open_int Tryd.underlying3 (hval 0 3 v0 rfl rfl) h0
  obtain ⟨a1, len1, cap1, rfl⟩ := okWide_slice Tryd.underlying38 (hval 1 38 v1 rfl rfl)
  have h1k := h1
  obtain ⟨fuel1, hf1⟩ := h1
  obtain ⟨l, hl1, hL1, hB1⟩ := open_ops (by simpa [Value.cells] using hf1)
  subst hl1
  clear hA0
  simp only [List.append_nil, List.nil_append] at hW' hk
  have hsm := exact_small hk
  have hlt1 : ∀ x ∈ p1, x.block < W.heap.size := fun x hx => hW'.lt x (by simp [hx])
  have e1 : Rows.treeExactSpec.fn H ([.lit (.int .i64 k), d1] ++ []) = { results := [.lit (.bool true)], args := [.lit (.int .i64 k), d1] } := by simp [Rows.treeExactSpec]
  have fin : ∀ (e : Ending) (W' : World), (e = .returned (.bool true) ∧ Below W.heap.size W W') → ∃ v, e = .returned v ∧ ((Rows.OpenSpec.upto Rows.treeExactSpec).at F).post enc Tryd.prog Tryd.f6 false true false false W #[.int .i64 k, .slice a1 l.length cap1] v W' := by
    rintro e W' ⟨rfl, hbl⟩
    refine ⟨_, rfl, _, _, _, [], p1, [], hW', ?_, ?_, ?_, hbl.frame _, fun h => by cases h⟩
    · exact (show _ from by rw [show ((Rows.OpenSpec.upto Rows.treeExactSpec).at F).fn = Rows.treeExactSpec.fn from rfl, e1]; exact trodAll_mk1 (shut_bool Tryd.underlying4 true))
    · exact (show _ from by rw [show ((Rows.OpenSpec.upto Rows.treeExactSpec).at F).fn = Rows.treeExactSpec.fn from rfl, e1]; have h5 := trodAll_mk2 (shut_int Tryd.underlying3 wk) (Below.trod laidOut (by kernel_rfl) (of_decide_eq_true (by kernel_rfl)) h1k hbl hlt1); simp only [List.nil_append] at h5; exact h5)
    · exact (show _ from by rw [show ((Rows.OpenSpec.upto Rows.treeExactSpec).at F).fn = Rows.treeExactSpec.fn from rfl, e1]; rfl)
  exact (law_exact k l a1 cap1 W (tab_of hL) hL1 (by omega)).mono fin
theorem exact_row : Rows.TreeExactUptoSaid :=
  OpenClaim.holds_of_cond 6 Tryd.f6 rfl rfl rfl rfl rfl rfl rfl ⟨rfl, rfl, rfl, rfl, rfl⟩ rfl rfl rfl rfl rfl (by kernel_rfl) Tryd.func6 (by kernel_rfl)
    (of_decide_eq_true (by kernel_rfl)) (by unfold Func.isWrapper; first | (rw [if_pos (by decide +kernel)]; kernel_rfl) | (rw [if_neg (by decide +kernel)]; exact ⟨rfl, rfl⟩))
    (fun os started H enc _ F => by rw [OpenClaim.pre_eq_preRow]; exact exact_lifted os started H enc F)
theorem exact_plain (f : FuncId) (fn : Func) (hf : Tryd.pinned.checked.prog.funcNamed "kindred/kindredlaw12.TreeExact" = some f) (hfn : Tryd.pinned.checked.prog.funcs[f]? = some fn) :
    false = Tryd.pinned.checked.prog.looks [] ∧ ∀ (j : Nat) t, fn.params[j]? = some t → Tryd.pinned.checked.prog.wantsStandIn t = false := by
  obtain rfl : f = 6 := Option.some.inj ((show Tryd.prog.funcNamed "kindred/kindredlaw12.TreeExact" = some 6 by kernel_rfl).symm.trans hf) |>.symm
  obtain rfl : fn = Tryd.f6 := (Option.some.inj (Tryd.func6.symm.trans hfn)).symm
  refine ⟨by kernel_rfl, fun j t ht => ?_⟩
  rw [Tryd.params6] at ht
  have hm : t ∈ [3, 38] := by simpa using Array.mem_of_getElem? ht
  have hall : ([3, 38].all fun u => !Tryd.prog.wantsStandIn u) = true := by kernel_rfl
  exact (show Tryd.prog.wantsStandIn t = false by simpa using List.all_eq_true.1 hall t hm)
theorem exact_holds : Rows.TreeExactUptoCardSaid :=
  Claim7.holds_tied_plain_at .later [] _ _ _ _ exact_row (fun _ h => by cases h) (by kernel_rfl) (fun _ h => by cases h) treeExactUpto_row_tie rfl ⟨rfl, rfl⟩ (by kernel_rfl) rfl exact_plain (by kernel_rfl)
#print axioms exact_holds
end Go.Proofs.YtnnbcdfpbdmgdaaDoor
