/-
  DERIVED. JSm, RDk0, RDk1, RDk2, RDk3, as one text.
-/
import Derived.Test.YtjkhhjboejkafaaDoorLzAG
import Derived.Test.YtjkhhjboejkafaaDoorLzAS
import Derived.Test.YtjkhhjboejkafaaDoorLzAF
set_option linter.unusedVariables false
set_option linter.unusedSimpArgs false
namespace Go.Proofs.YtjkhhjboejkafaaDoor
open Go.RowKit Go.Proofs.SealMath
abbrev Uq := Int × Int × Int × ByteArray
abbrev EU : Rw.El Uq := ⟨39, 32, 4, 40, .agg #[.int .i64 0, .int .i64 0, .int .i64 0, .string ⟨#[]⟩], fun x => [.int .i64 x.1, .int .i64 x.2.1, .int .i64 x.2.2.1, .string x.2.2.2]⟩
theorem okEU : EU.Ok Tryd.prog := ⟨fun _ => rfl, fun x u hu => by
  simp at hu
  rcases hu with rfl | rfl | rfl | rfl <;> rfl, by decide, rfl, by decide, by kernel_rfl, by kernel_rfl⟩
def uQ (z : Up × Nat) : Uq := (z.1.s, z.1.k, z.1.i, ⟨z.1.c.toArray⟩)
theorem lsQ (L : List (Up × Nat)) : (L.map uQ).flatMap EU.f = lsU L := by
  unfold lsU
  rw [List.flatMap_map]
  rfl
theorem rowQ {W : World} {v : Value} {L : List (Up × Nat)} (h : W.ownsRow 0 39 4 v L.length (lsU L)) : EU.Row W v (L.map uQ) := by
  show W.ownsRow 0 39 4 v (L.map uQ).length _
  rw [lsQ, List.length_map]; exact h
theorem uCells {W : World} {v : Value} {X : List Uq} (h : EU.Row W v X) (i : Nat) (hi : i < X.length) : ∃ g cap, v = .slice (some ⟨g, 0, none⟩) X.length cap ∧ W.cell? ⟨g, i * 4, none⟩ = some (.int .i64 X[i].1) ∧ W.cell? ⟨g, i * 4 + 1, none⟩ = some (.int .i64 X[i].2.1) ∧ W.cell? ⟨g, i * 4 + 2, none⟩ = some (.int .i64 X[i].2.2.1) ∧ W.cell? ⟨g, i * 4 + 3, none⟩ = some (.string X[i].2.2.2) ∧ ∀ j, W.frozen? ⟨g, j, none⟩ = false := by
  obtain ⟨g, cap, e, h1, h2⟩ := Rw.El.cells okEU h i hi
  exact ⟨g, cap, e, h1 0 _ rfl, h1 1 _ rfl, h1 2 _ rfl, h1 3 _ rfl, h2⟩
set_option maxRecDepth 100000 in
set_option maxHeartbeats 8000000 in
theorem same_any (v1 v2 : Value) (X : List Uq) (w : World) (h1 : EU.Row w v1 X) (h2 : EU.Row w v2 X) (hl : X.length < 4611686018427387904) :
    Calls Tryd.prog 13 #[v1, v2] w fun e w' => e = .returned (.bool true) ∧ Drew w w' := by
  have k1 := fun i hi => uCells h1 i hi
  have k2 := fun i hi => uCells h2 i hi
  obtain ⟨a1, c1, e1, -⟩ := h1.form
  obtain ⟨a2, c2, e2, -⟩ := h2.form
  subst e1 e2
  clear h1 h2
  obtain ⟨n, hn⟩ : ∃ n, n = X.length := ⟨_, rfl⟩
  have hx : ∀ i, i < n → ∃ (x : Uq) (g1 g2 : Nat), a1 = some ⟨g1, 0, none⟩ ∧ a2 = some ⟨g2, 0, none⟩ ∧ (w.cell? ⟨g1, i * 4, none⟩ = some (.int .i64 x.1) ∧ w.cell? ⟨g1, i * 4 + 1, none⟩ = some (.int .i64 x.2.1) ∧ w.cell? ⟨g1, i * 4 + 2, none⟩ = some (.int .i64 x.2.2.1) ∧ w.cell? ⟨g1, i * 4 + 3, none⟩ = some (.string x.2.2.2)) ∧ (w.cell? ⟨g2, i * 4, none⟩ = some (.int .i64 x.1) ∧ w.cell? ⟨g2, i * 4 + 1, none⟩ = some (.int .i64 x.2.1) ∧ w.cell? ⟨g2, i * 4 + 2, none⟩ = some (.int .i64 x.2.2.1) ∧ w.cell? ⟨g2, i * 4 + 3, none⟩ = some (.string x.2.2.2)) := fun i hi => by
    have hi' : i < X.length := by omega
    obtain ⟨g1, d1, e1, p0, p1, p2, p3, -⟩ := k1 i hi'
    obtain ⟨g2, d2, e2, q0, q1, q2, q3, -⟩ := k2 i hi'
    simp only [Value.slice.injEq] at e1 e2
    exact ⟨X[i], g1, g2, e1.1, e2.1, ⟨p0, p1, p2, p3⟩, ⟨q0, q1, q2, q3⟩⟩
  clear k1 k2
  rw [← hn] at hl ⊢
  have HX := Hid.mk hx
  clear hn hx
  go_enter Tryd.func13, Tryd.ntmps13
  go_wp2
  go_loopw [5] (fun u wr => ∃ i : Nat, u = .int .i64 i ∧ i ≤ n ∧ Drew w wr) (fun u _ => n - (intOf u).toNat)
  case atStart => exact ⟨0, rfl, Nat.zero_le _, Drew.refl _⟩
  case round =>
    obtain ⟨i, rfl, hi, hd⟩ := hrel
    by_cases hlt : i < n
    · obtain ⟨x, g1, g2, rfl, rfl, ⟨x0, x1, x2, x3⟩, ⟨y0, y1, y2, y3⟩⟩ := HX.out i hlt
      have hcell : ∀ a : Addr, wr.cell? a = w.cell? a := fun a => by obtain ⟨m, rfl⟩ := hd; exact World.cell?_drewN _ _ _
      rw [← hcell] at x0 x1 x2 x3 y0 y1 y2 y3
      have i1 : (i : Int) < (n : Int) := by omega
      have i2 : 0 ≤ (i : Int) := by omega
      clear hcell
      go_wp2
      go_quiet (fail)
      go_wp2
      refine ⟨⟨i + 1, rfl, hlt, hd.more _⟩, by simp only [intOf]; omega⟩
    · go_wp2
      go_ret
      exact ⟨rfl, hd⟩
end Go.Proofs.YtjkhhjboejkafaaDoor
set_option linter.unusedVariables false
set_option linter.unusedSimpArgs false
namespace Go.Proofs.YtjkhhjboejkafaaDoor.Dk
open Go.RowKit Go.Maps Go.Proofs.DiskMath
set_option maxHeartbeats 4000000 in
set_option maxRecDepth 100000 in
theorem rnamed_any (s : ByteArray) (w : World) :
    Calls Tryd.prog 39 #[.string s] w fun e w' => e = .returned (.bool (isNm s.data.toList)) ∧ w' = w := by
  by_cases hsz : 1 ≤ s.size ∧ s.size ≤ 32
  · have hn1 : ¬ ((s.size : Nat) : Int) < 1 := by omega
    have hn2 : ¬ 32 < ((s.size : Nat) : Int) := by omega
    have e0 : isNm s.data.toList = s.data.toList.all nameB := by unfold isNm; rw [nm_size]; simp [hsz.1, hsz.2]
    rw [e0]
    obtain ⟨r, hr⟩ : ∃ r, r = s.data.toList.all nameB := ⟨_, rfl⟩
    rw [← hr]
    have HR : Hid (r = s.data.toList.all nameB) := hr
    clear hr e0
    go_enter Tryd.func39, Tryd.ntmps39
    go_wp2
    go_loopw [3, 4] (fun v _ wr => ∃ i : Nat, v = .int .i64 i ∧ i ≤ s.size ∧ Hid ((s.data.toList.take i).all nameB = true) ∧ wr = w) (fun v _ _ => s.size - (intOf v).toNat)
    case atStart => exact ⟨0, rfl, Nat.zero_le _, rfl, rfl⟩
    case round =>
      obtain ⟨i, rfl, hi, HA, rfl⟩ := hrel
      by_cases hlt : i < s.size
      · have hn := nameB_iff s[i]
        have HT := fun h => all_take s i hlt h HA.out
        have HF := all_not s i hlt
        by_cases hb : nameB s[i] = true
        · have HT' : Hid ((s.data.toList.take (i + 1)).all nameB = true) := HT hb
          have HB := hn.1 hb
          clear HT HF hn hb HA
          go_wp2
          all_goals first
            | (exfalso; omega)
            | (exfalso; simp only [bne_eq_false_iff_eq] at *; omega)
            | (refine ⟨⟨i + 1, rfl, hlt, HT', trivial⟩, ?_⟩; simp only [intOf]; omega)
        · have HF' : Hid (r = false) := HR.out.trans (HF hb)
          have HB : ¬ ((97 ≤ s[i].toNat ∧ s[i].toNat ≤ 122) ∨ (48 ≤ s[i].toNat ∧ s[i].toNat ≤ 57) ∨ s[i].toNat = 46) := fun h => hb (hn.2 h)
          clear HT HF hn hb HA
          go_wp2
          all_goals first
            | (exfalso; omega)
            | (exfalso; simp only [bne_eq_false_iff_eq, bne_iff_ne, ne_eq] at *; omega)
            | (go_ret; exact ⟨ret_bool HF'.out.symm, rfl⟩)
      · have e : i = s.size := by omega
        subst e
        have HF' : Hid (r = true) := by
          have := HA.out; rw [List.take_of_length_le (by simp)] at this; exact HR.out.trans this
        go_wp2
        go_ret
        exact ⟨ret_bool HF'.out.symm, rfl⟩
  · have e0 : isNm s.data.toList = false := by unfold isNm; rw [nm_size]; simp; omega
    rw [e0]
    by_cases h1 : ((s.size : Nat) : Int) < 1
    · go_enter Tryd.func39, Tryd.ntmps39
      go_wp2
      go_ret
      exact ⟨rfl, rfl⟩
    · have h2 : 32 < ((s.size : Nat) : Int) := by omega
      go_enter Tryd.func39, Tryd.ntmps39
      go_wp2
      go_ret
      exact ⟨rfl, rfl⟩
/-- A file of the document's disk. -/
structure Fi where
  n : ByteArray
  d : ByteArray
  u : Int
def fiC (f : Fi) : List Value := [.string f.n, .string f.d, .int .i64 f.u]
theorem fiC_at : ∀ (l : List Fi) (i j : Nat) (hi : i < l.length), j < 3 → (l.flatMap fiC)[i * 3 + j]? = (fiC l[i])[j]?
  | f :: l, 0, j, _, hj => by rw [List.flatMap_cons, Nat.zero_mul, Nat.zero_add, List.getElem?_append_left (by simpa [fiC] using hj)]; rfl
  | f :: l, i + 1, j, hi, hj => by
    have := fiC_at l i j (by simpa using hi) hj
    rw [List.flatMap_cons, List.getElem?_append_right (by simp [fiC]; omega), show (i + 1) * 3 + j - (fiC f).length = i * 3 + j from by simp [fiC]; omega, this]; rfl
abbrev rdV (fv : Value) (cap : Int) (off : Bool) (left : Int) (dn : Bool) (cuts cnt : Int) : Array Value := #[.int .i64 cap, fv, .bool off, .int .i64 left, .bool dn, .int .i64 cuts, .int .i64 cnt]
/-- The document's disk in memory. -/
structure RD4 (W : World) (d : Nat) (fs : List Fi) (fv : Value) (cap : Int) (off : Bool) (left : Int) (dn : Bool) (cuts cnt : Int) : Prop where
  box : W.heap[d]? = some (.cells (rdV fv cap off left dn cuts cnt) 47 (0, 0))
  row : W.ownsRow 0 61 3 fv fs.length (fs.flatMap fiC)
section
variable {W : World} {d : Nat} {fs : List Fi} {fv : Value} {cap left cuts cnt : Int} {off dn : Bool}
theorem RD4.cell (h : RD4 W d fs fv cap off left dn cuts cnt) : W.cell? ⟨d, 0, none⟩ = some (.int .i64 cap) ∧ W.cell? ⟨d, 1, none⟩ = some fv ∧ W.cell? ⟨d, 2, none⟩ = some (.bool off) ∧ W.cell? ⟨d, 3, none⟩ = some (.int .i64 left) ∧ W.cell? ⟨d, 4, none⟩ = some (.bool dn) ∧ W.cell? ⟨d, 5, none⟩ = some (.int .i64 cuts) ∧ W.cell? ⟨d, 6, none⟩ = some (.int .i64 cnt) :=
  ⟨by rw [cell_of_row _ _ 0 _ _ (0, 0) h.box]; rfl, by rw [cell_of_row _ _ 1 _ _ (0, 0) h.box]; rfl, by rw [cell_of_row _ _ 2 _ _ (0, 0) h.box]; rfl, by rw [cell_of_row _ _ 3 _ _ (0, 0) h.box]; rfl, by rw [cell_of_row _ _ 4 _ _ (0, 0) h.box]; rfl, by rw [cell_of_row _ _ 5 _ _ (0, 0) h.box]; rfl, by rw [cell_of_row _ _ 6 _ _ (0, 0) h.box]; rfl⟩
theorem RD4.file (h : RD4 W d fs fv cap off left dn cuts cnt) (i : Nat) (hi : i < fs.length) : ∃ g c, fv = .slice (some ⟨g, 0, none⟩) fs.length c ∧ W.cell? ⟨g, i * 3, none⟩ = some (.string fs[i].n) ∧ W.cell? ⟨g, i * 3 + 1, none⟩ = some (.string fs[i].d) ∧ W.cell? ⟨g, i * 3 + 2, none⟩ = some (.int .i64 fs[i].u) := by
  rcases h.row.2 with ⟨h2, h3⟩ | ⟨g, c, cur, h2, h3⟩
  · omega
  · subst h2
    have hc := fun j (hj : j < 3) => World.ownsRow.cells h.row (g := g) rfl (i * 3 + j)
    have e : ∀ k, (⟨g, 0, none⟩ : Addr).add k = ⟨g, k, none⟩ := fun k => by unfold Addr.add; split <;> simp_all
    refine ⟨g, c, rfl, ?_, ?_, ?_⟩
    · have := hc 0 (by omega) (.string fs[i].n) (by rw [fiC_at fs i 0 hi (by omega)]; rfl)
      rw [e] at this; exact this
    · have := hc 1 (by omega) (.string fs[i].d) (by rw [fiC_at fs i 1 hi (by omega)]; rfl)
      rw [e] at this; exact this
    · have := hc 2 (by omega) (.int .i64 fs[i].u) (by rw [fiC_at fs i 2 hi (by omega)]; rfl)
      rw [e] at this; exact this
end
theorem wrapI (i : Nat) (h : i < 4611686018427387904) : wrap64 ((i : Int) + 1) = (i : Int) + 1 := by unfold wrap64; omega
/-- The place of a file's name. -/
def fdI (s : ByteArray) : List Fi → Nat → Int
  | [], _ => -1
  | f :: l, i => if f.n.toList == s.toList then i else fdI s l (i + 1)
set_option maxHeartbeats 4000000 in
set_option maxRecDepth 100000 in
theorem rfind_any {d : Nat} {fs : List Fi} {fv : Value} {cap left cuts cnt : Int} {off dn : Bool} (s : ByteArray) (w : World) (h : RD4 w d fs fv cap off left dn cuts cnt) (hl : fs.length ≤ 4611686018427387904) :
    Calls Tryd.prog 40 #[Pt d, .string s] w fun e w' => e = .returned (.int .i64 (fdI s fs 0)) ∧ w' = w := by
  obtain ⟨y0, y1, y2, y3, y4, y5, y6⟩ := h.cell
  obtain ⟨fa, fc, rfl, -⟩ := slice_form h.row
  obtain ⟨r, hr⟩ : ∃ r, r = fdI s fs 0 := ⟨_, rfl⟩
  obtain ⟨n, hn⟩ : ∃ n, n = fs.length := ⟨_, rfl⟩
  rw [← hr]
  rw [← hn] at y1
  have H := Hid.mk h
  have HR := Hid.mk (show fdI s fs 0 = r from hr.symm)
  have HN := Hid.mk (And.intro hn hl)
  have hz : d < w.heap.size := World.block_lt_of_cell? w _ y0
  clear h hr hn hl y0 y2 y3 y4 y5 y6
  go_enter Tryd.func40, Tryd.ntmps40
  go_wp2
  go_loopw [5] (fun v wr => ∃ i : Nat, v = .int .i64 i ∧ i ≤ n ∧ Hid (fdI s (fs.drop i) i = r) ∧ wr = w) (fun v _ => n - (intOf v).toNat)
  case atStart => exact ⟨0, rfl, Nat.zero_le _, HR, rfl⟩
  case round =>
    obtain ⟨i, rfl, hi, HA, rfl⟩ := hrel
    by_cases hlt : i < n
    · have hil : i < fs.length := by rw [← HN.out.1]; exact hlt
      obtain ⟨g, c, e, z0, -, -⟩ := H.out.file i hil
      cases e
      have hA := HA.out
      rw [List.drop_eq_getElem_cons hil, fdI] at hA
      have i1 : (i : Int) < (n : Int) := by omega
      have i2 : 0 ≤ (i : Int) := by omega
      have hwi : wrap64 ((i : Int) + 1) = (i : Int) + 1 := wrapI i (Nat.lt_of_lt_of_le hil HN.out.2)
      cases hq : (fs[i].n.toList == s.toList) with
      | true =>
        rw [hq, if_pos rfl] at hA
        have HF := Hid.mk hA
        clear hA HA hi hlt
        go_wp2
        go_ret
        exact ⟨(by rw [← HF.out]; rfl), rfl⟩
      | false =>
        rw [hq, if_neg (by simp)] at hA
        have HF := Hid.mk hA
        clear hA HA
        go_wp2
        rw [hwi]
        exact ⟨⟨i + 1, rfl, hlt, HF, trivial⟩, by simp only [intOf]; omega⟩
    · have i1 : ¬ (i : Int) < (n : Int) := by omega
      have hA := HA.out
      rw [List.drop_eq_nil_of_le (by have := HN.out.1; omega), fdI] at hA
      have HF := Hid.mk hA
      clear hA HA
      go_wp2
      go_ret
      exact ⟨(by rw [← HF.out]; rfl), rfl⟩
end Go.Proofs.YtjkhhjboejkafaaDoor.Dk
set_option linter.unusedVariables false
set_option linter.unusedSimpArgs false
namespace Go.Proofs.YtjkhhjboejkafaaDoor.Dk
open Go.RowKit Go.Maps Go.Proofs.DiskMath
/-- What look answers. -/
def lkD (off : Bool) (s : ByteArray) (fs : List Fi) : Int × Int := if off = true then (0, 45) else if isNm s.data.toList = true then (if fdI s fs 0 < 0 then (0, 42) else (fdI s fs 0, 0)) else (0, 40)
set_option maxHeartbeats 4000000 in
set_option maxRecDepth 100000 in
theorem rlook_any {d : Nat} {fs : List Fi} {fv : Value} {cap left cuts cnt : Int} {off dn : Bool} (s : ByteArray) (w : World) (h : RD4 w d fs fv cap off left dn cuts cnt) (hl : fs.length ≤ 4611686018427387904) :
    Calls Tryd.prog 21 #[Pt d, .string s] w fun e w' => e = .returned (.tuple #[.int .i64 (lkD off s fs).1, .int .i64 (lkD off s fs).2]) ∧ w' = w := by
  obtain ⟨y0, y1, y2, y3, y4, y5, y6⟩ := h.cell
  have h1 := rnamed_any s w
  have h2 := rfind_any s w h hl
  obtain ⟨r, hr⟩ : ∃ r, r = fdI s fs 0 := ⟨_, rfl⟩
  unfold lkD
  rw [← hr] at h2 ⊢
  have hz : d < w.heap.size := World.block_lt_of_cell? w _ y0
  clear h hl y0 y1 y3 y4 y5 y6 hr
  cases off with
  | true =>
    rw [if_pos rfl]
    go_enter Tryd.func21, Tryd.ntmps21
    go_wp2
    refine bodyPost_ret (results_tmp2 Tryd.results21 _ _ _) rfl ?_
    exact ⟨rfl, rfl⟩
  | false =>
    rw [if_neg (by simp)]
    cases hn : isNm s.data.toList with
    | false =>
      rw [hn] at h1
      rw [if_neg (by simp)]
      go_enter Tryd.func21, Tryd.ntmps21
      go_wp2_with (go_at_call 39; refine h1.mono ?_; rintro e w1 ⟨rfl, rfl⟩)
      refine bodyPost_ret (results_tmp2 Tryd.results21 _ _ _) rfl ?_
      exact ⟨rfl, rfl⟩
    | true =>
      rw [hn] at h1
      rw [if_pos rfl]
      by_cases hneg : r < 0
      · rw [if_pos hneg]
        go_enter Tryd.func21, Tryd.ntmps21
        go_wp2_with (first | (go_at_call 39; refine h1.mono ?_; rintro e w1 ⟨rfl, rfl⟩) | (go_at_call 40; refine h2.mono ?_; rintro e w2 ⟨rfl, rfl⟩))
        refine bodyPost_ret (results_tmp2 Tryd.results21 _ _ _) rfl ?_
        exact ⟨rfl, rfl⟩
      · rw [if_neg hneg]
        go_enter Tryd.func21, Tryd.ntmps21
        go_wp2_with (first | (go_at_call 39; refine h1.mono ?_; rintro e w1 ⟨rfl, rfl⟩) | (go_at_call 40; refine h2.mono ?_; rintro e w2 ⟨rfl, rfl⟩))
        refine bodyPost_ret (results_tmp2 Tryd.results21 _ _ _) rfl ?_
        exact ⟨rfl, rfl⟩
set_option maxRecDepth 100000 in
/-- A new one. -/
theorem rnew_any (cap : Int) (w : World) (h : 0 ≤ cap ∧ cap ≤ 1073741824) :
    Calls Tryd.prog 5 #[.int .i64 cap] w fun e w' => ∃ d, e = .returned (Pt d) ∧ RD4 w' d [] (.slice none 0 0) cap false 0 false 0 0 ∧ w.heap.size ≤ d ∧ Below w.heap.size w w' := by
  have h1 : ¬ cap < 0 := by omega
  have h2 : ¬ 1073741824 < cap := by omega
  go_enter Tryd.func5, Tryd.ntmps5
  go_wp2
  go_ret
  exact ⟨w.heap.size, rfl, ⟨heap_alloc_last w _, ⟨rfl, .inl ⟨rfl, rfl⟩⟩⟩, Nat.le_refl _, (Below.refl _ w).alloc (Nat.le_refl _) _⟩
end Go.Proofs.YtjkhhjboejkafaaDoor.Dk
set_option linter.unusedVariables false
set_option linter.unusedSimpArgs false
namespace Go.Proofs.YtjkhhjboejkafaaDoor.Dk
open Go.RowKit Go.Maps Go.Proofs.DiskMath
theorem ba_eq {a b : ByteArray} (h : a.data.toList = b.data.toList) : a = b := by
  cases a; cases b
  congr 1
  exact Array.ext' h
set_option maxHeartbeats 4000000 in
set_option maxRecDepth 100000 in
theorem rsize_yes {d : Nat} {fs : List Fi} {fv : Value} {cap left cuts cnt : Int} {off dn : Bool} (s : ByteArray) (w : World) (h : RD4 w d fs fv cap off left dn cuts cnt) (hl : fs.length ≤ 4611686018427387904) (i : Nat) (hi : i < fs.length) (hk : lkD off s fs = ((i : Int), 0)) :
    Calls Tryd.prog 32 #[Pt d, .string s] w fun e w' => e = .returned (.tuple #[.int .i64 (fs[i].d.size : Nat), .int .i64 0]) ∧ w' = w := by
  obtain ⟨y0, y1, y2, y3, y4, y5, y6⟩ := h.cell
  have h1 := rlook_any s w h hl
  rw [hk] at h1
  obtain ⟨g, c, rfl, z0, z1, z2⟩ := h.file i hi
  obtain ⟨n, hn⟩ : ∃ n, n = fs.length := ⟨_, rfl⟩
  rw [← hn] at y1 hi
  have i1 : (i : Int) < (n : Int) := by omega
  have i2 : 0 ≤ (i : Int) := by omega
  have hz : d < w.heap.size := World.block_lt_of_cell? w _ y0
  generalize fs[i].d = D at z1 ⊢
  clear h hl y0 y2 y3 y4 y5 y6 hk hn z0 z2
  go_enter Tryd.func32, Tryd.ntmps32
  go_wp2_with (go_at_call 21; refine h1.mono ?_; rintro e w1 ⟨rfl, rfl⟩)
  refine bodyPost_ret (results_tmp2 Tryd.results32 _ _ _) rfl ?_
  exact ⟨rfl, rfl⟩
set_option maxHeartbeats 4000000 in
set_option maxRecDepth 100000 in
theorem rread_yes {d : Nat} {fs : List Fi} {fv : Value} {cap left cuts cnt : Int} {off dn : Bool} (s : ByteArray) (w : World) (h : RD4 w d fs fv cap off left dn cuts cnt) (hl : fs.length ≤ 4611686018427387904) (i : Nat) (hi : i < fs.length) (hk : lkD off s fs = ((i : Int), 0)) (hs : fs[i].d.size ≤ 1152921504606846976) :
    Calls Tryd.prog 34 #[Pt d, .string s, .int .i64 0, .int .i64 (fs[i].d.size : Nat)] w fun e w' => e = .returned (.tuple #[.string fs[i].d, .int .i64 0]) ∧ w' = w := by
  obtain ⟨y0, y1, y2, y3, y4, y5, y6⟩ := h.cell
  have h1 := rlook_any s w h hl
  rw [hk] at h1
  obtain ⟨g, c, rfl, z0, z1, z2⟩ := h.file i hi
  obtain ⟨n, hn⟩ : ∃ n, n = fs.length := ⟨_, rfl⟩
  rw [← hn] at y1 hi
  have i1 : (i : Int) < (n : Int) := by omega
  have i2 : 0 ≤ (i : Int) := by omega
  have hz : d < w.heap.size := World.block_lt_of_cell? w _ y0
  generalize fs[i].d = D at z1 hs ⊢
  have hw : wrap64 ((D.size : Int) - 0) = (D.size : Int) := by unfold wrap64; omega
  have hw2 : wrap64 ((D.size : Int)) = (D.size : Int) := by unfold wrap64; omega
  have e0 : D.extract 0 D.size = D := by apply ba_eq; simp
  clear h hl y0 y2 y3 y4 y5 y6 hk hn z0 z2
  go_enter Tryd.func34, Tryd.ntmps34
  go_wp2_with (go_at_call 21; refine h1.mono ?_; rintro e w1 ⟨rfl, rfl⟩)
  refine bodyPost_ret (results_tmp2 Tryd.results34 _ _ _) rfl ?_
  exact ⟨by simp [e0], rfl⟩
end Go.Proofs.YtjkhhjboejkafaaDoor.Dk
set_option linter.unusedVariables false
set_option linter.unusedSimpArgs false
namespace Go.Proofs.YtjkhhjboejkafaaDoor.Dk
open Go.RowKit Go.Maps Go.Proofs.DiskMath
theorem wrapC (cnt : Int) (h : 0 ≤ cnt ∧ cnt ≤ 1152921504606846976) : wrap64 (cnt + 1) = cnt + 1 := by unfold wrap64; omega
theorem stayD (W V : World) (g o : Nat) (u : Value) (h : Stay (fun k => k = g) W V) : Stay (fun k => k = g) W (V.setCell ⟨g, o, none⟩ u) := Stay.setCell (F := fun k => k = g) h (p := ⟨g, o, none⟩) (fun _ => rfl) u
theorem RD4.ne {W : World} {d : Nat} {fs : List Fi} {fv : Value} {cap left cuts cnt : Int} {off dn : Bool} (h : RD4 W d fs fv cap off left dn cuts cnt) {k : Nat} (hk : fv.ownBlock = some k) : k ≠ d := fun e => by
  obtain ⟨c, hc⟩ := row_block h.row hk
  rw [e, h.box] at hc
  simp at hc
set_option maxHeartbeats 4000000 in
set_option maxRecDepth 100000 in
theorem racc0 {d : Nat} {fs : List Fi} {fv : Value} {cap cuts cnt : Int} {off dn : Bool} (w : World) (h : RD4 w d fs fv cap off 0 dn cuts cnt) (hc : 0 ≤ cnt ∧ cnt ≤ 1152921504606846976) :
    Calls Tryd.prog 25 #[Pt d] w fun e w' => e = .returned (.bool false) ∧ RD4 w' d fs fv cap off 0 dn cuts (cnt + 1) ∧ Stay (fun k => k = d) w w' := by
  obtain ⟨y0, y1, y2, y3, y4, y5, y6⟩ := h.cell
  have f6 : w.frozen? ⟨d, 6, none⟩ = false := frozen_of_row _ _ _ _ _ h.box
  have hw := wrapC cnt hc
  have st : Stay (fun k => k = d) w (w.setCell ⟨d, 6, none⟩ (.int .i64 (cnt + 1))) := stayD _ _ _ _ _ (.refl _ _)
  have hb : (w.setCell ⟨d, 6, none⟩ (.int .i64 (cnt + 1))).heap[d]? = some (.cells (rdV fv cap off 0 dn cuts (cnt + 1)) 47 (0, 0)) := by rw [heap_setCell_same w d 6 _ _ _ h.box]; rfl
  have z3 : (w.setCell ⟨d, 6, none⟩ (.int .i64 (cnt + 1))).cell? ⟨d, 3, none⟩ = some (.int .i64 0) := by rw [cell_of_row _ _ 3 _ _ (0, 0) hb]; rfl
  have HF := Hid.mk (show RD4 (w.setCell ⟨d, 6, none⟩ (.int .i64 (cnt + 1))) d fs fv cap off 0 dn cuts (cnt + 1) ∧ Stay (fun k => k = d) w (w.setCell ⟨d, 6, none⟩ (.int .i64 (cnt + 1))) from ⟨⟨hb, row_kept h.row st (fun k hk e => h.ne hk e)⟩, st⟩)
  have hz : d < w.heap.size := World.block_lt_of_cell? w _ y0
  clear h hc st hb y0 y1 y2 y3 y4 y5
  go_enter Tryd.func25, Tryd.ntmps25
  go_wp2
  go_ret
  rw [hw]
  exact ⟨rfl, HF.out⟩
set_option maxHeartbeats 4000000 in
set_option maxRecDepth 100000 in
theorem rstep0 {d : Nat} {fs fs' : List Fi} {fv : Value} {cap cuts cnt : Int} {off dn : Bool} {a : Option Addr} {c : Nat} (w : World) (h : RD4 w d fs fv cap off 0 dn cuts cnt) (hc : 0 ≤ cnt ∧ cnt ≤ 1152921504606846976) (hr : w.ownsRow 0 61 3 (.slice a fs'.length c) fs'.length (fs'.flatMap fiC)) :
    Calls Tryd.prog 22 #[Pt d, .slice a fs'.length c] w fun e w' => e = .returned (.int .i64 0) ∧ RD4 w' d fs' (.slice a fs'.length c) cap off 0 dn cuts (cnt + 1) ∧ Stay (fun k => k = d) w w' := by
  have h1 := racc0 w h hc
  have hz : d < w.heap.size := (Array.getElem?_eq_some_iff.1 h.box).1
  have hne : ∀ k, (Value.slice a fs'.length c).ownBlock = some k → k ≠ d := fun k hk e => by
    obtain ⟨cu, hc⟩ := row_block hr hk
    rw [e, h.box] at hc
    simp at hc
  obtain ⟨n, hn⟩ : ∃ n, n = fs'.length := ⟨_, rfl⟩
  rw [← hn] at hr hne ⊢
  have HR := Hid.mk (And.intro hr (And.intro hne hn))
  clear h hc hr hne hn
  go_enter Tryd.func22, Tryd.ntmps22
  go_wp2_with fail
  refine h1.mono ?_
  clear h1
  rintro e w1 ⟨rfl, h1, st⟩
  obtain ⟨y0, y1, y2, y3, y4, y5, y6⟩ := h1.cell
  have f1 : w1.frozen? ⟨d, 1, none⟩ = false := frozen_of_row _ _ _ _ _ h1.box
  have hz1 : d < w1.heap.size := World.block_lt_of_cell? w1 _ y0
  have s2 : Stay (fun k => k = d) w1 (w1.setCell ⟨d, 1, none⟩ (.slice a n c)) := stayD _ _ _ _ _ (.refl _ _)
  have hb : (w1.setCell ⟨d, 1, none⟩ (.slice a n c)).heap[d]? = some (.cells (rdV (.slice a n c) cap off 0 dn cuts (cnt + 1)) 47 (0, 0)) := by rw [heap_setCell_same w1 d 1 _ _ _ h1.box]; rfl
  have HF := Hid.mk (And.intro hb (st.trans s2))
  obtain ⟨fa, fc, hfv, -⟩ := slice_form h1.row
  subst hfv
  obtain ⟨m, hm⟩ : ∃ m, m = fs.length := ⟨_, rfl⟩
  rw [← hm] at y1
  clear h1 st s2 hb y0 y2 y3 y5 y6 hm
  go_wp2
  go_ret
  refine ⟨rfl, ⟨HF.out.1, ?_⟩, HF.out.2⟩
  rw [← HR.out.2.2]
  exact row_kept HR.out.1 HF.out.2 (fun k hk e => HR.out.2.1 k hk e)
end Go.Proofs.YtjkhhjboejkafaaDoor.Dk
