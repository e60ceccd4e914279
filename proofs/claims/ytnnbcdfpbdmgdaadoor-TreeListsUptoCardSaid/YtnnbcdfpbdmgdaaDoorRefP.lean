/-
  DERIVED. TRefD, TRef1, TRef2, TRef3, TRef4, TRef5, TRef6, TRefP, as one text.
-/
import Derived.Test.YtnnbcdfpbdmgdaaDoorTTree
import Derived.Test.YtnnbcdfpbdmgdaaDoorTBox
import Derived.Test.YtnnbcdfpbdmgdaaDoorTGrow
import Derived.Maps.AppendAt
import Derived.Test.YtnnbcdfpbdmgdaaDoorScanHelp
set_option linter.unusedVariables false
set_option linter.unusedSimpArgs false
namespace Go.Proofs.YtnnbcdfpbdmgdaaDoor
open Go.RowKit Go.Maps Go.Proofs.BitMath Go.Proofs.TreeMath
set_option maxHeartbeats 400000 in
theorem rbit_any (s : ByteArray) (i : Nat) (w : World) (hs : s.size ≤ 140737488351232) (hi : i < 8 * s.size) :
    Calls Tryd.prog 97 #[.string s, .int .i64 i] w fun e w' => e = .returned (.int .i64 (bitL s.data.toList i)) ∧ w' = w := by
  have h8 : i / 8 < s.size := by omega
  have hc := (s[i / 8]).toNat_lt
  have hq := div_pow_le (s[i / 8]).toNat (7 - i % 8)
  have ha := i64_and1 ((s[i / 8]).toNat / 2 ^ (7 - i % 8)) hq.1 (by omega)
  go_enter Tryd.func97, Tryd.ntmps97
  go_wp2
  go_ret
  refine ⟨ret_int ?_, rfl⟩
  unfold bitL bt
  rw [List.getD_eq_getElem?_getD, List.getElem?_eq_getElem (by simpa using h8)]
  simp; rfl
set_option maxHeartbeats 400000 in
theorem rdistance_yes (a b : ByteArray) (w : World) (hs : a.size ≤ 140737488351232) (h : a.size = b.size) :
    Calls Tryd.prog 77 #[.string a, .string b] w fun e w' => e = .returned (.tuple #[.int .i64 (wt (xorL a.data.toList b.data.toList)), .int .i64 0]) ∧ w' = w := by
  have hne : ((a.size : Int) != (b.size : Int)) = false := by rw [bne_eq_false_iff_eq]; omega
  have hle : a.size ≤ b.size := by omega
  have hsb : b.size ≤ 140737488351232 := by omega
  have hl : a.data.toList.length = b.data.toList.length := by simpa using h
  have Hl : Hid (a.data.toList.length = b.data.toList.length) := hl
  have Hx : Hid ((xorL a.data.toList b.data.toList).length = a.size) := xorL_length _ _ hl
  clear h hl
  go_enter Tryd.func77, Tryd.ntmps77
  go_wp2
  go_loop [6, 7] (fun n i => ∃ k : Nat, k ≤ 8 * a.size ∧ i = .int .i64 k ∧ n = .int .i64 (sumTo (bitL (xorL a.data.toList b.data.toList)) k)) (fun _ i => 8 * a.size - (intOf i).toNat)
  case atStart => exact ⟨0, Nat.zero_le _, rfl, rfl⟩
  case round =>
    obtain ⟨k, hk, rfl, rfl⟩ := hrel
    have hd := sumTo_le (bitL (xorL a.data.toList b.data.toList)) (bitL_le _) k
    by_cases hlt : k < 8 * a.size
    · have HS : Hid (sumTo (bitL (xorL a.data.toList b.data.toList)) (k + 1) = sumTo (bitL (xorL a.data.toList b.data.toList)) k + (bitL a.data.toList k + bitL b.data.toList k) % 2) := by
        show _ + _ = _; rw [bitL_xor _ _ Hl.out _ (by simpa using hlt)]
      have hp1 := bitL_le a.data.toList k
      have hp2 := bitL_le b.data.toList k
      by_cases he : bitL a.data.toList k = bitL b.data.toList k
      · have hbe : ((bitL a.data.toList k : Int) != (bitL b.data.toList k : Int)) = false := by rw [bne_eq_false_iff_eq]; omega
        have He : Hid (bitL a.data.toList k = bitL b.data.toList k) := he
        clear he
        go_wp2_with fail
        refine (rbit_any a _ _ hs hlt).mono ?_
        rintro e w1 ⟨rfl, rfl⟩
        go_wp2_with fail
        refine (rbit_any b _ _ hsb (by omega)).mono ?_
        rintro e w1 ⟨rfl, rfl⟩
        go_wp2
        exact ⟨⟨k + 1, hlt, by go_num, by rw [HS.out]; have := He.out; exact ival (by omega)⟩, by simp [intOf]; omega⟩
      · have hbe : ((bitL a.data.toList k : Int) != (bitL b.data.toList k : Int)) = true := by rw [bne_iff_ne]; omega
        go_wp2_with fail
        refine (rbit_any a _ _ hs hlt).mono ?_
        rintro e w1 ⟨rfl, rfl⟩
        go_wp2_with fail
        refine (rbit_any b _ _ hsb (by omega)).mono ?_
        rintro e w1 ⟨rfl, rfl⟩
        go_wp2
        exact ⟨⟨k + 1, hlt, by go_num, by rw [HS.out]; exact ival (by omega)⟩, by simp [intOf]; omega⟩
    · go_wp2
      go_ret2
      have e : k = 8 * a.size := by omega
      have h2 := sumTo_bits (xorL a.data.toList b.data.toList) a.size (by rw [Hx.out]; exact Nat.le_refl _)
      exact ⟨ret2 (ival (by rw [e, h2, List.take_of_length_le (by rw [Hx.out]; exact Nat.le_refl _)])) rfl, rfl⟩
set_option maxHeartbeats 400000 in
/-- far, of two codes of one length. -/
theorem far_any {n : Nat} (a b : Cd n) (w : World) (hn : n ≤ 128) :
    Calls Tryd.prog 70 #[.string a.1, .string b.1] w fun e w' => e = .returned (.int .i64 (dC a b : Nat)) ∧ w' = w := by
  have hd := rdistance_yes a.1 b.1 w (by rw [a.2]; omega) (by rw [a.2, b.2])
  go_enter Tryd.func70, Tryd.ntmps70
  go_wp2_with (go_at_call 77; refine hd.mono ?_; rintro e w' ⟨rfl, rfl⟩)
  go_ret
  exact ⟨rfl, rfl⟩
end Go.Proofs.YtnnbcdfpbdmgdaaDoor
set_option linter.unusedVariables false
set_option linter.unusedSimpArgs false
namespace Go.Proofs.YtnnbcdfpbdmgdaaDoor
open Go.RowKit Go.Maps Go.Proofs.BitMath Go.Proofs.TreeMath
def ovI (o : Option Nat) : Int := match o with | none => -1 | some i => (i : Int)
/-- A node's cells. -/
def rnV {n : Nat} (x : Nd (Cd n)) : List Value := [.string x.code.1, .bool x.live, .int .i64 (ovI x.over), .int .i64 (x.dist : Nat)]
/-- Elements of m cells each. -/
theorem flat_at {β : Type} (f : β → List Value) (m : Nat) (hf : ∀ x, (f x).length = m) : ∀ (l : List β) (i j : Nat) (hi : i < l.length), j < m → (l.flatMap f)[i * m + j]? = (f l[i])[j]?
  | [], _, _, hi, _ => by simp at hi
  | x :: l, 0, j, _, hj => by rw [List.flatMap_cons, Nat.zero_mul, Nat.zero_add, List.getElem?_append_left (by rw [hf]; exact hj)]; rfl
  | x :: l, i + 1, j, hi, hj => by
    have e : (i + 1) * m + j - (f x).length = i * m + j := by rw [hf, Nat.succ_mul]; omega
    rw [List.flatMap_cons, List.getElem?_append_right (by rw [hf, Nat.succ_mul]; omega), e, flat_at f m hf l i j (by simpa using hi) hj]
    rfl
theorem flat_len {β : Type} (f : β → List Value) (m : Nat) (hf : ∀ x, (f x).length = m) (l : List β) : (l.flatMap f).length = l.length * m := by
  induction l with
  | nil => simp
  | cons x l ih => rw [List.flatMap_cons, List.length_append, ih, hf, List.length_cons, Nat.succ_mul]; omega
/-- The document's tree. -/
structure RT {n : Nat} (B : Nat) (W : World) (t wd : Nat) (T : List (Nd (Cd n))) (v : Value) (sn : Int) : Prop where
  wid : isW wd = true
  eight : wd = 8 * n
  wf : WF dC T
  tree : W.heap[t]? = some (.cells #[.int .i64 wd, v, .int .i64 sn] 83 (0, 0))
  row : W.ownsRow B 104 4 v T.length (T.flatMap rnV)
  small : T.length ≤ 1099511627776
  lk : (Lit.int .i64 sn).wf = true
theorem RT.lt {n B t wd : Nat} {W : World} {T : List (Nd (Cd n))} {v : Value} {sn : Int} (h : RT B W t wd T v sn) : t < W.heap.size := (Array.getElem?_eq_some_iff.1 h.tree).1
theorem RT.cell {n B t wd : Nat} {W : World} {T : List (Nd (Cd n))} {v : Value} {sn : Int} (h : RT B W t wd T v sn) : W.cell? ⟨t, 0, none⟩ = some (.int .i64 wd) ∧ W.cell? ⟨t, 1, none⟩ = some v ∧ W.cell? ⟨t, 2, none⟩ = some (.int .i64 sn) ∧ ∀ k, W.frozen? ⟨t, k, none⟩ = false := by
  have := h.tree
  refine ⟨?_, ?_, ?_, fun k => ?_⟩ <;> simp [World.cell?, World.frozen?, this]
theorem RT.nb {n B t wd : Nat} {W : World} {T : List (Nd (Cd n))} {v : Value} {sn : Int} (h : RT B W t wd T v sn) {k : Nat} (hk : v.ownBlock = some k) : k ≠ t := fun e => by
  obtain ⟨cur, hc⟩ := row_block h.row hk
  rw [e, h.tree] at hc
  simp at hc
theorem RT.form {n B t wd : Nat} {W : World} {T : List (Nd (Cd n))} {v : Value} {sn : Int} (h : RT B W t wd T v sn) : ∃ a c, v = .slice a T.length c ∧ T.length ≤ c := slice_form h.row
/-- A node's four cells. -/
theorem RT.at_ {n B t wd : Nat} {W : World} {T : List (Nd (Cd n))} {v : Value} {sn : Int} (h : RT B W t wd T v sn) (i : Nat) (hi : i < T.length) :
    ∃ g c, v = .slice (some ⟨g, 0, none⟩) T.length c ∧ W.cell? ⟨g, i * 4, none⟩ = some (.string T[i].code.1) ∧ W.cell? ⟨g, i * 4 + 1, none⟩ = some (.bool T[i].live) ∧ W.cell? ⟨g, i * 4 + 2, none⟩ = some (.int .i64 (ovI T[i].over)) ∧ W.cell? ⟨g, i * 4 + 3, none⟩ = some (.int .i64 (T[i].dist : Nat)) ∧ (∀ k, W.frozen? ⟨g, k, none⟩ = false) ∧ B ≤ g ∧ g < W.heap.size := by
  rcases h.row.2 with ⟨h2, h3⟩ | ⟨g, cap, cur, h2, h3, h4, h5, h6, h7, h8⟩
  · omega
  · have hc : ∀ j, j < 4 → W.cell? ⟨g, i * 4 + j, none⟩ = (rnV T[i])[j]? := fun j hj => by
      have e : (cur.toList.take (T.length * 4))[i * 4 + j]? = (rnV T[i])[j]? := by
        rw [h8]
        exact flat_at rnV 4 (fun _ => rfl) T i j hi hj
      rw [List.getElem?_take_of_lt (by omega)] at e
      simp only [World.cell?, h4]
      rw [← e]
      simp
    exact ⟨g, cap, h2, hc 0 (by omega), hc 1 (by omega), hc 2 (by omega), hc 3 (by omega), fun k => by simp [World.frozen?, h4], h3, (Array.getElem?_eq_some_iff.1 h4).1⟩
/-- It is as it was while other blocks are written. -/
theorem RT.kept {n B t wd : Nat} {W W' : World} {T : List (Nd (Cd n))} {v : Value} {sn : Int} {F : Nat → Prop} (h : RT B W t wd T v sn) (s : Stay F W W') (hn : ∀ k, k = t ∨ v.ownBlock = some k → ¬ F k) : RT B W' t wd T v sn :=
  { h with
    tree := (s.block t h.lt (hn t (.inl rfl))).trans h.tree
    row := row_kept h.row s (fun k hk => hn k (.inr hk)) }
theorem RT.below {n B t wd : Nat} {W W' : World} {T : List (Nd (Cd n))} {v : Value} {sn : Int} (h : RT B W t wd T v sn) (b : Below W.heap.size W W') : RT B W' t wd T v sn :=
  h.kept (F := fun _ => False) (.below b) (fun _ _ hf => hf)
theorem ov_eq (o : Option Nat) (i : Nat) : (ovI o == (i : Int)) = (o == some i) := by
  cases o with
  | none => simp [ovI]
  | some j =>
    by_cases h : j = i
    · subst h; simp [ovI]
    · have e1 : ((j : Int) == (i : Int)) = false := by simpa using (by omega : (j : Int) ≠ (i : Int))
      have e2 : (some j == some i) = false := by simpa using h
      simp only [ovI]
      rw [e1, e2]
def chI (o : Option Nat) : Int := match o with | none => -1 | some i => (i : Int)
set_option maxHeartbeats 2000000 in
set_option maxRecDepth 100000 in
theorem child_any {n B t wd : Nat} {T : List (Nd (Cd n))} {v : Value} {sn : Int} (W : World) (h : RT B W t wd T v sn) (o e : Nat) :
    Calls Tryd.prog 71 #[.pointer (some ⟨t, 0, none⟩), .int .i64 o, .int .i64 e] W fun r w' => r = .returned (.int .i64 (chI (child T o e))) ∧ Drew W w' := by
  obtain ⟨t0, t1, t2, tf⟩ := h.cell
  obtain ⟨a, c, rfl, hc⟩ := h.form
  obtain ⟨ln, hln⟩ : ∃ ln, ln = T.length := ⟨_, rfl⟩
  have hsm : ln ≤ 1099511627776 := by have := h.small; omega
  have HT := Hid.mk (And.intro h hln)
  rw [← hln] at t1
  clear h hln hc
  go_enter Tryd.func71, Tryd.ntmps71
  go_wp2
  go_loopw [7] (fun u wr => ∃ i : Nat, u = .int .i64 i ∧ i ≤ ln ∧ Drew W wr ∧ Hid (∀ j (hj : j < T.length), j < i → ¬ (T[j].over = some o ∧ T[j].dist = e))) (fun u _ => ln - (intOf u).toNat)
  case atStart => exact ⟨0, rfl, Nat.zero_le _, Drew.refl _, Hid.mk (fun j _ h => by omega)⟩
  case round =>
    obtain ⟨i, rfl, hi, hd, HJ⟩ := hrel
    obtain ⟨nq, rfl⟩ := hd
    by_cases hlt : i < ln
    · have hiT : i < T.length := by have := HT.out.2; omega
      obtain ⟨g, c', e', -, -, c2, c3, -, -, -⟩ := HT.out.1.at_ i hiT
      cases e'
      have i1 : (i : Int) < (ln : Int) := by omega
      have i2 : 0 ≤ (i : Int) := by omega
      have hwi : IntKind.i64.wrap ((i : Int) + 1) = ((i + 1 : Nat) : Int) := by rw [IntKind.wrap_i64]; omega
      obtain ⟨ov, hov⟩ : ∃ ov, ov = T[i].over := ⟨_, rfl⟩
      obtain ⟨ds, hds⟩ : ∃ ds, ds = T[i].dist := ⟨_, rfl⟩
      rw [← hov] at c2
      rw [← hds] at c3
      have HX := Hid.mk (And.intro hov hds)
      clear hov hds
      have next : ¬ (ov = some o ∧ ds = e) → Hid (∀ j (hj : j < T.length), j < i + 1 → ¬ (T[j].over = some o ∧ T[j].dist = e)) := fun hne => Hid.mk (fun j hj hji => by
        by_cases ej : j = i
        · subst ej; rw [← HX.out.1, ← HX.out.2]; exact hne
        · exact HJ.out j hj (by omega))
      have HN := Hid.mk next
      clear next
      by_cases ho : ov = some o
      · have h1 : (ovI ov == (o : Int)) = true := by rw [ov_eq, ho]; simp
        by_cases he : ds = e
        · have h2 : (((ds : Nat) : Int) == ((e : Nat) : Int)) = true := by rw [he]; simp
          have hch : child T o e = some i := by
            unfold child
            rw [List.findIdx?_eq_some_iff_getElem]
            refine ⟨hiT, by rw [← HX.out.1, ← HX.out.2, ho, he]; simp, fun j hj => ?_⟩
            have := HJ.out j (by omega) hj
            by_cases a1 : T[j].over = some o
            · have a2 : T[j].dist ≠ e := fun e2 => this ⟨a1, e2⟩
              simp [a1, a2]
            · have a2 : (T[j].over == some o) = false := by simpa using a1
              simp [a2]
          have HC := Hid.mk hch
          clear hch ho he
          go_wp2
          go_ret
          exact ⟨by rw [HC.out]; rfl, _, rfl⟩
        · have h2 : (((ds : Nat) : Int) == ((e : Nat) : Int)) = false := by simpa using (by omega : (ds : Int) ≠ (e : Int))
          have hnx := HN.out (fun h => he h.2)
          clear ho he
          go_wp2
          exact ⟨⟨i + 1, by push_cast; rfl, hlt, ⟨_, rfl⟩, hnx⟩, by simp only [intOf]; omega⟩
      · have h1 : (ovI ov == (o : Int)) = false := by rw [ov_eq]; simpa using ho
        have hnx := HN.out (fun h => ho h.1)
        clear ho
        go_wp2
        exact ⟨⟨i + 1, by push_cast; rfl, hlt, ⟨_, rfl⟩, hnx⟩, by simp only [intOf]; omega⟩
    · have i1 : ¬ (i : Int) < (ln : Int) := by omega
      have hch : child T o e = none := by
        unfold child
        rw [List.findIdx?_eq_none_iff]
        intro x hx
        obtain ⟨j, hj, rfl⟩ := List.getElem_of_mem hx
        have := HJ.out j hj (by have := HT.out.2; omega)
        by_cases a1 : T[j].over = some o
        · have a2 : T[j].dist ≠ e := fun e2 => this ⟨a1, e2⟩
          simp [a1, a2]
        · have a2 : (T[j].over == some o) = false := by simpa using a1
          simp [a2]
      have HC := Hid.mk hch
      clear hch
      go_wp2
      go_ret
      exact ⟨by rw [HC.out]; rfl, _, rfl⟩
/-- Where a code's node is. -/
def NodO {n : Nat} (T : List (Nd (Cd n))) (s : ByteArray) (r : Int) : Prop := (r = -1 ∧ ∀ (j : Nat) (nd : Nd (Cd n)), T[j]? = some nd → nd.code.1 ≠ s) ∨ ∃ (j : Nat) (nd : Nd (Cd n)), r = j ∧ T[j]? = some nd ∧ nd.code.1 = s
set_option maxHeartbeats 2000000 in
set_option maxRecDepth 100000 in
theorem node_any {n B t wd : Nat} {T : List (Nd (Cd n))} {v : Value} {sn : Int} (W : World) (h : RT B W t wd T v sn) (s : ByteArray) :
    Calls Tryd.prog 60 #[.pointer (some ⟨t, 0, none⟩), .string s] W fun r w' => ∃ k, r = .returned (.int .i64 k) ∧ NodO T s k ∧ Drew W w' := by
  obtain ⟨t0, t1, t2, tf⟩ := h.cell
  obtain ⟨a, c, rfl, hc⟩ := h.form
  obtain ⟨ln, hln⟩ : ∃ ln, ln = T.length := ⟨_, rfl⟩
  have hsm : ln ≤ 1099511627776 := by have := h.small; omega
  have HT := Hid.mk (And.intro h hln)
  rw [← hln] at t1
  clear h hln hc
  go_enter Tryd.func60, Tryd.ntmps60
  go_wp2
  go_loopw [5] (fun u wr => ∃ i : Nat, u = .int .i64 i ∧ i ≤ ln ∧ Drew W wr ∧ Hid (∀ j (hj : j < T.length), j < i → T[j].code.1 ≠ s)) (fun u _ => ln - (intOf u).toNat)
  case atStart => exact ⟨0, rfl, Nat.zero_le _, Drew.refl _, Hid.mk (fun j _ h => by omega)⟩
  case round =>
    obtain ⟨i, rfl, hi, hd, HJ⟩ := hrel
    obtain ⟨nq, rfl⟩ := hd
    by_cases hlt : i < ln
    · have hiT : i < T.length := by have := HT.out.2; omega
      obtain ⟨g, c', e', c0, -, -, -, -, -, -⟩ := HT.out.1.at_ i hiT
      cases e'
      have i1 : (i : Int) < (ln : Int) := by omega
      have i2 : 0 ≤ (i : Int) := by omega
      have hwi : IntKind.i64.wrap ((i : Int) + 1) = ((i + 1 : Nat) : Int) := by rw [IntKind.wrap_i64]; omega
      obtain ⟨x, hx⟩ : ∃ x, x = T[i].code.1 := ⟨_, rfl⟩
      rw [← hx] at c0
      have HX := Hid.mk hx
      clear hx
      by_cases hxs : x = s
      · subst hxs
        have hfin : NodO T x (i : Int) := .inr ⟨i, T[i], rfl, List.getElem?_eq_getElem hiT, HX.out.symm⟩
        have HF := Hid.mk hfin
        clear hfin
        go_wp2
        all_goals (go_ret; exact ⟨_, rfl, HF.out, _, rfl⟩)
      · have hx1 : (x.toList == s.toList) = false := by
          rw [ByteArray.toList_eq, ByteArray.toList_eq, beq_eq_false_iff_ne]
          intro h
          exact hxs (ByteArray.ext (Array.toList_inj.1 h))
        go_wp2
        exact ⟨⟨i + 1, by push_cast; rfl, hlt, ⟨_, rfl⟩, Hid.mk (fun j hj hji => by
          by_cases e : j = i
          · subst e; rw [← HX.out]; exact hxs
          · exact HJ.out j hj (by omega))⟩, by simp only [intOf]; omega⟩
    · have i1 : ¬ (i : Int) < (ln : Int) := by omega
      have hfin : NodO T s (-1) := .inl ⟨rfl, fun j nd hj => by
        obtain ⟨hjl, e⟩ := List.getElem?_eq_some_iff.1 hj
        have := HJ.out j hjl (by have := HT.out.2; omega)
        rw [e] at this
        exact this⟩
      have HF := Hid.mk hfin
      clear hfin
      go_wp2
      go_ret
      exact ⟨_, rfl, HF.out, _, rfl⟩
end Go.Proofs.YtnnbcdfpbdmgdaaDoor
set_option linter.unusedVariables false
set_option linter.unusedSimpArgs false
namespace Go.Proofs.YtnnbcdfpbdmgdaaDoor
open Go.RowKit Go.Maps Go.Proofs.BitMath Go.Proofs.TreeMath
theorem lives_take {α : Type} {T : List (Nd α)} {i : Nat} (h : i < T.length) : lives (T.take (i + 1)) = lives (T.take i) ++ (if T[i].live = true then [T[i].code] else []) := by
  unfold lives
  rw [List.take_succ_eq_append_getElem h, List.filter_append, List.map_append]
  congr 1
  cases hb : T[i].live <;> simp [hb]
theorem lives_len_le {α : Type} (T : List (Nd α)) : (lives T).length ≤ T.length := by
  unfold lives
  rw [List.length_map]
  exact List.length_filter_le _ _
set_option maxHeartbeats 2000000 in
set_option maxRecDepth 100000 in
theorem rlen_any {n B t wd : Nat} {T : List (Nd (Cd n))} {v : Value} {sn : Int} (W : World) (h : RT B W t wd T v sn) :
    Calls Tryd.prog 49 #[.pointer (some ⟨t, 0, none⟩)] W fun r w' => r = .returned (.int .i64 ((lives T).length : Nat)) ∧ Drew W w' := by
  obtain ⟨t0, t1, t2, tf⟩ := h.cell
  obtain ⟨a, c, rfl, hc⟩ := h.form
  obtain ⟨ln, hln⟩ : ∃ ln, ln = T.length := ⟨_, rfl⟩
  have hsm : ln ≤ 1099511627776 := by have := h.small; omega
  have HT := Hid.mk (And.intro h hln)
  rw [← hln] at t1
  clear h hln hc
  go_enter Tryd.func49, Tryd.ntmps49
  go_wp2
  go_loopw [3, 4] (fun u3 u4 wr => ∃ i m : Nat, u4 = .int .i64 i ∧ u3 = .int .i64 m ∧ i ≤ ln ∧ m ≤ i ∧ Drew W wr ∧ Hid (m = (lives (T.take i)).length)) (fun _ u _ => ln - (intOf u).toNat)
  case atStart => exact ⟨0, 0, rfl, rfl, Nat.zero_le _, Nat.zero_le _, Drew.refl _, Hid.mk (by simp [lives])⟩
  case round =>
    obtain ⟨i, m, rfl, rfl, hi, hm, hd, HJ⟩ := hrel
    obtain ⟨nq, rfl⟩ := hd
    by_cases hlt : i < ln
    · have hiT : i < T.length := by have := HT.out.2; omega
      obtain ⟨g, c', e', -, c1, -, -, -, -, -⟩ := HT.out.1.at_ i hiT
      cases e'
      have i1 : (i : Int) < (ln : Int) := by omega
      have i2 : 0 ≤ (i : Int) := by omega
      have hwi : IntKind.i64.wrap ((i : Int) + 1) = ((i + 1 : Nat) : Int) := by rw [IntKind.wrap_i64]; omega
      have hwm : IntKind.i64.wrap ((m : Int) + 1) = ((m + 1 : Nat) : Int) := by rw [IntKind.wrap_i64]; omega
      obtain ⟨lv, hlv⟩ : ∃ lv, lv = T[i].live := ⟨_, rfl⟩
      rw [← hlv] at c1
      have HX := Hid.mk (And.intro hlv (lives_take hiT))
      clear hlv
      cases lv with
      | true =>
        have hn : m + 1 = (lives (T.take (i + 1))).length := by rw [HX.out.2, ← HX.out.1, if_pos rfl, List.length_append, ← HJ.out]; rfl
        have HN := Hid.mk hn
        clear hn
        go_wp2
        exact ⟨⟨i + 1, m + 1, by push_cast; rfl, by push_cast; rfl, hlt, by omega, ⟨_, rfl⟩, HN⟩, by simp only [intOf]; omega⟩
      | false =>
        have hn : m = (lives (T.take (i + 1))).length := by rw [HX.out.2, ← HX.out.1, if_neg (by decide), List.append_nil, ← HJ.out]
        have HN := Hid.mk hn
        clear hn
        go_wp2
        exact ⟨⟨i + 1, m, by push_cast; rfl, rfl, hlt, by omega, ⟨_, rfl⟩, HN⟩, by simp only [intOf]; omega⟩
    · have i1 : ¬ (i : Int) < (ln : Int) := by omega
      have hf : m = (lives T).length := by
        rw [HJ.out, List.take_of_length_le (by have := HT.out.2; omega)]
      have HF := Hid.mk hf
      clear hf
      go_wp2
      go_ret
      exact ⟨ret_int (by rw [HF.out]), _, rfl⟩
set_option maxHeartbeats 400000 in
theorem rnodes_any {n B t wd : Nat} {T : List (Nd (Cd n))} {v : Value} {sn : Int} (W : World) (h : RT B W t wd T v sn) :
    Calls Tryd.prog 50 #[.pointer (some ⟨t, 0, none⟩)] W fun r w' => r = .returned (.int .i64 (T.length : Nat)) ∧ Drew W w' := by
  obtain ⟨t0, t1, t2, tf⟩ := h.cell
  obtain ⟨a, c, rfl, hc⟩ := h.form
  clear h hc
  go_enter Tryd.func50, Tryd.ntmps50
  go_wp2
  go_ret
  exact ⟨rfl, Drew.refl _⟩
set_option maxHeartbeats 400000 in
theorem rlooked_any {n B t wd : Nat} {T : List (Nd (Cd n))} {v : Value} {sn : Int} (W : World) (h : RT B W t wd T v sn) :
    Calls Tryd.prog 47 #[.pointer (some ⟨t, 0, none⟩)] W fun r w' => r = .returned (.int .i64 sn) ∧ Drew W w' := by
  obtain ⟨t0, t1, t2, tf⟩ := h.cell
  clear h
  go_enter Tryd.func47, Tryd.ntmps47
  go_wp2
  go_ret
  exact ⟨rfl, Drew.refl _⟩
set_option maxHeartbeats 400000 in
theorem rhas_any {n B t wd : Nat} {T : List (Nd (Cd n))} {v : Value} {sn : Int} (W : World) (h : RT B W t wd T v sn) (s : ByteArray) :
    Calls Tryd.prog 45 #[.pointer (some ⟨t, 0, none⟩), .string s] W fun r w' => ∃ b : Bool, r = .returned (.bool b) ∧ (b = true ↔ ∃ c ∈ lives T, c.1 = s) ∧ Drew W w' := by
  obtain ⟨t0, t1, t2, tf⟩ := h.cell
  have hnd := node_any W h s
  have HT := Hid.mk h
  clear h
  go_enter Tryd.func45, Tryd.ntmps45
  go_wp2_with fail
  refine hnd.mono ?_
  rintro e w1 ⟨k, rfl, hk, nq, rfl⟩
  rcases hk with ⟨rfl, hno⟩ | ⟨j, nd, rfl, hj, hs⟩
  · have hf : ¬ ∃ c ∈ lives T, c.1 = s := fun ⟨c, hc, e⟩ => by
      obtain ⟨j, nd, a1, -, a3⟩ := mem_lives.1 hc
      exact hno j nd a1 (by rw [a3]; exact e)
    have HF := Hid.mk hf
    clear hf hno
    go_wp2
    all_goals (go_ret; exact ⟨false, rfl, ⟨fun h => (Bool.noConfusion h), fun h => absurd h HF.out⟩, _, rfl⟩)
  · obtain ⟨hjl, hje⟩ := List.getElem?_eq_some_iff.1 hj
    obtain ⟨g, c', e', -, c1, -, -, -, -, -⟩ := HT.out.at_ j hjl
    subst e'
    rw [hje] at c1
    have j0 : (0 : Int) ≤ (j : Int) := by omega
    have j1 : (j : Int) < (T.length : Int) := by omega
    have hf : nd.live = true ↔ ∃ c ∈ lives T, c.1 = s := ⟨fun h => ⟨nd.code, mem_lives.2 ⟨j, nd, hj, h, rfl⟩, hs⟩, fun ⟨c, hc, e⟩ => by
      obtain ⟨i, m, a1, a2, a3⟩ := mem_lives.1 hc
      have : i = j := HT.out.wf.codes i j m nd a1 hj (Subtype.ext (by rw [a3, hs]; exact e))
      subst this
      rw [a1] at hj
      cases hj
      exact a2⟩
    obtain ⟨lv, hlv⟩ : ∃ lv, lv = nd.live := ⟨_, rfl⟩
    rw [← hlv] at c1 hf
    have HF := Hid.mk hf
    clear hf hlv hj hje hs
    go_wp2
    all_goals (go_ret; exact ⟨lv, rfl, HF.out, _, rfl⟩)
/-- How deep it is. -/
def DepO {α : Type} (T : List (Nd α)) (r : Nat) : Prop := (∀ j, j < T.length → dep T (j + 1) j ≤ r) ∧ (r = 0 ∨ ∃ j, j < T.length ∧ dep T (j + 1) j = r)
theorem DepO.one {α : Type} {T : List (Nd α)} {r s : Nat} (h : DepO T r) (k : DepO T s) : r = s := by
  have h1 : r ≤ s := by
    rcases h.2 with e | ⟨j, hj, e⟩
    · omega
    · rw [← e]; exact k.1 j hj
  have h2 : s ≤ r := by
    rcases k.2 with e | ⟨j, hj, e⟩
    · omega
    · rw [← e]; exact h.1 j hj
  omega
def depO {α : Type} (T : List (Nd α)) (o : Option Nat) : Nat := match o with | none => 0 | some j => dep T (j + 1) j
theorem dep_over {α : Type} {d : α → α → Nat} {T : List (Nd α)} (h : WF d T) {j : Nat} (hj : j < T.length) : dep T (j + 1) j = depO T T[j].over + 1 := by
  have hn : T[j]? = some T[j] := List.getElem?_eq_getElem hj
  cases ho : T[j].over with
  | none => unfold dep; rw [hn]; simp only; rw [ho]; rfl
  | some i => exact dep_child h hn ho
set_option maxHeartbeats 4000000 in
set_option maxRecDepth 100000 in
theorem rdepth_any {n B t wd : Nat} {T : List (Nd (Cd n))} {v : Value} {sn : Int} (W : World) (h : RT B W t wd T v sn) :
    Calls Tryd.prog 51 #[.pointer (some ⟨t, 0, none⟩)] W fun r w' => ∃ k : Nat, r = .returned (.int .i64 k) ∧ DepO T k ∧ Drew W w' := by
  obtain ⟨t0, t1, t2, tf⟩ := h.cell
  obtain ⟨a, c, rfl, hc⟩ := h.form
  obtain ⟨ln, hln⟩ : ∃ ln, ln = T.length := ⟨_, rfl⟩
  have hsm : ln ≤ 1099511627776 := by have := h.small; omega
  have HT := Hid.mk (And.intro h hln)
  rw [← hln] at t1
  clear h hln hc
  go_enter Tryd.func51, Tryd.ntmps51
  go_wp2
  go_loopw [3, 4, 5, 6] (fun u3 u4 u5 u6 wr => ∃ i m : Nat, u4 = .int .i64 i ∧ u3 = .int .i64 m ∧ i ≤ ln ∧ m ≤ ln ∧ Drew W wr ∧ Hid ((∀ j, j < i → dep T (j + 1) j ≤ m) ∧ (m = 0 ∨ ∃ j, j < i ∧ dep T (j + 1) j = m))) (fun _ u _ _ _ => ln - (intOf u).toNat)
  case atStart => exact ⟨0, 0, rfl, rfl, Nat.zero_le _, Nat.zero_le _, Drew.refl _, Hid.mk ⟨fun j h => by omega, .inl rfl⟩⟩
  case round =>
    obtain ⟨i, m, rfl, rfl, hi, hm, hd, HJ⟩ := hrel
    obtain ⟨nq, rfl⟩ := hd
    by_cases hlt : i < ln
    · have hiT : i < T.length := by have := HT.out.2; omega
      obtain ⟨g, c', e', -, -, c2, -, -, -, -⟩ := HT.out.1.at_ i hiT
      cases e'
      have i1 : (i : Int) < (ln : Int) := by omega
      have i2 : 0 ≤ (i : Int) := by omega
      have hwi : IntKind.i64.wrap ((i : Int) + 1) = ((i + 1 : Nat) : Int) := by rw [IntKind.wrap_i64]; omega
      have hdl := dep_le HT.out.1.wf i
      have hdo := dep_over HT.out.1.wf hiT
      have hol : ∀ k, T[i].over = some k → k < i := fun k hk => HT.out.1.wf.lt (List.getElem?_eq_getElem hiT) hk
      obtain ⟨ov, hov⟩ : ∃ ov, ov = T[i].over := ⟨_, rfl⟩
      rw [← hov] at c2 hdo hol
      obtain ⟨D, hD⟩ : ∃ D, D = dep T (i + 1) i := ⟨_, rfl⟩
      rw [← hD] at hdl hdo
      have HX := Hid.mk (And.intro hdo (And.intro hol hD))
      clear hov hdo hol hD
      go_wp2
      go_loopw [5, 6] (fun u5 u6 wr => ∃ (p : Nat) (o : Option Nat), u5 = .int .i64 p ∧ u6 = .int .i64 (ovI o) ∧ p ≤ i + 1 ∧ Drew W wr ∧ Hid (p + depO T o = D ∧ ∀ k, o = some k → k < i)) (fun _ u _ => (intOf u + 1).toNat)
      case atStart => exact ⟨1, ov, rfl, rfl, by omega, ⟨_, rfl⟩, Hid.mk ⟨by have := HX.out.1; omega, HX.out.2.1⟩⟩
      case round =>
        obtain ⟨p, o, rfl, rfl, hp, hd, HK⟩ := hrel
        obtain ⟨nq2, rfl⟩ := hd
        cases o with
        | none =>
          have hpD : p = D := by have := HK.out.1; simpa [depO] using this
          have hD := HX.out.2.2
          have hmx : max (m : Int) (p : Int) = ((max m p : Nat) : Int) := by omega
          have hnx : (∀ j, j < i + 1 → dep T (j + 1) j ≤ max m p) ∧ (max m p = 0 ∨ ∃ j, j < i + 1 ∧ dep T (j + 1) j = max m p) := by
            refine ⟨fun j hj => ?_, ?_⟩
            · by_cases e : j = i
              · subst e; rw [← hD, hpD]; exact Nat.le_max_right _ _
              · exact Nat.le_trans (HJ.out.1 j (by omega)) (Nat.le_max_left _ _)
            · by_cases hle : m ≤ p
              · exact .inr ⟨i, by omega, by rw [← hD, Nat.max_eq_right hle, hpD]⟩
              · rcases HJ.out.2 with e | ⟨j, hj, e⟩
                · omega
                · exact .inr ⟨j, by omega, by rw [Nat.max_eq_left (by omega), e]⟩
          have HN := Hid.mk hnx
          have hml : max m p ≤ ln := by omega
          clear hnx hpD hD
          simp only [ovI]
          go_wp2
          exact ⟨⟨i + 1, max m p, by push_cast; rfl, ival (by first | exact hmx | (split <;> omega) | rfl), hlt, hml, ⟨_, rfl⟩, HN⟩, by simp only [intOf]; omega⟩
        | some k =>
          have hki := HK.out.2 k rfl
          have hkT : k < T.length := by have := HT.out.2; omega
          obtain ⟨g2, c2', e2, -, -, d2, -, -, -, -⟩ := HT.out.1.at_ k hkT
          cases e2
          have hdk := dep_over HT.out.1.wf hkT
          have holk : ∀ x, T[k].over = some x → x < k := fun x hx => HT.out.1.wf.lt (List.getElem?_eq_getElem hkT) hx
          obtain ⟨ok, hok⟩ : ∃ ok, ok = T[k].over := ⟨_, rfl⟩
          rw [← hok] at d2 hdk holk
          have hp2 : p + 1 ≤ i + 1 := by have := HK.out.1; simp only [depO] at this; omega
          have hnx : p + 1 + depO T ok = D ∧ ∀ x, ok = some x → x < i := ⟨by have := HK.out.1; simp only [depO] at this; omega, fun x hx => by have := holk x hx; omega⟩
          have HN := Hid.mk hnx
          have hms : (ovI ok + 1).toNat < k + 1 := by
            cases ok with
            | none => simp [ovI]
            | some x => have := holk x rfl; simp only [ovI]; omega
          have k1 : (k : Int) < (ln : Int) := by omega
          have k2 : 0 ≤ (k : Int) := by omega
          have hwp : IntKind.i64.wrap ((p : Int) + 1) = ((p + 1 : Nat) : Int) := by rw [IntKind.wrap_i64]; omega
          clear hnx hok holk hdk
          simp only [ovI]
          go_wp2
          exact ⟨⟨p + 1, ok, by push_cast; rfl, rfl, hp2, ⟨_, rfl⟩, HN⟩, by simp only [intOf]; omega⟩
    · have i1 : ¬ (i : Int) < (ln : Int) := by omega
      have hf : DepO T m := by
        have hl := HT.out.2
        exact ⟨fun j hj => HJ.out.1 j (by omega), HJ.out.2.elim .inl (fun ⟨j, hj, e⟩ => .inr ⟨j, by omega, e⟩)⟩
      have HF := Hid.mk hf
      clear hf
      go_wp2
      go_ret
      exact ⟨m, rfl, HF.out, _, rfl⟩
theorem new_rt (W : World) (B wd n : Nat) (hw : isW wd = true) (h8 : wd = 8 * n) :
    RT (n := n) B (W.alloc (.cells #[.int .i64 wd, .slice none 0 0, .int .i64 0] 83)) W.heap.size wd [] (.slice none 0 0) 0 :=
  { wid := hw, eight := h8, wf := WF.nil _, tree := heap_alloc_new W _, row := ⟨rfl, .inl ⟨rfl, rfl⟩⟩, small := Nat.zero_le _, lk := by decide }
set_option maxHeartbeats 400000 in
theorem rnew_yes (B wd n : Nat) (W : World) (hw : isW wd = true) (h8 : wd = 8 * n) :
    Calls Tryd.prog 27 #[.int .i64 wd] W (fun r w' => r = .returned (.pointer (some ⟨W.heap.size, 0, none⟩)) ∧ RT (n := n) B w' W.heap.size wd [] (.slice none 0 0) 0 ∧ Below W.heap.size W w') := by
  have hT := new_rt W B wd n hw h8
  have hb : Below W.heap.size W (W.alloc (.cells #[.int .i64 wd, .slice none 0 0, .int .i64 0] 83)) := (Below.refl _ W).alloc (Nat.le_refl _) _
  have hbd := isW_bd hw
  have hmd := isW_mod hw
  have e1 : ¬ (wd : Int) < 64 := by omega
  have e2 : ¬ (1024 : Int) < (wd : Int) := by omega
  have e3 : ((wd : Int) % 64 != 0) = false := by simpa using hmd
  have e4 : (Int.tmod (wd : Int) 64 != 0) = false := by rw [Int.tmod_eq_emod_of_nonneg (by omega)]; exact e3
  have HH := Hid.mk (And.intro hT hb)
  clear hT hb hw h8 hmd
  go_enter Tryd.func27, Tryd.ntmps27
  go_wp2
  go_ret
  exact ⟨rfl, HH.out.1, HH.out.2⟩
end Go.Proofs.YtnnbcdfpbdmgdaaDoor
set_option linter.unusedVariables false
set_option linter.unusedSimpArgs false
namespace Go.Proofs.YtnnbcdfpbdmgdaaDoor
open Go.RowKit Go.Maps Go.Proofs.BitMath Go.Proofs.TreeMath
/-- What a call that changes the document's tree leaves. -/
structure RMoved {n : Nat} (B : Nat) (W w' : World) (t wd : Nat) (T' : List (Nd (Cd n))) (v : Value) (sn : Int) : Prop where
  ex : ∃ v', RT B w' t wd T' v' sn ∧ ∀ k, v'.ownBlock = some k → v.ownBlock = some k ∨ W.heap.size ≤ k
  stay : Stay (fun k => k = t ∨ v.ownBlock = some k) W w'
theorem infRN : (Tryd.prog.info? 104).map (fun i => (i.zero, i.size, i.bytes)) = some (some (.agg #[.string ⟨#[]⟩, .bool false, .int .i64 0, .int .i64 0]), 4, 40) := by kernel_rfl
theorem reach_fuel {α : Type} {d : α → α → Nat} {T : List (Nd α)} (h : WF d T) (c : α) : ∀ (f g i : Nat), i < T.length → T.length - i ≤ f → T.length - i ≤ g → reach d T c f i = reach d T c g i
  | 0, g, i, hi, h1, _ => by omega
  | f + 1, 0, i, hi, _, h2 => by omega
  | f + 1, g + 1, i, hi, h1, h2 => by
    rw [reach, reach]
    rw [List.getElem?_eq_getElem hi]
    simp only
    cases hc : child T i (d T[i].code c) with
    | none => rfl
    | some j =>
      simp only
      obtain ⟨k1, k2⟩ := h.child_lt hc
      exact reach_fuel h c f g j k2 (by omega) (by omega)
theorem cell_four_new (W : World) (x y z u : Value) (t : TypeId) : ∀ j q, ([x, y, z, u] : List Value)[j]? = some q → (W.alloc (.cells #[x, y, z, u] t)).cell? ((⟨W.heap.size, 0, none⟩ : Addr).add j) = some q := fun j q hu => by
  have hj : (⟨W.heap.size, 0, none⟩ : Addr).add j = ⟨W.heap.size, j, none⟩ := by unfold Addr.add; split <;> simp_all
  rw [hj]
  have hb : (W.alloc (.cells #[x, y, z, u] t)).heap[W.heap.size]? = some (.cells #[x, y, z, u] t (0, 0)) := Array.getElem?_push_size
  simp only [World.cell?, hb]
  simpa using hu
theorem wpList_app {P : Program} {w : World} {ops : Array Oper} {rest : List Oper} {o : Oper} {a : Act} {Q : Exit → Act → World → Prop} (hgd : o.guard = none) (s x : Operand) (t u : TypeId)
    (ho : o.op = .call { callee := .builtin .append, args := #[s, x], argTypes := #[t, u] }) (v xv v' : Value) (w' : World) (hs : a.eval s = v) (hx : a.eval x = xv) (hr : (Builtin.append_ #[t, u] o.type #[v, xv]).run P w = .ok v' w')
    (h : wpList P ops Q rest (a.put o.dst v') w') : wpList P ops Q (o :: rest) a w := by
  refine wpList_plain hgd fun K hK => ?_
  unfold Oper.wp execOp
  simp only [ho, resolve, invoke, builtin, Sem.run_bind, Sem.run_pure, Result.andThen_ok, List.map_toArray, List.map_cons, List.map_nil, hs, hx, hr]
  exact hK _ _ h
theorem setC_at {w : World} {b i : Nat} {cs : Array Value} {t : TypeId} {fr : Nat × Nat} (h : w.heap[b]? = some (.cells cs t fr)) (v : Value) : (w.setCell ⟨b, i, none⟩ v).heap[b]? = some (.cells (cs.setIfInBounds i v) t fr) := by
  have hb := (Array.getElem?_eq_some_iff.1 h).1
  show (w.heap.modify b _)[b]? = _
  rw [Array.getElem?_modify, if_pos rfl, h]
  rfl
theorem RMoved.from {n B t wd : Nat} {W W1 w' : World} {T' : List (Nd (Cd n))} {v : Value} {sn : Int} (b : Below W.heap.size W W1) (h : RMoved B W1 w' t wd T' v sn) : RMoved B W w' t wd T' v sn := by
  obtain ⟨⟨v', h1, h2⟩, h3⟩ := h
  exact ⟨⟨v', h1, fun k hk => (h2 k hk).imp id (fun e => Nat.le_trans b.size e)⟩, (Stay.below b).trans h3⟩
/-- A node more. -/
theorem napp {n : Nat} {B : Nat} {w : World} {v : Value} {T : List (Nd (Cd n))} (h : w.ownsRow B 104 4 v T.length (T.flatMap rnV)) (x : Nd (Cd n)) (hB : B ≤ w.heap.size) (hl : T.length ≤ 1099511627776) :
    ∃ v3 w3, (Builtin.append_ #[81, 81] 81 #[v, .slice (some ⟨w.heap.size, 0, none⟩) 1 1]).run Tryd.prog (w.alloc (.cells #[.string x.code.1, .bool x.live, .int .i64 (ovI x.over), .int .i64 (x.dist : Nat)] 104)) = .ok v3 w3 ∧ w3.ownsRow B 104 4 v3 (T ++ [x]).length ((T ++ [x]).flatMap rnV) ∧ Stay (fun k => v.ownBlock = some k) w w3 ∧ (∀ b, v3.ownBlock = some b → v.ownBlock = some b ∨ w.heap.size ≤ b) := by
  obtain ⟨i0, hi, hz0, hz1, hz2⟩ := info_parts infRN
  obtain ⟨wA, hwA⟩ : ∃ wA, wA = w.alloc (.cells #[.string x.code.1, .bool x.live, .int .i64 (ovI x.over), .int .i64 (x.dist : Nat)] 104) := ⟨_, rfl⟩
  have bA : Below w.heap.size w wA := by rw [hwA]; exact (Below.refl _ w).alloc (Nat.le_refl _) _
  have hA := row_kept (F := fun _ => False) h (.below bA) (fun _ _ hh => hh)
  rw [← hwA]
  obtain ⟨v3, w3, hap, ho, hg, -, hloc⟩ := run_append_own_at (P := Tryd.prog) wA B 81 81 104 i0 _ 4 40 Tryd.underlying81 hi hz0 hz1 hz2 rfl (by decide) v T.length _ hA ⟨w.heap.size, 0, none⟩ 1 1 [.string x.code.1, .bool x.live, .int .i64 (ovI x.over), .int .i64 (x.dist : Nat)] rfl (by rw [hwA]; exact cell_four_new _ _ _ _ _ _) (by simp [Value.oneCell']) (by unfold maxLen; omega) (by omega) (Nat.le_trans hB bA.size)
  have st : Stay (fun k => v.ownBlock = some k) w w3 := (Stay.below bA).trans (.grown hg (fun k hk => hk))
  refine ⟨v3, w3, hap, by simpa [rnV] using ho, st, fun b hb => ?_⟩
  rcases hloc with e | e
  · exact .inl (e ▸ hb)
  · rw [e] at hb; cases hb; exact .inr bA.size
/-- The tree with a node more: the list is stored. -/
theorem RT.grow {n B t wd : Nat} {W w3 : World} {T : List (Nd (Cd n))} {v v3 : Value} {sn : Int} (h : RT B W t wd T v sn) {x : Nd (Cd n)} (hwf : WF dC (T ++ [x])) (hr : w3.ownsRow B 104 4 v3 (T ++ [x]).length ((T ++ [x]).flatMap rnV)) (st : Stay (fun k => v.ownBlock = some k) W w3) (hloc : ∀ b, v3.ownBlock = some b → v.ownBlock = some b ∨ W.heap.size ≤ b) (hsm : T.length < 1099511627776) :
    RMoved B W (w3.setCell ⟨t, 1, none⟩ v3) t wd (T ++ [x]) v sn := by
  have htl := h.lt
  have htree : w3.heap[t]? = some (.cells #[.int .i64 wd, v, .int .i64 sn] 83 (0, 0)) := (st.block t htl (fun e => h.nb e rfl)).trans h.tree
  have s2 : Stay (fun k => k = t) w3 (w3.setCell ⟨t, 1, none⟩ v3) := Stay.setCell (F := fun k => k = t) (Stay.refl _ w3) (fun _ => rfl) _
  have hnt : ∀ k, v3.ownBlock = some k → k ≠ t := fun k hk e => by
    rcases hloc k hk with e2 | e2
    · exact h.nb e2 e
    · omega
  refine ⟨⟨v3, { wid := h.wid, eight := h.eight, wf := hwf, tree := ?_, row := row_kept hr s2 (fun k hk => hnt k hk), small := by rw [List.length_append, List.length_singleton]; omega, lk := h.lk }, hloc⟩, (st.mono (fun k _ e => .inr e)).andThen s2 (fun k _ e => .inl e)⟩
  exact setC_at htree v3
set_option maxHeartbeats 4000000 in
set_option maxRecDepth 100000 in
theorem rhang_any {n B t wd : Nat} {T : List (Nd (Cd n))} {v : Value} {sn : Int} (W : World) (h : RT B W t wd T v sn) (c : Cd n) (hc : ∀ x ∈ T, x.code ≠ c) (hsm : T.length < 1099511627776) (hB : B ≤ W.heap.size) :
    Calls Tryd.prog 61 #[.pointer (some ⟨t, 0, none⟩), .string c.1] W fun r w' => r = .returned (.tuple #[]) ∧ RMoved B W w' t wd (TreeMath.hang dC T c) v sn := by
  obtain ⟨t0, t1, t2, tf⟩ := h.cell
  have tf1 := tf 1
  obtain ⟨a, cp, hv, hcp⟩ := h.form
  have n8 : n ≤ 128 := by have := isW_bd h.wid; have := h.eight; omega
  have hwf := hang_wf dC_zero h.wf hc
  obtain ⟨ln, hln⟩ : ∃ ln, ln = T.length := ⟨_, rfl⟩
  rcases Nat.eq_zero_or_pos T.length with hT | hT
  · have hT0 : T = [] := List.eq_nil_of_length_eq_zero hT
    obtain ⟨v3, w3, hap, hr3, st3, hl3⟩ := napp h.row (⟨c, true, none, 0⟩ : Nd (Cd n)) hB (by omega)
    have hgw := h.grow (x := ⟨c, true, none, 0⟩) (by subst hT0; rw [hang_nil] at hwf; exact hwf) hr3 st3 hl3 hsm
    have hgt : TreeMath.hang dC T c = T ++ [⟨c, true, none, 0⟩] := by subst hT0; rw [hang_nil]; rfl
    obtain ⟨k1, -, -, kf⟩ := (h.cell)
    have u1 : w3.frozen? ⟨t, 1, none⟩ = false := by
      have e := st3.block t h.lt (fun e => h.nb e rfl)
      unfold World.frozen? at tf1 ⊢
      rw [e]; exact tf1
    have u2 : w3.cell? ⟨t, 1, none⟩ = some v := by
      have e := st3.block t h.lt (fun e => h.nb e rfl)
      unfold World.cell? at t1 ⊢
      rw [e]; exact t1
    have HG := Hid.mk (And.intro hgw hgt)
    have HA := Hid.mk hap
    obtain ⟨va, vl, vc, rfl⟩ : ∃ va vl vc, v3 = .slice va vl vc := by
      obtain ⟨a', c', e', -⟩ := slice_form hr3
      exact ⟨_, _, _, e'⟩
    subst hv
    rw [hT] at t1 u2 HA
    clear hap hgw hgt hwf h hc hcp hl3 st3 hr3 hT0
    go_enter Tryd.func61, Tryd.ntmps61
    go_wp2_with (first
      | (at_builtin; refine wpList_app rfl _ _ _ _ rfl _ _ _ _ rfl rfl HA.out ?_)
      | go_in)
    refine bodyPost_ret (results_none rfl _ _ _) rfl ?_
    rw [HG.out.2]
    exact ⟨rfl, by have := HG.out.1; rw [hT] at this; exact this⟩
  · have hgc := hang_cons h.wf hT c
    have HT := Hid.mk (And.intro h (And.intro hln (And.intro hwf hgc)))
    have hl0 : 0 < ln := by omega
    have hlz : ((ln : Int) == 0) = false := by simp; omega
    subst hv
    rw [← hln] at t1
    have hll : ln < 1099511627776 := by omega
    clear h hc hcp hwf hgc hsm tf hT hln
    go_enter Tryd.func61, Tryd.ntmps61
    go_wp2
    go_loopw [4, 5, 6] (fun u4 u5 u6 wr => ∃ i : Nat, u4 = .int .i64 i ∧ i < ln ∧ Drew W wr ∧ Hid (reach dC T c ln i = reach dC T c ln 0)) (fun u _ _ _ => ln - (intOf u).toNat)
    case atStart => exact ⟨0, rfl, hl0, Drew.refl _, Hid.mk rfl⟩
    case round =>
      obtain ⟨i, rfl, hi, hd, HJ⟩ := hrel
      have hiT : i < T.length := by have := HT.out.2.1; omega
      have hwr := HT.out.1.below (hd.below _)
      obtain ⟨g, c', e', c0, -, -, -, -, -, -⟩ := hwr.at_ i hiT
      cases e'
      obtain ⟨s0, s1, s2, sf⟩ := hwr.cell
      rw [← HT.out.2.1] at s1
      obtain ⟨x, hx⟩ : ∃ x, x = T[i].code := ⟨_, rfl⟩
      rw [← hx] at c0
      have i1 : (i : Int) < (ln : Int) := by omega
      have i2 : 0 ≤ (i : Int) := by omega
      have hfar := far_any x c wr n8
      obtain ⟨E, hE⟩ : ∃ E, E = dC x c := ⟨_, rfl⟩
      rw [← hE] at hfar
      have hch := child_any wr hwr i E
      have hre : reach dC T c ln i = match child T i E with | none => i | some j => reach dC T c (ln - 1) j := by
        obtain ⟨m, hm⟩ : ∃ m, ln = m + 1 := ⟨ln - 1, by omega⟩
        rw [hm, reach, List.getElem?_eq_getElem hiT]
        simp only
        rw [hE, hx]
        rfl
      obtain ⟨o, ho⟩ : ∃ o, o = child T i E := ⟨_, rfl⟩
      rw [← ho] at hch hre
      have HE := Hid.mk (And.intro hx (And.intro hE (And.intro ho hre)))
      have HD := Hid.mk (And.intro hd hwr)
      clear hx hE ho hre hd hwr
      go_wp2_with (first
        | (go_at_call 70; refine hfar.mono ?_; rintro e w1 ⟨rfl, rfl⟩)
        | fail)
      refine hch.mono ?_
      rintro e w1 ⟨rfl, hd1⟩
      cases o with
      | some j =>
        have hjt := HT.out.1.wf.child_lt HE.out.2.2.1.symm
        have hjl : j < ln := by have := HT.out.2.1; omega
        have hre2 : reach dC T c ln j = reach dC T c ln 0 := by
          rw [← HJ.out, HE.out.2.2.2]
          simp only
          exact reach_fuel HT.out.1.wf c ln (ln - 1) j hjt.2 (by have := HT.out.2.1; omega) (by have := HT.out.2.1; omega)
        have hdd := HD.out.1.trans hd1
        have HR := Hid.mk hre2
        have j0 : ¬ (j : Int) < 0 := by omega
        have jm : ln - j < ln - i := by omega
        clear hre2 hjt hd1
        simp only [chI]
        go_wp2
        exact ⟨⟨j, rfl, hjl, hdd, HR⟩, by simp only [intOf]; omega⟩
      | none =>
        have hri : reach dC T c ln 0 = i := by rw [← HJ.out, HE.out.2.2.2]
        have hw1 := HD.out.2.below (hd1.below _)
        have hb1 : Below W.heap.size W w1 := (HD.out.1.trans hd1).below _
        obtain ⟨v3, w3, hap, hr3, st3, hl3⟩ := napp hw1.row (⟨c, true, some i, E⟩ : Nd (Cd n)) (Nat.le_trans hB hb1.size) (by have := HT.out.2.1; omega)
        obtain ⟨nd, hn1, hn2, hn3⟩ := HT.out.2.2.2
        have hgt : TreeMath.hang dC T c = T ++ [⟨c, true, some i, E⟩] := by
          rw [← HT.out.2.1, hri] at hn1 hn3
          rw [hn3]
          rw [List.getElem?_eq_getElem hiT] at hn1
          cases hn1
          rw [← HE.out.1, ← HE.out.2.1]
        have hgw := (hw1.grow (x := ⟨c, true, some i, E⟩) (by rw [← hgt]; exact HT.out.2.2.1) hr3 st3 hl3 (by have := HT.out.2.1; omega)).from hb1
        have e := st3.block t hw1.lt (fun e => hw1.nb e rfl)
        obtain ⟨x0, x1, x2, xf⟩ := hw1.cell
        have xf1 := xf 1
        rw [← HT.out.2.1] at x1
        have u1 : w3.frozen? ⟨t, 1, none⟩ = false := by
          unfold World.frozen? at xf1 ⊢
          rw [e]; exact xf1
        have u2 : w3.cell? ⟨t, 1, none⟩ = some (.slice (some ⟨g, 0, none⟩) ln cp) := by
          unfold World.cell? at x1 ⊢
          rw [e]; exact x1
        have HG := Hid.mk (And.intro hgw hgt)
        have HA := Hid.mk hap
        rw [← HT.out.2.1] at HA
        obtain ⟨va, vl, vc, rfl⟩ : ∃ va vl vc, v3 = .slice va vl vc := by
          obtain ⟨a', c', e', -⟩ := slice_form hr3
          exact ⟨_, _, _, e'⟩
        clear hap hgw hgt hl3 st3 hr3 e xf hri hn1 hn2 hn3 hb1 hd1 hw1
        simp only [chI]
        go_wp2_with (first
          | (at_builtin; refine wpList_app rfl _ _ _ _ rfl _ _ _ _ rfl rfl HA.out ?_)
          | go_in)
        refine bodyPost_ret (results_none rfl _ _ _) rfl ?_
        rw [HG.out.2]
        exact ⟨rfl, HG.out.1⟩
end Go.Proofs.YtnnbcdfpbdmgdaaDoor
set_option linter.unusedVariables false
set_option linter.unusedSimpArgs false
namespace Go.Proofs.YtnnbcdfpbdmgdaaDoor
open Go.RowKit Go.Maps Go.Proofs.BitMath Go.Proofs.TreeMath
theorem live_flat {n : Nat} (b : Bool) : ∀ (T : List (Nd (Cd n))) (j : Nat), j < T.length → (T.flatMap rnV).set (j * 4 + 1) (.bool b) = (setLive T j b).flatMap rnV
  | [], j, h => by simp at h
  | x :: T, 0, _ => by
    unfold setLive
    rw [List.flatMap_cons]
    simp [rnV]
  | x :: T, j + 1, h => by
    have ih := live_flat b T j (by simpa using h)
    have e : setLive (x :: T) (j + 1) b = x :: setLive T j b := by unfold setLive; simp
    rw [e, List.flatMap_cons, List.flatMap_cons, ← ih]
    have hl : (rnV x).length = 4 := rfl
    rw [List.set_append_right _ _ (by omega), hl]
    congr 2
    omega
theorem RT.relive {n B t wd g cp : Nat} {W : World} {T : List (Nd (Cd n))} {sn : Int} (h : RT B W t wd T (.slice (some ⟨g, 0, none⟩) T.length cp) sn) {j : Nat} (hj : j < T.length) (b : Bool) : RMoved B W (W.setCell ⟨g, j * 4 + 1, none⟩ (.bool b)) t wd (setLive T j b) (.slice (some ⟨g, 0, none⟩) T.length cp) sn := by
  have hst : Stay (fun k => k = g) W (W.setCell ⟨g, j * 4 + 1, none⟩ (.bool b)) := Stay.setCell (F := fun k => k = g) (Stay.refl _ W) (fun _ => rfl) _
  have hgt : g ≠ t := h.nb rfl
  refine ⟨⟨_, { wid := h.wid, eight := h.eight, wf := h.wf.setLive j b, tree := (hst.block t h.lt (fun e => hgt e.symm)).trans h.tree, row := ?_, small := by rw [setLive_len]; exact h.small, lk := h.lk }, fun k hk => .inl hk⟩, hst.mono (fun k _ e => .inr (by rw [e]; rfl))⟩
  rw [setLive_len, ← live_flat b T j hj]
  exact (World.ownsRow.stored h.row _ _).1
/-- What Add of the document's tree does. -/
def RAddO {n : Nat} (B : Nat) (W : World) (t wd : Nat) (T : List (Nd (Cd n))) (v : Value) (sn : Int) (s : ByteArray) (r : Ending) (w' : World) : Prop :=
  (s.size ≠ n ∧ r = .returned (.tuple #[.bool false, .int .i64 11]) ∧ Drew W w') ∨
  (∃ hs : s.size = n, (∀ (j : Nat) (nd : Nd (Cd n)), T[j]? = some nd → nd.code.1 ≠ s) ∧ r = .returned (.tuple #[.bool true, .int .i64 0]) ∧ RMoved B W w' t wd (TreeMath.hang dC T ⟨s, hs⟩) v sn) ∨
  (s.size = n ∧ ∃ (j : Nat) (nd : Nd (Cd n)), T[j]? = some nd ∧ nd.code.1 = s ∧ r = .returned (.tuple #[.bool (!nd.live), .int .i64 0]) ∧ RMoved B W w' t wd (setLive T j true) v sn)
set_option maxHeartbeats 2000000 in
set_option maxRecDepth 100000 in
theorem radd_any {n B t wd : Nat} {T : List (Nd (Cd n))} {v : Value} {sn : Int} (W : World) (h : RT B W t wd T v sn) (s : ByteArray) (hsm : T.length < 1099511627776) (hB : B ≤ W.heap.size) :
    Calls Tryd.prog 43 #[.pointer (some ⟨t, 0, none⟩), .string s] W (RAddO B W t wd T v sn s) := by
  obtain ⟨t0, t1, t2, tf⟩ := h.cell
  have h8 : ((wd : Nat) : Int) / 8 = (n : Int) := by have := h.eight; omega
  have n8 : n ≤ 128 := by have := isW_bd h.wid; have := h.eight; omega
  have hwn : wrap64 (n : Int) = (n : Int) := by unfold wrap64; omega
  have h8t : Int.tdiv ((wd : Nat) : Int) 8 = (n : Int) := by rw [Int.tdiv_eq_ediv_of_nonneg (by omega)]; exact h8
  by_cases hs : s.size = n
  · have e1 : (((s.size : Nat) : Int) != (n : Int)) = false := by rw [bne_eq_false_iff_eq]; omega
    have hnd := node_any W h s
    have HT := Hid.mk h
    clear h
    go_enter Tryd.func43, Tryd.ntmps43
    go_wp2_with fail
    refine hnd.mono ?_
    rintro e w1 ⟨k, rfl, hk, hd⟩
    have hw1 := HT.out.below (hd.below _)
    have hb1 : Below W.heap.size W w1 := hd.below _
    rcases hk with ⟨rfl, hno⟩ | ⟨j, nd, rfl, hj, hjs⟩
    · have hh := rhang_any w1 hw1 ⟨s, hs⟩ (fun x hx e => by
        obtain ⟨j, hj, rfl⟩ := List.getElem_of_mem hx
        exact hno j _ (List.getElem?_eq_getElem hj) (by rw [e])) hsm (Nat.le_trans hB hb1.size)
      have HF := Hid.mk (fun w' (m : RMoved B w1 w' t wd (TreeMath.hang dC T ⟨s, hs⟩) v sn) => show RAddO B W t wd T v sn s (.returned (.tuple #[.bool true, .int .i64 0])) w' from .inr (.inl ⟨hs, hno, rfl, m.from hb1⟩))
      clear hno hd hw1 hb1
      go_wp2_with (go_at_call 61; refine hh.mono ?_; rintro e w2 ⟨rfl, m2⟩)
      go_ret2
      exact HF.out _ m2
    · obtain ⟨hjl, hje⟩ := List.getElem?_eq_some_iff.1 hj
      obtain ⟨g, cp, rfl, -, c1, -, -, cf, -, -⟩ := hw1.at_ j hjl
      have cf1 := cf (j * 4 + 1)
      rw [hje] at c1
      have hrl := (hw1.relive hjl true).from hb1
      obtain ⟨s0, s1, s2, sf⟩ := hw1.cell
      have j0 : ¬ (j : Int) < 0 := by omega
      have j1 : (j : Int) < (T.length : Int) := by omega
      have j2 : 0 ≤ (j : Int) := by omega
      have HF := Hid.mk (show RAddO B W t wd T (.slice (some ⟨g, 0, none⟩) T.length cp) sn s (.returned (.tuple #[.bool (!nd.live), .int .i64 0])) (w1.setCell ⟨g, j * 4 + 1, none⟩ (.bool true)) from .inr (.inr ⟨hs, j, nd, hj, hjs, rfl, hrl⟩))
      obtain ⟨lv, hlv⟩ : ∃ lv, lv = nd.live := ⟨_, rfl⟩
      rw [← hlv] at c1 HF
      clear hlv hrl hje hj hjs hd hw1 hb1 cf hnd HT
      go_wp2
      go_ret2
      exact HF.out
  · have e1 : (((s.size : Nat) : Int) != (n : Int)) = true := by rw [bne_iff_ne]; omega
    clear h
    go_enter Tryd.func43, Tryd.ntmps43
    go_wp2
    go_ret2
    exact .inl ⟨hs, rfl, Drew.refl _⟩
end Go.Proofs.YtnnbcdfpbdmgdaaDoor
set_option linter.unusedVariables false
set_option linter.unusedSimpArgs false
namespace Go.Proofs.YtnnbcdfpbdmgdaaDoor
open Go.RowKit Go.Maps Go.Sort Go.Proofs.BitMath Go.Proofs.TreeMath
/-- Codes that rise. -/
structure RsL {n : Nat} (A L : List (Cd n)) : Prop where
  srt : L.Pairwise (fun a b => byC a < byC b)
  mem : ∀ c, c ∈ L ↔ c ∈ A
theorem RsL.put {n : Nat} {A L : List (Cd n)} (h : RsL A L) {c : Cd n} {k : Nat} (h1 : ∀ j (hj : j < L.length), j < k → byC L[j] < byC c) (h2 : ∀ j (hj : j < L.length), k ≤ j → byC c < byC L[j]) : RsL (A ++ [c]) (L.take k ++ c :: L.drop k) := by
  have t1 : ∀ y ∈ L.take k, byC y < byC c := fun y hy => by
    obtain ⟨j, hj, rfl⟩ := List.getElem_of_mem hy
    rw [List.length_take] at hj
    rw [List.getElem_take]
    exact h1 j (by omega) (by omega)
  have t2 : ∀ y ∈ L.drop k, byC c < byC y := fun y hy => by
    obtain ⟨j, hj, rfl⟩ := List.getElem_of_mem hy
    rw [List.length_drop] at hj
    rw [List.getElem_drop]
    exact h2 (k + j) (by omega) (by omega)
  have hs : (L.take k ++ L.drop k).Pairwise (fun a b => byC a < byC b) := by rw [List.take_append_drop]; exact h.srt
  obtain ⟨s1, s2, s3⟩ := List.pairwise_append.1 hs
  refine ⟨?_, fun x => ?_⟩
  · rw [List.pairwise_append]
    refine ⟨s1, List.pairwise_cons.2 ⟨t2, s2⟩, fun a ha b hb => ?_⟩
    rcases List.mem_cons.1 hb with rfl | hb
    · exact t1 a ha
    · exact s3 a ha b hb
  · have hm : x ∈ L.take k ++ c :: L.drop k ↔ x ∈ L ∨ x = c := by
      rw [List.mem_append, List.mem_cons]
      have : x ∈ L ↔ x ∈ L.take k ∨ x ∈ L.drop k := by rw [← List.mem_append, List.take_append_drop]
      rw [this]
      constructor
      · rintro (h | h | h)
        · exact .inl (.inl h)
        · exact .inr h
        · exact .inl (.inr h)
      · rintro ((h | h) | h)
        · exact .inl h
        · exact .inr (.inr h)
        · exact .inr (.inl h)
    rw [hm, h.mem, List.mem_append, List.mem_singleton]
theorem RsL.nodup {n : Nat} {A L : List (Cd n)} (h : RsL A L) : L.Nodup := h.srt.imp (fun {a b} hl e => by rw [e] at hl; exact List.lt_irrefl _ hl)
theorem RsL.perm {n : Nat} {A L : List (Cd n)} (h : RsL A L) (hA : A.Nodup) : L.Perm A := (List.perm_ext_iff_of_nodup h.nodup hA).2 h.mem
/-- A row of texts with a hole. -/
def hol1 {n : Nat} (L : List (Cd n)) (k : Nat) (u : Value) : List Value := (L.take k).map sV ++ u :: (L.drop k).map sV
theorem hol1_at {n : Nat} {L : List (Cd n)} {k : Nat} (hk : k ≤ L.length) (u : Value) : (hol1 L k u)[k]? = some u := by
  unfold hol1
  rw [List.getElem?_append_right (by simp; omega)]
  simp [Nat.min_eq_left hk]
theorem hol1_prev {n : Nat} {L : List (Cd n)} {k : Nat} (hk : k + 1 ≤ L.length) (u : Value) : (hol1 L (k + 1) u)[k]? = some (sV L[k]) := by
  unfold hol1
  rw [List.getElem?_append_left (by simp; omega), List.getElem?_map, List.getElem?_take_of_lt (by omega), List.getElem?_eq_getElem (by omega)]
  rfl
theorem hol1_set {n : Nat} {L : List (Cd n)} {k : Nat} (hk : k ≤ L.length) (u x : Value) : (hol1 L k u).set k x = hol1 L k x := by
  unfold hol1
  rw [List.set_append_right _ _ (by simp; omega)]
  simp [Nat.min_eq_left hk]
theorem hol1_step {n : Nat} {L : List (Cd n)} {k : Nat} (hk : k < L.length) : hol1 L (k + 1) (sV L[k]) = hol1 L k (sV L[k]) := by
  unfold hol1
  have e : (L.drop k).map sV = sV L[k] :: (L.drop (k + 1)).map sV := by rw [List.drop_eq_getElem_cons hk, List.map_cons]
  rw [e, List.take_succ_eq_append_getElem hk, List.map_append, List.append_assoc]
  rfl
structure RCI {n : Nat} (W wr : World) (A : List (Cd n)) (u : Value) (L : List (Cd n)) : Prop where
  be : Below W.heap.size W wr
  row : wr.ownsRow W.heap.size 9 1 u L.length (L.map sV)
  rs : RsL A L
structure RCH {n : Nat} (W wr : World) (g c : Nat) (x : Cd n) (L : List (Cd n)) (k : Nat) : Prop where
  be : Below W.heap.size W wr
  row : ∃ u, wr.ownsRow W.heap.size 9 1 (.slice (some ⟨g, 0, none⟩) (L.length + 1) c) (L.length + 1) (hol1 L k u)
  up : ∀ j (hj : j < L.length), k ≤ j → byC x < byC L[j]
theorem RCH.hole {n : Nat} {W wr : World} {g c : Nat} {x : Cd n} {L : List (Cd n)} {k : Nat} (h : RCH W wr g c x L k) (hk : k ≤ L.length) :
    ∃ u, wr.cell? ⟨g, k, none⟩ = some u ∧ (∀ j, wr.frozen? ⟨g, j, none⟩ = false) ∧ ∀ y, (wr.setCell ⟨g, k, none⟩ y).ownsRow W.heap.size 9 1 (.slice (some ⟨g, 0, none⟩) (L.length + 1) c) (L.length + 1) (hol1 L k y) := by
  obtain ⟨u, hr⟩ := h.row
  refine ⟨u, ?_, (row_at hr 0 (by omega)).2, fun y => ?_⟩
  · rw [(row_at hr k (by omega)).1]; exact hol1_at hk u
  · rw [← hol1_set hk u y]
    exact (World.ownsRow.stored hr _ _).1
theorem RCH.prev {n : Nat} {W wr : World} {g c : Nat} {x : Cd n} {L : List (Cd n)} {k : Nat} (h : RCH W wr g c x L (k + 1)) (hk : k + 1 ≤ L.length) : wr.cell? ⟨g, k, none⟩ = some (.string L[k].1) := by
  obtain ⟨u, hr⟩ := h.row
  rw [(row_at hr k (by omega)).1]; exact hol1_prev hk u
theorem RCH.down {n : Nat} {W wr : World} {g c : Nat} {x y : Cd n} {L : List (Cd n)} {k m : Nat} {ys : ByteArray} (hkm : k = m + 1) (hm : m < L.length) (hy : y = L[m]) (hys : ys = y.1) (h : RCH W wr g c x L k) (hg : W.heap.size ≤ g) (hx : byC x < byC y) :
    RCH W (wr.setCell ⟨g, k, none⟩ (.string ys)) g c x L m := by
  subst hkm hys hy
  obtain ⟨u, -, -, hs⟩ := h.hole hm
  have h1 := hs (.string L[m].1)
  have e : hol1 L (m + 1) (.string L[m].1) = hol1 L m (.string L[m].1) := hol1_step hm
  rw [e] at h1
  refine ⟨h.be.setCell hg _, ⟨_, h1⟩, fun j hj hkj => ?_⟩
  by_cases ej : j = m
  · subst ej; exact hx
  · exact h.up j hj (by omega)
theorem RCH.fill {n : Nat} {W wr : World} {g c : Nat} {A : List (Cd n)} {x : Cd n} {L : List (Cd n)} {k : Nat} (h : RCH W wr g c x L k) (hs : RsL A L) (hg : W.heap.size ≤ g) (hk : k ≤ L.length) (hlo : ∀ j (hj : j < L.length), j < k → byC L[j] < byC x) :
    RCI W (wr.setCell ⟨g, k, none⟩ (.string x.1)) (A ++ [x]) (.slice (some ⟨g, 0, none⟩) (L.length + 1) c) (L.take k ++ x :: L.drop k) := by
  obtain ⟨u, -, -, hs1⟩ := h.hole hk
  have h1 := hs1 (.string x.1)
  have e : hol1 L k (.string x.1) = (L.take k ++ x :: L.drop k).map sV := by unfold hol1; rw [List.map_append, List.map_cons]; rfl
  have el : (L.take k ++ x :: L.drop k).length = L.length + 1 := by simp; omega
  rw [e] at h1
  exact ⟨h.be.setCell hg _, by rw [el]; exact h1, hs.put hlo h.up⟩
def RisO {n : Nat} (W : World) (A : List (Cd n)) (e : Ending) (w' : World) : Prop := ∃ v L, e = .returned v ∧ RCI W w' A v L
set_option maxHeartbeats 4000000 in
set_option maxRecDepth 100000 in
theorem rising_any {n B t wd : Nat} {T : List (Nd (Cd n))} {v : Value} {sn : Int} (W : World) (h : RT B W t wd T v sn) :
    Calls Tryd.prog 62 #[.pointer (some ⟨t, 0, none⟩)] W (RisO W (lives T)) := by
  obtain ⟨i0, hi0, hz0, hz1, hz2⟩ := info_parts inf9
  obtain ⟨a, cp, rfl, hcp⟩ := h.form
  obtain ⟨ln, hln⟩ : ∃ ln, ln = T.length := ⟨_, rfl⟩
  have hll : ln ≤ 1099511627776 := by have := h.small; omega
  have HT := Hid.mk (And.intro h hln)
  clear h hln hcp
  go_enter Tryd.func62, Tryd.ntmps62
  go_wp2_with fail
  go_loopw [3, 4, 5] (fun u3 u4 u5 wr => ∃ (i : Nat) (L : List (Cd n)), u4 = .int .i64 i ∧ i ≤ ln ∧ Hid (RCI W wr (lives (T.take i)) u3 L)) (fun _ u4 _ _ => ln - (intOf u4).toNat)
  case atStart => exact ⟨0, [], rfl, Nat.zero_le _, Hid.mk ⟨Below.refl _ _, ⟨rfl, .inl ⟨rfl, rfl⟩⟩, ⟨List.Pairwise.nil, fun c => by simp [lives]⟩⟩⟩
  case round =>
    obtain ⟨i, L, rfl, hi, HJ⟩ := hrel
    have hwr := HT.out.1.below HJ.out.be
    obtain ⟨t0, t1, t2, tf⟩ := hwr.cell
    rw [← HT.out.2] at t1
    by_cases hil : i < ln
    · have hiT : i < T.length := by have := HT.out.2; omega
      have hLl : L.length ≤ i := by
        have h1 := (HJ.out.rs.perm ((HT.out.1.wf.nodup.sublist ((List.take_sublist i T).map Nd.code)).sublist ((List.filter_sublist).map Nd.code))).length_eq
        have h2 := lives_len_le (T.take i)
        rw [List.length_take] at h2
        omega
      obtain ⟨g, c', e', c0, c1, -, -, -, -, -⟩ := hwr.at_ i hiT
      cases e'
      have HC := Hid.mk (show ∀ w, Below W.heap.size W w → w.cell? ⟨g, i * 4, none⟩ = some (.string T[i].code.1) ∧ w.cell? ⟨t, 1, none⟩ = some (.slice (some ⟨g, 0, none⟩) ln cp) from fun w b => by
        have hw := HT.out.1.below b
        obtain ⟨g2, c2, e2, d0, -⟩ := hw.at_ i hiT
        cases e2
        exact ⟨d0, by rw [HT.out.2]; exact hw.cell.2.1⟩)
      have i1 : (i : Int) < (ln : Int) := by omega
      have i2 : 0 ≤ (i : Int) := by omega
      have hwi : IntKind.i64.wrap ((i : Int) + 1) = ((i + 1 : Nat) : Int) := by rw [IntKind.wrap_i64]; omega
      have htk := lives_take hiT
      have hni : T[i].code ∉ lives (T.take i) := fun hm => by
        obtain ⟨j, m, a1, -, a3⟩ := mem_lives.1 hm
        obtain ⟨b1, b2⟩ := List.getElem?_eq_some_iff.1 a1
        rw [List.length_take] at b1
        have a4 : T[j]? = some m := by rw [List.getElem?_take_of_lt (by omega)] at a1; exact a1
        have := HT.out.1.wf.codes j i m T[i] a4 (List.getElem?_eq_getElem hiT) a3
        omega
      obtain ⟨x, hx⟩ : ∃ x, x = T[i].code := ⟨_, rfl⟩
      obtain ⟨lv, hlv⟩ : ∃ lv, lv = T[i].live := ⟨_, rfl⟩
      rw [← hx] at c0 htk hni HC
      rw [← hlv] at c1 htk
      clear hx hlv
      cases lv with
      | false =>
        rw [if_neg (by decide), List.append_nil] at htk
        have HX := Hid.mk htk
        clear htk hni
        go_wp2_with fail
        exact ⟨⟨i + 1, L, by push_cast; rfl, hil, Hid.mk (by rw [HX.out]; exact HJ.out)⟩, by simp only [intOf]; omega⟩
      | true =>
        rw [if_pos rfl] at htk
        have r1 := HJ.out.row
        have b1 := HJ.out.be
        obtain ⟨a7, c7, rfl, hc7⟩ := slice_form r1
        have hb1 : L.length + 1 ≤ maxLen := by unfold maxLen; omega
        have hb2 : (L.length + 1) * 16 ≤ 140737488355328 := by omega
        have HX := Hid.mk (And.intro htk hni)
        clear htk hni
        go_wp2_with (first
          | (at_builtin; refine wpList_append_own _ rfl _ _ 45 rfl W.heap.size 9 i0 (.string ⟨#[]⟩) 1 16 Tryd.underlying45 hi0 hz0 hz1 hz2 rfl (by decide) _ _ _ rfl (r1.alloc _) ⟨wr.heap.size, 0, none⟩ 1 1 [.string x.1] rfl rfl (cell_one_new _ _ _) (by simp [Value.oneCell']) hb1 hb2 (by have := b1.size; simp; omega) ?_; intro v3 w3 hr3 hg3 hnil3)
          | go_in)
        have b3 : Below W.heap.size W w3 := (b1.alloc b1.size _).grown hg3 (by have := b1.size; simp; omega) (fun j hj => (r1.lt j hj).1)
        obtain ⟨g3, c3, rfl, hg3B⟩ : ∃ g3 c3, v3 = .slice (some ⟨g3, 0, none⟩) (L.length + 1) c3 ∧ W.heap.size ≤ g3 := by
          rcases hr3.2 with ⟨h2, h3⟩ | ⟨g3, c3, cur, h2, h3, -⟩
          · omega
          · exact ⟨g3, c3, h2, h3⟩
        obtain ⟨nL, hnL⟩ : ∃ nL, nL = L.length := ⟨_, rfl⟩
        have H3 := Hid.mk (show RCH W w3 g3 c3 x L L.length from ⟨b3, ⟨_, by unfold hol1; rw [List.take_length, List.drop_length]; exact hr3⟩, fun j hj h => by omega⟩)
        have HL := Hid.mk (And.intro hnL (And.intro hg3B HJ.out.rs))
        rw [← hnL] at H3 hLl ⊢
        clear hr3 hg3 hnil3 b3 b1 r1 hnL hg3B HJ hb1 hb2 hc7 c0 c1 t0 t1 t2 tf hwr
        go_loopw [5] (fun u wr => ∃ k : Nat, u = .int .i64 k ∧ k ≤ nL ∧ Hid (RCH W wr g3 c3 x L k)) (fun u _ => (intOf u).toNat)
        case atStart => exact ⟨nL, rfl, Nat.le_refl _, H3⟩
        case round =>
          obtain ⟨k, rfl, hk, HK⟩ := hrel
          have kb0 : (0 : Int) ≤ (k : Int) := by omega
          have kb1 : (k : Int) < (nL : Int) + 1 := by omega
          obtain ⟨cw0, cw1⟩ := HC.out wr HK.out.be
          rcases Nat.eq_zero_or_pos k with hk0 | hk0
          · have k1 : decide ((0 : Int) < (k : Int)) = false := by simp; omega
            have k2 : decide (0 < k) = false := by simp; omega
            have HLo := Hid.mk (show ∀ j (hj : j < L.length), j < k → byC L[j] < byC x from fun j hj h => by omega)
            clear hk0
            go_wp2_with fail
            refine wp_region_held_drew (S := fun _ => True) (by kernel_rfl) ?_ (fun hHeld => ?_)
            · trivial
            refine wpAnyH_take (i := 0) (oi := { dst := some 37, op := Op.move (Operand.tmp 5), type := 3, pos := "kindredref12.go:110", after := #[], guard := none }) (v := ?va0) rfl (by kernel_rfl) (by kernel_rfl) (by kernel_rfl) (fun _ _ _ h => h) (Or.inl ⟨by rfl, ?ha0⟩) (by assumption) ?ra0
            case ha0 => (intro w0 hSw; (try dsimp only at hSw); go_simp; try (with_reducible rfl))
            simp only [Act.put, List.setIfInBounds_toArray, List.set_cons_zero, List.set_cons_succ]
            refine wpAnyH_take (i := 1) (oi := { dst := some 38, op := Op.binOp BinOp.gtr 3 (Operand.tmp 37) (Operand.const (Value.int IntKind.i64 0)) 3, type := 4, pos := "kindredref12.go:110", after := #[{ on := 0, ground := Ground.data }], guard := none }) (v := ?va1) rfl (by kernel_rfl) (by kernel_rfl) (by kernel_rfl) (fun _ _ _ h => h) (Or.inl ⟨by rfl, ?ha1⟩) (by assumption) ?ra1
            case ha1 => (intro w0 hSw; (try dsimp only at hSw); go_simp; try (with_reducible rfl))
            simp only [Act.put, List.setIfInBounds_toArray, List.set_cons_zero, List.set_cons_succ]
            refine wpAnyH_take (i := 2) (oi := { dst := some 39, op := Op.move (Operand.tmp 38), type := 4, pos := "kindredref12.go:110", after := #[{ on := 1, ground := Ground.data }], guard := none }) (v := ?va2) rfl (by kernel_rfl) (by kernel_rfl) (by kernel_rfl) (fun _ _ _ h => h) (Or.inl ⟨by rfl, ?ha2⟩) (by assumption) ?ra2
            case ha2 => (intro w0 hSw; (try dsimp only at hSw); go_simp; try (with_reducible rfl))
            simp only [Act.put, List.setIfInBounds_toArray, List.set_cons_zero, List.set_cons_succ]
            refine wpAnyH_take (i := 3) (oi := { dst := some 40, op := Op.move (Operand.tmp 3), type := 45, pos := "kindredref12.go:110", after := #[{ on := 2, ground := Ground.guard }], guard := some (2, true) }) rfl (by kernel_rfl) (by kernel_rfl) (by kernel_rfl) (fun _ _ _ h => h) (Or.inr ⟨by rfl, rfl⟩) (by assumption) ?_
            simp only [Act.put, List.setIfInBounds_toArray, List.set_cons_zero, List.set_cons_succ]
            refine wpAnyH_take (i := 4) (oi := { dst := some 41, op := Op.move (Operand.tmp 5), type := 3, pos := "kindredref12.go:110", after := #[{ on := 2, ground := Ground.guard }], guard := some (2, true) }) rfl (by kernel_rfl) (by kernel_rfl) (by kernel_rfl) (fun _ _ _ h => h) (Or.inr ⟨by rfl, rfl⟩) (by assumption) ?_
            simp only [Act.put, List.setIfInBounds_toArray, List.set_cons_zero, List.set_cons_succ]
            refine wpAnyH_take (i := 5) (oi := { dst := some 42, op := Op.binOp BinOp.sub 3 (Operand.tmp 41) (Operand.const (Value.int IntKind.i64 1)) 3, type := 3, pos := "kindredref12.go:110", after := #[{ on := 4, ground := Ground.data }, { on := 2, ground := Ground.guard }], guard := some (2, true) }) rfl (by kernel_rfl) (by kernel_rfl) (by kernel_rfl) (fun _ _ _ h => h) (Or.inr ⟨by rfl, rfl⟩) (by assumption) ?_
            simp only [Act.put, List.setIfInBounds_toArray, List.set_cons_zero, List.set_cons_succ]
            refine wpAnyH_take (i := 6) (oi := { dst := some 43, op := Op.indexAddr 45 (Operand.tmp 40) (Operand.tmp 42), type := 0, pos := "kindredref12.go:110", after := #[{ on := 3, ground := Ground.data }, { on := 5, ground := Ground.data }, { on := 2, ground := Ground.guard }], guard := some (2, true) }) rfl (by kernel_rfl) (by kernel_rfl) (by kernel_rfl) (fun _ _ _ h => h) (Or.inr ⟨by rfl, rfl⟩) (by assumption) ?_
            simp only [Act.put, List.setIfInBounds_toArray, List.set_cons_zero, List.set_cons_succ]
            refine wpAnyH_take (i := 7) (oi := { dst := some 44, op := Op.load 9 (Operand.tmp 43), type := 9, pos := "kindredref12.go:110", after := #[{ on := 6, ground := Ground.data }, { on := 2, ground := Ground.guard }], guard := some (2, true) }) rfl (by kernel_rfl) (by kernel_rfl) (by kernel_rfl) (fun _ _ _ h => h) (Or.inr ⟨by rfl, rfl⟩) (by assumption) ?_
            simp only [Act.put, List.setIfInBounds_toArray, List.set_cons_zero, List.set_cons_succ]
            refine wpAnyH_take (i := 8) (oi := { dst := some 45, op := Op.move (Operand.tmp 0), type := 51, pos := "kindredref12.go:110", after := #[{ on := 2, ground := Ground.guard }], guard := some (2, true) }) rfl (by kernel_rfl) (by kernel_rfl) (by kernel_rfl) (fun _ _ _ h => h) (Or.inr ⟨by rfl, rfl⟩) (by assumption) ?_
            simp only [Act.put, List.setIfInBounds_toArray, List.set_cons_zero, List.set_cons_succ]
            refine wpAnyH_take (i := 9) (oi := { dst := some 46, op := Op.nilCheck (Operand.tmp 45), type := 0, pos := "kindredref12.go:110", after := #[{ on := 8, ground := Ground.data }, { on := 2, ground := Ground.guard }], guard := some (2, true) }) rfl (by kernel_rfl) (by kernel_rfl) (by kernel_rfl) (fun _ _ _ h => h) (Or.inr ⟨by rfl, rfl⟩) (by assumption) ?_
            simp only [Act.put, List.setIfInBounds_toArray, List.set_cons_zero, List.set_cons_succ]
            refine wpAnyH_take (i := 10) (oi := { dst := some 47, op := Op.fieldAddr 83 (Operand.tmp 46) 1, type := 0, pos := "kindredref12.go:110", after := #[{ on := 9, ground := Ground.data }, { on := 2, ground := Ground.guard }], guard := some (2, true) }) rfl (by kernel_rfl) (by kernel_rfl) (by kernel_rfl) (fun _ _ _ h => h) (Or.inr ⟨by rfl, rfl⟩) (by assumption) ?_
            simp only [Act.put, List.setIfInBounds_toArray, List.set_cons_zero, List.set_cons_succ]
            refine wpAnyH_take (i := 11) (oi := { dst := some 48, op := Op.load 81 (Operand.tmp 47), type := 81, pos := "kindredref12.go:110", after := #[{ on := 10, ground := Ground.data }, { on := 2, ground := Ground.guard }], guard := some (2, true) }) rfl (by kernel_rfl) (by kernel_rfl) (by kernel_rfl) (fun _ _ _ h => h) (Or.inr ⟨by rfl, rfl⟩) (by assumption) ?_
            simp only [Act.put, List.setIfInBounds_toArray, List.set_cons_zero, List.set_cons_succ]
            refine wpAnyH_take (i := 12) (oi := { dst := some 49, op := Op.move (Operand.tmp 4), type := 3, pos := "kindredref12.go:110", after := #[{ on := 2, ground := Ground.guard }], guard := some (2, true) }) rfl (by kernel_rfl) (by kernel_rfl) (by kernel_rfl) (fun _ _ _ h => h) (Or.inr ⟨by rfl, rfl⟩) (by assumption) ?_
            simp only [Act.put, List.setIfInBounds_toArray, List.set_cons_zero, List.set_cons_succ]
            refine wpAnyH_take (i := 13) (oi := { dst := some 50, op := Op.indexAddr 81 (Operand.tmp 48) (Operand.tmp 49), type := 0, pos := "kindredref12.go:110", after := #[{ on := 11, ground := Ground.data }, { on := 12, ground := Ground.data }, { on := 2, ground := Ground.guard }], guard := some (2, true) }) rfl (by kernel_rfl) (by kernel_rfl) (by kernel_rfl) (fun _ _ _ h => h) (Or.inr ⟨by rfl, rfl⟩) (by assumption) ?_
            simp only [Act.put, List.setIfInBounds_toArray, List.set_cons_zero, List.set_cons_succ]
            refine wpAnyH_take (i := 14) (oi := { dst := some 51, op := Op.fieldAddr 104 (Operand.tmp 50) 0, type := 0, pos := "kindredref12.go:110", after := #[{ on := 13, ground := Ground.data }, { on := 2, ground := Ground.guard }], guard := some (2, true) }) rfl (by kernel_rfl) (by kernel_rfl) (by kernel_rfl) (fun _ _ _ h => h) (Or.inr ⟨by rfl, rfl⟩) (by assumption) ?_
            simp only [Act.put, List.setIfInBounds_toArray, List.set_cons_zero, List.set_cons_succ]
            refine wpAnyH_take (i := 15) (oi := { dst := some 52, op := Op.load 9 (Operand.tmp 51), type := 9, pos := "kindredref12.go:110", after := #[{ on := 14, ground := Ground.data }, { on := 2, ground := Ground.guard }], guard := some (2, true) }) rfl (by kernel_rfl) (by kernel_rfl) (by kernel_rfl) (fun _ _ _ h => h) (Or.inr ⟨by rfl, rfl⟩) (by assumption) ?_
            simp only [Act.put, List.setIfInBounds_toArray, List.set_cons_zero, List.set_cons_succ]
            refine wpAnyH_take (i := 16) (oi := { dst := some 53, op := Op.binOp BinOp.gtr 9 (Operand.tmp 44) (Operand.tmp 52) 9, type := 4, pos := "kindredref12.go:110", after := #[{ on := 7, ground := Ground.data }, { on := 15, ground := Ground.data }, { on := 2, ground := Ground.guard }], guard := some (2, true) }) rfl (by kernel_rfl) (by kernel_rfl) (by kernel_rfl) (fun _ _ _ h => h) (Or.inr ⟨by rfl, rfl⟩) (by assumption) ?_
            simp only [Act.put, List.setIfInBounds_toArray, List.set_cons_zero, List.set_cons_succ]
            refine wpAnyH_take (i := 17) (oi := { dst := some 54, op := Op.pick (Operand.tmp 39) (Operand.tmp 53) (Operand.const (Value.bool false)), type := 4, pos := "kindredref12.go:110", after := #[{ on := 2, ground := Ground.data }, { on := 16, ground := Ground.data }], guard := none }) (v := ?va17) rfl (by kernel_rfl) (by kernel_rfl) (by kernel_rfl) (fun _ _ _ h => h) (Or.inl ⟨by rfl, ?ha17⟩) (by assumption) ?ra17
            case ha17 => (intro w0 hSw; (try dsimp only at hSw); go_simp; try (with_reducible rfl))
            simp only [Act.put, List.setIfInBounds_toArray, List.set_cons_zero, List.set_cons_succ]
            refine wpAnyH_done (by kernel_rfl) ?_ _
            obtain ⟨wz, hwz⟩ : ∃ wz, wz = wr.drew := ⟨_, rfl⟩
            rw [← hwz]
            have HZ := Hid.mk (show RCH W wz g3 c3 x L k from by rw [hwz]; exact ⟨HK.out.be.drew, HK.out.row, HK.out.up⟩)
            obtain ⟨u0, z0, zf, -⟩ := HZ.out.hole (by have := HL.out.1; omega)
            have zf0 := zf k
            obtain ⟨cz0, cz1⟩ := HC.out wz HZ.out.be
            clear hwz zf HK cw0 cw1
            go_wp2_with fail
            exact ⟨⟨i + 1, _, by push_cast; rfl, hil, Hid.mk (by rw [HX.out.1, HL.out.1]; exact RCH.fill HZ.out HL.out.2.2 HL.out.2.1 (by have := HL.out.1; omega) HLo.out)⟩, by simp only [intOf]; omega⟩
          · obtain ⟨m, hm⟩ : ∃ m, k = m + 1 := ⟨k - 1, by omega⟩
            have hmL : m < L.length := by have := HL.out.1; omega
            have k1 : decide ((0 : Int) < (k : Int)) = true := by simp; omega
            have k2 : decide (0 < k) = true := by simp; omega
            have km : IntKind.i64.wrap ((k : Int) - 1) = (m : Int) := by rw [IntKind.wrap_i64]; omega
            have m0 : (0 : Int) ≤ (m : Int) := by omega
            have m1 : (m : Int) < (nL : Int) + 1 := by omega
            have m2 : m ≤ nL := by omega
            have HK' := HK.out
            rw [hm] at HK'
            have p0 := HK'.prev (by omega)
            obtain ⟨y, hy⟩ : ∃ y, y = L[m] := ⟨_, rfl⟩
            have hsrt : byC y < byC x → ∀ j (hj : j < L.length), j < k → byC L[j] < byC x := fun hyx j hj hjk => by
              by_cases e : j = m
              · subst e; rw [← hy]; exact hyx
              · exact List.lt_trans (by rw [hy]; exact List.pairwise_iff_getElem.1 HL.out.2.2.srt j m hj hmL (by omega)) hyx
            have hyA : y ≠ x := fun e => HX.out.2 (by
              have := (HL.out.2.2.mem y).1 (by rw [hy]; exact List.getElem_mem _)
              rw [← e]; exact this)
            have HY := Hid.mk (And.intro hm (And.intro hmL (And.intro hy (And.intro hsrt hyA))))
            rw [← hy] at p0
            clear hm hk0 HK' hy hsrt hyA
            obtain ⟨ys, hys⟩ : ∃ ys, ys = y.1 := ⟨_, rfl⟩
            rw [← hys] at p0
            have HYY := Hid.mk hys
            clear hys
            by_cases hbl : byC x < byC y
            · have bl : Op.bytesLess ys.toList x.1.toList = false := by
                rw [HYY.out, bl_of]
                simp only [decide_eq_false_iff_not]
                exact fun h => List.lt_irrefl _ (List.lt_trans hbl h)
              have bl2 : (ys.toList == x.1.toList) = false := beq_false_of_ne (fun h => HY.out.2.2.2.2 (Subtype.ext (by rw [← HYY.out]; exact ba_of h)))
              have HGT := Hid.mk hbl
              clear hbl
              go_wp2_with fail
              refine wp_region_held_drew (S := fun w' => w'.cell? ⟨g3, m, none⟩ = some (.string ys) ∧ w'.cell? ⟨g, i * 4, none⟩ = some (.string x.1) ∧ w'.cell? ⟨t, 1, none⟩ = some (.slice (some ⟨g, 0, none⟩) ln cp)) (by kernel_rfl) ?_ (fun hHeld => ?_)
              · exact ⟨p0, cw0, cw1⟩
              refine wpAnyH_take (i := 0) (oi := { dst := some 37, op := Op.move (Operand.tmp 5), type := 3, pos := "kindredref12.go:110", after := #[], guard := none }) (v := ?vc0) rfl (by kernel_rfl) (by kernel_rfl) (by kernel_rfl) (fun _ _ _ h => h) (Or.inl ⟨by rfl, ?hc0⟩) (by assumption) ?rc0
              case hc0 => (intro w0 hSw; (try dsimp only at hSw); go_simp; try (with_reducible rfl))
              simp only [Act.put, List.setIfInBounds_toArray, List.set_cons_zero, List.set_cons_succ]
              refine wpAnyH_take (i := 1) (oi := { dst := some 38, op := Op.binOp BinOp.gtr 3 (Operand.tmp 37) (Operand.const (Value.int IntKind.i64 0)) 3, type := 4, pos := "kindredref12.go:110", after := #[{ on := 0, ground := Ground.data }], guard := none }) (v := ?vc1) rfl (by kernel_rfl) (by kernel_rfl) (by kernel_rfl) (fun _ _ _ h => h) (Or.inl ⟨by rfl, ?hc1⟩) (by assumption) ?rc1
              case hc1 => (intro w0 hSw; (try dsimp only at hSw); go_simp; try (with_reducible rfl))
              simp only [Act.put, List.setIfInBounds_toArray, List.set_cons_zero, List.set_cons_succ]
              refine wpAnyH_take (i := 2) (oi := { dst := some 39, op := Op.move (Operand.tmp 38), type := 4, pos := "kindredref12.go:110", after := #[{ on := 1, ground := Ground.data }], guard := none }) (v := ?vc2) rfl (by kernel_rfl) (by kernel_rfl) (by kernel_rfl) (fun _ _ _ h => h) (Or.inl ⟨by rfl, ?hc2⟩) (by assumption) ?rc2
              case hc2 => (intro w0 hSw; (try dsimp only at hSw); go_simp; try (with_reducible rfl))
              simp only [Act.put, List.setIfInBounds_toArray, List.set_cons_zero, List.set_cons_succ]
              refine wpAnyH_take (i := 3) (oi := { dst := some 40, op := Op.move (Operand.tmp 3), type := 45, pos := "kindredref12.go:110", after := #[{ on := 2, ground := Ground.guard }], guard := some (2, true) }) (v := ?vc3) rfl (by kernel_rfl) (by kernel_rfl) (by kernel_rfl) (fun _ _ _ h => h) (Or.inl ⟨by rfl, ?hc3⟩) (by assumption) ?rc3
              case hc3 => (intro w0 hSw; (try dsimp only at hSw); go_simp; try (with_reducible rfl))
              simp only [Act.put, List.setIfInBounds_toArray, List.set_cons_zero, List.set_cons_succ]
              refine wpAnyH_take (i := 4) (oi := { dst := some 41, op := Op.move (Operand.tmp 5), type := 3, pos := "kindredref12.go:110", after := #[{ on := 2, ground := Ground.guard }], guard := some (2, true) }) (v := ?vc4) rfl (by kernel_rfl) (by kernel_rfl) (by kernel_rfl) (fun _ _ _ h => h) (Or.inl ⟨by rfl, ?hc4⟩) (by assumption) ?rc4
              case hc4 => (intro w0 hSw; (try dsimp only at hSw); go_simp; try (with_reducible rfl))
              simp only [Act.put, List.setIfInBounds_toArray, List.set_cons_zero, List.set_cons_succ]
              refine wpAnyH_take (i := 5) (oi := { dst := some 42, op := Op.binOp BinOp.sub 3 (Operand.tmp 41) (Operand.const (Value.int IntKind.i64 1)) 3, type := 3, pos := "kindredref12.go:110", after := #[{ on := 4, ground := Ground.data }, { on := 2, ground := Ground.guard }], guard := some (2, true) }) (v := ?vc5) rfl (by kernel_rfl) (by kernel_rfl) (by kernel_rfl) (fun _ _ _ h => h) (Or.inl ⟨by rfl, ?hc5⟩) (by assumption) ?rc5
              case hc5 => (intro w0 hSw; (try dsimp only at hSw); go_simp; try (with_reducible rfl))
              simp only [Act.put, List.setIfInBounds_toArray, List.set_cons_zero, List.set_cons_succ]
              refine wpAnyH_take (i := 6) (oi := { dst := some 43, op := Op.indexAddr 45 (Operand.tmp 40) (Operand.tmp 42), type := 0, pos := "kindredref12.go:110", after := #[{ on := 3, ground := Ground.data }, { on := 5, ground := Ground.data }, { on := 2, ground := Ground.guard }], guard := some (2, true) }) (v := ?vc6) rfl (by kernel_rfl) (by kernel_rfl) (by kernel_rfl) (fun _ _ _ h => h) (Or.inl ⟨by rfl, ?hc6⟩) (by assumption) ?rc6
              case hc6 => (intro w0 hSw; (try dsimp only at hSw); go_simp; try (with_reducible rfl))
              simp only [Act.put, List.setIfInBounds_toArray, List.set_cons_zero, List.set_cons_succ]
              refine wpAnyH_take (i := 7) (oi := { dst := some 44, op := Op.load 9 (Operand.tmp 43), type := 9, pos := "kindredref12.go:110", after := #[{ on := 6, ground := Ground.data }, { on := 2, ground := Ground.guard }], guard := some (2, true) }) (v := ?vc7) rfl (by kernel_rfl) (by kernel_rfl) (by kernel_rfl) (fun _ _ _ h => h) (Or.inl ⟨by rfl, ?hc7⟩) (by assumption) ?rc7
              case hc7 => (intro w0 hSw; (try dsimp only at hSw); go_simp; try (with_reducible rfl))
              simp only [Act.put, List.setIfInBounds_toArray, List.set_cons_zero, List.set_cons_succ]
              refine wpAnyH_take (i := 8) (oi := { dst := some 45, op := Op.move (Operand.tmp 0), type := 51, pos := "kindredref12.go:110", after := #[{ on := 2, ground := Ground.guard }], guard := some (2, true) }) (v := ?vc8) rfl (by kernel_rfl) (by kernel_rfl) (by kernel_rfl) (fun _ _ _ h => h) (Or.inl ⟨by rfl, ?hc8⟩) (by assumption) ?rc8
              case hc8 => (intro w0 hSw; (try dsimp only at hSw); go_simp; try (with_reducible rfl))
              simp only [Act.put, List.setIfInBounds_toArray, List.set_cons_zero, List.set_cons_succ]
              refine wpAnyH_take (i := 9) (oi := { dst := some 46, op := Op.nilCheck (Operand.tmp 45), type := 0, pos := "kindredref12.go:110", after := #[{ on := 8, ground := Ground.data }, { on := 2, ground := Ground.guard }], guard := some (2, true) }) (v := ?vc9) rfl (by kernel_rfl) (by kernel_rfl) (by kernel_rfl) (fun _ _ _ h => h) (Or.inl ⟨by rfl, ?hc9⟩) (by assumption) ?rc9
              case hc9 => (intro w0 hSw; (try dsimp only at hSw); go_simp; try (with_reducible rfl))
              simp only [Act.put, List.setIfInBounds_toArray, List.set_cons_zero, List.set_cons_succ]
              refine wpAnyH_take (i := 10) (oi := { dst := some 47, op := Op.fieldAddr 83 (Operand.tmp 46) 1, type := 0, pos := "kindredref12.go:110", after := #[{ on := 9, ground := Ground.data }, { on := 2, ground := Ground.guard }], guard := some (2, true) }) (v := ?vc10) rfl (by kernel_rfl) (by kernel_rfl) (by kernel_rfl) (fun _ _ _ h => h) (Or.inl ⟨by rfl, ?hc10⟩) (by assumption) ?rc10
              case hc10 => (intro w0 hSw; (try dsimp only at hSw); go_simp; try (with_reducible rfl))
              simp only [Act.put, List.setIfInBounds_toArray, List.set_cons_zero, List.set_cons_succ]
              refine wpAnyH_take (i := 11) (oi := { dst := some 48, op := Op.load 81 (Operand.tmp 47), type := 81, pos := "kindredref12.go:110", after := #[{ on := 10, ground := Ground.data }, { on := 2, ground := Ground.guard }], guard := some (2, true) }) (v := ?vc11) rfl (by kernel_rfl) (by kernel_rfl) (by kernel_rfl) (fun _ _ _ h => h) (Or.inl ⟨by rfl, ?hc11⟩) (by assumption) ?rc11
              case hc11 => (intro w0 hSw; (try dsimp only at hSw); go_simp; try (with_reducible rfl))
              simp only [Act.put, List.setIfInBounds_toArray, List.set_cons_zero, List.set_cons_succ]
              refine wpAnyH_take (i := 12) (oi := { dst := some 49, op := Op.move (Operand.tmp 4), type := 3, pos := "kindredref12.go:110", after := #[{ on := 2, ground := Ground.guard }], guard := some (2, true) }) (v := ?vc12) rfl (by kernel_rfl) (by kernel_rfl) (by kernel_rfl) (fun _ _ _ h => h) (Or.inl ⟨by rfl, ?hc12⟩) (by assumption) ?rc12
              case hc12 => (intro w0 hSw; (try dsimp only at hSw); go_simp; try (with_reducible rfl))
              simp only [Act.put, List.setIfInBounds_toArray, List.set_cons_zero, List.set_cons_succ]
              refine wpAnyH_take (i := 13) (oi := { dst := some 50, op := Op.indexAddr 81 (Operand.tmp 48) (Operand.tmp 49), type := 0, pos := "kindredref12.go:110", after := #[{ on := 11, ground := Ground.data }, { on := 12, ground := Ground.data }, { on := 2, ground := Ground.guard }], guard := some (2, true) }) (v := ?vc13) rfl (by kernel_rfl) (by kernel_rfl) (by kernel_rfl) (fun _ _ _ h => h) (Or.inl ⟨by rfl, ?hc13⟩) (by assumption) ?rc13
              case hc13 => (intro w0 hSw; (try dsimp only at hSw); go_simp; try (with_reducible rfl))
              simp only [Act.put, List.setIfInBounds_toArray, List.set_cons_zero, List.set_cons_succ]
              refine wpAnyH_take (i := 14) (oi := { dst := some 51, op := Op.fieldAddr 104 (Operand.tmp 50) 0, type := 0, pos := "kindredref12.go:110", after := #[{ on := 13, ground := Ground.data }, { on := 2, ground := Ground.guard }], guard := some (2, true) }) (v := ?vc14) rfl (by kernel_rfl) (by kernel_rfl) (by kernel_rfl) (fun _ _ _ h => h) (Or.inl ⟨by rfl, ?hc14⟩) (by assumption) ?rc14
              case hc14 => (intro w0 hSw; (try dsimp only at hSw); go_simp; try (with_reducible rfl))
              simp only [Act.put, List.setIfInBounds_toArray, List.set_cons_zero, List.set_cons_succ]
              refine wpAnyH_take (i := 15) (oi := { dst := some 52, op := Op.load 9 (Operand.tmp 51), type := 9, pos := "kindredref12.go:110", after := #[{ on := 14, ground := Ground.data }, { on := 2, ground := Ground.guard }], guard := some (2, true) }) (v := ?vc15) rfl (by kernel_rfl) (by kernel_rfl) (by kernel_rfl) (fun _ _ _ h => h) (Or.inl ⟨by rfl, ?hc15⟩) (by assumption) ?rc15
              case hc15 => (intro w0 hSw; (try dsimp only at hSw); go_simp; try (with_reducible rfl))
              simp only [Act.put, List.setIfInBounds_toArray, List.set_cons_zero, List.set_cons_succ]
              refine wpAnyH_take (i := 16) (oi := { dst := some 53, op := Op.binOp BinOp.gtr 9 (Operand.tmp 44) (Operand.tmp 52) 9, type := 4, pos := "kindredref12.go:110", after := #[{ on := 7, ground := Ground.data }, { on := 15, ground := Ground.data }, { on := 2, ground := Ground.guard }], guard := some (2, true) }) (v := ?vc16) rfl (by kernel_rfl) (by kernel_rfl) (by kernel_rfl) (fun _ _ _ h => h) (Or.inl ⟨by rfl, ?hc16⟩) (by assumption) ?rc16
              case hc16 => (intro w0 hSw; (try dsimp only at hSw); go_simp; try (with_reducible rfl))
              simp only [Act.put, List.setIfInBounds_toArray, List.set_cons_zero, List.set_cons_succ]
              refine wpAnyH_take (i := 17) (oi := { dst := some 54, op := Op.pick (Operand.tmp 39) (Operand.tmp 53) (Operand.const (Value.bool false)), type := 4, pos := "kindredref12.go:110", after := #[{ on := 2, ground := Ground.data }, { on := 16, ground := Ground.data }], guard := none }) (v := ?vc17) rfl (by kernel_rfl) (by kernel_rfl) (by kernel_rfl) (fun _ _ _ h => h) (Or.inl ⟨by rfl, ?hc17⟩) (by assumption) ?rc17
              case hc17 => (intro w0 hSw; (try dsimp only at hSw); go_simp; try (with_reducible rfl))
              simp only [Act.put, List.setIfInBounds_toArray, List.set_cons_zero, List.set_cons_succ]
              refine wpAnyH_done (by kernel_rfl) ?_ _
              obtain ⟨wz, hwz⟩ : ∃ wz, wz = wr.drew := ⟨_, rfl⟩
              rw [← hwz]
              have HZ := Hid.mk (show RCH W wz g3 c3 x L k from by rw [hwz]; exact ⟨HK.out.be.drew, HK.out.row, HK.out.up⟩)
              obtain ⟨u0, z0, zf, -⟩ := HZ.out.hole (by have := HL.out.1; omega)
              have zf0 := zf k
              have q0 : wz.cell? ⟨g3, m, none⟩ = some (.string ys) := by rw [hwz]; exact p0
              clear hwz zf HK p0 cw0 cw1
              go_wp2_with fail
              exact ⟨⟨m, rfl, m2, Hid.mk (RCH.down HY.out.1 HY.out.2.1 HY.out.2.2.1 HYY.out HZ.out HL.out.2.1 HGT.out)⟩, by simp only [intOf]; have := HY.out.1; omega⟩
            · have hyx : byC y < byC x := lt_tot _ _ (fun e => HY.out.2.2.2.2 (Subtype.ext (ByteArray.ext (Array.toList_inj.1 e.symm)))) hbl
              have bl : Op.bytesLess ys.toList x.1.toList = true := by rw [HYY.out, bl_of]; simpa using hyx
              have HLo := Hid.mk (HY.out.2.2.2.1 hyx)
              clear hbl hyx
              go_wp2_with fail
              refine wp_region_held_drew (S := fun w' => w'.cell? ⟨g3, m, none⟩ = some (.string ys) ∧ w'.cell? ⟨g, i * 4, none⟩ = some (.string x.1) ∧ w'.cell? ⟨t, 1, none⟩ = some (.slice (some ⟨g, 0, none⟩) ln cp)) (by kernel_rfl) ?_ (fun hHeld => ?_)
              · exact ⟨p0, cw0, cw1⟩
              refine wpAnyH_take (i := 0) (oi := { dst := some 37, op := Op.move (Operand.tmp 5), type := 3, pos := "kindredref12.go:110", after := #[], guard := none }) (v := ?vd0) rfl (by kernel_rfl) (by kernel_rfl) (by kernel_rfl) (fun _ _ _ h => h) (Or.inl ⟨by rfl, ?hd0⟩) (by assumption) ?rd0
              case hd0 => (intro w0 hSw; (try dsimp only at hSw); go_simp; try (with_reducible rfl))
              simp only [Act.put, List.setIfInBounds_toArray, List.set_cons_zero, List.set_cons_succ]
              refine wpAnyH_take (i := 1) (oi := { dst := some 38, op := Op.binOp BinOp.gtr 3 (Operand.tmp 37) (Operand.const (Value.int IntKind.i64 0)) 3, type := 4, pos := "kindredref12.go:110", after := #[{ on := 0, ground := Ground.data }], guard := none }) (v := ?vd1) rfl (by kernel_rfl) (by kernel_rfl) (by kernel_rfl) (fun _ _ _ h => h) (Or.inl ⟨by rfl, ?hd1⟩) (by assumption) ?rd1
              case hd1 => (intro w0 hSw; (try dsimp only at hSw); go_simp; try (with_reducible rfl))
              simp only [Act.put, List.setIfInBounds_toArray, List.set_cons_zero, List.set_cons_succ]
              refine wpAnyH_take (i := 2) (oi := { dst := some 39, op := Op.move (Operand.tmp 38), type := 4, pos := "kindredref12.go:110", after := #[{ on := 1, ground := Ground.data }], guard := none }) (v := ?vd2) rfl (by kernel_rfl) (by kernel_rfl) (by kernel_rfl) (fun _ _ _ h => h) (Or.inl ⟨by rfl, ?hd2⟩) (by assumption) ?rd2
              case hd2 => (intro w0 hSw; (try dsimp only at hSw); go_simp; try (with_reducible rfl))
              simp only [Act.put, List.setIfInBounds_toArray, List.set_cons_zero, List.set_cons_succ]
              refine wpAnyH_take (i := 3) (oi := { dst := some 40, op := Op.move (Operand.tmp 3), type := 45, pos := "kindredref12.go:110", after := #[{ on := 2, ground := Ground.guard }], guard := some (2, true) }) (v := ?vd3) rfl (by kernel_rfl) (by kernel_rfl) (by kernel_rfl) (fun _ _ _ h => h) (Or.inl ⟨by rfl, ?hd3⟩) (by assumption) ?rd3
              case hd3 => (intro w0 hSw; (try dsimp only at hSw); go_simp; try (with_reducible rfl))
              simp only [Act.put, List.setIfInBounds_toArray, List.set_cons_zero, List.set_cons_succ]
              refine wpAnyH_take (i := 4) (oi := { dst := some 41, op := Op.move (Operand.tmp 5), type := 3, pos := "kindredref12.go:110", after := #[{ on := 2, ground := Ground.guard }], guard := some (2, true) }) (v := ?vd4) rfl (by kernel_rfl) (by kernel_rfl) (by kernel_rfl) (fun _ _ _ h => h) (Or.inl ⟨by rfl, ?hd4⟩) (by assumption) ?rd4
              case hd4 => (intro w0 hSw; (try dsimp only at hSw); go_simp; try (with_reducible rfl))
              simp only [Act.put, List.setIfInBounds_toArray, List.set_cons_zero, List.set_cons_succ]
              refine wpAnyH_take (i := 5) (oi := { dst := some 42, op := Op.binOp BinOp.sub 3 (Operand.tmp 41) (Operand.const (Value.int IntKind.i64 1)) 3, type := 3, pos := "kindredref12.go:110", after := #[{ on := 4, ground := Ground.data }, { on := 2, ground := Ground.guard }], guard := some (2, true) }) (v := ?vd5) rfl (by kernel_rfl) (by kernel_rfl) (by kernel_rfl) (fun _ _ _ h => h) (Or.inl ⟨by rfl, ?hd5⟩) (by assumption) ?rd5
              case hd5 => (intro w0 hSw; (try dsimp only at hSw); go_simp; try (with_reducible rfl))
              simp only [Act.put, List.setIfInBounds_toArray, List.set_cons_zero, List.set_cons_succ]
              refine wpAnyH_take (i := 6) (oi := { dst := some 43, op := Op.indexAddr 45 (Operand.tmp 40) (Operand.tmp 42), type := 0, pos := "kindredref12.go:110", after := #[{ on := 3, ground := Ground.data }, { on := 5, ground := Ground.data }, { on := 2, ground := Ground.guard }], guard := some (2, true) }) (v := ?vd6) rfl (by kernel_rfl) (by kernel_rfl) (by kernel_rfl) (fun _ _ _ h => h) (Or.inl ⟨by rfl, ?hd6⟩) (by assumption) ?rd6
              case hd6 => (intro w0 hSw; (try dsimp only at hSw); go_simp; try (with_reducible rfl))
              simp only [Act.put, List.setIfInBounds_toArray, List.set_cons_zero, List.set_cons_succ]
              refine wpAnyH_take (i := 7) (oi := { dst := some 44, op := Op.load 9 (Operand.tmp 43), type := 9, pos := "kindredref12.go:110", after := #[{ on := 6, ground := Ground.data }, { on := 2, ground := Ground.guard }], guard := some (2, true) }) (v := ?vd7) rfl (by kernel_rfl) (by kernel_rfl) (by kernel_rfl) (fun _ _ _ h => h) (Or.inl ⟨by rfl, ?hd7⟩) (by assumption) ?rd7
              case hd7 => (intro w0 hSw; (try dsimp only at hSw); go_simp; try (with_reducible rfl))
              simp only [Act.put, List.setIfInBounds_toArray, List.set_cons_zero, List.set_cons_succ]
              refine wpAnyH_take (i := 8) (oi := { dst := some 45, op := Op.move (Operand.tmp 0), type := 51, pos := "kindredref12.go:110", after := #[{ on := 2, ground := Ground.guard }], guard := some (2, true) }) (v := ?vd8) rfl (by kernel_rfl) (by kernel_rfl) (by kernel_rfl) (fun _ _ _ h => h) (Or.inl ⟨by rfl, ?hd8⟩) (by assumption) ?rd8
              case hd8 => (intro w0 hSw; (try dsimp only at hSw); go_simp; try (with_reducible rfl))
              simp only [Act.put, List.setIfInBounds_toArray, List.set_cons_zero, List.set_cons_succ]
              refine wpAnyH_take (i := 9) (oi := { dst := some 46, op := Op.nilCheck (Operand.tmp 45), type := 0, pos := "kindredref12.go:110", after := #[{ on := 8, ground := Ground.data }, { on := 2, ground := Ground.guard }], guard := some (2, true) }) (v := ?vd9) rfl (by kernel_rfl) (by kernel_rfl) (by kernel_rfl) (fun _ _ _ h => h) (Or.inl ⟨by rfl, ?hd9⟩) (by assumption) ?rd9
              case hd9 => (intro w0 hSw; (try dsimp only at hSw); go_simp; try (with_reducible rfl))
              simp only [Act.put, List.setIfInBounds_toArray, List.set_cons_zero, List.set_cons_succ]
              refine wpAnyH_take (i := 10) (oi := { dst := some 47, op := Op.fieldAddr 83 (Operand.tmp 46) 1, type := 0, pos := "kindredref12.go:110", after := #[{ on := 9, ground := Ground.data }, { on := 2, ground := Ground.guard }], guard := some (2, true) }) (v := ?vd10) rfl (by kernel_rfl) (by kernel_rfl) (by kernel_rfl) (fun _ _ _ h => h) (Or.inl ⟨by rfl, ?hd10⟩) (by assumption) ?rd10
              case hd10 => (intro w0 hSw; (try dsimp only at hSw); go_simp; try (with_reducible rfl))
              simp only [Act.put, List.setIfInBounds_toArray, List.set_cons_zero, List.set_cons_succ]
              refine wpAnyH_take (i := 11) (oi := { dst := some 48, op := Op.load 81 (Operand.tmp 47), type := 81, pos := "kindredref12.go:110", after := #[{ on := 10, ground := Ground.data }, { on := 2, ground := Ground.guard }], guard := some (2, true) }) (v := ?vd11) rfl (by kernel_rfl) (by kernel_rfl) (by kernel_rfl) (fun _ _ _ h => h) (Or.inl ⟨by rfl, ?hd11⟩) (by assumption) ?rd11
              case hd11 => (intro w0 hSw; (try dsimp only at hSw); go_simp; try (with_reducible rfl))
              simp only [Act.put, List.setIfInBounds_toArray, List.set_cons_zero, List.set_cons_succ]
              refine wpAnyH_take (i := 12) (oi := { dst := some 49, op := Op.move (Operand.tmp 4), type := 3, pos := "kindredref12.go:110", after := #[{ on := 2, ground := Ground.guard }], guard := some (2, true) }) (v := ?vd12) rfl (by kernel_rfl) (by kernel_rfl) (by kernel_rfl) (fun _ _ _ h => h) (Or.inl ⟨by rfl, ?hd12⟩) (by assumption) ?rd12
              case hd12 => (intro w0 hSw; (try dsimp only at hSw); go_simp; try (with_reducible rfl))
              simp only [Act.put, List.setIfInBounds_toArray, List.set_cons_zero, List.set_cons_succ]
              refine wpAnyH_take (i := 13) (oi := { dst := some 50, op := Op.indexAddr 81 (Operand.tmp 48) (Operand.tmp 49), type := 0, pos := "kindredref12.go:110", after := #[{ on := 11, ground := Ground.data }, { on := 12, ground := Ground.data }, { on := 2, ground := Ground.guard }], guard := some (2, true) }) (v := ?vd13) rfl (by kernel_rfl) (by kernel_rfl) (by kernel_rfl) (fun _ _ _ h => h) (Or.inl ⟨by rfl, ?hd13⟩) (by assumption) ?rd13
              case hd13 => (intro w0 hSw; (try dsimp only at hSw); go_simp; try (with_reducible rfl))
              simp only [Act.put, List.setIfInBounds_toArray, List.set_cons_zero, List.set_cons_succ]
              refine wpAnyH_take (i := 14) (oi := { dst := some 51, op := Op.fieldAddr 104 (Operand.tmp 50) 0, type := 0, pos := "kindredref12.go:110", after := #[{ on := 13, ground := Ground.data }, { on := 2, ground := Ground.guard }], guard := some (2, true) }) (v := ?vd14) rfl (by kernel_rfl) (by kernel_rfl) (by kernel_rfl) (fun _ _ _ h => h) (Or.inl ⟨by rfl, ?hd14⟩) (by assumption) ?rd14
              case hd14 => (intro w0 hSw; (try dsimp only at hSw); go_simp; try (with_reducible rfl))
              simp only [Act.put, List.setIfInBounds_toArray, List.set_cons_zero, List.set_cons_succ]
              refine wpAnyH_take (i := 15) (oi := { dst := some 52, op := Op.load 9 (Operand.tmp 51), type := 9, pos := "kindredref12.go:110", after := #[{ on := 14, ground := Ground.data }, { on := 2, ground := Ground.guard }], guard := some (2, true) }) (v := ?vd15) rfl (by kernel_rfl) (by kernel_rfl) (by kernel_rfl) (fun _ _ _ h => h) (Or.inl ⟨by rfl, ?hd15⟩) (by assumption) ?rd15
              case hd15 => (intro w0 hSw; (try dsimp only at hSw); go_simp; try (with_reducible rfl))
              simp only [Act.put, List.setIfInBounds_toArray, List.set_cons_zero, List.set_cons_succ]
              refine wpAnyH_take (i := 16) (oi := { dst := some 53, op := Op.binOp BinOp.gtr 9 (Operand.tmp 44) (Operand.tmp 52) 9, type := 4, pos := "kindredref12.go:110", after := #[{ on := 7, ground := Ground.data }, { on := 15, ground := Ground.data }, { on := 2, ground := Ground.guard }], guard := some (2, true) }) (v := ?vd16) rfl (by kernel_rfl) (by kernel_rfl) (by kernel_rfl) (fun _ _ _ h => h) (Or.inl ⟨by rfl, ?hd16⟩) (by assumption) ?rd16
              case hd16 => (intro w0 hSw; (try dsimp only at hSw); go_simp; try (with_reducible rfl))
              simp only [Act.put, List.setIfInBounds_toArray, List.set_cons_zero, List.set_cons_succ]
              refine wpAnyH_take (i := 17) (oi := { dst := some 54, op := Op.pick (Operand.tmp 39) (Operand.tmp 53) (Operand.const (Value.bool false)), type := 4, pos := "kindredref12.go:110", after := #[{ on := 2, ground := Ground.data }, { on := 16, ground := Ground.data }], guard := none }) (v := ?vd17) rfl (by kernel_rfl) (by kernel_rfl) (by kernel_rfl) (fun _ _ _ h => h) (Or.inl ⟨by rfl, ?hd17⟩) (by assumption) ?rd17
              case hd17 => (intro w0 hSw; (try dsimp only at hSw); go_simp; try (with_reducible rfl))
              simp only [Act.put, List.setIfInBounds_toArray, List.set_cons_zero, List.set_cons_succ]
              refine wpAnyH_done (by kernel_rfl) ?_ _
              obtain ⟨wz, hwz⟩ : ∃ wz, wz = wr.drew := ⟨_, rfl⟩
              rw [← hwz]
              have HZ := Hid.mk (show RCH W wz g3 c3 x L k from by rw [hwz]; exact ⟨HK.out.be.drew, HK.out.row, HK.out.up⟩)
              obtain ⟨u0, z0, zf, -⟩ := HZ.out.hole (by have := HL.out.1; omega)
              have zf0 := zf k
              obtain ⟨cz0, cz1⟩ := HC.out wz HZ.out.be
              clear hwz zf HK p0 cw0 cw1
              go_wp2_with fail
              exact ⟨⟨i + 1, _, by push_cast; rfl, hil, Hid.mk (by rw [HX.out.1, HL.out.1]; exact RCH.fill HZ.out HL.out.2.2 HL.out.2.1 (by have := HL.out.1; omega) HLo.out)⟩, by simp only [intOf]; omega⟩
    · have i1 : ¬ (i : Int) < (ln : Int) := by omega
      have hE : RisO W (lives T) (.returned u3) wr := ⟨u3, L, rfl, by
        have := HJ.out
        rwa [List.take_of_length_le (by have := HT.out.2; omega)] at this⟩
      have HE := Hid.mk hE
      clear hE
      go_wp2_with fail
      go_ret
      exact HE.out
end Go.Proofs.YtnnbcdfpbdmgdaaDoor
set_option linter.unusedVariables false
set_option linter.unusedSimpArgs false
namespace Go.Proofs.YtnnbcdfpbdmgdaaDoor
open Go.RowKit Go.Maps Go.Sort Go.Proofs.BitMath Go.Proofs.TreeMath
theorem sv_map' {n : Nat} (A : List (Cd n)) : A.map sV = (A.map (·.1)).map .string := by rw [List.map_map]; rfl
/-- While the codes are hung anew. -/
structure RDI {n : Nat} (B : Nat) (W : World) (t wd : Nat) (v : Value) (sn : Int) (cs : List (Cd n)) (u : Value) (k : Nat) (wr : World) (v' : Value) : Prop where
  rt : RT B wr t wd (hangs dC [] (cs.take k)) v' sn
  st : Stay (fun k => k = t ∨ v.ownBlock = some k) W wr
  loc : ∀ k, v'.ownBlock = some k → W.heap.size ≤ k
  row : wr.ownsRow W.heap.size 9 1 u cs.length (cs.map sV)
theorem RDI.next {n : Nat} {B : Nat} {W : World} {t wd : Nat} {v : Value} {sn : Int} {cs : List (Cd n)} {u : Value} {k : Nat} {wr w' : World} {v' : Value} (h : RDI B W t wd v sn cs u k wr v') (htW : t < W.heap.size) (hk : k < cs.length) (m : RMoved B wr w' t wd (TreeMath.hang dC (hangs dC [] (cs.take k)) cs[k]) v' sn) : ∃ v'', RDI B W t wd v sn cs u (k + 1) w' v'' := by
  obtain ⟨⟨v'', h1, h2⟩, h3⟩ := m
  refine ⟨v'', ⟨?_, ?_, ?_, ?_⟩⟩
  · rw [List.take_succ_eq_append_getElem hk, hangs_snoc]
    exact h1
  · refine h.st.andThen h3 (fun i hi e => ?_)
    rcases e with e | e
    · exact .inl e
    · have := h.loc i e; omega
  · intro k hk
    rcases h2 k hk with e | e
    · exact h.loc k e
    · exact Nat.le_trans h.st.size e
  · refine row_kept h.row h3 (fun k hk e => ?_)
    obtain ⟨cur, hc⟩ := row_block h.row hk
    rcases e with e | e
    · rw [e, h.rt.tree] at hc; simp at hc
    · obtain ⟨cur2, hc2⟩ := row_block h.rt.row e
      rw [hc2] at hc; simp at hc
/-- What Drop of the document's tree does. -/
def RDropO {n : Nat} (B : Nat) (W : World) (t wd : Nat) (T : List (Nd (Cd n))) (v : Value) (sn : Int) (s : ByteArray) (r : Ending) (w' : World) : Prop :=
  ((∀ c ∈ lives T, c.1 ≠ s) ∧ r = .returned (.bool false) ∧ Drew W w') ∨
  ∃ j nd, T[j]? = some nd ∧ nd.code.1 = s ∧ nd.live = true ∧ r = .returned (.bool true) ∧
    ((T.length ≤ 2 * (lives (setLive T j false)).length + 16 ∧ RMoved B W w' t wd (setLive T j false) v sn) ∨
     (2 * (lives (setLive T j false)).length + 16 < T.length ∧ ∃ cs : List (Cd n), cs.Perm (lives (setLive T j false)) ∧ Rising cs ∧ RMoved B W w' t wd (hangs dC [] cs) v sn))
set_option maxHeartbeats 4000000 in
set_option maxRecDepth 100000 in
theorem rdrop_any {n B t wd : Nat} {T : List (Nd (Cd n))} {v : Value} {sn : Int} (W : World) (h : RT B W t wd T v sn) (s : ByteArray) (hB : B ≤ W.heap.size) :
    Calls Tryd.prog 44 #[.pointer (some ⟨t, 0, none⟩), .string s] W (RDropO B W t wd T v sn s) := by
  obtain ⟨t0, t1, t2, tf⟩ := h.cell
  have hnd := node_any W h s
  have HT := Hid.mk h
  clear h
  go_enter Tryd.func44, Tryd.ntmps44
  go_wp2_with fail
  refine hnd.mono ?_
  rintro e w1 ⟨k, rfl, hk, hd⟩
  have hw1 := HT.out.below (hd.below _)
  have hb1 : Below W.heap.size W w1 := hd.below _
  rcases hk with ⟨rfl, hno⟩ | ⟨j, nd, rfl, hj, hjs⟩
  · have HF := Hid.mk (show RDropO B W t wd T v sn s (.returned (.bool false)) w1 from .inl ⟨fun c hc e => by
      obtain ⟨j, m, a1, -, a3⟩ := mem_lives.1 hc
      exact hno j m a1 (by rw [a3]; exact e), rfl, hd⟩)
    clear hno hd hw1 hb1
    go_wp2
    all_goals (go_ret; exact HF.out)
  · obtain ⟨hjl, hje⟩ := List.getElem?_eq_some_iff.1 hj
    obtain ⟨g, cp, rfl, -, c1, -, -, cf, -, -⟩ := hw1.at_ j hjl
    have cf1 := cf (j * 4 + 1)
    rw [hje] at c1
    obtain ⟨s0, s1, s2, sf⟩ := hw1.cell
    have j0 : ¬ (j : Int) < 0 := by omega
    have j1 : (j : Int) < (T.length : Int) := by omega
    have j2 : 0 ≤ (j : Int) := by omega
    cases hlv : nd.live with
    | false =>
      rw [hlv] at c1
      have HF := Hid.mk (show RDropO B W t wd T (.slice (some ⟨g, 0, none⟩) T.length cp) sn s (.returned (.bool false)) w1 from .inl ⟨fun c hc e => by
        obtain ⟨i, m, a1, a2, a3⟩ := mem_lives.1 hc
        have : i = j := HT.out.wf.codes i j m nd a1 hj (Subtype.ext (by rw [a3, hjs]; exact e))
        subst this
        rw [a1] at hj
        cases hj
        rw [hlv] at a2
        (cases a2), rfl, hd⟩)
      clear hd hw1 hb1 hnd HT hje hj hjs hlv cf
      go_wp2
      all_goals (go_ret; exact HF.out)
    | true =>
      rw [hlv] at c1
      have hm := hw1.relive hjl false
      obtain ⟨w2, hw2⟩ : ∃ w2, w2 = w1.setCell ⟨g, j * 4 + 1, none⟩ (.bool false) := ⟨_, rfl⟩
      rw [← hw2] at hm
      have hmF := hm.from hb1
      have hrt2 : RT B w2 t wd (setLive T j false) (.slice (some ⟨g, 0, none⟩) T.length cp) sn := by
        have hst : Stay (fun k => k = g) w1 w2 := by rw [hw2]; exact Stay.setCell (F := fun k => k = g) (Stay.refl _ w1) (fun _ => rfl) _
        refine { wid := hw1.wid, eight := hw1.eight, wf := hw1.wf.setLive j false, tree := (hst.block t hw1.lt (fun e => (hw1.nb rfl) e.symm)).trans hw1.tree, row := ?_, small := by rw [setLive_len]; exact hw1.small, lk := hw1.lk }
        rw [setLive_len, ← live_flat false T j hjl, hw2]
        exact (World.ownsRow.stored hw1.row _ _).1
      have hlen := rlen_any w2 hrt2
      obtain ⟨lv, hlvn⟩ : ∃ lv, lv = (lives (setLive T j false)).length := ⟨_, rfl⟩
      rw [← hlvn] at hlen
      have hlvT : lv ≤ T.length := by
        rw [hlvn]
        have := lives_len_le (setLive T j false)
        rw [setLive_len] at this
        exact this
      have hsm := hw1.small
      obtain ⟨ln, hln⟩ : ∃ ln, ln = T.length := ⟨_, rfl⟩
      have HM := Hid.mk (And.intro hmF (And.intro hrt2 (And.intro hb1 (And.intro hd (And.intro hlvn (And.intro hln (And.intro hj (And.intro hjs hlv))))))))
      rw [← hln] at s1 hlvT hsm j1
      clear hm hmF hrt2 hb1 hd hlvn hln hj hjs hje hlv hnd cf hw1
      go_wp2_with fail
      rw [← hw2]
      clear hw2 c1 s0 s1 s2 sf cf1
      refine hlen.mono ?_
      rintro e w3 ⟨rfl, hd3⟩
      have hrt3 := HM.out.2.1.below (hd3.below _)
      obtain ⟨s0, s1, s2, sf⟩ := hrt3.cell
      have sf1 := sf 1
      rw [← HM.out.2.2.2.2.2.1] at s1
      have b23 : Below w2.heap.size w2 w3 := hd3.below _
      by_cases hcond : 2 * lv + 16 < ln
      · have q1 : (lv : Int) + 16 < (ln : Int) - (lv : Int) := by omega
        have wr1 : IntKind.i64.wrap ((ln : Int) - (lv : Int)) = ((ln - lv : Nat) : Int) := by rw [IntKind.wrap_i64]; omega
        have wr2 : IntKind.i64.wrap ((lv : Int) + 16) = ((lv + 16 : Nat) : Int) := by rw [IntKind.wrap_i64]; omega
        have q2 : ((lv + 16 : Nat) : Int) < ((ln - lv : Nat) : Int) := by omega
        have hris := rising_any w3 hrt3
        have H3 := Hid.mk (And.intro hrt3 (And.intro b23 hcond))
        clear hrt3 b23 hcond hd3 hlen sf
        go_wp2_with fail
        refine hris.mono ?_
        rintro e w4 ⟨u, cs, rfl, hci⟩
        have hrt4 := H3.out.1.below hci.be
        obtain ⟨x0, x1, x2, xf⟩ := hrt4.cell
        have xf1 := xf 1
        have hcp := hci.rs.perm hrt4.wf.lives_nodup
        obtain ⟨a4, c4, hu4, -⟩ := slice_form hci.row
        have hst4 : Stay (fun k => k = t ∨ (Value.slice (some ⟨g, 0, none⟩) T.length cp).ownBlock = some k) W w4 := by
          obtain ⟨-, hs2⟩ := HM.out.1
          exact (hs2.andThen (Stay.below (F := fun _ => False) H3.out.2.1) (fun _ _ e => e.elim)).andThen (Stay.below (F := fun _ => False) hci.be) (fun _ _ e => e.elim)
        have hW4 : W.heap.size ≤ w3.heap.size := Nat.le_trans HM.out.1.stay.size H3.out.2.1.size
        have hnil : RDI B W t wd (.slice (some ⟨g, 0, none⟩) T.length cp) sn cs u 0 (w4.setCell ⟨t, 1, none⟩ (.slice none 0 0)) (.slice none 0 0) := by
          have sN : Stay (fun k => k = t) w4 (w4.setCell ⟨t, 1, none⟩ (.slice none 0 0)) := Stay.setCell (F := fun k => k = t) (Stay.refl _ w4) (fun _ => rfl) _
          refine ⟨{ wid := hrt4.wid, eight := hrt4.eight, wf := WF.nil _, tree := setC_at hrt4.tree _, row := ⟨rfl, .inl ⟨rfl, rfl⟩⟩, small := Nat.zero_le _, lk := hrt4.lk }, hst4.andThen sN (fun k _ e => .inl e), fun k hk => (by cases hk), ?_⟩
          refine row_mono (row_kept hci.row sN (fun k hk e => ?_)) hW4
          obtain ⟨cur, hc⟩ := row_block hci.row hk
          rw [e, hrt4.tree] at hc; simp at hc
        subst hu4
        obtain ⟨nc, hnc⟩ : ∃ nc, nc = cs.length := ⟨_, rfl⟩
        have hcl : nc = lv := by rw [hnc, hcp.length_eq, ← HM.out.2.2.2.2.1]
        have hnodup : cs.Nodup := hci.rs.nodup
        have hncs : nc < 1099511627776 := by omega
        have HI := Hid.mk (And.intro hnil (And.intro hnc (And.intro hnodup (And.intro hcp (And.intro hci.rs.srt HT.out.lt)))))
        obtain ⟨w5, hw5⟩ : ∃ w5, w5 = w4.setCell ⟨t, 1, none⟩ (.slice none 0 0) := ⟨_, rfl⟩
        rw [← hw5] at HI
        rw [← hnc]
        clear hnil hnc hnodup hcp hci hrt4 hst4 hW4 xf hris hcl
        go_wp2_with fail
        rw [← hw5]
        clear hw5 x0 x1 x2 xf1 s0 s1 s2 sf1
        go_loopw [8] (fun u8 wr => ∃ (k : Nat) (v' : Value), u8 = .int .i64 k ∧ k ≤ nc ∧ Hid (RDI B W t wd (.slice (some ⟨g, 0, none⟩) T.length cp) sn cs (.slice a4 cs.length c4) k wr v')) (fun u8 _ => nc - (intOf u8).toNat)
        case atStart => exact ⟨0, _, rfl, Nat.zero_le _, Hid.mk HI.out.1⟩
        case round =>
          obtain ⟨k, v', rfl, hk, HK⟩ := hrel
          by_cases hkl : k < nc
          · have hkc : k < cs.length := by have := HI.out.2.1; omega
            have k1 : (k : Int) < (nc : Int) := by omega
            have k2 : 0 ≤ (k : Int) := by omega
            have hwk : IntKind.i64.wrap ((k : Int) + 1) = ((k + 1 : Nat) : Int) := by rw [IntKind.wrap_i64]; omega
            obtain ⟨g4, c4', e4, cc⟩ : ∃ g4 c4', Value.slice a4 cs.length c4 = .slice (some ⟨g4, 0, none⟩) cs.length c4' ∧ wr.cell? ⟨g4, k, none⟩ = some (.string cs[k].1) := by
              obtain ⟨a', c', e', -, hs⟩ := StA.row (l := cs.map (·.1)) (by rw [List.length_map, ← sv_map']; exact HK.out.row)
              rw [List.length_map] at e'
              obtain ⟨g', eg, hc⟩ := hs k (by rw [List.length_map]; exact hkc)
              subst eg
              exact ⟨g', c', e', by rw [hc, List.getElem_map]⟩
            cases e4
            have hnd2 := HI.out.2.2.1
            have hcd : (hangs dC ([] : List (Nd (Cd n))) (cs.take k)).map Nd.code = cs.take k := by
              have := hangs_codes (d := dC) dC_zero (cs.take k) ([] : List (Nd (Cd n))) (WF.nil _) (by simpa using hnd2.sublist (List.take_sublist k cs))
              simpa using this
            have hlk : (hangs dC ([] : List (Nd (Cd n))) (cs.take k)).length ≤ k := by
              have := congrArg List.length hcd
              rw [List.length_map, List.length_take] at this
              omega
            have hh := rhang_any wr HK.out.rt cs[k] (fun x hx e => by
              have h1 : x.code ∈ cs.take k := by rw [← hcd]; exact List.mem_map.2 ⟨x, hx, rfl⟩
              rw [e] at h1
              obtain ⟨i, hi, e2⟩ := List.getElem_of_mem h1
              rw [List.length_take] at hi
              rw [List.getElem_take] at e2
              exact List.pairwise_iff_getElem.1 hnd2 i k (by omega) hkc (by omega) e2) (by omega) (Nat.le_trans hB HK.out.st.size)
            have HN := Hid.mk (fun w' m => HK.out.next HI.out.2.2.2.2.2 hkc (w' := w') m)
            obtain ⟨c, hc⟩ : ∃ c, c = cs[k] := ⟨_, rfl⟩
            rw [← hc] at cc hh HN
            clear hcd hnd2 hlk hc
            go_wp2_with (first
              | (go_at_call 61; refine hh.mono ?_; rintro e w6 ⟨rfl, m6⟩)
              | go_in)
            obtain ⟨v'', h6⟩ := HN.out _ m6
            exact ⟨⟨k + 1, v'', by push_cast; rfl, hkl, Hid.mk h6⟩, by simp only [intOf]; omega⟩
          · have k1 : ¬ (k : Int) < (nc : Int) := by omega
            have hE : RDropO B W t wd T (.slice (some ⟨g, 0, none⟩) T.length cp) sn s (.returned (.bool true)) wr := by
              obtain ⟨-, -, -, -, m5, m6, m7, m8, m9⟩ := HM.out
              refine .inr ⟨j, nd, m7, m8, m9, rfl, .inr ⟨by rw [← m5, ← m6]; exact H3.out.2.2, cs, HI.out.2.2.2.1, HI.out.2.2.2.2.1, ⟨v', ?_, fun k hk => .inr (HK.out.loc k hk)⟩, HK.out.st⟩⟩
              have := HK.out.rt
              rwa [List.take_of_length_le (by have := HI.out.2.1; omega)] at this
            have HE := Hid.mk hE
            clear hE
            go_wp2_with fail
            go_ret
            exact HE.out
      · have q2 : ¬ ((lv + 16 : Nat) : Int) < ((ln - lv : Nat) : Int) := by omega
        have wr1 : IntKind.i64.wrap ((ln : Int) - (lv : Int)) = ((ln - lv : Nat) : Int) := by rw [IntKind.wrap_i64]; omega
        have wr2 : IntKind.i64.wrap ((lv : Int) + 16) = ((lv + 16 : Nat) : Int) := by rw [IntKind.wrap_i64]; omega
        have hE : RDropO B W t wd T (.slice (some ⟨g, 0, none⟩) T.length cp) sn s (.returned (.bool true)) w3 := by
          obtain ⟨⟨⟨v', n1, n2⟩, n3⟩, -, -, -, m5, m6, m7, m8, m9⟩ := HM.out
          exact .inr ⟨j, nd, m7, m8, m9, rfl, .inl ⟨by rw [← m5, ← m6]; omega, ⟨v', n1.below b23, n2⟩, n3.andThen (Stay.below (F := fun _ => False) b23) (fun _ _ e => e.elim)⟩⟩
        have HE := Hid.mk hE
        clear hE hrt3 b23 hcond hd3 hlen sf
        go_wp2_with fail
        go_ret
        exact HE.out
end Go.Proofs.YtnnbcdfpbdmgdaaDoor
set_option linter.unusedVariables false
set_option linter.unusedSimpArgs false
namespace Go.Proofs.YtnnbcdfpbdmgdaaDoor
open Go.RowKit Go.Maps Go.Sort Go.Proofs.BitMath Go.Proofs.TreeMath
/-- While a hit's place is sought: the row has a hole at k; the hit lies in a box. -/
structure PCH {n : Nat} (B : Nat) (W wr : World) (g c hb : Nat) (x : Nat × Cd n) (L : List (Nat × Cd n)) (k : Nat) : Prop where
  be : Below B W wr
  row : ∃ u0 u1 u2, wr.ownsRow B 36 3 (.slice (some ⟨g, 0, none⟩) (L.length + 1) c) (L.length + 1) (holed L k [u0, u1, u2])
  up : ∀ j (hj : j < L.length), k ≤ j → hlt x L[j]
  bx : wr.heap[hb]? = some (.cells #[.int .i64 (x.1 : Nat), .int .i64 0, .string x.2.1] 36 (0, 0))
  ne : g ≠ hb
theorem PCH.drew {n : Nat} {B : Nat} {W wr : World} {g c hb : Nat} {x : Nat × Cd n} {L : List (Nat × Cd n)} {k : Nat} (h : PCH B W wr g c hb x L k) : PCH B W wr.drew g c hb x L k := ⟨h.be.drew, h.row, h.up, h.bx, h.ne⟩
theorem PCH.box {n : Nat} {B : Nat} {W wr : World} {g c hb : Nat} {x : Nat × Cd n} {L : List (Nat × Cd n)} {k : Nat} (h : PCH B W wr g c hb x L k) : wr.cell? ⟨hb, 0, none⟩ = some (.int .i64 (x.1 : Nat)) ∧ wr.cell? ⟨hb, 1, none⟩ = some (.int .i64 0) ∧ wr.cell? ⟨hb, 2, none⟩ = some (.string x.2.1) := by
  refine ⟨?_, ?_, ?_⟩ <;> simp [World.cell?, h.bx]
theorem stay3 (w : World) (g o : Nat) (x y z : Value) : Stay (fun k => k = g) w (set3 w g o x y z) := Stay.setCell (F := fun k => k = g) (Stay.setCell (F := fun k => k = g) (Stay.setCell (F := fun k => k = g) (Stay.refl _ w) (fun _ => rfl) _) (fun _ => rfl) _) (fun _ => rfl) _
theorem PCH.hole {n : Nat} {B : Nat} {W wr : World} {g c hb : Nat} {x : Nat × Cd n} {L : List (Nat × Cd n)} {k : Nat} (h : PCH B W wr g c hb x L k) (hk : k ≤ L.length) :
    ∃ u0 u1 u2, wr.cell? ⟨g, k * 3, none⟩ = some u0 ∧ wr.cell? ⟨g, k * 3 + 1, none⟩ = some u1 ∧ wr.cell? ⟨g, k * 3 + 2, none⟩ = some u2 ∧ (∀ j, wr.frozen? ⟨g, j, none⟩ = false) ∧ ∀ y0 y1 y2, (set3 wr g (k * 3) y0 y1 y2).ownsRow B 36 3 (.slice (some ⟨g, 0, none⟩) (L.length + 1) c) (L.length + 1) (holed L k [y0, y1, y2]) := by
  obtain ⟨u0, u1, u2, hr⟩ := h.row
  refine ⟨u0, u1, u2, ?_, ?_, ?_, (row_at hr 0 (by omega)).2, fun y0 y1 y2 => ?_⟩
  · rw [(row_at hr (k * 3) (by omega)).1]; exact holed_at hk _ rfl 0 (by omega)
  · rw [(row_at hr (k * 3 + 1) (by omega)).1]; exact holed_at hk _ rfl 1 (by omega)
  · rw [(row_at hr (k * 3 + 2) (by omega)).1]; exact holed_at hk _ rfl 2 (by omega)
  · rw [← holed_set hk u0 u1 u2 y0 y1 y2]
    exact (World.ownsRow.stored (World.ownsRow.stored (World.ownsRow.stored hr _ _).1 _ _).1 _ _).1
theorem PCH.prev {n : Nat} {B : Nat} {W wr : World} {g c hb : Nat} {x : Nat × Cd n} {L : List (Nat × Cd n)} {k : Nat} (h : PCH B W wr g c hb x L (k + 1)) (hk : k + 1 ≤ L.length) :
    wr.cell? ⟨g, k * 3, none⟩ = some (.int .i64 (L[k].1 : Nat)) ∧ wr.cell? ⟨g, k * 3 + 1, none⟩ = some (.int .i64 0) ∧ wr.cell? ⟨g, k * 3 + 2, none⟩ = some (.string L[k].2.1) := by
  obtain ⟨u0, u1, u2, hr⟩ := h.row
  refine ⟨?_, ?_, ?_⟩
  · rw [(row_at hr (k * 3) (by omega)).1]; exact holed_prev hk _ 0 (by omega)
  · rw [(row_at hr (k * 3 + 1) (by omega)).1]; exact holed_prev hk _ 1 (by omega)
  · rw [(row_at hr (k * 3 + 2) (by omega)).1]; exact holed_prev hk _ 2 (by omega)
theorem PCH.step {n : Nat} {B : Nat} {W wr : World} {g c hb : Nat} {x y : Nat × Cd n} {L : List (Nat × Cd n)} {k m y1 : Nat} {ys : ByteArray} (hk : k = m + 1) (hm : m < L.length) (hy : y = L[m]) (h1 : y1 = y.1) (h2 : ys = y.2.1) (h : PCH B W wr g c hb x L k) (hg : B ≤ g) (hx : hlt x y) :
    PCH B W (set3 wr g (k * 3) (.int .i64 (y1 : Nat)) (.int .i64 0) (.string ys)) g c hb x L m := by
  subst hk h1 h2
  subst hy
  obtain ⟨u0, u1, u2, -, -, -, -, hs⟩ := h.hole hm
  have h1 := hs (.int .i64 (L[m].1 : Nat)) (.int .i64 0) (.string L[m].2.1)
  have e : holed L (m + 1) [.int .i64 (L[m].1 : Nat), .int .i64 0, .string L[m].2.1] = holed L m [.int .i64 (L[m].1 : Nat), .int .i64 0, .string L[m].2.1] := holed_step hm
  rw [e] at h1
  refine ⟨((h.be.setCell hg _).setCell hg _).setCell hg _, ⟨_, _, _, h1⟩, fun j hj hkj => ?_, ?_, h.ne⟩
  · by_cases ej : j = m
    · subst ej; exact hx
    · exact h.up j hj (by omega)
  · exact ((stay3 wr g _ _ _ _).block hb (Array.getElem?_eq_some_iff.1 h.bx).1 (fun e => h.ne e.symm)).trans h.bx
/-- What put leaves. -/
def PutO {n : Nat} (B : Nat) (W : World) (q : Cd n) (r : Nat) (A : List (Cd n)) (e : Ending) (w' : World) : Prop :=
  ∃ v L, e = .returned v ∧ Below B W w' ∧ w'.ownsRow B 36 3 v L.length (L.flatMap hV) ∧ ScL q r A L
theorem PCH.fill {n : Nat} {B : Nat} {W wr : World} {g c hb : Nat} {q : Cd n} {r : Nat} {A : List (Cd n)} {x : Cd n} {L : List (Nat × Cd n)} {k d : Nat} (hd : d = dC x q) (h : PCH B W wr g c hb (d, x) L k) (hs : ScL q r A L) (hg : B ≤ g) (hk : k ≤ L.length) (hr : d ≤ r) (hlo : ∀ j (hj : j < L.length), j < k → hlt L[j] (d, x)) :
    PutO B W q r (A ++ [x]) (.returned (.slice (some ⟨g, 0, none⟩) (L.length + 1) c)) (set3 wr g (k * 3) (.int .i64 (d : Nat)) (.int .i64 0) (.string x.1)) := by
  subst hd
  obtain ⟨u0, u1, u2, -, -, -, -, hs1⟩ := h.hole hk
  have h1 := hs1 (.int .i64 (dC x q : Nat)) (.int .i64 0) (.string x.1)
  have e : holed L k [.int .i64 (dC x q : Nat), .int .i64 0, .string x.1] = (L.take k ++ (dC x q, x) :: L.drop k).flatMap hV := holed_put (dC x q, x)
  have el : (L.take k ++ (dC x q, x) :: L.drop k).length = L.length + 1 := by simp; omega
  rw [e] at h1
  exact ⟨_, L.take k ++ (dC x q, x) :: L.drop k, rfl, ((h.be.setCell hg _).setCell hg _).setCell hg _, by rw [el]; exact h1, hs.put hr hlo h.up⟩
set_option maxHeartbeats 4000000 in
set_option maxRecDepth 100000 in
theorem put_any {n : Nat} {B : Nat} {q : Cd n} {r : Nat} {A : List (Cd n)} {L : List (Nat × Cd n)} {v : Value} (x : Cd n) (d : Nat) (W : World) (hd : d = dC x q) (hr : W.ownsRow B 36 3 v L.length (L.flatMap hV)) (hs : ScL q r A L) (hx : x ∉ A) (hdr : d ≤ r) (hB : B ≤ W.heap.size) (hl : L.length ≤ 1099511627776) :
    Calls Tryd.prog 72 #[v, .agg #[.int .i64 (d : Nat), .int .i64 0, .string x.1]] W (PutO B W q r (A ++ [x])) := by
  obtain ⟨i0, hi0, hz0, hz1, hz2⟩ := info_parts infH
  obtain ⟨a7, c7, rfl, hc7⟩ := slice_form hr
  have hb1 : L.length + 1 ≤ maxLen := by unfold maxLen; omega
  have hb2 : (L.length + 1) * 32 ≤ 140737488355328 := by omega
  obtain ⟨WA, hWA⟩ : ∃ WA, WA = W.alloc (.cells #[.int .i64 (d : Nat), .int .i64 0, .string x.1] 36) := ⟨_, rfl⟩
  have bA : Below W.heap.size W WA := by rw [hWA]; exact (Below.refl _ W).alloc (Nat.le_refl _) _
  have hbx : WA.heap[W.heap.size]? = some (.cells #[.int .i64 (d : Nat), .int .i64 0, .string x.1] 36 (0, 0)) := by rw [hWA]; exact Array.getElem?_push_size
  obtain ⟨hb, hhb⟩ : ∃ hb, hb = W.heap.size := ⟨_, rfl⟩
  have a0 : WA.cell? ⟨hb, 0, none⟩ = some (.int .i64 (d : Nat)) := by rw [hhb]; simp [World.cell?, hbx]
  have a1 : WA.cell? ⟨hb, 1, none⟩ = some (.int .i64 0) := by rw [hhb]; simp [World.cell?, hbx]
  have a2 : WA.cell? ⟨hb, 2, none⟩ = some (.string x.1) := by rw [hhb]; simp [World.cell?, hbx]
  have rA := row_kept (F := fun _ => False) hr (.below bA) (fun _ _ h => h)
  have hsA : WA.heap.size = hb + 1 := by rw [hWA, hhb]; simp
  have HA := Hid.mk (And.intro bA (And.intro hbx (And.intro hhb (And.intro rA (And.intro hsA (And.intro hr hB))))))
  have HX := Hid.mk (And.intro hx (And.intro hd hs))
  have hbA : B ≤ WA.heap.size := Nat.le_trans hB bA.size
  have hcn : ∀ j u, ([.int .i64 (d : Nat), .int .i64 0, .string x.1] : List Value)[j]? = some u → ((W.alloc (.cells #[.int .i64 (d : Nat), .int .i64 0, .string x.1] 36)).alloc (.cells #[.int .i64 (d : Nat), .int .i64 0, .string x.1] 36)).cell? ((⟨W.heap.size + 1, 0, none⟩ : Addr).add j) = some u := by
    have := cell_three_new (W.alloc (.cells #[.int .i64 (d : Nat), .int .i64 0, .string x.1] 36)) (.int .i64 (d : Nat)) (.int .i64 0) (.string x.1) 36
    rw [World.size_alloc] at this
    exact this
  obtain ⟨v3, w3, hap, hr3, hg3, -, hloc⟩ := run_append_own_at (P := Tryd.prog) ((W.alloc (.cells #[.int .i64 (d : Nat), .int .i64 0, .string x.1] 36)).alloc (.cells #[.int .i64 (d : Nat), .int .i64 0, .string x.1] 36)) B 32 32 36 i0 (.agg #[.int .i64 0, .int .i64 0, .string ⟨#[]⟩]) 3 32 Tryd.underlying32 hi0 hz0 hz1 hz2 rfl (by decide) (.slice a7 L.length c7) L.length (L.flatMap hV) ((hr.alloc _).alloc _) ⟨W.heap.size + 1, 0, none⟩ 1 1 [.int .i64 (d : Nat), .int .i64 0, .string x.1] rfl hcn (by simp [Value.oneCell']) hb1 hb2 (by simp; omega)
  have b3 : Below B W w3 := (((Below.refl B W).alloc hB _).alloc (by simp; omega) _).grown hg3 (by simp; omega) (fun j hj => (hr.lt j hj).1)
  obtain ⟨nL, hnL⟩ : ∃ nL, nL = L.length := ⟨_, rfl⟩
  obtain ⟨g3, c3, hv3, hg3B⟩ : ∃ g3 c3, v3 = .slice (some ⟨g3, 0, none⟩) (nL + 1) c3 ∧ B ≤ g3 := by
    rcases hr3.2 with ⟨h2, h3⟩ | ⟨g3, c3, cur, h2, h3, -⟩
    · omega
    · exact ⟨g3, c3, by rw [hnL]; exact h2, h3⟩
  have hne3 : g3 ≠ hb := fun e => by
    rw [hv3] at hloc
    rcases hloc with h | h
    · have := row_lt hr (k := g3) h.symm
      omega
    · have h2 : g3 = ((W.alloc (.cells #[.int .i64 (d : Nat), .int .i64 0, .string x.1] 36)).alloc (.cells #[.int .i64 (d : Nat), .int .i64 0, .string x.1] 36)).heap.size := Option.some.inj h
      rw [e, hhb] at h2
      simp at h2
      omega
  have hbx3 : w3.heap[hb]? = some (.cells #[.int .i64 (d : Nat), .int .i64 0, .string x.1] 36 (0, 0)) := by
    have h2 := hg3.block hb (by simp; omega) (fun e => by
      have := row_lt hr (k := hb) e.symm
      omega)
    rw [h2, Below.heap_alloc _ _ _ (by simp; omega), hhb]
    exact Array.getElem?_push_size
  subst hv3
  have H3 := Hid.mk (show PCH B W w3 g3 c3 hb (d, x) L L.length from ⟨b3, ⟨_, _, _, by unfold holed; rw [List.take_length, List.drop_length]; rw [hnL] at hr3; exact hr3⟩, fun j hj h => by omega, hbx3, hne3⟩)
  have HAP := Hid.mk hap
  have HL := Hid.mk (And.intro hnL (And.intro hg3B (And.intro hs hhb)))
  rw [← hnL] at HAP H3 hl ⊢
  clear bA hbx hr hs hx hd hB hc7 hsA hcn a0 a1 a2 rA hbA hap hr3 hg3 hloc b3 hne3 hbx3 hg3B hnL hb1 hb2 hWA HA hhb
  go_enter Tryd.func72, Tryd.ntmps72
  go_wp2_with (first
    | (at_builtin; refine wpList_append_eq rfl _ _ _ _ rfl _ _ _ _ rfl rfl HAP.out ?_)
    | go_in)
  rw [← HL.out.2.2.2]
  go_loopw [5] (fun u wr => ∃ k : Nat, u = .int .i64 k ∧ k ≤ nL ∧ Hid (PCH B W wr g3 c3 hb (d, x) L k)) (fun u _ => (intOf u).toNat)
  case atStart => exact ⟨nL, rfl, Nat.le_refl _, H3⟩
  case round =>
    obtain ⟨k, rfl, hk, HK⟩ := hrel
    have kb0 : (0 : Int) ≤ (k : Int) := by omega
    have kb1 : (k : Int) < (nL : Int) + 1 := by omega
    obtain ⟨bx0, bx1, bx2⟩ := HK.out.box
    rcases Nat.eq_zero_or_pos k with hk0 | hk0
    · have k1 : decide ((0 : Int) < (k : Int)) = false := by simp; omega
      have k2 : decide (0 < k) = false := by simp; omega
      have HLo := Hid.mk (show ∀ j (hj : j < L.length), j < k → hlt L[j] (d, x) from fun j hj h => by omega)
      clear hk0
      go_wp2_with fail
      refine wp_region_held_drew (S := fun _ => True) (by kernel_rfl) ?_ (fun hHeld => ?_)
      · trivial
      refine wpAnyH_take (i := 0) (oi := { dst := some 12, op := Op.move (Operand.tmp 5), type := 3, pos := "kindredref12.go:174", after := #[], guard := none }) (v := ?va0) rfl (by kernel_rfl) (by kernel_rfl) (by kernel_rfl) (fun _ _ _ h => h) (Or.inl ⟨by rfl, ?ha0⟩) (by assumption) ?ra0
      case ha0 => (intro w0 hSw; (try dsimp only at hSw); go_simp; try (with_reducible rfl))
      simp only [Act.put, List.setIfInBounds_toArray, List.set_cons_zero, List.set_cons_succ]
      refine wpAnyH_take (i := 1) (oi := { dst := some 13, op := Op.binOp BinOp.gtr 3 (Operand.tmp 12) (Operand.const (Value.int IntKind.i64 0)) 3, type := 4, pos := "kindredref12.go:174", after := #[{ on := 0, ground := Ground.data }], guard := none }) (v := ?va1) rfl (by kernel_rfl) (by kernel_rfl) (by kernel_rfl) (fun _ _ _ h => h) (Or.inl ⟨by rfl, ?ha1⟩) (by assumption) ?ra1
      case ha1 => (intro w0 hSw; (try dsimp only at hSw); go_simp; try (with_reducible rfl))
      simp only [Act.put, List.setIfInBounds_toArray, List.set_cons_zero, List.set_cons_succ]
      refine wpAnyH_take (i := 2) (oi := { dst := some 14, op := Op.move (Operand.tmp 13), type := 4, pos := "kindredref12.go:174", after := #[{ on := 1, ground := Ground.data }], guard := none }) (v := ?va2) rfl (by kernel_rfl) (by kernel_rfl) (by kernel_rfl) (fun _ _ _ h => h) (Or.inl ⟨by rfl, ?ha2⟩) (by assumption) ?ra2
      case ha2 => (intro w0 hSw; (try dsimp only at hSw); go_simp; try (with_reducible rfl))
      simp only [Act.put, List.setIfInBounds_toArray, List.set_cons_zero, List.set_cons_succ]
      refine wpAnyH_take (i := 3) (oi := { dst := some 15, op := Op.move (Operand.tmp 0), type := 32, pos := "kindredref12.go:174", after := #[{ on := 2, ground := Ground.guard }], guard := some (2, true) }) rfl (by kernel_rfl) (by kernel_rfl) (by kernel_rfl) (fun _ _ _ h => h) (Or.inr ⟨by rfl, rfl⟩) (by assumption) ?_
      simp only [Act.put, List.setIfInBounds_toArray, List.set_cons_zero, List.set_cons_succ]
      refine wpAnyH_take (i := 4) (oi := { dst := some 16, op := Op.move (Operand.tmp 5), type := 3, pos := "kindredref12.go:174", after := #[{ on := 2, ground := Ground.guard }], guard := some (2, true) }) rfl (by kernel_rfl) (by kernel_rfl) (by kernel_rfl) (fun _ _ _ h => h) (Or.inr ⟨by rfl, rfl⟩) (by assumption) ?_
      simp only [Act.put, List.setIfInBounds_toArray, List.set_cons_zero, List.set_cons_succ]
      refine wpAnyH_take (i := 5) (oi := { dst := some 17, op := Op.binOp BinOp.sub 3 (Operand.tmp 16) (Operand.const (Value.int IntKind.i64 1)) 3, type := 3, pos := "kindredref12.go:174", after := #[{ on := 4, ground := Ground.data }, { on := 2, ground := Ground.guard }], guard := some (2, true) }) rfl (by kernel_rfl) (by kernel_rfl) (by kernel_rfl) (fun _ _ _ h => h) (Or.inr ⟨by rfl, rfl⟩) (by assumption) ?_
      simp only [Act.put, List.setIfInBounds_toArray, List.set_cons_zero, List.set_cons_succ]
      refine wpAnyH_take (i := 6) (oi := { dst := some 18, op := Op.indexAddr 32 (Operand.tmp 15) (Operand.tmp 17), type := 0, pos := "kindredref12.go:174", after := #[{ on := 3, ground := Ground.data }, { on := 5, ground := Ground.data }, { on := 2, ground := Ground.guard }], guard := some (2, true) }) rfl (by kernel_rfl) (by kernel_rfl) (by kernel_rfl) (fun _ _ _ h => h) (Or.inr ⟨by rfl, rfl⟩) (by assumption) ?_
      simp only [Act.put, List.setIfInBounds_toArray, List.set_cons_zero, List.set_cons_succ]
      refine wpAnyH_take (i := 7) (oi := { dst := some 19, op := Op.fieldAddr 36 (Operand.tmp 18) 0, type := 0, pos := "kindredref12.go:174", after := #[{ on := 6, ground := Ground.data }, { on := 2, ground := Ground.guard }], guard := some (2, true) }) rfl (by kernel_rfl) (by kernel_rfl) (by kernel_rfl) (fun _ _ _ h => h) (Or.inr ⟨by rfl, rfl⟩) (by assumption) ?_
      simp only [Act.put, List.setIfInBounds_toArray, List.set_cons_zero, List.set_cons_succ]
      refine wpAnyH_take (i := 8) (oi := { dst := some 20, op := Op.load 3 (Operand.tmp 19), type := 3, pos := "kindredref12.go:174", after := #[{ on := 7, ground := Ground.data }, { on := 2, ground := Ground.guard }], guard := some (2, true) }) rfl (by kernel_rfl) (by kernel_rfl) (by kernel_rfl) (fun _ _ _ h => h) (Or.inr ⟨by rfl, rfl⟩) (by assumption) ?_
      simp only [Act.put, List.setIfInBounds_toArray, List.set_cons_zero, List.set_cons_succ]
      refine wpAnyH_take (i := 9) (oi := { dst := some 21, op := Op.fieldAddr 36 (Operand.tmp 3) 0, type := 0, pos := "kindredref12.go:174", after := #[{ on := 2, ground := Ground.guard }], guard := some (2, true) }) rfl (by kernel_rfl) (by kernel_rfl) (by kernel_rfl) (fun _ _ _ h => h) (Or.inr ⟨by rfl, rfl⟩) (by assumption) ?_
      simp only [Act.put, List.setIfInBounds_toArray, List.set_cons_zero, List.set_cons_succ]
      refine wpAnyH_take (i := 10) (oi := { dst := some 22, op := Op.load 3 (Operand.tmp 21), type := 3, pos := "kindredref12.go:174", after := #[{ on := 9, ground := Ground.data }, { on := 2, ground := Ground.guard }], guard := some (2, true) }) rfl (by kernel_rfl) (by kernel_rfl) (by kernel_rfl) (fun _ _ _ h => h) (Or.inr ⟨by rfl, rfl⟩) (by assumption) ?_
      simp only [Act.put, List.setIfInBounds_toArray, List.set_cons_zero, List.set_cons_succ]
      refine wpAnyH_take (i := 11) (oi := { dst := some 23, op := Op.binOp BinOp.gtr 3 (Operand.tmp 20) (Operand.tmp 22) 3, type := 4, pos := "kindredref12.go:174", after := #[{ on := 8, ground := Ground.data }, { on := 10, ground := Ground.data }, { on := 2, ground := Ground.guard }], guard := some (2, true) }) rfl (by kernel_rfl) (by kernel_rfl) (by kernel_rfl) (fun _ _ _ h => h) (Or.inr ⟨by rfl, rfl⟩) (by assumption) ?_
      simp only [Act.put, List.setIfInBounds_toArray, List.set_cons_zero, List.set_cons_succ]
      refine wpAnyH_take (i := 12) (oi := { dst := some 24, op := Op.move (Operand.tmp 23), type := 4, pos := "kindredref12.go:174", after := #[{ on := 11, ground := Ground.data }, { on := 2, ground := Ground.chain }, { on := 2, ground := Ground.guard }], guard := some (2, true) }) rfl (by kernel_rfl) (by kernel_rfl) (by kernel_rfl) (fun _ _ _ h => h) (Or.inr ⟨by rfl, rfl⟩) (by assumption) ?_
      simp only [Act.put, List.setIfInBounds_toArray, List.set_cons_zero, List.set_cons_succ]
      refine wpAnyH_take (i := 13) (oi := { dst := some 25, op := Op.move (Operand.tmp 0), type := 32, pos := "kindredref12.go:174", after := #[{ on := 12, ground := Ground.guard }], guard := some (12, false) }) rfl (by kernel_rfl) (by kernel_rfl) (by kernel_rfl) (fun _ _ _ h => h) (Or.inr ⟨by rfl, rfl⟩) (by assumption) ?_
      simp only [Act.put, List.setIfInBounds_toArray, List.set_cons_zero, List.set_cons_succ]
      refine wpAnyH_take (i := 14) (oi := { dst := some 26, op := Op.move (Operand.tmp 5), type := 3, pos := "kindredref12.go:174", after := #[{ on := 12, ground := Ground.guard }], guard := some (12, false) }) rfl (by kernel_rfl) (by kernel_rfl) (by kernel_rfl) (fun _ _ _ h => h) (Or.inr ⟨by rfl, rfl⟩) (by assumption) ?_
      simp only [Act.put, List.setIfInBounds_toArray, List.set_cons_zero, List.set_cons_succ]
      refine wpAnyH_take (i := 15) (oi := { dst := some 27, op := Op.binOp BinOp.sub 3 (Operand.tmp 26) (Operand.const (Value.int IntKind.i64 1)) 3, type := 3, pos := "kindredref12.go:174", after := #[{ on := 14, ground := Ground.data }, { on := 12, ground := Ground.guard }], guard := some (12, false) }) rfl (by kernel_rfl) (by kernel_rfl) (by kernel_rfl) (fun _ _ _ h => h) (Or.inr ⟨by rfl, rfl⟩) (by assumption) ?_
      simp only [Act.put, List.setIfInBounds_toArray, List.set_cons_zero, List.set_cons_succ]
      refine wpAnyH_take (i := 16) (oi := { dst := some 28, op := Op.indexAddr 32 (Operand.tmp 25) (Operand.tmp 27), type := 0, pos := "kindredref12.go:174", after := #[{ on := 13, ground := Ground.data }, { on := 15, ground := Ground.data }, { on := 12, ground := Ground.guard }], guard := some (12, false) }) rfl (by kernel_rfl) (by kernel_rfl) (by kernel_rfl) (fun _ _ _ h => h) (Or.inr ⟨by rfl, rfl⟩) (by assumption) ?_
      simp only [Act.put, List.setIfInBounds_toArray, List.set_cons_zero, List.set_cons_succ]
      refine wpAnyH_take (i := 17) (oi := { dst := some 29, op := Op.fieldAddr 36 (Operand.tmp 28) 0, type := 0, pos := "kindredref12.go:174", after := #[{ on := 16, ground := Ground.data }, { on := 12, ground := Ground.guard }], guard := some (12, false) }) rfl (by kernel_rfl) (by kernel_rfl) (by kernel_rfl) (fun _ _ _ h => h) (Or.inr ⟨by rfl, rfl⟩) (by assumption) ?_
      simp only [Act.put, List.setIfInBounds_toArray, List.set_cons_zero, List.set_cons_succ]
      refine wpAnyH_take (i := 18) (oi := { dst := some 30, op := Op.load 3 (Operand.tmp 29), type := 3, pos := "kindredref12.go:174", after := #[{ on := 17, ground := Ground.data }, { on := 12, ground := Ground.guard }], guard := some (12, false) }) rfl (by kernel_rfl) (by kernel_rfl) (by kernel_rfl) (fun _ _ _ h => h) (Or.inr ⟨by rfl, rfl⟩) (by assumption) ?_
      simp only [Act.put, List.setIfInBounds_toArray, List.set_cons_zero, List.set_cons_succ]
      refine wpAnyH_take (i := 19) (oi := { dst := some 31, op := Op.fieldAddr 36 (Operand.tmp 3) 0, type := 0, pos := "kindredref12.go:174", after := #[{ on := 12, ground := Ground.guard }], guard := some (12, false) }) rfl (by kernel_rfl) (by kernel_rfl) (by kernel_rfl) (fun _ _ _ h => h) (Or.inr ⟨by rfl, rfl⟩) (by assumption) ?_
      simp only [Act.put, List.setIfInBounds_toArray, List.set_cons_zero, List.set_cons_succ]
      refine wpAnyH_take (i := 20) (oi := { dst := some 32, op := Op.load 3 (Operand.tmp 31), type := 3, pos := "kindredref12.go:174", after := #[{ on := 19, ground := Ground.data }, { on := 12, ground := Ground.guard }], guard := some (12, false) }) rfl (by kernel_rfl) (by kernel_rfl) (by kernel_rfl) (fun _ _ _ h => h) (Or.inr ⟨by rfl, rfl⟩) (by assumption) ?_
      simp only [Act.put, List.setIfInBounds_toArray, List.set_cons_zero, List.set_cons_succ]
      refine wpAnyH_take (i := 21) (oi := { dst := some 33, op := Op.binOp BinOp.eql 3 (Operand.tmp 30) (Operand.tmp 32) 3, type := 4, pos := "kindredref12.go:174", after := #[{ on := 18, ground := Ground.data }, { on := 20, ground := Ground.data }, { on := 12, ground := Ground.guard }], guard := some (12, false) }) rfl (by kernel_rfl) (by kernel_rfl) (by kernel_rfl) (fun _ _ _ h => h) (Or.inr ⟨by rfl, rfl⟩) (by assumption) ?_
      simp only [Act.put, List.setIfInBounds_toArray, List.set_cons_zero, List.set_cons_succ]
      refine wpAnyH_take (i := 22) (oi := { dst := some 34, op := Op.move (Operand.tmp 33), type := 4, pos := "kindredref12.go:174", after := #[{ on := 21, ground := Ground.data }, { on := 12, ground := Ground.chain }, { on := 12, ground := Ground.guard }], guard := some (12, false) }) rfl (by kernel_rfl) (by kernel_rfl) (by kernel_rfl) (fun _ _ _ h => h) (Or.inr ⟨by rfl, rfl⟩) (by assumption) ?_
      simp only [Act.put, List.setIfInBounds_toArray, List.set_cons_zero, List.set_cons_succ]
      refine wpAnyH_take (i := 23) (oi := { dst := some 35, op := Op.move (Operand.tmp 0), type := 32, pos := "kindredref12.go:174", after := #[{ on := 22, ground := Ground.guard }], guard := some (22, true) }) rfl (by kernel_rfl) (by kernel_rfl) (by kernel_rfl) (fun _ _ _ h => h) (Or.inr ⟨by rfl, rfl⟩) (by assumption) ?_
      simp only [Act.put, List.setIfInBounds_toArray, List.set_cons_zero, List.set_cons_succ]
      refine wpAnyH_take (i := 24) (oi := { dst := some 36, op := Op.move (Operand.tmp 5), type := 3, pos := "kindredref12.go:174", after := #[{ on := 22, ground := Ground.guard }], guard := some (22, true) }) rfl (by kernel_rfl) (by kernel_rfl) (by kernel_rfl) (fun _ _ _ h => h) (Or.inr ⟨by rfl, rfl⟩) (by assumption) ?_
      simp only [Act.put, List.setIfInBounds_toArray, List.set_cons_zero, List.set_cons_succ]
      refine wpAnyH_take (i := 25) (oi := { dst := some 37, op := Op.binOp BinOp.sub 3 (Operand.tmp 36) (Operand.const (Value.int IntKind.i64 1)) 3, type := 3, pos := "kindredref12.go:174", after := #[{ on := 24, ground := Ground.data }, { on := 22, ground := Ground.guard }], guard := some (22, true) }) rfl (by kernel_rfl) (by kernel_rfl) (by kernel_rfl) (fun _ _ _ h => h) (Or.inr ⟨by rfl, rfl⟩) (by assumption) ?_
      simp only [Act.put, List.setIfInBounds_toArray, List.set_cons_zero, List.set_cons_succ]
      refine wpAnyH_take (i := 26) (oi := { dst := some 38, op := Op.indexAddr 32 (Operand.tmp 35) (Operand.tmp 37), type := 0, pos := "kindredref12.go:174", after := #[{ on := 23, ground := Ground.data }, { on := 25, ground := Ground.data }, { on := 22, ground := Ground.guard }], guard := some (22, true) }) rfl (by kernel_rfl) (by kernel_rfl) (by kernel_rfl) (fun _ _ _ h => h) (Or.inr ⟨by rfl, rfl⟩) (by assumption) ?_
      simp only [Act.put, List.setIfInBounds_toArray, List.set_cons_zero, List.set_cons_succ]
      refine wpAnyH_take (i := 27) (oi := { dst := some 39, op := Op.fieldAddr 36 (Operand.tmp 38) 2, type := 0, pos := "kindredref12.go:174", after := #[{ on := 26, ground := Ground.data }, { on := 22, ground := Ground.guard }], guard := some (22, true) }) rfl (by kernel_rfl) (by kernel_rfl) (by kernel_rfl) (fun _ _ _ h => h) (Or.inr ⟨by rfl, rfl⟩) (by assumption) ?_
      simp only [Act.put, List.setIfInBounds_toArray, List.set_cons_zero, List.set_cons_succ]
      refine wpAnyH_take (i := 28) (oi := { dst := some 40, op := Op.load 9 (Operand.tmp 39), type := 9, pos := "kindredref12.go:174", after := #[{ on := 27, ground := Ground.data }, { on := 22, ground := Ground.guard }], guard := some (22, true) }) rfl (by kernel_rfl) (by kernel_rfl) (by kernel_rfl) (fun _ _ _ h => h) (Or.inr ⟨by rfl, rfl⟩) (by assumption) ?_
      simp only [Act.put, List.setIfInBounds_toArray, List.set_cons_zero, List.set_cons_succ]
      refine wpAnyH_take (i := 29) (oi := { dst := some 41, op := Op.fieldAddr 36 (Operand.tmp 3) 2, type := 0, pos := "kindredref12.go:174", after := #[{ on := 22, ground := Ground.guard }], guard := some (22, true) }) rfl (by kernel_rfl) (by kernel_rfl) (by kernel_rfl) (fun _ _ _ h => h) (Or.inr ⟨by rfl, rfl⟩) (by assumption) ?_
      simp only [Act.put, List.setIfInBounds_toArray, List.set_cons_zero, List.set_cons_succ]
      refine wpAnyH_take (i := 30) (oi := { dst := some 42, op := Op.load 9 (Operand.tmp 41), type := 9, pos := "kindredref12.go:174", after := #[{ on := 29, ground := Ground.data }, { on := 22, ground := Ground.guard }], guard := some (22, true) }) rfl (by kernel_rfl) (by kernel_rfl) (by kernel_rfl) (fun _ _ _ h => h) (Or.inr ⟨by rfl, rfl⟩) (by assumption) ?_
      simp only [Act.put, List.setIfInBounds_toArray, List.set_cons_zero, List.set_cons_succ]
      refine wpAnyH_take (i := 31) (oi := { dst := some 43, op := Op.binOp BinOp.gtr 9 (Operand.tmp 40) (Operand.tmp 42) 9, type := 4, pos := "kindredref12.go:174", after := #[{ on := 28, ground := Ground.data }, { on := 30, ground := Ground.data }, { on := 22, ground := Ground.guard }], guard := some (22, true) }) rfl (by kernel_rfl) (by kernel_rfl) (by kernel_rfl) (fun _ _ _ h => h) (Or.inr ⟨by rfl, rfl⟩) (by assumption) ?_
      simp only [Act.put, List.setIfInBounds_toArray, List.set_cons_zero, List.set_cons_succ]
      refine wpAnyH_take (i := 32) (oi := { dst := some 44, op := Op.pick (Operand.tmp 34) (Operand.tmp 43) (Operand.const (Value.bool false)), type := 4, pos := "kindredref12.go:174", after := #[{ on := 22, ground := Ground.data }, { on := 31, ground := Ground.data }, { on := 12, ground := Ground.guard }], guard := some (12, false) }) rfl (by kernel_rfl) (by kernel_rfl) (by kernel_rfl) (fun _ _ _ h => h) (Or.inr ⟨by rfl, rfl⟩) (by assumption) ?_
      simp only [Act.put, List.setIfInBounds_toArray, List.set_cons_zero, List.set_cons_succ]
      refine wpAnyH_take (i := 33) (oi := { dst := some 45, op := Op.pick (Operand.tmp 24) (Operand.const (Value.bool true)) (Operand.tmp 44), type := 4, pos := "kindredref12.go:174", after := #[{ on := 12, ground := Ground.data }, { on := 32, ground := Ground.data }, { on := 2, ground := Ground.guard }], guard := some (2, true) }) rfl (by kernel_rfl) (by kernel_rfl) (by kernel_rfl) (fun _ _ _ h => h) (Or.inr ⟨by rfl, rfl⟩) (by assumption) ?_
      simp only [Act.put, List.setIfInBounds_toArray, List.set_cons_zero, List.set_cons_succ]
      refine wpAnyH_take (i := 34) (oi := { dst := some 46, op := Op.pick (Operand.tmp 14) (Operand.tmp 45) (Operand.const (Value.bool false)), type := 4, pos := "kindredref12.go:174", after := #[{ on := 2, ground := Ground.data }, { on := 33, ground := Ground.data }], guard := none }) (v := ?va34) rfl (by kernel_rfl) (by kernel_rfl) (by kernel_rfl) (fun _ _ _ h => h) (Or.inl ⟨by rfl, ?ha34⟩) (by assumption) ?ra34
      case ha34 => (intro w0 hSw; (try dsimp only at hSw); go_simp; try (with_reducible rfl))
      simp only [Act.put, List.setIfInBounds_toArray, List.set_cons_zero, List.set_cons_succ]
      refine wpAnyH_done (by kernel_rfl) ?_ _
      obtain ⟨wz, hwz⟩ : ∃ wz, wz = wr.drew := ⟨_, rfl⟩
      rw [← hwz]
      have HZ := Hid.mk (show PCH B W wz g3 c3 hb (d, x) L k from by rw [hwz]; exact HK.out.drew)
      obtain ⟨u0, u1, u2, z0, z1, z2, zf, -⟩ := HZ.out.hole (by have := HL.out.1; omega)
      have zf0 := zf (k * 3)
      have zf1 := zf (k * 3 + 1)
      have zf2 := zf (k * 3 + 2)
      obtain ⟨cz0, cz1, cz2⟩ := HZ.out.box
      clear hwz zf HK bx0 bx1 bx2
      go_wp2_with fail
      go_ret
      have hfin := PCH.fill HX.out.2.1 HZ.out HL.out.2.2.1 HL.out.2.1 (by have := HL.out.1; omega) hdr HLo.out
      rw [← HL.out.1] at hfin
      exact hfin
    · obtain ⟨m, hm⟩ : ∃ m, k = m + 1 := ⟨k - 1, by omega⟩
      have hmL : m < L.length := by have := HL.out.1; omega
      have k1 : decide ((0 : Int) < (k : Int)) = true := by simp; omega
      have k2 : decide (0 < k) = true := by simp; omega
      have km : IntKind.i64.wrap ((k : Int) - 1) = (m : Int) := by rw [IntKind.wrap_i64]; omega
      have m0 : (0 : Int) ≤ (m : Int) := by omega
      have m1 : (m : Int) < (nL : Int) + 1 := by omega
      have m2 : m ≤ nL := by omega
      have HK' := HK.out
      rw [hm] at HK'
      obtain ⟨p0, p1, p2⟩ := HK'.prev (by omega)
      obtain ⟨y, hy⟩ : ∃ y, y = L[m] := ⟨_, rfl⟩
      have hsrt : ∀ j (hj : j < L.length), j < k → hlt L[j] (d, x) ∨ ¬ hlt y (d, x) := fun j hj hjk => by
        by_cases hyx : hlt y (d, x)
        · left
          by_cases e : j = m
          · subst e; rw [← hy]; exact hyx
          · exact hlt_trans (by rw [hy]; exact List.pairwise_iff_getElem.1 HL.out.2.2.1.srt j m hj hmL (by omega)) hyx
        · exact .inr hyx
      have hyA : y.2 ≠ x := fun e => HX.out.1 (by
        have := (HL.out.2.2.1.mem y).1 (by rw [hy]; exact List.getElem_mem _)
        rw [← e]; exact this.1)
      have HY := Hid.mk (And.intro hm (And.intro hmL (And.intro hy (And.intro hsrt hyA))))
      rw [← hy] at p0 p2
      clear hm hk0 HK' hy hsrt hyA
      obtain ⟨y1, hy1⟩ : ∃ y1, y1 = y.1 := ⟨_, rfl⟩
      obtain ⟨ys, hys⟩ : ∃ ys, ys = y.2.1 := ⟨_, rfl⟩
      rw [← hy1] at p0
      rw [← hys] at p2
      have HYY := Hid.mk (And.intro hy1 hys)
      clear hy1 hys
      by_cases hgt : d < y1
      · have g1 : decide ((d : Int) < (y1 : Int)) = true := by simp; omega
        have g2 : decide (d < y1) = true := by simp; omega
        have HGT := Hid.mk (show hlt (d, x) y from .inl (by show d < y.1; rw [← HYY.out.1]; exact hgt))
        clear hgt
        go_wp2_with fail
        refine wp_region_held_drew (S := fun w' => w'.cell? ⟨g3, m * 3, none⟩ = some (.int .i64 (y1 : Nat)) ∧ w'.cell? ⟨g3, m * 3 + 2, none⟩ = some (.string ys) ∧ w'.cell? ⟨hb, 0, none⟩ = some (.int .i64 (d : Nat)) ∧ w'.cell? ⟨hb, 2, none⟩ = some (.string x.1)) (by kernel_rfl) ?_ (fun hHeld => ?_)
        · exact ⟨p0, p2, bx0, bx2⟩
        refine wpAnyH_take (i := 0) (oi := { dst := some 12, op := Op.move (Operand.tmp 5), type := 3, pos := "kindredref12.go:174", after := #[], guard := none }) (v := ?vb0) rfl (by kernel_rfl) (by kernel_rfl) (by kernel_rfl) (fun _ _ _ h => h) (Or.inl ⟨by rfl, ?hb0⟩) (by assumption) ?rb0
        case hb0 => (intro w0 hSw; (try dsimp only at hSw); go_simp; try (with_reducible rfl))
        simp only [Act.put, List.setIfInBounds_toArray, List.set_cons_zero, List.set_cons_succ]
        refine wpAnyH_take (i := 1) (oi := { dst := some 13, op := Op.binOp BinOp.gtr 3 (Operand.tmp 12) (Operand.const (Value.int IntKind.i64 0)) 3, type := 4, pos := "kindredref12.go:174", after := #[{ on := 0, ground := Ground.data }], guard := none }) (v := ?vb1) rfl (by kernel_rfl) (by kernel_rfl) (by kernel_rfl) (fun _ _ _ h => h) (Or.inl ⟨by rfl, ?hb1⟩) (by assumption) ?rb1
        case hb1 => (intro w0 hSw; (try dsimp only at hSw); go_simp; try (with_reducible rfl))
        simp only [Act.put, List.setIfInBounds_toArray, List.set_cons_zero, List.set_cons_succ]
        refine wpAnyH_take (i := 2) (oi := { dst := some 14, op := Op.move (Operand.tmp 13), type := 4, pos := "kindredref12.go:174", after := #[{ on := 1, ground := Ground.data }], guard := none }) (v := ?vb2) rfl (by kernel_rfl) (by kernel_rfl) (by kernel_rfl) (fun _ _ _ h => h) (Or.inl ⟨by rfl, ?hb2⟩) (by assumption) ?rb2
        case hb2 => (intro w0 hSw; (try dsimp only at hSw); go_simp; try (with_reducible rfl))
        simp only [Act.put, List.setIfInBounds_toArray, List.set_cons_zero, List.set_cons_succ]
        refine wpAnyH_take (i := 3) (oi := { dst := some 15, op := Op.move (Operand.tmp 0), type := 32, pos := "kindredref12.go:174", after := #[{ on := 2, ground := Ground.guard }], guard := some (2, true) }) (v := ?vb3) rfl (by kernel_rfl) (by kernel_rfl) (by kernel_rfl) (fun _ _ _ h => h) (Or.inl ⟨by rfl, ?hb3⟩) (by assumption) ?rb3
        case hb3 => (intro w0 hSw; (try dsimp only at hSw); go_simp; try (with_reducible rfl))
        simp only [Act.put, List.setIfInBounds_toArray, List.set_cons_zero, List.set_cons_succ]
        refine wpAnyH_take (i := 4) (oi := { dst := some 16, op := Op.move (Operand.tmp 5), type := 3, pos := "kindredref12.go:174", after := #[{ on := 2, ground := Ground.guard }], guard := some (2, true) }) (v := ?vb4) rfl (by kernel_rfl) (by kernel_rfl) (by kernel_rfl) (fun _ _ _ h => h) (Or.inl ⟨by rfl, ?hb4⟩) (by assumption) ?rb4
        case hb4 => (intro w0 hSw; (try dsimp only at hSw); go_simp; try (with_reducible rfl))
        simp only [Act.put, List.setIfInBounds_toArray, List.set_cons_zero, List.set_cons_succ]
        refine wpAnyH_take (i := 5) (oi := { dst := some 17, op := Op.binOp BinOp.sub 3 (Operand.tmp 16) (Operand.const (Value.int IntKind.i64 1)) 3, type := 3, pos := "kindredref12.go:174", after := #[{ on := 4, ground := Ground.data }, { on := 2, ground := Ground.guard }], guard := some (2, true) }) (v := ?vb5) rfl (by kernel_rfl) (by kernel_rfl) (by kernel_rfl) (fun _ _ _ h => h) (Or.inl ⟨by rfl, ?hb5⟩) (by assumption) ?rb5
        case hb5 => (intro w0 hSw; (try dsimp only at hSw); go_simp; try (with_reducible rfl))
        simp only [Act.put, List.setIfInBounds_toArray, List.set_cons_zero, List.set_cons_succ]
        refine wpAnyH_take (i := 6) (oi := { dst := some 18, op := Op.indexAddr 32 (Operand.tmp 15) (Operand.tmp 17), type := 0, pos := "kindredref12.go:174", after := #[{ on := 3, ground := Ground.data }, { on := 5, ground := Ground.data }, { on := 2, ground := Ground.guard }], guard := some (2, true) }) (v := ?vb6) rfl (by kernel_rfl) (by kernel_rfl) (by kernel_rfl) (fun _ _ _ h => h) (Or.inl ⟨by rfl, ?hb6⟩) (by assumption) ?rb6
        case hb6 => (intro w0 hSw; (try dsimp only at hSw); go_simp; try (with_reducible rfl))
        simp only [Act.put, List.setIfInBounds_toArray, List.set_cons_zero, List.set_cons_succ]
        refine wpAnyH_take (i := 7) (oi := { dst := some 19, op := Op.fieldAddr 36 (Operand.tmp 18) 0, type := 0, pos := "kindredref12.go:174", after := #[{ on := 6, ground := Ground.data }, { on := 2, ground := Ground.guard }], guard := some (2, true) }) (v := ?vb7) rfl (by kernel_rfl) (by kernel_rfl) (by kernel_rfl) (fun _ _ _ h => h) (Or.inl ⟨by rfl, ?hb7⟩) (by assumption) ?rb7
        case hb7 => (intro w0 hSw; (try dsimp only at hSw); go_simp; try (with_reducible rfl))
        simp only [Act.put, List.setIfInBounds_toArray, List.set_cons_zero, List.set_cons_succ]
        refine wpAnyH_take (i := 8) (oi := { dst := some 20, op := Op.load 3 (Operand.tmp 19), type := 3, pos := "kindredref12.go:174", after := #[{ on := 7, ground := Ground.data }, { on := 2, ground := Ground.guard }], guard := some (2, true) }) (v := ?vb8) rfl (by kernel_rfl) (by kernel_rfl) (by kernel_rfl) (fun _ _ _ h => h) (Or.inl ⟨by rfl, ?hb8⟩) (by assumption) ?rb8
        case hb8 => (intro w0 hSw; (try dsimp only at hSw); go_simp; try (with_reducible rfl))
        simp only [Act.put, List.setIfInBounds_toArray, List.set_cons_zero, List.set_cons_succ]
        refine wpAnyH_take (i := 9) (oi := { dst := some 21, op := Op.fieldAddr 36 (Operand.tmp 3) 0, type := 0, pos := "kindredref12.go:174", after := #[{ on := 2, ground := Ground.guard }], guard := some (2, true) }) (v := ?vb9) rfl (by kernel_rfl) (by kernel_rfl) (by kernel_rfl) (fun _ _ _ h => h) (Or.inl ⟨by rfl, ?hb9⟩) (by assumption) ?rb9
        case hb9 => (intro w0 hSw; (try dsimp only at hSw); go_simp; try (with_reducible rfl))
        simp only [Act.put, List.setIfInBounds_toArray, List.set_cons_zero, List.set_cons_succ]
        refine wpAnyH_take (i := 10) (oi := { dst := some 22, op := Op.load 3 (Operand.tmp 21), type := 3, pos := "kindredref12.go:174", after := #[{ on := 9, ground := Ground.data }, { on := 2, ground := Ground.guard }], guard := some (2, true) }) (v := ?vb10) rfl (by kernel_rfl) (by kernel_rfl) (by kernel_rfl) (fun _ _ _ h => h) (Or.inl ⟨by rfl, ?hb10⟩) (by assumption) ?rb10
        case hb10 => (intro w0 hSw; (try dsimp only at hSw); go_simp; try (with_reducible rfl))
        simp only [Act.put, List.setIfInBounds_toArray, List.set_cons_zero, List.set_cons_succ]
        refine wpAnyH_take (i := 11) (oi := { dst := some 23, op := Op.binOp BinOp.gtr 3 (Operand.tmp 20) (Operand.tmp 22) 3, type := 4, pos := "kindredref12.go:174", after := #[{ on := 8, ground := Ground.data }, { on := 10, ground := Ground.data }, { on := 2, ground := Ground.guard }], guard := some (2, true) }) (v := ?vb11) rfl (by kernel_rfl) (by kernel_rfl) (by kernel_rfl) (fun _ _ _ h => h) (Or.inl ⟨by rfl, ?hb11⟩) (by assumption) ?rb11
        case hb11 => (intro w0 hSw; (try dsimp only at hSw); go_simp; try (with_reducible rfl))
        simp only [Act.put, List.setIfInBounds_toArray, List.set_cons_zero, List.set_cons_succ]
        refine wpAnyH_take (i := 12) (oi := { dst := some 24, op := Op.move (Operand.tmp 23), type := 4, pos := "kindredref12.go:174", after := #[{ on := 11, ground := Ground.data }, { on := 2, ground := Ground.chain }, { on := 2, ground := Ground.guard }], guard := some (2, true) }) (v := ?vb12) rfl (by kernel_rfl) (by kernel_rfl) (by kernel_rfl) (fun _ _ _ h => h) (Or.inl ⟨by rfl, ?hb12⟩) (by assumption) ?rb12
        case hb12 => (intro w0 hSw; (try dsimp only at hSw); go_simp; try (with_reducible rfl))
        simp only [Act.put, List.setIfInBounds_toArray, List.set_cons_zero, List.set_cons_succ]
        refine wpAnyH_take (i := 13) (oi := { dst := some 25, op := Op.move (Operand.tmp 0), type := 32, pos := "kindredref12.go:174", after := #[{ on := 12, ground := Ground.guard }], guard := some (12, false) }) rfl (by kernel_rfl) (by kernel_rfl) (by kernel_rfl) (fun _ _ _ h => h) (Or.inr ⟨by rfl, rfl⟩) (by assumption) ?_
        simp only [Act.put, List.setIfInBounds_toArray, List.set_cons_zero, List.set_cons_succ]
        refine wpAnyH_take (i := 14) (oi := { dst := some 26, op := Op.move (Operand.tmp 5), type := 3, pos := "kindredref12.go:174", after := #[{ on := 12, ground := Ground.guard }], guard := some (12, false) }) rfl (by kernel_rfl) (by kernel_rfl) (by kernel_rfl) (fun _ _ _ h => h) (Or.inr ⟨by rfl, rfl⟩) (by assumption) ?_
        simp only [Act.put, List.setIfInBounds_toArray, List.set_cons_zero, List.set_cons_succ]
        refine wpAnyH_take (i := 15) (oi := { dst := some 27, op := Op.binOp BinOp.sub 3 (Operand.tmp 26) (Operand.const (Value.int IntKind.i64 1)) 3, type := 3, pos := "kindredref12.go:174", after := #[{ on := 14, ground := Ground.data }, { on := 12, ground := Ground.guard }], guard := some (12, false) }) rfl (by kernel_rfl) (by kernel_rfl) (by kernel_rfl) (fun _ _ _ h => h) (Or.inr ⟨by rfl, rfl⟩) (by assumption) ?_
        simp only [Act.put, List.setIfInBounds_toArray, List.set_cons_zero, List.set_cons_succ]
        refine wpAnyH_take (i := 16) (oi := { dst := some 28, op := Op.indexAddr 32 (Operand.tmp 25) (Operand.tmp 27), type := 0, pos := "kindredref12.go:174", after := #[{ on := 13, ground := Ground.data }, { on := 15, ground := Ground.data }, { on := 12, ground := Ground.guard }], guard := some (12, false) }) rfl (by kernel_rfl) (by kernel_rfl) (by kernel_rfl) (fun _ _ _ h => h) (Or.inr ⟨by rfl, rfl⟩) (by assumption) ?_
        simp only [Act.put, List.setIfInBounds_toArray, List.set_cons_zero, List.set_cons_succ]
        refine wpAnyH_take (i := 17) (oi := { dst := some 29, op := Op.fieldAddr 36 (Operand.tmp 28) 0, type := 0, pos := "kindredref12.go:174", after := #[{ on := 16, ground := Ground.data }, { on := 12, ground := Ground.guard }], guard := some (12, false) }) rfl (by kernel_rfl) (by kernel_rfl) (by kernel_rfl) (fun _ _ _ h => h) (Or.inr ⟨by rfl, rfl⟩) (by assumption) ?_
        simp only [Act.put, List.setIfInBounds_toArray, List.set_cons_zero, List.set_cons_succ]
        refine wpAnyH_take (i := 18) (oi := { dst := some 30, op := Op.load 3 (Operand.tmp 29), type := 3, pos := "kindredref12.go:174", after := #[{ on := 17, ground := Ground.data }, { on := 12, ground := Ground.guard }], guard := some (12, false) }) rfl (by kernel_rfl) (by kernel_rfl) (by kernel_rfl) (fun _ _ _ h => h) (Or.inr ⟨by rfl, rfl⟩) (by assumption) ?_
        simp only [Act.put, List.setIfInBounds_toArray, List.set_cons_zero, List.set_cons_succ]
        refine wpAnyH_take (i := 19) (oi := { dst := some 31, op := Op.fieldAddr 36 (Operand.tmp 3) 0, type := 0, pos := "kindredref12.go:174", after := #[{ on := 12, ground := Ground.guard }], guard := some (12, false) }) rfl (by kernel_rfl) (by kernel_rfl) (by kernel_rfl) (fun _ _ _ h => h) (Or.inr ⟨by rfl, rfl⟩) (by assumption) ?_
        simp only [Act.put, List.setIfInBounds_toArray, List.set_cons_zero, List.set_cons_succ]
        refine wpAnyH_take (i := 20) (oi := { dst := some 32, op := Op.load 3 (Operand.tmp 31), type := 3, pos := "kindredref12.go:174", after := #[{ on := 19, ground := Ground.data }, { on := 12, ground := Ground.guard }], guard := some (12, false) }) rfl (by kernel_rfl) (by kernel_rfl) (by kernel_rfl) (fun _ _ _ h => h) (Or.inr ⟨by rfl, rfl⟩) (by assumption) ?_
        simp only [Act.put, List.setIfInBounds_toArray, List.set_cons_zero, List.set_cons_succ]
        refine wpAnyH_take (i := 21) (oi := { dst := some 33, op := Op.binOp BinOp.eql 3 (Operand.tmp 30) (Operand.tmp 32) 3, type := 4, pos := "kindredref12.go:174", after := #[{ on := 18, ground := Ground.data }, { on := 20, ground := Ground.data }, { on := 12, ground := Ground.guard }], guard := some (12, false) }) rfl (by kernel_rfl) (by kernel_rfl) (by kernel_rfl) (fun _ _ _ h => h) (Or.inr ⟨by rfl, rfl⟩) (by assumption) ?_
        simp only [Act.put, List.setIfInBounds_toArray, List.set_cons_zero, List.set_cons_succ]
        refine wpAnyH_take (i := 22) (oi := { dst := some 34, op := Op.move (Operand.tmp 33), type := 4, pos := "kindredref12.go:174", after := #[{ on := 21, ground := Ground.data }, { on := 12, ground := Ground.chain }, { on := 12, ground := Ground.guard }], guard := some (12, false) }) rfl (by kernel_rfl) (by kernel_rfl) (by kernel_rfl) (fun _ _ _ h => h) (Or.inr ⟨by rfl, rfl⟩) (by assumption) ?_
        simp only [Act.put, List.setIfInBounds_toArray, List.set_cons_zero, List.set_cons_succ]
        refine wpAnyH_take (i := 23) (oi := { dst := some 35, op := Op.move (Operand.tmp 0), type := 32, pos := "kindredref12.go:174", after := #[{ on := 22, ground := Ground.guard }], guard := some (22, true) }) rfl (by kernel_rfl) (by kernel_rfl) (by kernel_rfl) (fun _ _ _ h => h) (Or.inr ⟨by rfl, rfl⟩) (by assumption) ?_
        simp only [Act.put, List.setIfInBounds_toArray, List.set_cons_zero, List.set_cons_succ]
        refine wpAnyH_take (i := 24) (oi := { dst := some 36, op := Op.move (Operand.tmp 5), type := 3, pos := "kindredref12.go:174", after := #[{ on := 22, ground := Ground.guard }], guard := some (22, true) }) rfl (by kernel_rfl) (by kernel_rfl) (by kernel_rfl) (fun _ _ _ h => h) (Or.inr ⟨by rfl, rfl⟩) (by assumption) ?_
        simp only [Act.put, List.setIfInBounds_toArray, List.set_cons_zero, List.set_cons_succ]
        refine wpAnyH_take (i := 25) (oi := { dst := some 37, op := Op.binOp BinOp.sub 3 (Operand.tmp 36) (Operand.const (Value.int IntKind.i64 1)) 3, type := 3, pos := "kindredref12.go:174", after := #[{ on := 24, ground := Ground.data }, { on := 22, ground := Ground.guard }], guard := some (22, true) }) rfl (by kernel_rfl) (by kernel_rfl) (by kernel_rfl) (fun _ _ _ h => h) (Or.inr ⟨by rfl, rfl⟩) (by assumption) ?_
        simp only [Act.put, List.setIfInBounds_toArray, List.set_cons_zero, List.set_cons_succ]
        refine wpAnyH_take (i := 26) (oi := { dst := some 38, op := Op.indexAddr 32 (Operand.tmp 35) (Operand.tmp 37), type := 0, pos := "kindredref12.go:174", after := #[{ on := 23, ground := Ground.data }, { on := 25, ground := Ground.data }, { on := 22, ground := Ground.guard }], guard := some (22, true) }) rfl (by kernel_rfl) (by kernel_rfl) (by kernel_rfl) (fun _ _ _ h => h) (Or.inr ⟨by rfl, rfl⟩) (by assumption) ?_
        simp only [Act.put, List.setIfInBounds_toArray, List.set_cons_zero, List.set_cons_succ]
        refine wpAnyH_take (i := 27) (oi := { dst := some 39, op := Op.fieldAddr 36 (Operand.tmp 38) 2, type := 0, pos := "kindredref12.go:174", after := #[{ on := 26, ground := Ground.data }, { on := 22, ground := Ground.guard }], guard := some (22, true) }) rfl (by kernel_rfl) (by kernel_rfl) (by kernel_rfl) (fun _ _ _ h => h) (Or.inr ⟨by rfl, rfl⟩) (by assumption) ?_
        simp only [Act.put, List.setIfInBounds_toArray, List.set_cons_zero, List.set_cons_succ]
        refine wpAnyH_take (i := 28) (oi := { dst := some 40, op := Op.load 9 (Operand.tmp 39), type := 9, pos := "kindredref12.go:174", after := #[{ on := 27, ground := Ground.data }, { on := 22, ground := Ground.guard }], guard := some (22, true) }) rfl (by kernel_rfl) (by kernel_rfl) (by kernel_rfl) (fun _ _ _ h => h) (Or.inr ⟨by rfl, rfl⟩) (by assumption) ?_
        simp only [Act.put, List.setIfInBounds_toArray, List.set_cons_zero, List.set_cons_succ]
        refine wpAnyH_take (i := 29) (oi := { dst := some 41, op := Op.fieldAddr 36 (Operand.tmp 3) 2, type := 0, pos := "kindredref12.go:174", after := #[{ on := 22, ground := Ground.guard }], guard := some (22, true) }) rfl (by kernel_rfl) (by kernel_rfl) (by kernel_rfl) (fun _ _ _ h => h) (Or.inr ⟨by rfl, rfl⟩) (by assumption) ?_
        simp only [Act.put, List.setIfInBounds_toArray, List.set_cons_zero, List.set_cons_succ]
        refine wpAnyH_take (i := 30) (oi := { dst := some 42, op := Op.load 9 (Operand.tmp 41), type := 9, pos := "kindredref12.go:174", after := #[{ on := 29, ground := Ground.data }, { on := 22, ground := Ground.guard }], guard := some (22, true) }) rfl (by kernel_rfl) (by kernel_rfl) (by kernel_rfl) (fun _ _ _ h => h) (Or.inr ⟨by rfl, rfl⟩) (by assumption) ?_
        simp only [Act.put, List.setIfInBounds_toArray, List.set_cons_zero, List.set_cons_succ]
        refine wpAnyH_take (i := 31) (oi := { dst := some 43, op := Op.binOp BinOp.gtr 9 (Operand.tmp 40) (Operand.tmp 42) 9, type := 4, pos := "kindredref12.go:174", after := #[{ on := 28, ground := Ground.data }, { on := 30, ground := Ground.data }, { on := 22, ground := Ground.guard }], guard := some (22, true) }) rfl (by kernel_rfl) (by kernel_rfl) (by kernel_rfl) (fun _ _ _ h => h) (Or.inr ⟨by rfl, rfl⟩) (by assumption) ?_
        simp only [Act.put, List.setIfInBounds_toArray, List.set_cons_zero, List.set_cons_succ]
        refine wpAnyH_take (i := 32) (oi := { dst := some 44, op := Op.pick (Operand.tmp 34) (Operand.tmp 43) (Operand.const (Value.bool false)), type := 4, pos := "kindredref12.go:174", after := #[{ on := 22, ground := Ground.data }, { on := 31, ground := Ground.data }, { on := 12, ground := Ground.guard }], guard := some (12, false) }) rfl (by kernel_rfl) (by kernel_rfl) (by kernel_rfl) (fun _ _ _ h => h) (Or.inr ⟨by rfl, rfl⟩) (by assumption) ?_
        simp only [Act.put, List.setIfInBounds_toArray, List.set_cons_zero, List.set_cons_succ]
        refine wpAnyH_take (i := 33) (oi := { dst := some 45, op := Op.pick (Operand.tmp 24) (Operand.const (Value.bool true)) (Operand.tmp 44), type := 4, pos := "kindredref12.go:174", after := #[{ on := 12, ground := Ground.data }, { on := 32, ground := Ground.data }, { on := 2, ground := Ground.guard }], guard := some (2, true) }) (v := ?vb33) rfl (by kernel_rfl) (by kernel_rfl) (by kernel_rfl) (fun _ _ _ h => h) (Or.inl ⟨by rfl, ?hb33⟩) (by assumption) ?rb33
        case hb33 => (intro w0 hSw; (try dsimp only at hSw); go_simp; try (with_reducible rfl))
        simp only [Act.put, List.setIfInBounds_toArray, List.set_cons_zero, List.set_cons_succ]
        refine wpAnyH_take (i := 34) (oi := { dst := some 46, op := Op.pick (Operand.tmp 14) (Operand.tmp 45) (Operand.const (Value.bool false)), type := 4, pos := "kindredref12.go:174", after := #[{ on := 2, ground := Ground.data }, { on := 33, ground := Ground.data }], guard := none }) (v := ?vb34) rfl (by kernel_rfl) (by kernel_rfl) (by kernel_rfl) (fun _ _ _ h => h) (Or.inl ⟨by rfl, ?hb34⟩) (by assumption) ?rb34
        case hb34 => (intro w0 hSw; (try dsimp only at hSw); go_simp; try (with_reducible rfl))
        simp only [Act.put, List.setIfInBounds_toArray, List.set_cons_zero, List.set_cons_succ]
        refine wpAnyH_done (by kernel_rfl) ?_ _
        obtain ⟨wz, hwz⟩ : ∃ wz, wz = wr.drew := ⟨_, rfl⟩
        rw [← hwz]
        have HZ := Hid.mk (show PCH B W wz g3 c3 hb (d, x) L k from by rw [hwz]; exact HK.out.drew)
        obtain ⟨u0, u1, u2, z0, z1, z2, zf, -⟩ := HZ.out.hole (by have := HL.out.1; omega)
        have zf0 := zf (k * 3)
        have zf1 := zf (k * 3 + 1)
        have zf2 := zf (k * 3 + 2)
        have q0 : wz.cell? ⟨g3, m * 3, none⟩ = some (.int .i64 (y1 : Nat)) := by rw [hwz]; exact p0
        have q1 : wz.cell? ⟨g3, m * 3 + 1, none⟩ = some (.int .i64 0) := by rw [hwz]; exact p1
        have q2 : wz.cell? ⟨g3, m * 3 + 2, none⟩ = some (.string ys) := by rw [hwz]; exact p2
        clear hwz zf HK bx0 bx1 bx2 p0 p1 p2
        go_wp2_with fail
        exact ⟨⟨m, rfl, m2, Hid.mk (PCH.step HY.out.1 HY.out.2.1 HY.out.2.2.1 HYY.out.1 HYY.out.2 HZ.out HL.out.2.1 HGT.out)⟩, by simp only [intOf]; have := HY.out.1; omega⟩
      · have g1 : decide ((d : Int) < (y1 : Int)) = false := by simp; omega
        have g2 : decide (d < y1) = false := by simp; omega
        by_cases heq : y1 = d
        · subst heq
          by_cases hbl : byC x < byC y.2
          · have bl : Op.bytesLess ys.toList x.1.toList = false := by
              rw [HYY.out.2, bl_of]
              simp only [decide_eq_false_iff_not]
              exact fun h => List.lt_irrefl _ (List.lt_trans hbl h)
            have bl2 : (ys.toList == x.1.toList) = false := beq_false_of_ne (fun h => HY.out.2.2.2.2 (Subtype.ext (by rw [← HYY.out.2]; exact ba_of h)))
            have HGT := Hid.mk (show hlt (y1, x) y from .inr ⟨HYY.out.1, hbl⟩)
            clear hgt hbl
            go_wp2_with fail
            refine wp_region_held_drew (S := fun w' => w'.cell? ⟨g3, m * 3, none⟩ = some (.int .i64 (y1 : Nat)) ∧ w'.cell? ⟨g3, m * 3 + 2, none⟩ = some (.string ys) ∧ w'.cell? ⟨hb, 0, none⟩ = some (.int .i64 (y1 : Nat)) ∧ w'.cell? ⟨hb, 2, none⟩ = some (.string x.1)) (by kernel_rfl) ?_ (fun hHeld => ?_)
            · exact ⟨p0, p2, bx0, bx2⟩
            refine wpAnyH_take (i := 0) (oi := { dst := some 12, op := Op.move (Operand.tmp 5), type := 3, pos := "kindredref12.go:174", after := #[], guard := none }) (v := ?vc0) rfl (by kernel_rfl) (by kernel_rfl) (by kernel_rfl) (fun _ _ _ h => h) (Or.inl ⟨by rfl, ?hc0⟩) (by assumption) ?rc0
            case hc0 => (intro w0 hSw; (try dsimp only at hSw); go_simp; try (with_reducible rfl))
            simp only [Act.put, List.setIfInBounds_toArray, List.set_cons_zero, List.set_cons_succ]
            refine wpAnyH_take (i := 1) (oi := { dst := some 13, op := Op.binOp BinOp.gtr 3 (Operand.tmp 12) (Operand.const (Value.int IntKind.i64 0)) 3, type := 4, pos := "kindredref12.go:174", after := #[{ on := 0, ground := Ground.data }], guard := none }) (v := ?vc1) rfl (by kernel_rfl) (by kernel_rfl) (by kernel_rfl) (fun _ _ _ h => h) (Or.inl ⟨by rfl, ?hc1⟩) (by assumption) ?rc1
            case hc1 => (intro w0 hSw; (try dsimp only at hSw); go_simp; try (with_reducible rfl))
            simp only [Act.put, List.setIfInBounds_toArray, List.set_cons_zero, List.set_cons_succ]
            refine wpAnyH_take (i := 2) (oi := { dst := some 14, op := Op.move (Operand.tmp 13), type := 4, pos := "kindredref12.go:174", after := #[{ on := 1, ground := Ground.data }], guard := none }) (v := ?vc2) rfl (by kernel_rfl) (by kernel_rfl) (by kernel_rfl) (fun _ _ _ h => h) (Or.inl ⟨by rfl, ?hc2⟩) (by assumption) ?rc2
            case hc2 => (intro w0 hSw; (try dsimp only at hSw); go_simp; try (with_reducible rfl))
            simp only [Act.put, List.setIfInBounds_toArray, List.set_cons_zero, List.set_cons_succ]
            refine wpAnyH_take (i := 3) (oi := { dst := some 15, op := Op.move (Operand.tmp 0), type := 32, pos := "kindredref12.go:174", after := #[{ on := 2, ground := Ground.guard }], guard := some (2, true) }) (v := ?vc3) rfl (by kernel_rfl) (by kernel_rfl) (by kernel_rfl) (fun _ _ _ h => h) (Or.inl ⟨by rfl, ?hc3⟩) (by assumption) ?rc3
            case hc3 => (intro w0 hSw; (try dsimp only at hSw); go_simp; try (with_reducible rfl))
            simp only [Act.put, List.setIfInBounds_toArray, List.set_cons_zero, List.set_cons_succ]
            refine wpAnyH_take (i := 4) (oi := { dst := some 16, op := Op.move (Operand.tmp 5), type := 3, pos := "kindredref12.go:174", after := #[{ on := 2, ground := Ground.guard }], guard := some (2, true) }) (v := ?vc4) rfl (by kernel_rfl) (by kernel_rfl) (by kernel_rfl) (fun _ _ _ h => h) (Or.inl ⟨by rfl, ?hc4⟩) (by assumption) ?rc4
            case hc4 => (intro w0 hSw; (try dsimp only at hSw); go_simp; try (with_reducible rfl))
            simp only [Act.put, List.setIfInBounds_toArray, List.set_cons_zero, List.set_cons_succ]
            refine wpAnyH_take (i := 5) (oi := { dst := some 17, op := Op.binOp BinOp.sub 3 (Operand.tmp 16) (Operand.const (Value.int IntKind.i64 1)) 3, type := 3, pos := "kindredref12.go:174", after := #[{ on := 4, ground := Ground.data }, { on := 2, ground := Ground.guard }], guard := some (2, true) }) (v := ?vc5) rfl (by kernel_rfl) (by kernel_rfl) (by kernel_rfl) (fun _ _ _ h => h) (Or.inl ⟨by rfl, ?hc5⟩) (by assumption) ?rc5
            case hc5 => (intro w0 hSw; (try dsimp only at hSw); go_simp; try (with_reducible rfl))
            simp only [Act.put, List.setIfInBounds_toArray, List.set_cons_zero, List.set_cons_succ]
            refine wpAnyH_take (i := 6) (oi := { dst := some 18, op := Op.indexAddr 32 (Operand.tmp 15) (Operand.tmp 17), type := 0, pos := "kindredref12.go:174", after := #[{ on := 3, ground := Ground.data }, { on := 5, ground := Ground.data }, { on := 2, ground := Ground.guard }], guard := some (2, true) }) (v := ?vc6) rfl (by kernel_rfl) (by kernel_rfl) (by kernel_rfl) (fun _ _ _ h => h) (Or.inl ⟨by rfl, ?hc6⟩) (by assumption) ?rc6
            case hc6 => (intro w0 hSw; (try dsimp only at hSw); go_simp; try (with_reducible rfl))
            simp only [Act.put, List.setIfInBounds_toArray, List.set_cons_zero, List.set_cons_succ]
            refine wpAnyH_take (i := 7) (oi := { dst := some 19, op := Op.fieldAddr 36 (Operand.tmp 18) 0, type := 0, pos := "kindredref12.go:174", after := #[{ on := 6, ground := Ground.data }, { on := 2, ground := Ground.guard }], guard := some (2, true) }) (v := ?vc7) rfl (by kernel_rfl) (by kernel_rfl) (by kernel_rfl) (fun _ _ _ h => h) (Or.inl ⟨by rfl, ?hc7⟩) (by assumption) ?rc7
            case hc7 => (intro w0 hSw; (try dsimp only at hSw); go_simp; try (with_reducible rfl))
            simp only [Act.put, List.setIfInBounds_toArray, List.set_cons_zero, List.set_cons_succ]
            refine wpAnyH_take (i := 8) (oi := { dst := some 20, op := Op.load 3 (Operand.tmp 19), type := 3, pos := "kindredref12.go:174", after := #[{ on := 7, ground := Ground.data }, { on := 2, ground := Ground.guard }], guard := some (2, true) }) (v := ?vc8) rfl (by kernel_rfl) (by kernel_rfl) (by kernel_rfl) (fun _ _ _ h => h) (Or.inl ⟨by rfl, ?hc8⟩) (by assumption) ?rc8
            case hc8 => (intro w0 hSw; (try dsimp only at hSw); go_simp; try (with_reducible rfl))
            simp only [Act.put, List.setIfInBounds_toArray, List.set_cons_zero, List.set_cons_succ]
            refine wpAnyH_take (i := 9) (oi := { dst := some 21, op := Op.fieldAddr 36 (Operand.tmp 3) 0, type := 0, pos := "kindredref12.go:174", after := #[{ on := 2, ground := Ground.guard }], guard := some (2, true) }) (v := ?vc9) rfl (by kernel_rfl) (by kernel_rfl) (by kernel_rfl) (fun _ _ _ h => h) (Or.inl ⟨by rfl, ?hc9⟩) (by assumption) ?rc9
            case hc9 => (intro w0 hSw; (try dsimp only at hSw); go_simp; try (with_reducible rfl))
            simp only [Act.put, List.setIfInBounds_toArray, List.set_cons_zero, List.set_cons_succ]
            refine wpAnyH_take (i := 10) (oi := { dst := some 22, op := Op.load 3 (Operand.tmp 21), type := 3, pos := "kindredref12.go:174", after := #[{ on := 9, ground := Ground.data }, { on := 2, ground := Ground.guard }], guard := some (2, true) }) (v := ?vc10) rfl (by kernel_rfl) (by kernel_rfl) (by kernel_rfl) (fun _ _ _ h => h) (Or.inl ⟨by rfl, ?hc10⟩) (by assumption) ?rc10
            case hc10 => (intro w0 hSw; (try dsimp only at hSw); go_simp; try (with_reducible rfl))
            simp only [Act.put, List.setIfInBounds_toArray, List.set_cons_zero, List.set_cons_succ]
            refine wpAnyH_take (i := 11) (oi := { dst := some 23, op := Op.binOp BinOp.gtr 3 (Operand.tmp 20) (Operand.tmp 22) 3, type := 4, pos := "kindredref12.go:174", after := #[{ on := 8, ground := Ground.data }, { on := 10, ground := Ground.data }, { on := 2, ground := Ground.guard }], guard := some (2, true) }) (v := ?vc11) rfl (by kernel_rfl) (by kernel_rfl) (by kernel_rfl) (fun _ _ _ h => h) (Or.inl ⟨by rfl, ?hc11⟩) (by assumption) ?rc11
            case hc11 => (intro w0 hSw; (try dsimp only at hSw); go_simp; try (with_reducible rfl))
            simp only [Act.put, List.setIfInBounds_toArray, List.set_cons_zero, List.set_cons_succ]
            refine wpAnyH_take (i := 12) (oi := { dst := some 24, op := Op.move (Operand.tmp 23), type := 4, pos := "kindredref12.go:174", after := #[{ on := 11, ground := Ground.data }, { on := 2, ground := Ground.chain }, { on := 2, ground := Ground.guard }], guard := some (2, true) }) (v := ?vc12) rfl (by kernel_rfl) (by kernel_rfl) (by kernel_rfl) (fun _ _ _ h => h) (Or.inl ⟨by rfl, ?hc12⟩) (by assumption) ?rc12
            case hc12 => (intro w0 hSw; (try dsimp only at hSw); go_simp; try (with_reducible rfl))
            simp only [Act.put, List.setIfInBounds_toArray, List.set_cons_zero, List.set_cons_succ]
            refine wpAnyH_take (i := 13) (oi := { dst := some 25, op := Op.move (Operand.tmp 0), type := 32, pos := "kindredref12.go:174", after := #[{ on := 12, ground := Ground.guard }], guard := some (12, false) }) (v := ?vc13) rfl (by kernel_rfl) (by kernel_rfl) (by kernel_rfl) (fun _ _ _ h => h) (Or.inl ⟨by rfl, ?hc13⟩) (by assumption) ?rc13
            case hc13 => (intro w0 hSw; (try dsimp only at hSw); go_simp; try (with_reducible rfl))
            simp only [Act.put, List.setIfInBounds_toArray, List.set_cons_zero, List.set_cons_succ]
            refine wpAnyH_take (i := 14) (oi := { dst := some 26, op := Op.move (Operand.tmp 5), type := 3, pos := "kindredref12.go:174", after := #[{ on := 12, ground := Ground.guard }], guard := some (12, false) }) (v := ?vc14) rfl (by kernel_rfl) (by kernel_rfl) (by kernel_rfl) (fun _ _ _ h => h) (Or.inl ⟨by rfl, ?hc14⟩) (by assumption) ?rc14
            case hc14 => (intro w0 hSw; (try dsimp only at hSw); go_simp; try (with_reducible rfl))
            simp only [Act.put, List.setIfInBounds_toArray, List.set_cons_zero, List.set_cons_succ]
            refine wpAnyH_take (i := 15) (oi := { dst := some 27, op := Op.binOp BinOp.sub 3 (Operand.tmp 26) (Operand.const (Value.int IntKind.i64 1)) 3, type := 3, pos := "kindredref12.go:174", after := #[{ on := 14, ground := Ground.data }, { on := 12, ground := Ground.guard }], guard := some (12, false) }) (v := ?vc15) rfl (by kernel_rfl) (by kernel_rfl) (by kernel_rfl) (fun _ _ _ h => h) (Or.inl ⟨by rfl, ?hc15⟩) (by assumption) ?rc15
            case hc15 => (intro w0 hSw; (try dsimp only at hSw); go_simp; try (with_reducible rfl))
            simp only [Act.put, List.setIfInBounds_toArray, List.set_cons_zero, List.set_cons_succ]
            refine wpAnyH_take (i := 16) (oi := { dst := some 28, op := Op.indexAddr 32 (Operand.tmp 25) (Operand.tmp 27), type := 0, pos := "kindredref12.go:174", after := #[{ on := 13, ground := Ground.data }, { on := 15, ground := Ground.data }, { on := 12, ground := Ground.guard }], guard := some (12, false) }) (v := ?vc16) rfl (by kernel_rfl) (by kernel_rfl) (by kernel_rfl) (fun _ _ _ h => h) (Or.inl ⟨by rfl, ?hc16⟩) (by assumption) ?rc16
            case hc16 => (intro w0 hSw; (try dsimp only at hSw); go_simp; try (with_reducible rfl))
            simp only [Act.put, List.setIfInBounds_toArray, List.set_cons_zero, List.set_cons_succ]
            refine wpAnyH_take (i := 17) (oi := { dst := some 29, op := Op.fieldAddr 36 (Operand.tmp 28) 0, type := 0, pos := "kindredref12.go:174", after := #[{ on := 16, ground := Ground.data }, { on := 12, ground := Ground.guard }], guard := some (12, false) }) (v := ?vc17) rfl (by kernel_rfl) (by kernel_rfl) (by kernel_rfl) (fun _ _ _ h => h) (Or.inl ⟨by rfl, ?hc17⟩) (by assumption) ?rc17
            case hc17 => (intro w0 hSw; (try dsimp only at hSw); go_simp; try (with_reducible rfl))
            simp only [Act.put, List.setIfInBounds_toArray, List.set_cons_zero, List.set_cons_succ]
            refine wpAnyH_take (i := 18) (oi := { dst := some 30, op := Op.load 3 (Operand.tmp 29), type := 3, pos := "kindredref12.go:174", after := #[{ on := 17, ground := Ground.data }, { on := 12, ground := Ground.guard }], guard := some (12, false) }) (v := ?vc18) rfl (by kernel_rfl) (by kernel_rfl) (by kernel_rfl) (fun _ _ _ h => h) (Or.inl ⟨by rfl, ?hc18⟩) (by assumption) ?rc18
            case hc18 => (intro w0 hSw; (try dsimp only at hSw); go_simp; try (with_reducible rfl))
            simp only [Act.put, List.setIfInBounds_toArray, List.set_cons_zero, List.set_cons_succ]
            refine wpAnyH_take (i := 19) (oi := { dst := some 31, op := Op.fieldAddr 36 (Operand.tmp 3) 0, type := 0, pos := "kindredref12.go:174", after := #[{ on := 12, ground := Ground.guard }], guard := some (12, false) }) (v := ?vc19) rfl (by kernel_rfl) (by kernel_rfl) (by kernel_rfl) (fun _ _ _ h => h) (Or.inl ⟨by rfl, ?hc19⟩) (by assumption) ?rc19
            case hc19 => (intro w0 hSw; (try dsimp only at hSw); go_simp; try (with_reducible rfl))
            simp only [Act.put, List.setIfInBounds_toArray, List.set_cons_zero, List.set_cons_succ]
            refine wpAnyH_take (i := 20) (oi := { dst := some 32, op := Op.load 3 (Operand.tmp 31), type := 3, pos := "kindredref12.go:174", after := #[{ on := 19, ground := Ground.data }, { on := 12, ground := Ground.guard }], guard := some (12, false) }) (v := ?vc20) rfl (by kernel_rfl) (by kernel_rfl) (by kernel_rfl) (fun _ _ _ h => h) (Or.inl ⟨by rfl, ?hc20⟩) (by assumption) ?rc20
            case hc20 => (intro w0 hSw; (try dsimp only at hSw); go_simp; try (with_reducible rfl))
            simp only [Act.put, List.setIfInBounds_toArray, List.set_cons_zero, List.set_cons_succ]
            refine wpAnyH_take (i := 21) (oi := { dst := some 33, op := Op.binOp BinOp.eql 3 (Operand.tmp 30) (Operand.tmp 32) 3, type := 4, pos := "kindredref12.go:174", after := #[{ on := 18, ground := Ground.data }, { on := 20, ground := Ground.data }, { on := 12, ground := Ground.guard }], guard := some (12, false) }) (v := ?vc21) rfl (by kernel_rfl) (by kernel_rfl) (by kernel_rfl) (fun _ _ _ h => h) (Or.inl ⟨by rfl, ?hc21⟩) (by assumption) ?rc21
            case hc21 => (intro w0 hSw; (try dsimp only at hSw); go_simp; try (with_reducible rfl))
            simp only [Act.put, List.setIfInBounds_toArray, List.set_cons_zero, List.set_cons_succ]
            refine wpAnyH_take (i := 22) (oi := { dst := some 34, op := Op.move (Operand.tmp 33), type := 4, pos := "kindredref12.go:174", after := #[{ on := 21, ground := Ground.data }, { on := 12, ground := Ground.chain }, { on := 12, ground := Ground.guard }], guard := some (12, false) }) (v := ?vc22) rfl (by kernel_rfl) (by kernel_rfl) (by kernel_rfl) (fun _ _ _ h => h) (Or.inl ⟨by rfl, ?hc22⟩) (by assumption) ?rc22
            case hc22 => (intro w0 hSw; (try dsimp only at hSw); go_simp; try (with_reducible rfl))
            simp only [Act.put, List.setIfInBounds_toArray, List.set_cons_zero, List.set_cons_succ]
            refine wpAnyH_take (i := 23) (oi := { dst := some 35, op := Op.move (Operand.tmp 0), type := 32, pos := "kindredref12.go:174", after := #[{ on := 22, ground := Ground.guard }], guard := some (22, true) }) (v := ?vc23) rfl (by kernel_rfl) (by kernel_rfl) (by kernel_rfl) (fun _ _ _ h => h) (Or.inl ⟨by rfl, ?hc23⟩) (by assumption) ?rc23
            case hc23 => (intro w0 hSw; (try dsimp only at hSw); go_simp; try (with_reducible rfl))
            simp only [Act.put, List.setIfInBounds_toArray, List.set_cons_zero, List.set_cons_succ]
            refine wpAnyH_take (i := 24) (oi := { dst := some 36, op := Op.move (Operand.tmp 5), type := 3, pos := "kindredref12.go:174", after := #[{ on := 22, ground := Ground.guard }], guard := some (22, true) }) (v := ?vc24) rfl (by kernel_rfl) (by kernel_rfl) (by kernel_rfl) (fun _ _ _ h => h) (Or.inl ⟨by rfl, ?hc24⟩) (by assumption) ?rc24
            case hc24 => (intro w0 hSw; (try dsimp only at hSw); go_simp; try (with_reducible rfl))
            simp only [Act.put, List.setIfInBounds_toArray, List.set_cons_zero, List.set_cons_succ]
            refine wpAnyH_take (i := 25) (oi := { dst := some 37, op := Op.binOp BinOp.sub 3 (Operand.tmp 36) (Operand.const (Value.int IntKind.i64 1)) 3, type := 3, pos := "kindredref12.go:174", after := #[{ on := 24, ground := Ground.data }, { on := 22, ground := Ground.guard }], guard := some (22, true) }) (v := ?vc25) rfl (by kernel_rfl) (by kernel_rfl) (by kernel_rfl) (fun _ _ _ h => h) (Or.inl ⟨by rfl, ?hc25⟩) (by assumption) ?rc25
            case hc25 => (intro w0 hSw; (try dsimp only at hSw); go_simp; try (with_reducible rfl))
            simp only [Act.put, List.setIfInBounds_toArray, List.set_cons_zero, List.set_cons_succ]
            refine wpAnyH_take (i := 26) (oi := { dst := some 38, op := Op.indexAddr 32 (Operand.tmp 35) (Operand.tmp 37), type := 0, pos := "kindredref12.go:174", after := #[{ on := 23, ground := Ground.data }, { on := 25, ground := Ground.data }, { on := 22, ground := Ground.guard }], guard := some (22, true) }) (v := ?vc26) rfl (by kernel_rfl) (by kernel_rfl) (by kernel_rfl) (fun _ _ _ h => h) (Or.inl ⟨by rfl, ?hc26⟩) (by assumption) ?rc26
            case hc26 => (intro w0 hSw; (try dsimp only at hSw); go_simp; try (with_reducible rfl))
            simp only [Act.put, List.setIfInBounds_toArray, List.set_cons_zero, List.set_cons_succ]
            refine wpAnyH_take (i := 27) (oi := { dst := some 39, op := Op.fieldAddr 36 (Operand.tmp 38) 2, type := 0, pos := "kindredref12.go:174", after := #[{ on := 26, ground := Ground.data }, { on := 22, ground := Ground.guard }], guard := some (22, true) }) (v := ?vc27) rfl (by kernel_rfl) (by kernel_rfl) (by kernel_rfl) (fun _ _ _ h => h) (Or.inl ⟨by rfl, ?hc27⟩) (by assumption) ?rc27
            case hc27 => (intro w0 hSw; (try dsimp only at hSw); go_simp; try (with_reducible rfl))
            simp only [Act.put, List.setIfInBounds_toArray, List.set_cons_zero, List.set_cons_succ]
            refine wpAnyH_take (i := 28) (oi := { dst := some 40, op := Op.load 9 (Operand.tmp 39), type := 9, pos := "kindredref12.go:174", after := #[{ on := 27, ground := Ground.data }, { on := 22, ground := Ground.guard }], guard := some (22, true) }) (v := ?vc28) rfl (by kernel_rfl) (by kernel_rfl) (by kernel_rfl) (fun _ _ _ h => h) (Or.inl ⟨by rfl, ?hc28⟩) (by assumption) ?rc28
            case hc28 => (intro w0 hSw; (try dsimp only at hSw); go_simp; try (with_reducible rfl))
            simp only [Act.put, List.setIfInBounds_toArray, List.set_cons_zero, List.set_cons_succ]
            refine wpAnyH_take (i := 29) (oi := { dst := some 41, op := Op.fieldAddr 36 (Operand.tmp 3) 2, type := 0, pos := "kindredref12.go:174", after := #[{ on := 22, ground := Ground.guard }], guard := some (22, true) }) (v := ?vc29) rfl (by kernel_rfl) (by kernel_rfl) (by kernel_rfl) (fun _ _ _ h => h) (Or.inl ⟨by rfl, ?hc29⟩) (by assumption) ?rc29
            case hc29 => (intro w0 hSw; (try dsimp only at hSw); go_simp; try (with_reducible rfl))
            simp only [Act.put, List.setIfInBounds_toArray, List.set_cons_zero, List.set_cons_succ]
            refine wpAnyH_take (i := 30) (oi := { dst := some 42, op := Op.load 9 (Operand.tmp 41), type := 9, pos := "kindredref12.go:174", after := #[{ on := 29, ground := Ground.data }, { on := 22, ground := Ground.guard }], guard := some (22, true) }) (v := ?vc30) rfl (by kernel_rfl) (by kernel_rfl) (by kernel_rfl) (fun _ _ _ h => h) (Or.inl ⟨by rfl, ?hc30⟩) (by assumption) ?rc30
            case hc30 => (intro w0 hSw; (try dsimp only at hSw); go_simp; try (with_reducible rfl))
            simp only [Act.put, List.setIfInBounds_toArray, List.set_cons_zero, List.set_cons_succ]
            refine wpAnyH_take (i := 31) (oi := { dst := some 43, op := Op.binOp BinOp.gtr 9 (Operand.tmp 40) (Operand.tmp 42) 9, type := 4, pos := "kindredref12.go:174", after := #[{ on := 28, ground := Ground.data }, { on := 30, ground := Ground.data }, { on := 22, ground := Ground.guard }], guard := some (22, true) }) (v := ?vc31) rfl (by kernel_rfl) (by kernel_rfl) (by kernel_rfl) (fun _ _ _ h => h) (Or.inl ⟨by rfl, ?hc31⟩) (by assumption) ?rc31
            case hc31 => (intro w0 hSw; (try dsimp only at hSw); go_simp; try (with_reducible rfl))
            simp only [Act.put, List.setIfInBounds_toArray, List.set_cons_zero, List.set_cons_succ]
            refine wpAnyH_take (i := 32) (oi := { dst := some 44, op := Op.pick (Operand.tmp 34) (Operand.tmp 43) (Operand.const (Value.bool false)), type := 4, pos := "kindredref12.go:174", after := #[{ on := 22, ground := Ground.data }, { on := 31, ground := Ground.data }, { on := 12, ground := Ground.guard }], guard := some (12, false) }) (v := ?vc32) rfl (by kernel_rfl) (by kernel_rfl) (by kernel_rfl) (fun _ _ _ h => h) (Or.inl ⟨by rfl, ?hc32⟩) (by assumption) ?rc32
            case hc32 => (intro w0 hSw; (try dsimp only at hSw); go_simp; try (with_reducible rfl))
            simp only [Act.put, List.setIfInBounds_toArray, List.set_cons_zero, List.set_cons_succ]
            refine wpAnyH_take (i := 33) (oi := { dst := some 45, op := Op.pick (Operand.tmp 24) (Operand.const (Value.bool true)) (Operand.tmp 44), type := 4, pos := "kindredref12.go:174", after := #[{ on := 12, ground := Ground.data }, { on := 32, ground := Ground.data }, { on := 2, ground := Ground.guard }], guard := some (2, true) }) (v := ?vc33) rfl (by kernel_rfl) (by kernel_rfl) (by kernel_rfl) (fun _ _ _ h => h) (Or.inl ⟨by rfl, ?hc33⟩) (by assumption) ?rc33
            case hc33 => (intro w0 hSw; (try dsimp only at hSw); go_simp; try (with_reducible rfl))
            simp only [Act.put, List.setIfInBounds_toArray, List.set_cons_zero, List.set_cons_succ]
            refine wpAnyH_take (i := 34) (oi := { dst := some 46, op := Op.pick (Operand.tmp 14) (Operand.tmp 45) (Operand.const (Value.bool false)), type := 4, pos := "kindredref12.go:174", after := #[{ on := 2, ground := Ground.data }, { on := 33, ground := Ground.data }], guard := none }) (v := ?vc34) rfl (by kernel_rfl) (by kernel_rfl) (by kernel_rfl) (fun _ _ _ h => h) (Or.inl ⟨by rfl, ?hc34⟩) (by assumption) ?rc34
            case hc34 => (intro w0 hSw; (try dsimp only at hSw); go_simp; try (with_reducible rfl))
            simp only [Act.put, List.setIfInBounds_toArray, List.set_cons_zero, List.set_cons_succ]
            refine wpAnyH_done (by kernel_rfl) ?_ _
            obtain ⟨wz, hwz⟩ : ∃ wz, wz = wr.drew := ⟨_, rfl⟩
            rw [← hwz]
            have HZ := Hid.mk (show PCH B W wz g3 c3 hb (y1, x) L k from by rw [hwz]; exact HK.out.drew)
            obtain ⟨u0, u1, u2, z0, z1, z2, zf, -⟩ := HZ.out.hole (by have := HL.out.1; omega)
            have zf0 := zf (k * 3)
            have zf1 := zf (k * 3 + 1)
            have zf2 := zf (k * 3 + 2)
            have q0 : wz.cell? ⟨g3, m * 3, none⟩ = some (.int .i64 (y1 : Nat)) := by rw [hwz]; exact p0
            have q1 : wz.cell? ⟨g3, m * 3 + 1, none⟩ = some (.int .i64 0) := by rw [hwz]; exact p1
            have q2 : wz.cell? ⟨g3, m * 3 + 2, none⟩ = some (.string ys) := by rw [hwz]; exact p2
            clear hwz zf HK bx0 bx1 bx2 p0 p1 p2
            go_wp2_with fail
            exact ⟨⟨m, rfl, m2, Hid.mk (PCH.step HY.out.1 HY.out.2.1 HY.out.2.2.1 HYY.out.1 HYY.out.2 HZ.out HL.out.2.1 HGT.out)⟩, by simp only [intOf]; have := HY.out.1; omega⟩
          · have hyx : byC y.2 < byC x := lt_tot _ _ (fun e => HY.out.2.2.2.2 (Subtype.ext (ByteArray.ext (Array.toList_inj.1 e.symm)))) hbl
            have bl : Op.bytesLess ys.toList x.1.toList = true := by rw [HYY.out.2, bl_of]; simpa using hyx
            have HLo := Hid.mk (show ∀ j (hj : j < L.length), j < k → hlt L[j] (y1, x) from fun j hj h => (HY.out.2.2.2.1 j hj h).resolve_right (fun hn => hn (.inr ⟨HYY.out.1.symm, hyx⟩)))
            clear hgt hbl hyx
            go_wp2_with fail
            refine wp_region_held_drew (S := fun w' => w'.cell? ⟨g3, m * 3, none⟩ = some (.int .i64 (y1 : Nat)) ∧ w'.cell? ⟨g3, m * 3 + 2, none⟩ = some (.string ys) ∧ w'.cell? ⟨hb, 0, none⟩ = some (.int .i64 (y1 : Nat)) ∧ w'.cell? ⟨hb, 2, none⟩ = some (.string x.1)) (by kernel_rfl) ?_ (fun hHeld => ?_)
            · exact ⟨p0, p2, bx0, bx2⟩
            refine wpAnyH_take (i := 0) (oi := { dst := some 12, op := Op.move (Operand.tmp 5), type := 3, pos := "kindredref12.go:174", after := #[], guard := none }) (v := ?vd0) rfl (by kernel_rfl) (by kernel_rfl) (by kernel_rfl) (fun _ _ _ h => h) (Or.inl ⟨by rfl, ?hd0⟩) (by assumption) ?rd0
            case hd0 => (intro w0 hSw; (try dsimp only at hSw); go_simp; try (with_reducible rfl))
            simp only [Act.put, List.setIfInBounds_toArray, List.set_cons_zero, List.set_cons_succ]
            refine wpAnyH_take (i := 1) (oi := { dst := some 13, op := Op.binOp BinOp.gtr 3 (Operand.tmp 12) (Operand.const (Value.int IntKind.i64 0)) 3, type := 4, pos := "kindredref12.go:174", after := #[{ on := 0, ground := Ground.data }], guard := none }) (v := ?vd1) rfl (by kernel_rfl) (by kernel_rfl) (by kernel_rfl) (fun _ _ _ h => h) (Or.inl ⟨by rfl, ?hd1⟩) (by assumption) ?rd1
            case hd1 => (intro w0 hSw; (try dsimp only at hSw); go_simp; try (with_reducible rfl))
            simp only [Act.put, List.setIfInBounds_toArray, List.set_cons_zero, List.set_cons_succ]
            refine wpAnyH_take (i := 2) (oi := { dst := some 14, op := Op.move (Operand.tmp 13), type := 4, pos := "kindredref12.go:174", after := #[{ on := 1, ground := Ground.data }], guard := none }) (v := ?vd2) rfl (by kernel_rfl) (by kernel_rfl) (by kernel_rfl) (fun _ _ _ h => h) (Or.inl ⟨by rfl, ?hd2⟩) (by assumption) ?rd2
            case hd2 => (intro w0 hSw; (try dsimp only at hSw); go_simp; try (with_reducible rfl))
            simp only [Act.put, List.setIfInBounds_toArray, List.set_cons_zero, List.set_cons_succ]
            refine wpAnyH_take (i := 3) (oi := { dst := some 15, op := Op.move (Operand.tmp 0), type := 32, pos := "kindredref12.go:174", after := #[{ on := 2, ground := Ground.guard }], guard := some (2, true) }) (v := ?vd3) rfl (by kernel_rfl) (by kernel_rfl) (by kernel_rfl) (fun _ _ _ h => h) (Or.inl ⟨by rfl, ?hd3⟩) (by assumption) ?rd3
            case hd3 => (intro w0 hSw; (try dsimp only at hSw); go_simp; try (with_reducible rfl))
            simp only [Act.put, List.setIfInBounds_toArray, List.set_cons_zero, List.set_cons_succ]
            refine wpAnyH_take (i := 4) (oi := { dst := some 16, op := Op.move (Operand.tmp 5), type := 3, pos := "kindredref12.go:174", after := #[{ on := 2, ground := Ground.guard }], guard := some (2, true) }) (v := ?vd4) rfl (by kernel_rfl) (by kernel_rfl) (by kernel_rfl) (fun _ _ _ h => h) (Or.inl ⟨by rfl, ?hd4⟩) (by assumption) ?rd4
            case hd4 => (intro w0 hSw; (try dsimp only at hSw); go_simp; try (with_reducible rfl))
            simp only [Act.put, List.setIfInBounds_toArray, List.set_cons_zero, List.set_cons_succ]
            refine wpAnyH_take (i := 5) (oi := { dst := some 17, op := Op.binOp BinOp.sub 3 (Operand.tmp 16) (Operand.const (Value.int IntKind.i64 1)) 3, type := 3, pos := "kindredref12.go:174", after := #[{ on := 4, ground := Ground.data }, { on := 2, ground := Ground.guard }], guard := some (2, true) }) (v := ?vd5) rfl (by kernel_rfl) (by kernel_rfl) (by kernel_rfl) (fun _ _ _ h => h) (Or.inl ⟨by rfl, ?hd5⟩) (by assumption) ?rd5
            case hd5 => (intro w0 hSw; (try dsimp only at hSw); go_simp; try (with_reducible rfl))
            simp only [Act.put, List.setIfInBounds_toArray, List.set_cons_zero, List.set_cons_succ]
            refine wpAnyH_take (i := 6) (oi := { dst := some 18, op := Op.indexAddr 32 (Operand.tmp 15) (Operand.tmp 17), type := 0, pos := "kindredref12.go:174", after := #[{ on := 3, ground := Ground.data }, { on := 5, ground := Ground.data }, { on := 2, ground := Ground.guard }], guard := some (2, true) }) (v := ?vd6) rfl (by kernel_rfl) (by kernel_rfl) (by kernel_rfl) (fun _ _ _ h => h) (Or.inl ⟨by rfl, ?hd6⟩) (by assumption) ?rd6
            case hd6 => (intro w0 hSw; (try dsimp only at hSw); go_simp; try (with_reducible rfl))
            simp only [Act.put, List.setIfInBounds_toArray, List.set_cons_zero, List.set_cons_succ]
            refine wpAnyH_take (i := 7) (oi := { dst := some 19, op := Op.fieldAddr 36 (Operand.tmp 18) 0, type := 0, pos := "kindredref12.go:174", after := #[{ on := 6, ground := Ground.data }, { on := 2, ground := Ground.guard }], guard := some (2, true) }) (v := ?vd7) rfl (by kernel_rfl) (by kernel_rfl) (by kernel_rfl) (fun _ _ _ h => h) (Or.inl ⟨by rfl, ?hd7⟩) (by assumption) ?rd7
            case hd7 => (intro w0 hSw; (try dsimp only at hSw); go_simp; try (with_reducible rfl))
            simp only [Act.put, List.setIfInBounds_toArray, List.set_cons_zero, List.set_cons_succ]
            refine wpAnyH_take (i := 8) (oi := { dst := some 20, op := Op.load 3 (Operand.tmp 19), type := 3, pos := "kindredref12.go:174", after := #[{ on := 7, ground := Ground.data }, { on := 2, ground := Ground.guard }], guard := some (2, true) }) (v := ?vd8) rfl (by kernel_rfl) (by kernel_rfl) (by kernel_rfl) (fun _ _ _ h => h) (Or.inl ⟨by rfl, ?hd8⟩) (by assumption) ?rd8
            case hd8 => (intro w0 hSw; (try dsimp only at hSw); go_simp; try (with_reducible rfl))
            simp only [Act.put, List.setIfInBounds_toArray, List.set_cons_zero, List.set_cons_succ]
            refine wpAnyH_take (i := 9) (oi := { dst := some 21, op := Op.fieldAddr 36 (Operand.tmp 3) 0, type := 0, pos := "kindredref12.go:174", after := #[{ on := 2, ground := Ground.guard }], guard := some (2, true) }) (v := ?vd9) rfl (by kernel_rfl) (by kernel_rfl) (by kernel_rfl) (fun _ _ _ h => h) (Or.inl ⟨by rfl, ?hd9⟩) (by assumption) ?rd9
            case hd9 => (intro w0 hSw; (try dsimp only at hSw); go_simp; try (with_reducible rfl))
            simp only [Act.put, List.setIfInBounds_toArray, List.set_cons_zero, List.set_cons_succ]
            refine wpAnyH_take (i := 10) (oi := { dst := some 22, op := Op.load 3 (Operand.tmp 21), type := 3, pos := "kindredref12.go:174", after := #[{ on := 9, ground := Ground.data }, { on := 2, ground := Ground.guard }], guard := some (2, true) }) (v := ?vd10) rfl (by kernel_rfl) (by kernel_rfl) (by kernel_rfl) (fun _ _ _ h => h) (Or.inl ⟨by rfl, ?hd10⟩) (by assumption) ?rd10
            case hd10 => (intro w0 hSw; (try dsimp only at hSw); go_simp; try (with_reducible rfl))
            simp only [Act.put, List.setIfInBounds_toArray, List.set_cons_zero, List.set_cons_succ]
            refine wpAnyH_take (i := 11) (oi := { dst := some 23, op := Op.binOp BinOp.gtr 3 (Operand.tmp 20) (Operand.tmp 22) 3, type := 4, pos := "kindredref12.go:174", after := #[{ on := 8, ground := Ground.data }, { on := 10, ground := Ground.data }, { on := 2, ground := Ground.guard }], guard := some (2, true) }) (v := ?vd11) rfl (by kernel_rfl) (by kernel_rfl) (by kernel_rfl) (fun _ _ _ h => h) (Or.inl ⟨by rfl, ?hd11⟩) (by assumption) ?rd11
            case hd11 => (intro w0 hSw; (try dsimp only at hSw); go_simp; try (with_reducible rfl))
            simp only [Act.put, List.setIfInBounds_toArray, List.set_cons_zero, List.set_cons_succ]
            refine wpAnyH_take (i := 12) (oi := { dst := some 24, op := Op.move (Operand.tmp 23), type := 4, pos := "kindredref12.go:174", after := #[{ on := 11, ground := Ground.data }, { on := 2, ground := Ground.chain }, { on := 2, ground := Ground.guard }], guard := some (2, true) }) (v := ?vd12) rfl (by kernel_rfl) (by kernel_rfl) (by kernel_rfl) (fun _ _ _ h => h) (Or.inl ⟨by rfl, ?hd12⟩) (by assumption) ?rd12
            case hd12 => (intro w0 hSw; (try dsimp only at hSw); go_simp; try (with_reducible rfl))
            simp only [Act.put, List.setIfInBounds_toArray, List.set_cons_zero, List.set_cons_succ]
            refine wpAnyH_take (i := 13) (oi := { dst := some 25, op := Op.move (Operand.tmp 0), type := 32, pos := "kindredref12.go:174", after := #[{ on := 12, ground := Ground.guard }], guard := some (12, false) }) (v := ?vd13) rfl (by kernel_rfl) (by kernel_rfl) (by kernel_rfl) (fun _ _ _ h => h) (Or.inl ⟨by rfl, ?hd13⟩) (by assumption) ?rd13
            case hd13 => (intro w0 hSw; (try dsimp only at hSw); go_simp; try (with_reducible rfl))
            simp only [Act.put, List.setIfInBounds_toArray, List.set_cons_zero, List.set_cons_succ]
            refine wpAnyH_take (i := 14) (oi := { dst := some 26, op := Op.move (Operand.tmp 5), type := 3, pos := "kindredref12.go:174", after := #[{ on := 12, ground := Ground.guard }], guard := some (12, false) }) (v := ?vd14) rfl (by kernel_rfl) (by kernel_rfl) (by kernel_rfl) (fun _ _ _ h => h) (Or.inl ⟨by rfl, ?hd14⟩) (by assumption) ?rd14
            case hd14 => (intro w0 hSw; (try dsimp only at hSw); go_simp; try (with_reducible rfl))
            simp only [Act.put, List.setIfInBounds_toArray, List.set_cons_zero, List.set_cons_succ]
            refine wpAnyH_take (i := 15) (oi := { dst := some 27, op := Op.binOp BinOp.sub 3 (Operand.tmp 26) (Operand.const (Value.int IntKind.i64 1)) 3, type := 3, pos := "kindredref12.go:174", after := #[{ on := 14, ground := Ground.data }, { on := 12, ground := Ground.guard }], guard := some (12, false) }) (v := ?vd15) rfl (by kernel_rfl) (by kernel_rfl) (by kernel_rfl) (fun _ _ _ h => h) (Or.inl ⟨by rfl, ?hd15⟩) (by assumption) ?rd15
            case hd15 => (intro w0 hSw; (try dsimp only at hSw); go_simp; try (with_reducible rfl))
            simp only [Act.put, List.setIfInBounds_toArray, List.set_cons_zero, List.set_cons_succ]
            refine wpAnyH_take (i := 16) (oi := { dst := some 28, op := Op.indexAddr 32 (Operand.tmp 25) (Operand.tmp 27), type := 0, pos := "kindredref12.go:174", after := #[{ on := 13, ground := Ground.data }, { on := 15, ground := Ground.data }, { on := 12, ground := Ground.guard }], guard := some (12, false) }) (v := ?vd16) rfl (by kernel_rfl) (by kernel_rfl) (by kernel_rfl) (fun _ _ _ h => h) (Or.inl ⟨by rfl, ?hd16⟩) (by assumption) ?rd16
            case hd16 => (intro w0 hSw; (try dsimp only at hSw); go_simp; try (with_reducible rfl))
            simp only [Act.put, List.setIfInBounds_toArray, List.set_cons_zero, List.set_cons_succ]
            refine wpAnyH_take (i := 17) (oi := { dst := some 29, op := Op.fieldAddr 36 (Operand.tmp 28) 0, type := 0, pos := "kindredref12.go:174", after := #[{ on := 16, ground := Ground.data }, { on := 12, ground := Ground.guard }], guard := some (12, false) }) (v := ?vd17) rfl (by kernel_rfl) (by kernel_rfl) (by kernel_rfl) (fun _ _ _ h => h) (Or.inl ⟨by rfl, ?hd17⟩) (by assumption) ?rd17
            case hd17 => (intro w0 hSw; (try dsimp only at hSw); go_simp; try (with_reducible rfl))
            simp only [Act.put, List.setIfInBounds_toArray, List.set_cons_zero, List.set_cons_succ]
            refine wpAnyH_take (i := 18) (oi := { dst := some 30, op := Op.load 3 (Operand.tmp 29), type := 3, pos := "kindredref12.go:174", after := #[{ on := 17, ground := Ground.data }, { on := 12, ground := Ground.guard }], guard := some (12, false) }) (v := ?vd18) rfl (by kernel_rfl) (by kernel_rfl) (by kernel_rfl) (fun _ _ _ h => h) (Or.inl ⟨by rfl, ?hd18⟩) (by assumption) ?rd18
            case hd18 => (intro w0 hSw; (try dsimp only at hSw); go_simp; try (with_reducible rfl))
            simp only [Act.put, List.setIfInBounds_toArray, List.set_cons_zero, List.set_cons_succ]
            refine wpAnyH_take (i := 19) (oi := { dst := some 31, op := Op.fieldAddr 36 (Operand.tmp 3) 0, type := 0, pos := "kindredref12.go:174", after := #[{ on := 12, ground := Ground.guard }], guard := some (12, false) }) (v := ?vd19) rfl (by kernel_rfl) (by kernel_rfl) (by kernel_rfl) (fun _ _ _ h => h) (Or.inl ⟨by rfl, ?hd19⟩) (by assumption) ?rd19
            case hd19 => (intro w0 hSw; (try dsimp only at hSw); go_simp; try (with_reducible rfl))
            simp only [Act.put, List.setIfInBounds_toArray, List.set_cons_zero, List.set_cons_succ]
            refine wpAnyH_take (i := 20) (oi := { dst := some 32, op := Op.load 3 (Operand.tmp 31), type := 3, pos := "kindredref12.go:174", after := #[{ on := 19, ground := Ground.data }, { on := 12, ground := Ground.guard }], guard := some (12, false) }) (v := ?vd20) rfl (by kernel_rfl) (by kernel_rfl) (by kernel_rfl) (fun _ _ _ h => h) (Or.inl ⟨by rfl, ?hd20⟩) (by assumption) ?rd20
            case hd20 => (intro w0 hSw; (try dsimp only at hSw); go_simp; try (with_reducible rfl))
            simp only [Act.put, List.setIfInBounds_toArray, List.set_cons_zero, List.set_cons_succ]
            refine wpAnyH_take (i := 21) (oi := { dst := some 33, op := Op.binOp BinOp.eql 3 (Operand.tmp 30) (Operand.tmp 32) 3, type := 4, pos := "kindredref12.go:174", after := #[{ on := 18, ground := Ground.data }, { on := 20, ground := Ground.data }, { on := 12, ground := Ground.guard }], guard := some (12, false) }) (v := ?vd21) rfl (by kernel_rfl) (by kernel_rfl) (by kernel_rfl) (fun _ _ _ h => h) (Or.inl ⟨by rfl, ?hd21⟩) (by assumption) ?rd21
            case hd21 => (intro w0 hSw; (try dsimp only at hSw); go_simp; try (with_reducible rfl))
            simp only [Act.put, List.setIfInBounds_toArray, List.set_cons_zero, List.set_cons_succ]
            refine wpAnyH_take (i := 22) (oi := { dst := some 34, op := Op.move (Operand.tmp 33), type := 4, pos := "kindredref12.go:174", after := #[{ on := 21, ground := Ground.data }, { on := 12, ground := Ground.chain }, { on := 12, ground := Ground.guard }], guard := some (12, false) }) (v := ?vd22) rfl (by kernel_rfl) (by kernel_rfl) (by kernel_rfl) (fun _ _ _ h => h) (Or.inl ⟨by rfl, ?hd22⟩) (by assumption) ?rd22
            case hd22 => (intro w0 hSw; (try dsimp only at hSw); go_simp; try (with_reducible rfl))
            simp only [Act.put, List.setIfInBounds_toArray, List.set_cons_zero, List.set_cons_succ]
            refine wpAnyH_take (i := 23) (oi := { dst := some 35, op := Op.move (Operand.tmp 0), type := 32, pos := "kindredref12.go:174", after := #[{ on := 22, ground := Ground.guard }], guard := some (22, true) }) (v := ?vd23) rfl (by kernel_rfl) (by kernel_rfl) (by kernel_rfl) (fun _ _ _ h => h) (Or.inl ⟨by rfl, ?hd23⟩) (by assumption) ?rd23
            case hd23 => (intro w0 hSw; (try dsimp only at hSw); go_simp; try (with_reducible rfl))
            simp only [Act.put, List.setIfInBounds_toArray, List.set_cons_zero, List.set_cons_succ]
            refine wpAnyH_take (i := 24) (oi := { dst := some 36, op := Op.move (Operand.tmp 5), type := 3, pos := "kindredref12.go:174", after := #[{ on := 22, ground := Ground.guard }], guard := some (22, true) }) (v := ?vd24) rfl (by kernel_rfl) (by kernel_rfl) (by kernel_rfl) (fun _ _ _ h => h) (Or.inl ⟨by rfl, ?hd24⟩) (by assumption) ?rd24
            case hd24 => (intro w0 hSw; (try dsimp only at hSw); go_simp; try (with_reducible rfl))
            simp only [Act.put, List.setIfInBounds_toArray, List.set_cons_zero, List.set_cons_succ]
            refine wpAnyH_take (i := 25) (oi := { dst := some 37, op := Op.binOp BinOp.sub 3 (Operand.tmp 36) (Operand.const (Value.int IntKind.i64 1)) 3, type := 3, pos := "kindredref12.go:174", after := #[{ on := 24, ground := Ground.data }, { on := 22, ground := Ground.guard }], guard := some (22, true) }) (v := ?vd25) rfl (by kernel_rfl) (by kernel_rfl) (by kernel_rfl) (fun _ _ _ h => h) (Or.inl ⟨by rfl, ?hd25⟩) (by assumption) ?rd25
            case hd25 => (intro w0 hSw; (try dsimp only at hSw); go_simp; try (with_reducible rfl))
            simp only [Act.put, List.setIfInBounds_toArray, List.set_cons_zero, List.set_cons_succ]
            refine wpAnyH_take (i := 26) (oi := { dst := some 38, op := Op.indexAddr 32 (Operand.tmp 35) (Operand.tmp 37), type := 0, pos := "kindredref12.go:174", after := #[{ on := 23, ground := Ground.data }, { on := 25, ground := Ground.data }, { on := 22, ground := Ground.guard }], guard := some (22, true) }) (v := ?vd26) rfl (by kernel_rfl) (by kernel_rfl) (by kernel_rfl) (fun _ _ _ h => h) (Or.inl ⟨by rfl, ?hd26⟩) (by assumption) ?rd26
            case hd26 => (intro w0 hSw; (try dsimp only at hSw); go_simp; try (with_reducible rfl))
            simp only [Act.put, List.setIfInBounds_toArray, List.set_cons_zero, List.set_cons_succ]
            refine wpAnyH_take (i := 27) (oi := { dst := some 39, op := Op.fieldAddr 36 (Operand.tmp 38) 2, type := 0, pos := "kindredref12.go:174", after := #[{ on := 26, ground := Ground.data }, { on := 22, ground := Ground.guard }], guard := some (22, true) }) (v := ?vd27) rfl (by kernel_rfl) (by kernel_rfl) (by kernel_rfl) (fun _ _ _ h => h) (Or.inl ⟨by rfl, ?hd27⟩) (by assumption) ?rd27
            case hd27 => (intro w0 hSw; (try dsimp only at hSw); go_simp; try (with_reducible rfl))
            simp only [Act.put, List.setIfInBounds_toArray, List.set_cons_zero, List.set_cons_succ]
            refine wpAnyH_take (i := 28) (oi := { dst := some 40, op := Op.load 9 (Operand.tmp 39), type := 9, pos := "kindredref12.go:174", after := #[{ on := 27, ground := Ground.data }, { on := 22, ground := Ground.guard }], guard := some (22, true) }) (v := ?vd28) rfl (by kernel_rfl) (by kernel_rfl) (by kernel_rfl) (fun _ _ _ h => h) (Or.inl ⟨by rfl, ?hd28⟩) (by assumption) ?rd28
            case hd28 => (intro w0 hSw; (try dsimp only at hSw); go_simp; try (with_reducible rfl))
            simp only [Act.put, List.setIfInBounds_toArray, List.set_cons_zero, List.set_cons_succ]
            refine wpAnyH_take (i := 29) (oi := { dst := some 41, op := Op.fieldAddr 36 (Operand.tmp 3) 2, type := 0, pos := "kindredref12.go:174", after := #[{ on := 22, ground := Ground.guard }], guard := some (22, true) }) (v := ?vd29) rfl (by kernel_rfl) (by kernel_rfl) (by kernel_rfl) (fun _ _ _ h => h) (Or.inl ⟨by rfl, ?hd29⟩) (by assumption) ?rd29
            case hd29 => (intro w0 hSw; (try dsimp only at hSw); go_simp; try (with_reducible rfl))
            simp only [Act.put, List.setIfInBounds_toArray, List.set_cons_zero, List.set_cons_succ]
            refine wpAnyH_take (i := 30) (oi := { dst := some 42, op := Op.load 9 (Operand.tmp 41), type := 9, pos := "kindredref12.go:174", after := #[{ on := 29, ground := Ground.data }, { on := 22, ground := Ground.guard }], guard := some (22, true) }) (v := ?vd30) rfl (by kernel_rfl) (by kernel_rfl) (by kernel_rfl) (fun _ _ _ h => h) (Or.inl ⟨by rfl, ?hd30⟩) (by assumption) ?rd30
            case hd30 => (intro w0 hSw; (try dsimp only at hSw); go_simp; try (with_reducible rfl))
            simp only [Act.put, List.setIfInBounds_toArray, List.set_cons_zero, List.set_cons_succ]
            refine wpAnyH_take (i := 31) (oi := { dst := some 43, op := Op.binOp BinOp.gtr 9 (Operand.tmp 40) (Operand.tmp 42) 9, type := 4, pos := "kindredref12.go:174", after := #[{ on := 28, ground := Ground.data }, { on := 30, ground := Ground.data }, { on := 22, ground := Ground.guard }], guard := some (22, true) }) (v := ?vd31) rfl (by kernel_rfl) (by kernel_rfl) (by kernel_rfl) (fun _ _ _ h => h) (Or.inl ⟨by rfl, ?hd31⟩) (by assumption) ?rd31
            case hd31 => (intro w0 hSw; (try dsimp only at hSw); go_simp; try (with_reducible rfl))
            simp only [Act.put, List.setIfInBounds_toArray, List.set_cons_zero, List.set_cons_succ]
            refine wpAnyH_take (i := 32) (oi := { dst := some 44, op := Op.pick (Operand.tmp 34) (Operand.tmp 43) (Operand.const (Value.bool false)), type := 4, pos := "kindredref12.go:174", after := #[{ on := 22, ground := Ground.data }, { on := 31, ground := Ground.data }, { on := 12, ground := Ground.guard }], guard := some (12, false) }) (v := ?vd32) rfl (by kernel_rfl) (by kernel_rfl) (by kernel_rfl) (fun _ _ _ h => h) (Or.inl ⟨by rfl, ?hd32⟩) (by assumption) ?rd32
            case hd32 => (intro w0 hSw; (try dsimp only at hSw); go_simp; try (with_reducible rfl))
            simp only [Act.put, List.setIfInBounds_toArray, List.set_cons_zero, List.set_cons_succ]
            refine wpAnyH_take (i := 33) (oi := { dst := some 45, op := Op.pick (Operand.tmp 24) (Operand.const (Value.bool true)) (Operand.tmp 44), type := 4, pos := "kindredref12.go:174", after := #[{ on := 12, ground := Ground.data }, { on := 32, ground := Ground.data }, { on := 2, ground := Ground.guard }], guard := some (2, true) }) (v := ?vd33) rfl (by kernel_rfl) (by kernel_rfl) (by kernel_rfl) (fun _ _ _ h => h) (Or.inl ⟨by rfl, ?hd33⟩) (by assumption) ?rd33
            case hd33 => (intro w0 hSw; (try dsimp only at hSw); go_simp; try (with_reducible rfl))
            simp only [Act.put, List.setIfInBounds_toArray, List.set_cons_zero, List.set_cons_succ]
            refine wpAnyH_take (i := 34) (oi := { dst := some 46, op := Op.pick (Operand.tmp 14) (Operand.tmp 45) (Operand.const (Value.bool false)), type := 4, pos := "kindredref12.go:174", after := #[{ on := 2, ground := Ground.data }, { on := 33, ground := Ground.data }], guard := none }) (v := ?vd34) rfl (by kernel_rfl) (by kernel_rfl) (by kernel_rfl) (fun _ _ _ h => h) (Or.inl ⟨by rfl, ?hd34⟩) (by assumption) ?rd34
            case hd34 => (intro w0 hSw; (try dsimp only at hSw); go_simp; try (with_reducible rfl))
            simp only [Act.put, List.setIfInBounds_toArray, List.set_cons_zero, List.set_cons_succ]
            refine wpAnyH_done (by kernel_rfl) ?_ _
            obtain ⟨wz, hwz⟩ : ∃ wz, wz = wr.drew := ⟨_, rfl⟩
            rw [← hwz]
            have HZ := Hid.mk (show PCH B W wz g3 c3 hb (y1, x) L k from by rw [hwz]; exact HK.out.drew)
            obtain ⟨u0, u1, u2, z0, z1, z2, zf, -⟩ := HZ.out.hole (by have := HL.out.1; omega)
            have zf0 := zf (k * 3)
            have zf1 := zf (k * 3 + 1)
            have zf2 := zf (k * 3 + 2)
            obtain ⟨cz0, cz1, cz2⟩ := HZ.out.box
            clear hwz zf HK bx0 bx1 bx2 p0 p1 p2
            go_wp2_with fail
            go_ret
            have hfin := PCH.fill HX.out.2.1 HZ.out HL.out.2.2.1 HL.out.2.1 (by have := HL.out.1; omega) hdr HLo.out
            rw [← HL.out.1] at hfin
            exact hfin
        · have e1 : ((y1 : Int) == (d : Int)) = false := by simp; omega
          have e2 : (y1 == d) = false := by simp; omega
          have HLo := Hid.mk (show ∀ j (hj : j < L.length), j < k → hlt L[j] (d, x) from fun j hj h => (HY.out.2.2.2.1 j hj h).resolve_right (fun hn => hn (.inl (by show y.1 < d; rw [← HYY.out.1]; omega))))
          clear hgt heq
          go_wp2_with fail
          refine wp_region_held_drew (S := fun w' => w'.cell? ⟨g3, m * 3, none⟩ = some (.int .i64 (y1 : Nat)) ∧ w'.cell? ⟨g3, m * 3 + 2, none⟩ = some (.string ys) ∧ w'.cell? ⟨hb, 0, none⟩ = some (.int .i64 (d : Nat)) ∧ w'.cell? ⟨hb, 2, none⟩ = some (.string x.1)) (by kernel_rfl) ?_ (fun hHeld => ?_)
          · exact ⟨p0, p2, bx0, bx2⟩
          refine wpAnyH_take (i := 0) (oi := { dst := some 12, op := Op.move (Operand.tmp 5), type := 3, pos := "kindredref12.go:174", after := #[], guard := none }) (v := ?ve0) rfl (by kernel_rfl) (by kernel_rfl) (by kernel_rfl) (fun _ _ _ h => h) (Or.inl ⟨by rfl, ?he0⟩) (by assumption) ?re0
          case he0 => (intro w0 hSw; (try dsimp only at hSw); go_simp; try (with_reducible rfl))
          simp only [Act.put, List.setIfInBounds_toArray, List.set_cons_zero, List.set_cons_succ]
          refine wpAnyH_take (i := 1) (oi := { dst := some 13, op := Op.binOp BinOp.gtr 3 (Operand.tmp 12) (Operand.const (Value.int IntKind.i64 0)) 3, type := 4, pos := "kindredref12.go:174", after := #[{ on := 0, ground := Ground.data }], guard := none }) (v := ?ve1) rfl (by kernel_rfl) (by kernel_rfl) (by kernel_rfl) (fun _ _ _ h => h) (Or.inl ⟨by rfl, ?he1⟩) (by assumption) ?re1
          case he1 => (intro w0 hSw; (try dsimp only at hSw); go_simp; try (with_reducible rfl))
          simp only [Act.put, List.setIfInBounds_toArray, List.set_cons_zero, List.set_cons_succ]
          refine wpAnyH_take (i := 2) (oi := { dst := some 14, op := Op.move (Operand.tmp 13), type := 4, pos := "kindredref12.go:174", after := #[{ on := 1, ground := Ground.data }], guard := none }) (v := ?ve2) rfl (by kernel_rfl) (by kernel_rfl) (by kernel_rfl) (fun _ _ _ h => h) (Or.inl ⟨by rfl, ?he2⟩) (by assumption) ?re2
          case he2 => (intro w0 hSw; (try dsimp only at hSw); go_simp; try (with_reducible rfl))
          simp only [Act.put, List.setIfInBounds_toArray, List.set_cons_zero, List.set_cons_succ]
          refine wpAnyH_take (i := 3) (oi := { dst := some 15, op := Op.move (Operand.tmp 0), type := 32, pos := "kindredref12.go:174", after := #[{ on := 2, ground := Ground.guard }], guard := some (2, true) }) (v := ?ve3) rfl (by kernel_rfl) (by kernel_rfl) (by kernel_rfl) (fun _ _ _ h => h) (Or.inl ⟨by rfl, ?he3⟩) (by assumption) ?re3
          case he3 => (intro w0 hSw; (try dsimp only at hSw); go_simp; try (with_reducible rfl))
          simp only [Act.put, List.setIfInBounds_toArray, List.set_cons_zero, List.set_cons_succ]
          refine wpAnyH_take (i := 4) (oi := { dst := some 16, op := Op.move (Operand.tmp 5), type := 3, pos := "kindredref12.go:174", after := #[{ on := 2, ground := Ground.guard }], guard := some (2, true) }) (v := ?ve4) rfl (by kernel_rfl) (by kernel_rfl) (by kernel_rfl) (fun _ _ _ h => h) (Or.inl ⟨by rfl, ?he4⟩) (by assumption) ?re4
          case he4 => (intro w0 hSw; (try dsimp only at hSw); go_simp; try (with_reducible rfl))
          simp only [Act.put, List.setIfInBounds_toArray, List.set_cons_zero, List.set_cons_succ]
          refine wpAnyH_take (i := 5) (oi := { dst := some 17, op := Op.binOp BinOp.sub 3 (Operand.tmp 16) (Operand.const (Value.int IntKind.i64 1)) 3, type := 3, pos := "kindredref12.go:174", after := #[{ on := 4, ground := Ground.data }, { on := 2, ground := Ground.guard }], guard := some (2, true) }) (v := ?ve5) rfl (by kernel_rfl) (by kernel_rfl) (by kernel_rfl) (fun _ _ _ h => h) (Or.inl ⟨by rfl, ?he5⟩) (by assumption) ?re5
          case he5 => (intro w0 hSw; (try dsimp only at hSw); go_simp; try (with_reducible rfl))
          simp only [Act.put, List.setIfInBounds_toArray, List.set_cons_zero, List.set_cons_succ]
          refine wpAnyH_take (i := 6) (oi := { dst := some 18, op := Op.indexAddr 32 (Operand.tmp 15) (Operand.tmp 17), type := 0, pos := "kindredref12.go:174", after := #[{ on := 3, ground := Ground.data }, { on := 5, ground := Ground.data }, { on := 2, ground := Ground.guard }], guard := some (2, true) }) (v := ?ve6) rfl (by kernel_rfl) (by kernel_rfl) (by kernel_rfl) (fun _ _ _ h => h) (Or.inl ⟨by rfl, ?he6⟩) (by assumption) ?re6
          case he6 => (intro w0 hSw; (try dsimp only at hSw); go_simp; try (with_reducible rfl))
          simp only [Act.put, List.setIfInBounds_toArray, List.set_cons_zero, List.set_cons_succ]
          refine wpAnyH_take (i := 7) (oi := { dst := some 19, op := Op.fieldAddr 36 (Operand.tmp 18) 0, type := 0, pos := "kindredref12.go:174", after := #[{ on := 6, ground := Ground.data }, { on := 2, ground := Ground.guard }], guard := some (2, true) }) (v := ?ve7) rfl (by kernel_rfl) (by kernel_rfl) (by kernel_rfl) (fun _ _ _ h => h) (Or.inl ⟨by rfl, ?he7⟩) (by assumption) ?re7
          case he7 => (intro w0 hSw; (try dsimp only at hSw); go_simp; try (with_reducible rfl))
          simp only [Act.put, List.setIfInBounds_toArray, List.set_cons_zero, List.set_cons_succ]
          refine wpAnyH_take (i := 8) (oi := { dst := some 20, op := Op.load 3 (Operand.tmp 19), type := 3, pos := "kindredref12.go:174", after := #[{ on := 7, ground := Ground.data }, { on := 2, ground := Ground.guard }], guard := some (2, true) }) (v := ?ve8) rfl (by kernel_rfl) (by kernel_rfl) (by kernel_rfl) (fun _ _ _ h => h) (Or.inl ⟨by rfl, ?he8⟩) (by assumption) ?re8
          case he8 => (intro w0 hSw; (try dsimp only at hSw); go_simp; try (with_reducible rfl))
          simp only [Act.put, List.setIfInBounds_toArray, List.set_cons_zero, List.set_cons_succ]
          refine wpAnyH_take (i := 9) (oi := { dst := some 21, op := Op.fieldAddr 36 (Operand.tmp 3) 0, type := 0, pos := "kindredref12.go:174", after := #[{ on := 2, ground := Ground.guard }], guard := some (2, true) }) (v := ?ve9) rfl (by kernel_rfl) (by kernel_rfl) (by kernel_rfl) (fun _ _ _ h => h) (Or.inl ⟨by rfl, ?he9⟩) (by assumption) ?re9
          case he9 => (intro w0 hSw; (try dsimp only at hSw); go_simp; try (with_reducible rfl))
          simp only [Act.put, List.setIfInBounds_toArray, List.set_cons_zero, List.set_cons_succ]
          refine wpAnyH_take (i := 10) (oi := { dst := some 22, op := Op.load 3 (Operand.tmp 21), type := 3, pos := "kindredref12.go:174", after := #[{ on := 9, ground := Ground.data }, { on := 2, ground := Ground.guard }], guard := some (2, true) }) (v := ?ve10) rfl (by kernel_rfl) (by kernel_rfl) (by kernel_rfl) (fun _ _ _ h => h) (Or.inl ⟨by rfl, ?he10⟩) (by assumption) ?re10
          case he10 => (intro w0 hSw; (try dsimp only at hSw); go_simp; try (with_reducible rfl))
          simp only [Act.put, List.setIfInBounds_toArray, List.set_cons_zero, List.set_cons_succ]
          refine wpAnyH_take (i := 11) (oi := { dst := some 23, op := Op.binOp BinOp.gtr 3 (Operand.tmp 20) (Operand.tmp 22) 3, type := 4, pos := "kindredref12.go:174", after := #[{ on := 8, ground := Ground.data }, { on := 10, ground := Ground.data }, { on := 2, ground := Ground.guard }], guard := some (2, true) }) (v := ?ve11) rfl (by kernel_rfl) (by kernel_rfl) (by kernel_rfl) (fun _ _ _ h => h) (Or.inl ⟨by rfl, ?he11⟩) (by assumption) ?re11
          case he11 => (intro w0 hSw; (try dsimp only at hSw); go_simp; try (with_reducible rfl))
          simp only [Act.put, List.setIfInBounds_toArray, List.set_cons_zero, List.set_cons_succ]
          refine wpAnyH_take (i := 12) (oi := { dst := some 24, op := Op.move (Operand.tmp 23), type := 4, pos := "kindredref12.go:174", after := #[{ on := 11, ground := Ground.data }, { on := 2, ground := Ground.chain }, { on := 2, ground := Ground.guard }], guard := some (2, true) }) (v := ?ve12) rfl (by kernel_rfl) (by kernel_rfl) (by kernel_rfl) (fun _ _ _ h => h) (Or.inl ⟨by rfl, ?he12⟩) (by assumption) ?re12
          case he12 => (intro w0 hSw; (try dsimp only at hSw); go_simp; try (with_reducible rfl))
          simp only [Act.put, List.setIfInBounds_toArray, List.set_cons_zero, List.set_cons_succ]
          refine wpAnyH_take (i := 13) (oi := { dst := some 25, op := Op.move (Operand.tmp 0), type := 32, pos := "kindredref12.go:174", after := #[{ on := 12, ground := Ground.guard }], guard := some (12, false) }) (v := ?ve13) rfl (by kernel_rfl) (by kernel_rfl) (by kernel_rfl) (fun _ _ _ h => h) (Or.inl ⟨by rfl, ?he13⟩) (by assumption) ?re13
          case he13 => (intro w0 hSw; (try dsimp only at hSw); go_simp; try (with_reducible rfl))
          simp only [Act.put, List.setIfInBounds_toArray, List.set_cons_zero, List.set_cons_succ]
          refine wpAnyH_take (i := 14) (oi := { dst := some 26, op := Op.move (Operand.tmp 5), type := 3, pos := "kindredref12.go:174", after := #[{ on := 12, ground := Ground.guard }], guard := some (12, false) }) (v := ?ve14) rfl (by kernel_rfl) (by kernel_rfl) (by kernel_rfl) (fun _ _ _ h => h) (Or.inl ⟨by rfl, ?he14⟩) (by assumption) ?re14
          case he14 => (intro w0 hSw; (try dsimp only at hSw); go_simp; try (with_reducible rfl))
          simp only [Act.put, List.setIfInBounds_toArray, List.set_cons_zero, List.set_cons_succ]
          refine wpAnyH_take (i := 15) (oi := { dst := some 27, op := Op.binOp BinOp.sub 3 (Operand.tmp 26) (Operand.const (Value.int IntKind.i64 1)) 3, type := 3, pos := "kindredref12.go:174", after := #[{ on := 14, ground := Ground.data }, { on := 12, ground := Ground.guard }], guard := some (12, false) }) (v := ?ve15) rfl (by kernel_rfl) (by kernel_rfl) (by kernel_rfl) (fun _ _ _ h => h) (Or.inl ⟨by rfl, ?he15⟩) (by assumption) ?re15
          case he15 => (intro w0 hSw; (try dsimp only at hSw); go_simp; try (with_reducible rfl))
          simp only [Act.put, List.setIfInBounds_toArray, List.set_cons_zero, List.set_cons_succ]
          refine wpAnyH_take (i := 16) (oi := { dst := some 28, op := Op.indexAddr 32 (Operand.tmp 25) (Operand.tmp 27), type := 0, pos := "kindredref12.go:174", after := #[{ on := 13, ground := Ground.data }, { on := 15, ground := Ground.data }, { on := 12, ground := Ground.guard }], guard := some (12, false) }) (v := ?ve16) rfl (by kernel_rfl) (by kernel_rfl) (by kernel_rfl) (fun _ _ _ h => h) (Or.inl ⟨by rfl, ?he16⟩) (by assumption) ?re16
          case he16 => (intro w0 hSw; (try dsimp only at hSw); go_simp; try (with_reducible rfl))
          simp only [Act.put, List.setIfInBounds_toArray, List.set_cons_zero, List.set_cons_succ]
          refine wpAnyH_take (i := 17) (oi := { dst := some 29, op := Op.fieldAddr 36 (Operand.tmp 28) 0, type := 0, pos := "kindredref12.go:174", after := #[{ on := 16, ground := Ground.data }, { on := 12, ground := Ground.guard }], guard := some (12, false) }) (v := ?ve17) rfl (by kernel_rfl) (by kernel_rfl) (by kernel_rfl) (fun _ _ _ h => h) (Or.inl ⟨by rfl, ?he17⟩) (by assumption) ?re17
          case he17 => (intro w0 hSw; (try dsimp only at hSw); go_simp; try (with_reducible rfl))
          simp only [Act.put, List.setIfInBounds_toArray, List.set_cons_zero, List.set_cons_succ]
          refine wpAnyH_take (i := 18) (oi := { dst := some 30, op := Op.load 3 (Operand.tmp 29), type := 3, pos := "kindredref12.go:174", after := #[{ on := 17, ground := Ground.data }, { on := 12, ground := Ground.guard }], guard := some (12, false) }) (v := ?ve18) rfl (by kernel_rfl) (by kernel_rfl) (by kernel_rfl) (fun _ _ _ h => h) (Or.inl ⟨by rfl, ?he18⟩) (by assumption) ?re18
          case he18 => (intro w0 hSw; (try dsimp only at hSw); go_simp; try (with_reducible rfl))
          simp only [Act.put, List.setIfInBounds_toArray, List.set_cons_zero, List.set_cons_succ]
          refine wpAnyH_take (i := 19) (oi := { dst := some 31, op := Op.fieldAddr 36 (Operand.tmp 3) 0, type := 0, pos := "kindredref12.go:174", after := #[{ on := 12, ground := Ground.guard }], guard := some (12, false) }) (v := ?ve19) rfl (by kernel_rfl) (by kernel_rfl) (by kernel_rfl) (fun _ _ _ h => h) (Or.inl ⟨by rfl, ?he19⟩) (by assumption) ?re19
          case he19 => (intro w0 hSw; (try dsimp only at hSw); go_simp; try (with_reducible rfl))
          simp only [Act.put, List.setIfInBounds_toArray, List.set_cons_zero, List.set_cons_succ]
          refine wpAnyH_take (i := 20) (oi := { dst := some 32, op := Op.load 3 (Operand.tmp 31), type := 3, pos := "kindredref12.go:174", after := #[{ on := 19, ground := Ground.data }, { on := 12, ground := Ground.guard }], guard := some (12, false) }) (v := ?ve20) rfl (by kernel_rfl) (by kernel_rfl) (by kernel_rfl) (fun _ _ _ h => h) (Or.inl ⟨by rfl, ?he20⟩) (by assumption) ?re20
          case he20 => (intro w0 hSw; (try dsimp only at hSw); go_simp; try (with_reducible rfl))
          simp only [Act.put, List.setIfInBounds_toArray, List.set_cons_zero, List.set_cons_succ]
          refine wpAnyH_take (i := 21) (oi := { dst := some 33, op := Op.binOp BinOp.eql 3 (Operand.tmp 30) (Operand.tmp 32) 3, type := 4, pos := "kindredref12.go:174", after := #[{ on := 18, ground := Ground.data }, { on := 20, ground := Ground.data }, { on := 12, ground := Ground.guard }], guard := some (12, false) }) (v := ?ve21) rfl (by kernel_rfl) (by kernel_rfl) (by kernel_rfl) (fun _ _ _ h => h) (Or.inl ⟨by rfl, ?he21⟩) (by assumption) ?re21
          case he21 => (intro w0 hSw; (try dsimp only at hSw); go_simp; try (with_reducible rfl))
          simp only [Act.put, List.setIfInBounds_toArray, List.set_cons_zero, List.set_cons_succ]
          refine wpAnyH_take (i := 22) (oi := { dst := some 34, op := Op.move (Operand.tmp 33), type := 4, pos := "kindredref12.go:174", after := #[{ on := 21, ground := Ground.data }, { on := 12, ground := Ground.chain }, { on := 12, ground := Ground.guard }], guard := some (12, false) }) (v := ?ve22) rfl (by kernel_rfl) (by kernel_rfl) (by kernel_rfl) (fun _ _ _ h => h) (Or.inl ⟨by rfl, ?he22⟩) (by assumption) ?re22
          case he22 => (intro w0 hSw; (try dsimp only at hSw); go_simp; try (with_reducible rfl))
          simp only [Act.put, List.setIfInBounds_toArray, List.set_cons_zero, List.set_cons_succ]
          refine wpAnyH_take (i := 23) (oi := { dst := some 35, op := Op.move (Operand.tmp 0), type := 32, pos := "kindredref12.go:174", after := #[{ on := 22, ground := Ground.guard }], guard := some (22, true) }) rfl (by kernel_rfl) (by kernel_rfl) (by kernel_rfl) (fun _ _ _ h => h) (Or.inr ⟨by rfl, rfl⟩) (by assumption) ?_
          simp only [Act.put, List.setIfInBounds_toArray, List.set_cons_zero, List.set_cons_succ]
          refine wpAnyH_take (i := 24) (oi := { dst := some 36, op := Op.move (Operand.tmp 5), type := 3, pos := "kindredref12.go:174", after := #[{ on := 22, ground := Ground.guard }], guard := some (22, true) }) rfl (by kernel_rfl) (by kernel_rfl) (by kernel_rfl) (fun _ _ _ h => h) (Or.inr ⟨by rfl, rfl⟩) (by assumption) ?_
          simp only [Act.put, List.setIfInBounds_toArray, List.set_cons_zero, List.set_cons_succ]
          refine wpAnyH_take (i := 25) (oi := { dst := some 37, op := Op.binOp BinOp.sub 3 (Operand.tmp 36) (Operand.const (Value.int IntKind.i64 1)) 3, type := 3, pos := "kindredref12.go:174", after := #[{ on := 24, ground := Ground.data }, { on := 22, ground := Ground.guard }], guard := some (22, true) }) rfl (by kernel_rfl) (by kernel_rfl) (by kernel_rfl) (fun _ _ _ h => h) (Or.inr ⟨by rfl, rfl⟩) (by assumption) ?_
          simp only [Act.put, List.setIfInBounds_toArray, List.set_cons_zero, List.set_cons_succ]
          refine wpAnyH_take (i := 26) (oi := { dst := some 38, op := Op.indexAddr 32 (Operand.tmp 35) (Operand.tmp 37), type := 0, pos := "kindredref12.go:174", after := #[{ on := 23, ground := Ground.data }, { on := 25, ground := Ground.data }, { on := 22, ground := Ground.guard }], guard := some (22, true) }) rfl (by kernel_rfl) (by kernel_rfl) (by kernel_rfl) (fun _ _ _ h => h) (Or.inr ⟨by rfl, rfl⟩) (by assumption) ?_
          simp only [Act.put, List.setIfInBounds_toArray, List.set_cons_zero, List.set_cons_succ]
          refine wpAnyH_take (i := 27) (oi := { dst := some 39, op := Op.fieldAddr 36 (Operand.tmp 38) 2, type := 0, pos := "kindredref12.go:174", after := #[{ on := 26, ground := Ground.data }, { on := 22, ground := Ground.guard }], guard := some (22, true) }) rfl (by kernel_rfl) (by kernel_rfl) (by kernel_rfl) (fun _ _ _ h => h) (Or.inr ⟨by rfl, rfl⟩) (by assumption) ?_
          simp only [Act.put, List.setIfInBounds_toArray, List.set_cons_zero, List.set_cons_succ]
          refine wpAnyH_take (i := 28) (oi := { dst := some 40, op := Op.load 9 (Operand.tmp 39), type := 9, pos := "kindredref12.go:174", after := #[{ on := 27, ground := Ground.data }, { on := 22, ground := Ground.guard }], guard := some (22, true) }) rfl (by kernel_rfl) (by kernel_rfl) (by kernel_rfl) (fun _ _ _ h => h) (Or.inr ⟨by rfl, rfl⟩) (by assumption) ?_
          simp only [Act.put, List.setIfInBounds_toArray, List.set_cons_zero, List.set_cons_succ]
          refine wpAnyH_take (i := 29) (oi := { dst := some 41, op := Op.fieldAddr 36 (Operand.tmp 3) 2, type := 0, pos := "kindredref12.go:174", after := #[{ on := 22, ground := Ground.guard }], guard := some (22, true) }) rfl (by kernel_rfl) (by kernel_rfl) (by kernel_rfl) (fun _ _ _ h => h) (Or.inr ⟨by rfl, rfl⟩) (by assumption) ?_
          simp only [Act.put, List.setIfInBounds_toArray, List.set_cons_zero, List.set_cons_succ]
          refine wpAnyH_take (i := 30) (oi := { dst := some 42, op := Op.load 9 (Operand.tmp 41), type := 9, pos := "kindredref12.go:174", after := #[{ on := 29, ground := Ground.data }, { on := 22, ground := Ground.guard }], guard := some (22, true) }) rfl (by kernel_rfl) (by kernel_rfl) (by kernel_rfl) (fun _ _ _ h => h) (Or.inr ⟨by rfl, rfl⟩) (by assumption) ?_
          simp only [Act.put, List.setIfInBounds_toArray, List.set_cons_zero, List.set_cons_succ]
          refine wpAnyH_take (i := 31) (oi := { dst := some 43, op := Op.binOp BinOp.gtr 9 (Operand.tmp 40) (Operand.tmp 42) 9, type := 4, pos := "kindredref12.go:174", after := #[{ on := 28, ground := Ground.data }, { on := 30, ground := Ground.data }, { on := 22, ground := Ground.guard }], guard := some (22, true) }) rfl (by kernel_rfl) (by kernel_rfl) (by kernel_rfl) (fun _ _ _ h => h) (Or.inr ⟨by rfl, rfl⟩) (by assumption) ?_
          simp only [Act.put, List.setIfInBounds_toArray, List.set_cons_zero, List.set_cons_succ]
          refine wpAnyH_take (i := 32) (oi := { dst := some 44, op := Op.pick (Operand.tmp 34) (Operand.tmp 43) (Operand.const (Value.bool false)), type := 4, pos := "kindredref12.go:174", after := #[{ on := 22, ground := Ground.data }, { on := 31, ground := Ground.data }, { on := 12, ground := Ground.guard }], guard := some (12, false) }) (v := ?ve32) rfl (by kernel_rfl) (by kernel_rfl) (by kernel_rfl) (fun _ _ _ h => h) (Or.inl ⟨by rfl, ?he32⟩) (by assumption) ?re32
          case he32 => (intro w0 hSw; (try dsimp only at hSw); go_simp; try (with_reducible rfl))
          simp only [Act.put, List.setIfInBounds_toArray, List.set_cons_zero, List.set_cons_succ]
          refine wpAnyH_take (i := 33) (oi := { dst := some 45, op := Op.pick (Operand.tmp 24) (Operand.const (Value.bool true)) (Operand.tmp 44), type := 4, pos := "kindredref12.go:174", after := #[{ on := 12, ground := Ground.data }, { on := 32, ground := Ground.data }, { on := 2, ground := Ground.guard }], guard := some (2, true) }) (v := ?ve33) rfl (by kernel_rfl) (by kernel_rfl) (by kernel_rfl) (fun _ _ _ h => h) (Or.inl ⟨by rfl, ?he33⟩) (by assumption) ?re33
          case he33 => (intro w0 hSw; (try dsimp only at hSw); go_simp; try (with_reducible rfl))
          simp only [Act.put, List.setIfInBounds_toArray, List.set_cons_zero, List.set_cons_succ]
          refine wpAnyH_take (i := 34) (oi := { dst := some 46, op := Op.pick (Operand.tmp 14) (Operand.tmp 45) (Operand.const (Value.bool false)), type := 4, pos := "kindredref12.go:174", after := #[{ on := 2, ground := Ground.data }, { on := 33, ground := Ground.data }], guard := none }) (v := ?ve34) rfl (by kernel_rfl) (by kernel_rfl) (by kernel_rfl) (fun _ _ _ h => h) (Or.inl ⟨by rfl, ?he34⟩) (by assumption) ?re34
          case he34 => (intro w0 hSw; (try dsimp only at hSw); go_simp; try (with_reducible rfl))
          simp only [Act.put, List.setIfInBounds_toArray, List.set_cons_zero, List.set_cons_succ]
          refine wpAnyH_done (by kernel_rfl) ?_ _
          obtain ⟨wz, hwz⟩ : ∃ wz, wz = wr.drew := ⟨_, rfl⟩
          rw [← hwz]
          have HZ := Hid.mk (show PCH B W wz g3 c3 hb (d, x) L k from by rw [hwz]; exact HK.out.drew)
          obtain ⟨u0, u1, u2, z0, z1, z2, zf, -⟩ := HZ.out.hole (by have := HL.out.1; omega)
          have zf0 := zf (k * 3)
          have zf1 := zf (k * 3 + 1)
          have zf2 := zf (k * 3 + 2)
          obtain ⟨cz0, cz1, cz2⟩ := HZ.out.box
          clear hwz zf HK bx0 bx1 bx2 p0 p1 p2
          go_wp2_with fail
          go_ret
          have hfin := PCH.fill HX.out.2.1 HZ.out HL.out.2.2.1 HL.out.2.1 (by have := HL.out.1; omega) hdr HLo.out
          rw [← HL.out.1] at hfin
          exact hfin
end Go.Proofs.YtnnbcdfpbdmgdaaDoor
