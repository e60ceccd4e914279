/-
  DERIVED. The document's own put.
-/
import Derived.Test.YtbkbnhdeleoibaaMPut
import Derived.Test.YtbkbnhdeleoibaaLRow
set_option linter.unusedVariables false
set_option linter.unusedSimpArgs false
namespace Go.Proofs.Ytbkbnhdeleoibaa
open Go.RowKit
/-- What the document's put makes of a list. -/
def PutR (l : List En) (e : En) (l' : List En) : Prop := ∃ k, PutK l e k ∧ (((∀ h : k < l.length, cpE l[k] e ≠ 0) ∧ l' = l.take k ++ e :: l.drop k) ∨ (∃ h : k < l.length, cpE l[k] e = 0 ∧ ((l[k].s < e.s ∧ l' = l.take k ++ e :: l.drop (k + 1)) ∨ (¬ l[k].s < e.s ∧ l' = l))))
def PutO2 (l : List En) (la : Option Addr) (lc : Nat) (e : En) (w : World) (r : Ending) (w' : World) : Prop := Below w.heap.size w w' ∧ ∃ l' a n c b, PutR l e l' ∧ r = .returned (.tuple #[.slice a n c, .bool b]) ∧ n = l'.length ∧
  ((l' = l ∧ a = la ∧ c = lc) ∨ (HRow w' (.slice a n c) l' ∧ ∀ g, (Value.slice a n c).ownBlock = some g → w.heap.size ≤ g))
set_option maxRecDepth 100000 in
theorem put_two {w5 : World} {B : Nat} {la : Option Addr} {l : List En} {k j : Nat} {e : En} {a1 : Option Addr} {c1 : Nat} (hk : k ≤ l.length) (hkj : k ≤ j) (hj : j ≤ l.length) (ho : HRow w5 (.slice a1 k c1) (l.take k)) (hn : ∀ g, (Value.slice a1 k c1).ownBlock = some g → B ≤ g) (hB : B ≤ w5.heap.size) (hL : LAt w5 la l) (hl : (l.length + 1) * 48 ≤ 140737488355328)
    (hold : ∀ g off, la = some ⟨g, off, none⟩ → l ≠ [] → g < B) (a3 : Option Addr) (c3 : Nat) (h3 : j < l.length → ∃ g off, la = some ⟨g, off, none⟩ ∧ a3 = some ⟨g, off + j * 5, none⟩) :
    ∃ a2 c2 w2 a4 c4 w3, (Builtin.append_ #[24, 24] 24 #[.slice a1 k c1, .slice (some ⟨w5.heap.size, 0, none⟩) 1 1]).run Try.prog (w5.alloc (.cells (enC e).toArray 36)) = .ok (.slice a2 (k + 1) c2) w2 ∧
      (Builtin.append_ #[24, 24] 24 #[.slice a2 (k + 1) c2, .slice a3 (l.length - j) c3]).run Try.prog w2 = .ok (.slice a4 (k + 1 + (l.length - j)) c4) w3 ∧
      HRow w3 (.slice a4 (k + 1 + (l.length - j)) c4) (l.take k ++ e :: l.drop j) ∧ k + 1 + (l.length - j) = (l.take k ++ e :: l.drop j).length ∧ Below B w5 w3 ∧ ∀ g, (Value.slice a4 (k + 1 + (l.length - j)) c4).ownBlock = some g → B ≤ g := by
  have elen : (l.take k).length = k := by rw [List.length_take]; omega
  have edrop : (l.drop j).length = l.length - j := List.length_drop
  obtain ⟨v2, w2, hap2, ho2, st2, hl2⟩ := ent_app1 w5 (l.take k) (.slice a1 k c1) ho e (by rw [elen]; omega)
  obtain ⟨b2, n2⟩ := below_row (Below.refl B w5) hn st2 hl2 hB
  obtain ⟨v3, w3, hap3, ho3, st3, hl3⟩ := ent_app w2 (l.take k ++ [e]) (l.drop j) v2 ho2 a3 c3 (fun hne => by
    have hlt : j < l.length := by
      rcases Nat.lt_or_ge j l.length with q | q
      · exact q
      · exact absurd (List.drop_eq_nil_of_le q) hne
    have hl0 : l ≠ [] := fun h0 => by rw [h0] at hlt; simp at hlt
    obtain ⟨g, off, e1, e2⟩ := h3 hlt
    obtain ⟨g', off', e1', hr⟩ := hL.at' hl0
    rw [e1] at e1'; cases e1'
    have hg := hold g off e1 hl0
    refine ⟨g, off + j * 5, e2, fun i x hx => ?_⟩
    rw [b2.cell (p := ⟨g, off + j * 5 + i, none⟩) hg, Nat.add_assoc]
    refine hr _ _ ?_
    have elj : (l.take j).length = j := by rw [List.length_take]; omega
    rw [← List.take_append_drop j l, List.flatMap_append, List.getElem?_append_right (by rw [flat_len5, elj]; omega), flat_len5, elj, show j * 5 + i - j * 5 = i by omega]
    exact hx) (by rw [List.length_append, elen, edrop]; simp; omega)
  obtain ⟨b3, n3⟩ := below_row b2 n2 st3 hl3 (Nat.le_trans hB b2.size)
  obtain ⟨a2, c2, rfl, -⟩ := slice_form ho2
  obtain ⟨a4, c4, rfl, -⟩ := slice_form ho3
  have e4 : (l.take k ++ [e] ++ l.drop j) = l.take k ++ e :: l.drop j := by simp
  have e5 : (l.take k ++ [e]).length = k + 1 := by rw [List.length_append, elen]; rfl
  have e6 : (l.take k ++ e :: l.drop j).length = k + 1 + (l.length - j) := by rw [← e4, List.length_append, e5, edrop]
  rw [e4] at ho3 hap3 n3
  rw [e5] at hap2 hap3
  rw [edrop, e6] at hap3
  rw [e6] at n3
  refine ⟨a2, c2, w2, a4, c4, w3, hap2, hap3, ?_, e6.symm, b3, n3⟩
  have h9 := ho3
  rw [e6] at h9
  show w3.ownsRow 0 36 5 _ (l.take k ++ e :: l.drop j).length _
  rw [e6]; exact h9
set_option maxHeartbeats 4000000 in
set_option maxRecDepth 100000 in
theorem rput_any (l : List En) (la : Option Addr) (lc : Nat) (e : En) (w : World) (h : LAt w la l) (hcap : l.length ≤ lc) (hl : (l.length + 1) * 48 ≤ 140737488355328) :
    Calls Try.prog 15 #[.slice la l.length lc, .agg (enC e).toArray] w (PutO2 l la lc e w) := by
  obtain ⟨n, hn⟩ : ∃ n, n = l.length := ⟨_, rfl⟩
  have HA := Hid.mk (And.intro h (And.intro hl (And.intro hcap hn)))
  have HO : Hid (∀ g off, la = some ⟨g, off, none⟩ → l ≠ [] → g < w.heap.size) := fun g off e1 h0 => h.lt e1 h0
  rw [← hn] at hl ⊢
  clear h hn hcap
  obtain ⟨wa, hwa⟩ : ∃ wa, wa = w.alloc (.cells (enC e).toArray 36) := ⟨_, rfl⟩
  have ba : Below w.heap.size w wa := by rw [hwa]; exact (Below.refl _ w).alloc (Nat.le_refl _) _
  have SA : SAt wa w.heap.size (enC e) := by rw [hwa]; exact SAt.new w _ _
  have hwa' : w.alloc (.cells (enC e).toArray 36) = wa := hwa.symm
  have HB := Hid.mk (And.intro ba SA)
  clear hwa ba SA
  simp only [enC] at hwa' ⊢
  go_enter Try.func15, Try.ntmps15
  go_wp2
  go_loopw [6] (fun iv wr => ∃ i : Nat, iv = .int .i64 i ∧ i ≤ n ∧ (∀ j (h : j < l.length), j < i → cpE l[j] e < 0) ∧ Below wa.heap.size wa wr) (fun iv _ => n - (intOf iv).toNat)
  case atStart => exact ⟨0, rfl, Nat.zero_le _, fun j _ h => absurd h (Nat.not_lt_zero _), Below.refl _ _⟩
  case round =>
    obtain ⟨i, rfl, hi, hlo, hb⟩ := hrel
    have hb0 := chain HB.out.1 hb (Nat.le_refl _)
    have y0 := cell_lat hb (HB.out.2 0 _ rfl)
    have y1 := cell_lat hb (HB.out.2 1 _ rfl)
    have y2 := cell_lat hb (HB.out.2 2 _ rfl)
    have y3 := cell_lat hb (HB.out.2 3 _ rfl)
    have y4 := cell_lat hb (HB.out.2 4 _ rfl)
    have HLO := Hid.mk (And.intro hlo (And.intro hb hb0))
    clear hlo
    clear hb hb0
    by_cases hlt : i < n
    · have hln : i < l.length := by have := HA.out.2.2.2; omega
      obtain ⟨g, off, hla, hra⟩ := (HA.out.1.below HLO.out.2.2).at' (fun h => by rw [h] at hln; simp at hln)
      subst hla
      obtain ⟨x0, x1, x2, x3, x4⟩ := row_en hra rfl i hln
      have hcmp := rcompare_any l[i] e
      obtain ⟨f, hf⟩ : ∃ f, f = l[i] := ⟨_, rfl⟩
      rw [← hf] at x0 x1 x2 x3 x4 hcmp
      obtain ⟨z, hz⟩ : ∃ z, z = cpE f e := ⟨_, rfl⟩
      rw [← hz] at hcmp
      have HF := Hid.mk (And.intro hf hz)
      clear hf hra hi hz
      simp only [enC] at hcmp
      have i1 : (i : Int) < (n : Int) := by omega
      have i0 : 0 ≤ (i : Int) := by omega
      obtain ⟨j1, hj1⟩ : ∃ j1, j1 = i + 1 := ⟨_, rfl⟩
      have hw3 : IntKind.i64.wrap ((i : Int) + 1) = (j1 : Int) := by rw [IntKind.wrap_i64]; omega
      have HJ := Hid.mk hj1
      clear hj1
      by_cases hneg : z < 0
      · go_wp2
        go_region_held (fun w' => Below wr.heap.size wr w' ∧ w'.cell? ⟨g, off + i * 5, none⟩ = some (.int .i64 f.v) ∧ w'.cell? ⟨g, off + i * 5 + 1, none⟩ = some (.string f.c) ∧ w'.cell? ⟨g, off + i * 5 + 2, none⟩ = some (.int .i64 f.i) ∧ w'.cell? ⟨g, off + i * 5 + 3, none⟩ = some (.int .i64 f.s) ∧ w'.cell? ⟨g, off + i * 5 + 4, none⟩ = some (.bool f.d) ∧ w'.cell? ⟨w.heap.size, 0, none⟩ = some (.int .i64 e.v) ∧ w'.cell? ⟨w.heap.size, 1, none⟩ = some (.string e.c) ∧ w'.cell? ⟨w.heap.size, 2, none⟩ = some (.int .i64 e.i) ∧ w'.cell? ⟨w.heap.size, 3, none⟩ = some (.int .i64 e.s) ∧ w'.cell? ⟨w.heap.size, 4, none⟩ = some (.bool e.d))
          ((refine (fun hb => ⟨hb, cell_lat hb x0, cell_lat hb x1, cell_lat hb x2, cell_lat hb x3, cell_lat hb x4, cell_lat hb y0, cell_lat hb y1, cell_lat hb y2, cell_lat hb y3, cell_lat hb y4⟩) ?_; first | exact bb | exact b_drew wr))
          ((go_at_call 20; refine (hcmp _).mono ?_; rintro r w4 ⟨rfl, b4⟩; have bb : Below wr.heap.size wr w4 := below_d b4))
        all_goals
          go_wp2
          refine ⟨⟨j1, rfl, by have := HJ.out; omega, fun j hj hji => ?_, chain HLO.out.2.1 bb (Nat.le_refl _)⟩, by simp only [intOf]; have := HJ.out; omega⟩
          rcases Nat.lt_or_ge j i with h1 | h1
          · exact HLO.out.1 j hj h1
          · have h2 : j = i := by have := HJ.out; omega
            subst h2; rw [← HF.out.1, ← HF.out.2]; exact hneg
      · go_wp2
        go_region_held (fun w' => Below wr.heap.size wr w' ∧ w'.cell? ⟨g, off + i * 5, none⟩ = some (.int .i64 f.v) ∧ w'.cell? ⟨g, off + i * 5 + 1, none⟩ = some (.string f.c) ∧ w'.cell? ⟨g, off + i * 5 + 2, none⟩ = some (.int .i64 f.i) ∧ w'.cell? ⟨g, off + i * 5 + 3, none⟩ = some (.int .i64 f.s) ∧ w'.cell? ⟨g, off + i * 5 + 4, none⟩ = some (.bool f.d) ∧ w'.cell? ⟨w.heap.size, 0, none⟩ = some (.int .i64 e.v) ∧ w'.cell? ⟨w.heap.size, 1, none⟩ = some (.string e.c) ∧ w'.cell? ⟨w.heap.size, 2, none⟩ = some (.int .i64 e.i) ∧ w'.cell? ⟨w.heap.size, 3, none⟩ = some (.int .i64 e.s) ∧ w'.cell? ⟨w.heap.size, 4, none⟩ = some (.bool e.d))
          ((refine (fun hb => ⟨hb, cell_lat hb x0, cell_lat hb x1, cell_lat hb x2, cell_lat hb x3, cell_lat hb x4, cell_lat hb y0, cell_lat hb y1, cell_lat hb y2, cell_lat hb y3, cell_lat hb y4⟩) ?_; first | exact bb | exact b_drew wr))
          ((go_at_call 20; refine (hcmp _).mono ?_; rintro r w4 ⟨rfl, b4⟩; have bb : Below wr.heap.size wr w4 := below_d b4))
        rename_i hH
        clear x0 x1 x2 x3 x4 y0 y1 y2 y3 y4 b4
        obtain ⟨-, x0, x1, x2, x3, x4, y0, y1, y2, y3, y4⟩ := hH
        have HW := Hid.mk (chain HLO.out.2.1 bb (Nat.le_refl _))
        have hic : i ≤ lc := by have := HA.out.2.2; omega
        have hin : i ≤ n := by omega
        have hnc : n ≤ lc := by have := HA.out.2.2; omega
        have elen : (l.take i).length = i := by rw [List.length_take]; omega
        have bw4 := chain HB.out.1 HW.out (Nat.le_refl _)
        have hL4 := HA.out.1.below bw4
        obtain ⟨v1, w1, hap1, ho1, st1, hl1⟩ := ent_app w4 [] (l.take i) (.slice none 0 0) (nil_own w4) (some ⟨g, off, none⟩) lc (fun hne => by
          obtain ⟨g', off', e1, hr⟩ := hL4.at' (fun h0 => hne (by rw [h0]; simp))
          refine ⟨g', off', e1, fun j x hx => hr j x ?_⟩
          rw [← List.take_append_drop i l, List.flatMap_append, List.getElem?_append_left (List.getElem?_eq_some_iff.1 hx).1]
          exact hx) (by rw [elen]; simp; have := HA.out.2.2.2; omega)
        rw [List.nil_append] at ho1
        obtain ⟨a1, c1, e1, -⟩ := slice_form ho1
        rw [elen] at e1 hap1
        subst e1
        have b1 : Below w4.heap.size w4 w1 := st1.toBelow (fun k hk e => by cases e) (Nat.le_refl _)
        have n1 : ∀ g, (Value.slice a1 i c1).ownBlock = some g → w.heap.size ≤ g := fun g hg => Nat.le_trans bw4.size ((hl1 g hg).elim (fun e => by cases e) id)
        replace x0 := cell_lat b1 x0
        replace x1 := cell_lat b1 x1
        replace x2 := cell_lat b1 x2
        replace x3 := cell_lat b1 x3
        replace x4 := cell_lat b1 x4
        replace y0 := cell_lat b1 y0
        replace y1 := cell_lat b1 y1
        replace y2 := cell_lat b1 y2
        replace y3 := cell_lat b1 y3
        replace y4 := cell_lat b1 y4
        have HW1 := Hid.mk (And.intro (chain HW.out b1 (Nat.le_refl _)) (And.intro ho1 n1))
        clear bb HW bw4 hL4 ho1 st1 hl1 b1 n1 elen
        have hn0 : ((i : Int) == (n : Int)) = false := by simp; omega
        by_cases hpos : 0 < z
        · go_wp2_with (at_builtin; refine wpList_append_eq rfl _ _ _ _ rfl _ _ _ _ rfl rfl hap1 ?_; clear hap1)
          go_region_held (fun w' => Below w1.heap.size w1 w' ∧ w'.cell? ⟨g, off + i * 5, none⟩ = some (.int .i64 f.v) ∧ w'.cell? ⟨g, off + i * 5 + 1, none⟩ = some (.string f.c) ∧ w'.cell? ⟨g, off + i * 5 + 2, none⟩ = some (.int .i64 f.i) ∧ w'.cell? ⟨g, off + i * 5 + 3, none⟩ = some (.int .i64 f.s) ∧ w'.cell? ⟨g, off + i * 5 + 4, none⟩ = some (.bool f.d) ∧ w'.cell? ⟨w.heap.size, 0, none⟩ = some (.int .i64 e.v) ∧ w'.cell? ⟨w.heap.size, 1, none⟩ = some (.string e.c) ∧ w'.cell? ⟨w.heap.size, 2, none⟩ = some (.int .i64 e.i) ∧ w'.cell? ⟨w.heap.size, 3, none⟩ = some (.int .i64 e.s) ∧ w'.cell? ⟨w.heap.size, 4, none⟩ = some (.bool e.d))
            ((refine (fun hb => ⟨hb, cell_lat hb x0, cell_lat hb x1, cell_lat hb x2, cell_lat hb x3, cell_lat hb x4, cell_lat hb y0, cell_lat hb y1, cell_lat hb y2, cell_lat hb y3, cell_lat hb y4⟩) ?_; first | exact bb | exact b_drew w1))
            ((go_at_call 20; refine (hcmp _).mono ?_; rintro r w5 ⟨rfl, b4⟩; have bb : Below w1.heap.size w1 w5 := below_d b4))
          rename_i hH
          clear x0 x1 x2 x3 x4 y0 y1 y2 y3 y4 b4 hcmp
          obtain ⟨-, x0, x1, x2, x3, x4, y0, y1, y2, y3, y4⟩ := hH
          have bW := chain HW1.out.1 bb (Nat.le_refl _)
          have bw := chain HB.out.1 bW (Nat.le_refl _)
          obtain ⟨a2, c2, w2, a4, c4, w3, hap2, hap3, h4, e4, b4, n4⟩ := put_two (B := w.heap.size) (l := l) (k := i) (j := i) (e := e) (by omega) (Nat.le_refl _) (by omega) (HRow.below HW1.out.2.1 bb) HW1.out.2.2 bw.size (HA.out.1.below bw) HA.out.2.1 HO.out (some ⟨g, off + i * 5, none⟩) (lc - i) (fun _ => ⟨g, off, rfl, rfl⟩)
          have FIN := Hid.mk (And.intro h4 (And.intro e4 (And.intro (bw.trans b4) n4)))
          rw [← HA.out.2.2.2] at hap3 FIN
          obtain ⟨d1, hd1⟩ : ∃ d, n - i = d := ⟨_, rfl⟩
          obtain ⟨d2, hd2⟩ : ∃ d, lc - i = d := ⟨_, rfl⟩
          rw [hd1] at hap3 FIN
          rw [hd2] at hap3
          obtain ⟨d3, hd3⟩ : ∃ d, i + 1 + d1 = d := ⟨_, rfl⟩
          obtain ⟨d4, hd4⟩ : ∃ d, i + 1 = d := ⟨_, rfl⟩
          rw [hd3] at hap3 FIN
          rw [hd4] at hap2 hap3
          simp only [enC] at hap2
          clear bb bW bw h4 e4 b4 n4 hd3 hd4
          go_wp2_with first | (at_builtin; refine wpList_append_eq rfl _ _ _ _ rfl _ _ _ _ rfl rfl hap2 ?_; clear hap2) | (at_builtin; refine wpList_append_eq rfl _ _ _ _ rfl _ _ _ _ rfl rfl hap3 ?_; clear hap3; clear hd1 hd2)
          go_ret2
          refine ⟨FIN.out.2.2.1, _, _, _, _, _, ⟨i, ⟨Nat.le_of_lt hln, HLO.out.1, fun _ => by rw [← HF.out.1, ← HF.out.2]; omega⟩, .inl ⟨fun _ => by rw [← HF.out.1, ← HF.out.2]; omega, rfl⟩⟩, rfl, FIN.out.2.1, .inr ⟨FIN.out.1, FIN.out.2.2.2⟩⟩
        · have hz0 : z = 0 := by omega
          have HP : Hid (PutK l e i ∧ ∃ h : i < l.length, cpE l[i] e = 0 ∧ l[i] = f) := ⟨⟨Nat.le_of_lt hln, HLO.out.1, fun _ => by rw [← HF.out.1, ← HF.out.2]; omega⟩, hln, by rw [← HF.out.1, ← HF.out.2]; exact hz0, HF.out.1.symm⟩
          go_wp2_with (at_builtin; refine wpList_append_eq rfl _ _ _ _ rfl _ _ _ _ rfl rfl hap1 ?_; clear hap1)
          go_region_held (fun w' => Below w1.heap.size w1 w' ∧ w'.cell? ⟨g, off + i * 5, none⟩ = some (.int .i64 f.v) ∧ w'.cell? ⟨g, off + i * 5 + 1, none⟩ = some (.string f.c) ∧ w'.cell? ⟨g, off + i * 5 + 2, none⟩ = some (.int .i64 f.i) ∧ w'.cell? ⟨g, off + i * 5 + 3, none⟩ = some (.int .i64 f.s) ∧ w'.cell? ⟨g, off + i * 5 + 4, none⟩ = some (.bool f.d) ∧ w'.cell? ⟨w.heap.size, 0, none⟩ = some (.int .i64 e.v) ∧ w'.cell? ⟨w.heap.size, 1, none⟩ = some (.string e.c) ∧ w'.cell? ⟨w.heap.size, 2, none⟩ = some (.int .i64 e.i) ∧ w'.cell? ⟨w.heap.size, 3, none⟩ = some (.int .i64 e.s) ∧ w'.cell? ⟨w.heap.size, 4, none⟩ = some (.bool e.d))
            ((refine (fun hb => ⟨hb, cell_lat hb x0, cell_lat hb x1, cell_lat hb x2, cell_lat hb x3, cell_lat hb x4, cell_lat hb y0, cell_lat hb y1, cell_lat hb y2, cell_lat hb y3, cell_lat hb y4⟩) ?_; first | exact bb | exact b_drew w1))
            ((go_at_call 20; refine (hcmp _).mono ?_; rintro r w5 ⟨rfl, b4⟩; have bb : Below w1.heap.size w1 w5 := below_d b4))
          rename_i hH
          clear x0 x1 x2 x3 x4 y0 y1 y2 y3 y4 b4 hcmp
          obtain ⟨-, x0, x1, x2, x3, x4, y0, y1, y2, y3, y4⟩ := hH
          have bW := chain HW1.out.1 bb (Nat.le_refl _)
          have bw := chain HB.out.1 bW (Nat.le_refl _)
          have HW5 := Hid.mk (And.intro bw (And.intro (HRow.below HW1.out.2.1 bb) HW1.out.2.2))
          clear bb bW bw HW1 hz0 hpos hneg
          by_cases hs : f.s < e.s
          · go_wp2
            go_quiet (fail)
            have b6 : Below w5.heap.size w5 (w5.drewN nq) := Drew.below ⟨nq, rfl⟩ _
            generalize w5.drewN nq = w6 at b6 ⊢
            clear nq
            clear x0 x1 x2 x3 x4
            replace y0 := cell_lat b6 y0
            replace y1 := cell_lat b6 y1
            replace y2 := cell_lat b6 y2
            replace y3 := cell_lat b6 y3
            replace y4 := cell_lat b6 y4
            have bw := chain HW5.out.1 b6 (Nat.le_refl _)
            obtain ⟨a3, ha3⟩ : ∃ a3, (if lc = j1 then (some ⟨g, off, none⟩ : Option Addr) else some (⟨g, off + j1 * 5, none⟩ : Addr)) = a3 := ⟨_, rfl⟩
            have hjn : j1 ≤ n := by have := HJ.out; omega
            have hjc : j1 ≤ lc := by omega
            have hjn' : (j1 : Int) ≤ (n : Int) := by omega
            have hjc' : (j1 : Int) ≤ (lc : Int) := by omega
            have hj0' : (0 : Int) ≤ (j1 : Int) := by omega
            obtain ⟨a2, c2, w2, a4, c4, w3, hap2, hap3, h4, e4, b4, n4⟩ := put_two (B := w.heap.size) (l := l) (k := i) (j := j1) (e := e) (by omega) (by have := HJ.out; omega) (by have := HJ.out; omega) (HRow.below HW5.out.2.1 b6) HW5.out.2.2 bw.size (HA.out.1.below bw) HA.out.2.1 HO.out a3 (lc - j1) (fun hj => ⟨g, off, rfl, by
              rw [← ha3, if_neg (by have := HA.out.2.2; omega)]
              ⟩)
            have FIN := Hid.mk (And.intro h4 (And.intro e4 (And.intro (bw.trans b4) n4)))
            rw [← HA.out.2.2.2] at hap3 FIN
            obtain ⟨d1, hd1⟩ : ∃ d, n - j1 = d := ⟨_, rfl⟩
            obtain ⟨d2, hd2⟩ : ∃ d, lc - j1 = d := ⟨_, rfl⟩
            rw [hd1] at hap3 FIN
            rw [hd2] at hap3
            obtain ⟨d3, hd3⟩ : ∃ d, i + 1 + d1 = d := ⟨_, rfl⟩
            obtain ⟨d4, hd4⟩ : ∃ d, i + 1 = d := ⟨_, rfl⟩
            rw [hd3] at hap3 FIN
            rw [hd4] at hap2 hap3
            simp only [enC] at hap2
            clear bw h4 e4 b4 n4 hd3 hd4 b6
            go_wp2_with first | (at_builtin; refine wpList_append_eq rfl _ _ _ _ rfl _ _ _ _ rfl rfl hap2 ?_; clear hap2) | (at_builtin; refine wpList_append_eq rfl _ _ _ _ rfl _ _ _ _ rfl rfl hap3 ?_; clear hap3; clear hd1 hd2 ha3)
            go_ret2
            refine ⟨FIN.out.2.2.1, _, _, _, _, _, ⟨i, HP.out.1, .inr ?_⟩, rfl, FIN.out.2.1, .inr ⟨FIN.out.1, FIN.out.2.2.2⟩⟩
            obtain ⟨h1, h2, h3⟩ := HP.out.2
            exact ⟨h1, h2, .inl ⟨by rw [h3]; exact hs, by rw [HJ.out]⟩⟩
          · have HS0 : Hid (e.s ≤ f.s) := Int.not_lt.1 hs
            go_wp2
            go_quiet (fail)
            have b6 : Below w5.heap.size w5 (w5.drewN nq) := Drew.below ⟨nq, rfl⟩ _
            generalize w5.drewN nq = w6 at b6 ⊢
            clear nq
            replace x3 := cell_lat b6 x3
            replace y3 := cell_lat b6 y3
            clear x0 x1 x2 x4 y0 y1 y2 y4
            have bw := chain HW5.out.1 b6 (Nat.le_refl _)
            have FIN : Hid (∀ W b, Below w6.heap.size w6 W → PutO2 l (some ⟨g, off, none⟩) lc e w (.returned (.tuple #[.slice (some ⟨g, off, none⟩) n lc, .bool b])) W) := fun W b hW => by
              obtain ⟨h1, h2, h3⟩ := HP.out.2
              exact ⟨chain bw hW (Nat.le_refl _), l, _, _, _, _, ⟨i, HP.out.1, .inr ⟨h1, h2, .inr ⟨by rw [h3]; exact Int.not_lt.2 HS0.out, rfl⟩⟩⟩, rfl, HA.out.2.2.2, .inl ⟨rfl, rfl, rfl⟩⟩
            clear bw b6
            go_wp2
            go_region
            all_goals
              go_wp2
              go_ret2
              exact FIN.out _ _ (b_drew _)
    · have hin := Hid.mk (show i = l.length by have := HA.out.2.2.2; omega)
      have i1 : (n : Int) ≤ (i : Int) := by omega
      have hni : ((i : Int) == (n : Int)) = true := by simp; omega
      have hic : i ≤ lc := by have := HA.out.2.2; omega
      have hnc : n ≤ lc := by have := HA.out.2.2; omega
      have hii : i ≤ n := by omega
      go_wp2
      go_quiet (fail)
      have b4 : Below wr.heap.size wr (wr.drewN nq) := Drew.below ⟨nq, rfl⟩ _
      generalize wr.drewN nq = w4 at b4 ⊢
      clear nq
      have HW := Hid.mk (chain HLO.out.2.1 b4 (Nat.le_refl _))
      have bw4 := chain HB.out.1 HW.out (Nat.le_refl _)
      have elen : (l.take i).length = i := by rw [List.length_take]; have := hin.out; omega
      have hL4 := HA.out.1.below bw4
      obtain ⟨v1, w1, hap1, ho1, st1, hl1⟩ := ent_app w4 [] (l.take i) (.slice none 0 0) (nil_own w4) la lc (fun hne => by
        obtain ⟨g', off', e1, hr⟩ := hL4.at' (fun h0 => hne (by rw [h0]; simp))
        refine ⟨g', off', e1, fun j x hx => hr j x ?_⟩
        rw [← List.take_append_drop i l, List.flatMap_append, List.getElem?_append_left (List.getElem?_eq_some_iff.1 hx).1]
        exact hx) (by rw [elen]; simp; have := HA.out.2.2.2; omega)
      rw [List.nil_append] at ho1
      obtain ⟨a1, c1, e1, -⟩ := slice_form ho1
      rw [elen] at e1 hap1
      subst e1
      have b1 : Below w4.heap.size w4 w1 := st1.toBelow (fun k hk e => by cases e) (Nat.le_refl _)
      have n1 : ∀ g, (Value.slice a1 i c1).ownBlock = some g → w.heap.size ≤ g := fun g hg => Nat.le_trans bw4.size ((hl1 g hg).elim (fun e => by cases e) id)
      have HW1 := Hid.mk (And.intro (chain HW.out b1 (Nat.le_refl _)) (And.intro ho1 n1))
      clear y0 y1 y2 y3 y4 HW bw4 hL4 ho1 st1 hl1 b1 n1 elen b4
      go_wp2_with (at_builtin; refine wpList_append_eq rfl _ _ _ _ rfl _ _ _ _ rfl rfl hap1 ?_; clear hap1)
      go_quiet (fail)
      have b5 : Below w1.heap.size w1 (w1.drewN nq) := Drew.below ⟨nq, rfl⟩ _
      generalize w1.drewN nq = w5 at b5 ⊢
      clear nq
      have bW := chain HW1.out.1 b5 (Nat.le_refl _)
      have bw := chain HB.out.1 bW (Nat.le_refl _)
      have y0 := cell_lat bW (HB.out.2 0 _ rfl)
      have y1 := cell_lat bW (HB.out.2 1 _ rfl)
      have y2 := cell_lat bW (HB.out.2 2 _ rfl)
      have y3 := cell_lat bW (HB.out.2 3 _ rfl)
      have y4 := cell_lat bW (HB.out.2 4 _ rfl)
      have ap := fun a3 c3 => put_two (w5 := w5) (B := w.heap.size) (l := l) (k := i) (j := i) (e := e) (by have := hin.out; omega) (Nat.le_refl _) (by have := hin.out; omega) (HRow.below HW1.out.2.1 b5) HW1.out.2.2 bw.size (HA.out.1.below bw) HA.out.2.1 HO.out a3 c3 (fun h => by have := hin.out; omega)
      cases la with
      | none =>
        obtain ⟨a2, c2, w2, a4, c4, w3, hap2, hap3, h4, e4, b4, n4⟩ := ap none (lc - i)
        have FIN := Hid.mk (And.intro h4 (And.intro e4 (And.intro (bw.trans b4) n4)))
        rw [← HA.out.2.2.2] at hap3 FIN
        obtain ⟨d1, hd1⟩ : ∃ d, n - i = d := ⟨_, rfl⟩
        obtain ⟨d2, hd2⟩ : ∃ d, lc - i = d := ⟨_, rfl⟩
        rw [hd1] at hap3 FIN
        rw [hd2] at hap3
        obtain ⟨d3, hd3⟩ : ∃ d, i + 1 + d1 = d := ⟨_, rfl⟩
        obtain ⟨d4, hd4⟩ : ∃ d, i + 1 = d := ⟨_, rfl⟩
        rw [hd3] at hap3 FIN
        rw [hd4] at hap2 hap3
        simp only [enC] at hap2
        clear bw bW h4 e4 b4 n4 hd3 hd4 b5 ap
        go_wp2_with first | (at_builtin; refine wpList_append_eq rfl _ _ _ _ rfl _ _ _ _ rfl rfl hap2 ?_; clear hap2) | (at_builtin; refine wpList_append_eq rfl _ _ _ _ rfl _ _ _ _ rfl rfl hap3 ?_; clear hap3; clear hd1 hd2)
        go_ret2
        exact ⟨FIN.out.2.2.1, _, _, _, _, _, ⟨i, ⟨Nat.le_of_eq hin.out, HLO.out.1, fun h => by have := hin.out; omega⟩, .inl ⟨fun h => by have := hin.out; omega, rfl⟩⟩, rfl, FIN.out.2.1, .inr ⟨FIN.out.1, FIN.out.2.2.2⟩⟩
      | some a =>
        obtain ⟨a3, ha3⟩ : ∃ a3, (if lc = i then some a else some (a.add (i * 5))) = a3 := ⟨_, rfl⟩
        obtain ⟨a2, c2, w2, a4, c4, w3, hap2, hap3, h4, e4, b4, n4⟩ := ap a3 (lc - i)
        have FIN := Hid.mk (And.intro h4 (And.intro e4 (And.intro (bw.trans b4) n4)))
        rw [← HA.out.2.2.2] at hap3 FIN
        obtain ⟨d1, hd1⟩ : ∃ d, n - i = d := ⟨_, rfl⟩
        obtain ⟨d2, hd2⟩ : ∃ d, lc - i = d := ⟨_, rfl⟩
        rw [hd1] at hap3 FIN
        rw [hd2] at hap3
        obtain ⟨d3, hd3⟩ : ∃ d, i + 1 + d1 = d := ⟨_, rfl⟩
        obtain ⟨d4, hd4⟩ : ∃ d, i + 1 = d := ⟨_, rfl⟩
        rw [hd3] at hap3 FIN
        rw [hd4] at hap2 hap3
        simp only [enC] at hap2
        clear bw bW h4 e4 b4 n4 hd3 hd4 b5 ap
        go_wp2_with first | (at_builtin; refine wpList_append_eq rfl _ _ _ _ rfl _ _ _ _ rfl rfl hap2 ?_; clear hap2) | (at_builtin; refine wpList_append_eq rfl _ _ _ _ rfl _ _ _ _ rfl rfl hap3 ?_; clear hap3; clear hd1 hd2 ha3)
        go_ret2
        exact ⟨FIN.out.2.2.1, _, _, _, _, _, ⟨i, ⟨Nat.le_of_eq hin.out, HLO.out.1, fun h => by have := hin.out; omega⟩, .inl ⟨fun h => by have := hin.out; omega, rfl⟩⟩, rfl, FIN.out.2.1, .inr ⟨FIN.out.1, FIN.out.2.2.2⟩⟩
end Go.Proofs.Ytbkbnhdeleoibaa
