/-
  DERIVED. The laws' own put.
-/
import Derived.Test.YtchikfabfhjkgaaMPut0
set_option linter.unusedVariables false
set_option linter.unusedSimpArgs false
namespace Go.Proofs.Ytchikfabfhjkgaa
open Go.RowKit
theorem nil_own (W : World) : W.ownsRow 0 23 5 (.slice none 0 0) ([] : List En).length (([] : List En).flatMap enC) := ⟨rfl, .inl ⟨rfl, rfl⟩⟩
theorem stay_below {F : Nat → Prop} {W W' : World} (s : Stay F W W') (hF : ∀ k, F k → W.heap.size ≤ k) : Below W.heap.size W W' := s.toBelow (fun k hk e => by have := hF k e; omega) (Nat.le_refl _)
theorem below_row {W W1 W2 : World} {B : Nat} {v v' : Value} (b1 : Below B W W1) (hv : ∀ k, v.ownBlock = some k → B ≤ k) (s : Stay (fun k => v.ownBlock = some k) W1 W2) (hv' : ∀ k, v'.ownBlock = some k → v.ownBlock = some k ∨ W1.heap.size ≤ k) (hB : B ≤ W1.heap.size) : Below B W W2 ∧ ∀ k, v'.ownBlock = some k → B ≤ k :=
  ⟨b1.trans (s.toBelow (fun k hk e => by have := hv k e; omega) hB), fun k hk => (hv' k hk).elim (hv k) (fun h => Nat.le_trans hB h)⟩
set_option maxRecDepth 100000 in
theorem put_apps {w5 : World} {la : Option Addr} {l : List En} {lc i gE : Nat} {e : En} (h : LAt w5 la l) (hi : i ≤ l.length) (hl : (l.length + 1) * 48 ≤ 140737488355328) (hE : SAt w5 gE (enC e)) (hgE : gE < w5.heap.size)
    (a3 : Option Addr) (c3 : Nat) (h3 : i < l.length → ∃ g off, la = some ⟨g, off, none⟩ ∧ a3 = some ⟨g, off + i * 5, none⟩) :
    ∃ a1 c1 w1 a2 c2 w2 a4 c4 w3, (Builtin.append_ #[24, 24] 24 #[.slice none 0 0, .slice la i lc]).run Try.prog w5 = .ok (.slice a1 i c1) w1 ∧ SAt w1 gE (enC e) ∧
      (Builtin.append_ #[24, 24] 24 #[.slice a1 i c1, .slice (some ⟨w1.heap.size, 0, none⟩) 1 1]).run Try.prog (w1.alloc (.cells (enC e).toArray 23)) = .ok (.slice a2 (i + 1) c2) w2 ∧
      (Builtin.append_ #[24, 24] 24 #[.slice a2 (i + 1) c2, .slice a3 (l.length - i) c3]).run Try.prog w2 = .ok (.slice a4 (l.length + 1) c4) w3 ∧
      w3.ownsRow 0 23 5 (.slice a4 (l.length + 1) c4) (insP l e i).length ((insP l e i).flatMap enC) ∧ Below w5.heap.size w5 w3 ∧ ∀ g, (Value.slice a4 (l.length + 1) c4).ownBlock = some g → w5.heap.size ≤ g := by
  have elen : (l.take i).length = i := by rw [List.length_take]; omega
  have edrop : (l.drop i).length = l.length - i := List.length_drop
  obtain ⟨v1, w1, hap1, ho1, st1, hl1⟩ := ent_app w5 [] (l.take i) (.slice none 0 0) (nil_own w5) la lc (fun hn => by
    obtain ⟨g, off, e1, hr⟩ := h.at' (fun h0 => hn (by rw [h0]; simp))
    refine ⟨g, off, e1, fun j x hx => hr j x ?_⟩
    rw [← List.take_append_drop i l, List.flatMap_append, List.getElem?_append_left (List.getElem?_eq_some_iff.1 hx).1]
    exact hx) (by rw [elen]; simp; omega)
  obtain ⟨b1, n1⟩ := below_row (v := .slice none 0 0) (Below.refl w5.heap.size w5) (fun k hk => by cases hk) st1 hl1 (Nat.le_refl _)
  rw [List.nil_append] at ho1
  obtain ⟨v2, w2, hap2, ho2, st2, hl2⟩ := ent_app1 w1 (l.take i) v1 ho1 e (by rw [elen]; omega)
  obtain ⟨b2, n2⟩ := below_row b1 n1 st2 hl2 b1.size
  obtain ⟨v3, w3, hap3, ho3, st3, hl3⟩ := ent_app w2 (l.take i ++ [e]) (l.drop i) v2 ho2 a3 c3 (fun hn => by
    have hlt : i < l.length := by
      rcases Nat.lt_or_ge i l.length with k | k
      · exact k
      · exact absurd (List.drop_eq_nil_of_le k) hn
    obtain ⟨g, off, e1, e2⟩ := h3 hlt
    obtain ⟨g', off', e1', hr⟩ := h.at' (fun h0 => by rw [h0] at hlt; simp at hlt)
    rw [e1] at e1'; cases e1'
    refine ⟨g, off + i * 5, e2, fun j x hx => cell_lat b2 ?_⟩
    rw [Nat.add_assoc]
    refine hr _ _ ?_
    rw [← List.take_append_drop i l, List.flatMap_append, List.getElem?_append_right (by rw [flat_len5, elen]; omega), flat_len5, elen, show i * 5 + j - i * 5 = j by omega]
    exact hx) (by rw [List.length_append, elen, edrop]; simp; omega)
  obtain ⟨b3, n3⟩ := below_row b2 n2 st3 hl3 b2.size
  obtain ⟨a1, c1, rfl, -⟩ := slice_form ho1
  obtain ⟨a2, c2, rfl, -⟩ := slice_form ho2
  obtain ⟨a4, c4, rfl, -⟩ := slice_form ho3
  have e4 : (l.take i ++ [e] ++ l.drop i) = insP l e i := by unfold insP; simp
  have e5 : (l.take i ++ [e]).length = i + 1 := by rw [List.length_append, elen]; rfl
  rw [e4] at ho3
  rw [elen] at hap1 hap2
  rw [e5] at hap2 hap3
  rw [edrop, e4, insP_len] at hap3
  rw [e4, insP_len] at n3
  exact ⟨a1, c1, w1, a2, c2, w2, a4, c4, w3, hap1, hE.below b1 hgE, hap2, hap3, by rw [insP_len] at ho3 ⊢; exact ho3, b3, n3⟩
/-- What put answers. -/
def PutO (l : List En) (la : Option Addr) (lc : Nat) (e : En) (w : World) (r : Ending) (w' : World) : Prop := Below w.heap.size w w' ∧ ∃ k, PutK l e k ∧
      (((∃ h : k < l.length, cpE l[k] e = 0) ∧ r = .returned (.tuple #[.slice la l.length lc, .bool false])) ∨
       ((∀ h : k < l.length, cpE l[k] e ≠ 0) ∧ ∃ v, r = .returned (.tuple #[v, .bool true]) ∧ w'.ownsRow 0 23 5 v (insP l e k).length ((insP l e k).flatMap enC) ∧ ∀ g, v.ownBlock = some g → w.heap.size ≤ g))
set_option maxHeartbeats 2000000 in
set_option maxRecDepth 100000 in
theorem put_any (l : List En) (la : Option Addr) (lc : Nat) (e : En) (w : World) (h : LAt w la l) (hcap : l.length ≤ lc) (hl : (l.length + 1) * 48 ≤ 140737488355328) :
    Calls Try.prog 45 #[.slice la l.length lc, .agg (enC e).toArray] w (PutO l la lc e w) := by
  obtain ⟨n, hn⟩ : ∃ n, n = l.length := ⟨_, rfl⟩
  have HA := Hid.mk (And.intro h (And.intro hl (And.intro hcap hn)))
  rw [← hn] at hl ⊢
  clear h hn hcap
  obtain ⟨wa, hwa⟩ : ∃ wa, wa = w.alloc (.cells (enC e).toArray 23) := ⟨_, rfl⟩
  have ba : Below w.heap.size w wa := by rw [hwa]; exact (Below.refl _ w).alloc (Nat.le_refl _) _
  have SA : SAt wa w.heap.size (enC e) := by rw [hwa]; exact SAt.new w _ _
  have hwa' : w.alloc (.cells (enC e).toArray 23) = wa := hwa.symm
  have HB := Hid.mk (And.intro ba SA)
  clear hwa ba SA
  simp only [enC] at hwa' ⊢
  go_enter Try.func45, Try.ntmps45
  go_wp2
  go_loopw [6] (fun iv wr => ∃ i : Nat, iv = .int .i64 i ∧ i ≤ n ∧ (∀ j (h : j < l.length), j < i → cpE l[j] e < 0) ∧ Below wa.heap.size wa wr) (fun iv _ => n - (intOf iv).toNat)
  case atStart => exact ⟨0, rfl, Nat.zero_le _, fun j _ h => absurd h (Nat.not_lt_zero _), Below.refl _ _⟩
  case round =>
    obtain ⟨i, rfl, hi, hlo, hb⟩ := hrel
    have hb0 := chain HB.out.1 hb (Nat.le_refl _)
    have y0 := cell_lat hb (HB.out.2 0 _ rfl)
    have y1 := cell_lat hb (HB.out.2 1 _ rfl)
    have y2 := cell_lat hb (HB.out.2 2 _ rfl)
    have y3 := cell_lat hb (HB.out.2 3 _ rfl)
    have y4 := cell_lat hb (HB.out.2 4 _ rfl)
    have HLO := Hid.mk (And.intro hlo (And.intro hb hb0))
    have HI := Hid.mk hi
    clear hlo
    clear hb hb0
    by_cases hlt : i < n
    · have hln : i < l.length := by have := HA.out.2.2.2; omega
      obtain ⟨g, off, hla, hra⟩ := (HA.out.1.below HLO.out.2.2).at' (fun h => by rw [h] at hln; simp at hln)
      subst hla
      obtain ⟨x0, x1, x2, x3, x4⟩ := row_en hra rfl i hln
      have hcmp := lessE_any l[i] e
      have hat := at_any l[i] e
      obtain ⟨f, hf⟩ : ∃ f, f = l[i] := ⟨_, rfl⟩
      rw [← hf] at x0 x1 x2 x3 x4 hcmp hat
      have HF := Hid.mk hf
      clear hf hra hi
      simp only [enC] at hcmp hat
      have i1 : (i : Int) < (n : Int) := by omega
      have i0 : 0 ≤ (i : Int) := by omega
      have hw3 : IntKind.i64.wrap ((i : Int) + 1) = (i : Int) + 1 := by rw [IntKind.wrap_i64]; omega
      by_cases hneg : cpE f e < 0
      · rw [decide_eq_true hneg] at hcmp
        clear hat
        go_wp2
        go_region_held (fun w' => Below wr.heap.size wr w' ∧ w'.cell? ⟨g, off + i * 5, none⟩ = some (.int .i64 f.v) ∧ w'.cell? ⟨g, off + i * 5 + 1, none⟩ = some (.string f.c) ∧ w'.cell? ⟨g, off + i * 5 + 2, none⟩ = some (.int .i64 f.i) ∧ w'.cell? ⟨g, off + i * 5 + 3, none⟩ = some (.int .i64 f.s) ∧ w'.cell? ⟨g, off + i * 5 + 4, none⟩ = some (.bool f.d) ∧ w'.cell? ⟨w.heap.size, 0, none⟩ = some (.int .i64 e.v) ∧ w'.cell? ⟨w.heap.size, 1, none⟩ = some (.string e.c) ∧ w'.cell? ⟨w.heap.size, 2, none⟩ = some (.int .i64 e.i) ∧ w'.cell? ⟨w.heap.size, 3, none⟩ = some (.int .i64 e.s) ∧ w'.cell? ⟨w.heap.size, 4, none⟩ = some (.bool e.d))
          ((refine (fun hb => ⟨hb, cell_lat hb x0, cell_lat hb x1, cell_lat hb x2, cell_lat hb x3, cell_lat hb x4, cell_lat hb y0, cell_lat hb y1, cell_lat hb y2, cell_lat hb y3, cell_lat hb y4⟩) ?_; first | exact bb | exact b_drew wr))
          ((go_at_call 27; refine (hcmp _).mono ?_; rintro r w4 ⟨rfl, b4⟩; have bb : Below wr.heap.size wr w4 := below_d b4))
        all_goals
          go_wp2
          refine ⟨⟨i + 1, ival (by omega), by omega, fun j hj hji => ?_, chain HLO.out.2.1 bb (Nat.le_refl _)⟩, by simp only [intOf]; omega⟩
          rcases Nat.lt_succ_iff_lt_or_eq.1 hji with h1 | h1
          · exact HLO.out.1 j hj h1
          · subst h1; rw [← HF.out]; exact hneg
      · rw [decide_eq_false hneg] at hcmp
        go_wp2
        go_region_held (fun w' => Below wr.heap.size wr w' ∧ w'.cell? ⟨g, off + i * 5, none⟩ = some (.int .i64 f.v) ∧ w'.cell? ⟨g, off + i * 5 + 1, none⟩ = some (.string f.c) ∧ w'.cell? ⟨g, off + i * 5 + 2, none⟩ = some (.int .i64 f.i) ∧ w'.cell? ⟨g, off + i * 5 + 3, none⟩ = some (.int .i64 f.s) ∧ w'.cell? ⟨g, off + i * 5 + 4, none⟩ = some (.bool f.d) ∧ w'.cell? ⟨w.heap.size, 0, none⟩ = some (.int .i64 e.v) ∧ w'.cell? ⟨w.heap.size, 1, none⟩ = some (.string e.c) ∧ w'.cell? ⟨w.heap.size, 2, none⟩ = some (.int .i64 e.i) ∧ w'.cell? ⟨w.heap.size, 3, none⟩ = some (.int .i64 e.s) ∧ w'.cell? ⟨w.heap.size, 4, none⟩ = some (.bool e.d))
          ((refine (fun hb => ⟨hb, cell_lat hb x0, cell_lat hb x1, cell_lat hb x2, cell_lat hb x3, cell_lat hb x4, cell_lat hb y0, cell_lat hb y1, cell_lat hb y2, cell_lat hb y3, cell_lat hb y4⟩) ?_; first | exact bb | exact b_drew wr))
          ((go_at_call 27; refine (hcmp _).mono ?_; rintro r w4 ⟨rfl, b4⟩; have bb : Below wr.heap.size wr w4 := below_d b4))
        rename_i hH
        clear x0 x1 x2 x3 x4 y0 y1 y2 y3 y4 b4
        obtain ⟨-, x0, x1, x2, x3, x4, y0, y1, y2, y3, y4⟩ := hH
        have HW := Hid.mk (chain HLO.out.2.1 bb (Nat.le_refl _))
        clear bb hcmp
        by_cases hz : cpE f e = 0
        · rw [decide_eq_true hz] at hat
          go_wp2
          go_region_held (fun w' => Below w4.heap.size w4 w' ∧ w'.cell? ⟨g, off + i * 5, none⟩ = some (.int .i64 f.v) ∧ w'.cell? ⟨g, off + i * 5 + 1, none⟩ = some (.string f.c) ∧ w'.cell? ⟨g, off + i * 5 + 2, none⟩ = some (.int .i64 f.i) ∧ w'.cell? ⟨g, off + i * 5 + 3, none⟩ = some (.int .i64 f.s) ∧ w'.cell? ⟨g, off + i * 5 + 4, none⟩ = some (.bool f.d) ∧ w'.cell? ⟨w.heap.size, 0, none⟩ = some (.int .i64 e.v) ∧ w'.cell? ⟨w.heap.size, 1, none⟩ = some (.string e.c) ∧ w'.cell? ⟨w.heap.size, 2, none⟩ = some (.int .i64 e.i) ∧ w'.cell? ⟨w.heap.size, 3, none⟩ = some (.int .i64 e.s) ∧ w'.cell? ⟨w.heap.size, 4, none⟩ = some (.bool e.d))
            ((refine (fun hb => ⟨hb, cell_lat hb x0, cell_lat hb x1, cell_lat hb x2, cell_lat hb x3, cell_lat hb x4, cell_lat hb y0, cell_lat hb y1, cell_lat hb y2, cell_lat hb y3, cell_lat hb y4⟩) ?_; first | exact bb | exact b_drew w4))
            ((go_at_call 44; refine (hat _).mono ?_; rintro r w5 ⟨rfl, b4⟩; have bb : Below w4.heap.size w4 w5 := below_d b4))
          all_goals
            go_wp2
            go_ret2
            have hW := chain HB.out.1 (chain HW.out bb (Nat.le_refl _)) (Nat.le_refl _)
            exact ⟨hW, i, ⟨Nat.le_of_lt hln, HLO.out.1, fun _ => by rw [← HF.out]; omega⟩, .inl ⟨⟨hln, by rw [← HF.out]; exact hz⟩, by rw [HA.out.2.2.2]; rfl⟩⟩
        · rw [decide_eq_false hz] at hat
          go_wp2
          go_region_held (fun w' => Below w4.heap.size w4 w' ∧ w'.cell? ⟨g, off + i * 5, none⟩ = some (.int .i64 f.v) ∧ w'.cell? ⟨g, off + i * 5 + 1, none⟩ = some (.string f.c) ∧ w'.cell? ⟨g, off + i * 5 + 2, none⟩ = some (.int .i64 f.i) ∧ w'.cell? ⟨g, off + i * 5 + 3, none⟩ = some (.int .i64 f.s) ∧ w'.cell? ⟨g, off + i * 5 + 4, none⟩ = some (.bool f.d) ∧ w'.cell? ⟨w.heap.size, 0, none⟩ = some (.int .i64 e.v) ∧ w'.cell? ⟨w.heap.size, 1, none⟩ = some (.string e.c) ∧ w'.cell? ⟨w.heap.size, 2, none⟩ = some (.int .i64 e.i) ∧ w'.cell? ⟨w.heap.size, 3, none⟩ = some (.int .i64 e.s) ∧ w'.cell? ⟨w.heap.size, 4, none⟩ = some (.bool e.d))
            ((refine (fun hb => ⟨hb, cell_lat hb x0, cell_lat hb x1, cell_lat hb x2, cell_lat hb x3, cell_lat hb x4, cell_lat hb y0, cell_lat hb y1, cell_lat hb y2, cell_lat hb y3, cell_lat hb y4⟩) ?_; first | exact bb | exact b_drew w4))
            ((go_at_call 44; refine (hat _).mono ?_; rintro r w5 ⟨rfl, b4⟩; have bb : Below w4.heap.size w4 w5 := below_d b4))
          rename_i hH
          clear x0 x1 x2 x3 x4 y0 y1 y2 y3 y4 b4
          obtain ⟨-, -, -, -, -, -, y0, y1, y2, y3, y4⟩ := hH
          have HW5 := Hid.mk (chain HW.out bb (Nat.le_refl _))
          clear bb hat HW
          have hic : i ≤ lc := by have := HA.out.2.2; omega
          have hin : i ≤ n := by omega
          have hnc : n ≤ lc := by have := HA.out.2.2; omega
          have bw5 := chain HB.out.1 HW5.out (Nat.le_refl _)
          obtain ⟨a1, c1, w1, a2, c2, w2, a4, c4, w3, hap1, sE1, hap2, hap3, fin⟩ := put_apps (w5 := w5) (lc := lc) (i := i) (gE := w.heap.size) (HA.out.1.below bw5) (Nat.le_of_lt hln) HA.out.2.1 (fun j v hv => cell_lat HW5.out (HB.out.2 j v hv)) (World.block_lt_of_cell? w5 _ y0) (some ⟨g, off + i * 5, none⟩) (lc - i) (fun _ => ⟨g, off, rfl, rfl⟩)
          clear y0 y1 y2 y3 y4
          have y0 := sE1 0 _ rfl
          have y1 := sE1 1 _ rfl
          have y2 := sE1 2 _ rfl
          have y3 := sE1 3 _ rfl
          have y4 := sE1 4 _ rfl
          have FIN := Hid.mk fin
          rw [← HA.out.2.2.2] at hap3
          obtain ⟨d1, hd1⟩ : ∃ d, n - i = d := ⟨_, rfl⟩
          obtain ⟨d2, hd2⟩ : ∃ d, lc - i = d := ⟨_, rfl⟩
          rw [hd1, hd2] at hap3
          simp only [enC] at hap2
          clear fin sE1 bw5
          go_wp2_with (first | (at_builtin; refine wpList_append_eq rfl _ _ _ _ rfl _ _ _ _ rfl rfl hap1 ?_; clear hap1) | (at_builtin; refine wpList_append_eq rfl _ _ _ _ rfl _ _ _ _ rfl rfl hap2 ?_; clear hap2) | (at_builtin; refine wpList_append_eq rfl _ _ _ _ rfl _ _ _ _ rfl rfl hap3 ?_; clear hap3; clear hd1 hd2))
          go_ret2
          have hW := chain HB.out.1 (chain HW5.out FIN.out.2.1 (Nat.le_refl _)) (Nat.le_refl _)
          refine ⟨hW, i, ⟨Nat.le_of_lt hln, HLO.out.1, fun _ => by rw [← HF.out]; omega⟩, .inr ⟨fun _ => by rw [← HF.out]; exact hz, _, rfl, ?_⟩⟩
          have k := FIN.out
          rw [← HA.out.2.2.2] at k
          exact ⟨k.1, fun g hg => Nat.le_trans (chain HB.out.1 HW5.out (Nat.le_refl _)).size (k.2.2 g hg)⟩
    · have hin := Hid.mk (show i = l.length by have := HA.out.2.2.2; omega)
      have i1 : (n : Int) ≤ (i : Int) := by omega
      have hic : i ≤ lc := by have := HA.out.2.2; omega
      have hnc : n ≤ lc := by have := HA.out.2.2; omega
      have hii : i ≤ n := by omega
      clear y0 y1 y2 y3 y4
      go_wp2
      go_quiet (fail)
      have b4 : Below wr.heap.size wr (wr.drewN nq) := Drew.below ⟨nq, rfl⟩ _
      generalize wr.drewN nq = w4 at b4 ⊢
      clear nq
      go_wp2
      go_quiet (fail)
      have b5 : Below w4.heap.size w4 (w4.drewN nq) := Drew.below ⟨nq, rfl⟩ _
      generalize w4.drewN nq = w5 at b5 ⊢
      clear nq
      have HW5 := Hid.mk (chain HLO.out.2.1 (chain b4 b5 (Nat.le_refl _)) (Nat.le_refl _))
      have HW6 := Hid.mk (chain HB.out.1 HW5.out (Nat.le_refl _))
      clear b4 b5
      have ap := fun a3 c3 => put_apps (w5 := w5) (la := la) (l := l) (lc := lc) (i := i) (gE := w.heap.size) (e := e) (HA.out.1.below HW6.out) (Nat.le_of_eq hin.out) HA.out.2.1 (fun j v hv => cell_lat HW5.out (HB.out.2 j v hv)) (World.block_lt_of_cell? w5 _ (cell_lat HW5.out (HB.out.2 0 _ rfl))) a3 c3 (fun h => by have := hin.out; omega)
      cases la with
      | none =>
        obtain ⟨a1, c1, w1, a2, c2, w2, a4, c4, w3, hap1, sE1, hap2, hap3, fin⟩ := ap (none) (lc - i)
        clear ap
        have y0 := sE1 0 _ rfl
        have y1 := sE1 1 _ rfl
        have y2 := sE1 2 _ rfl
        have y3 := sE1 3 _ rfl
        have y4 := sE1 4 _ rfl
        have FIN := Hid.mk fin
        rw [← HA.out.2.2.2] at hap3
        obtain ⟨d1, hd1⟩ : ∃ d, n - i = d := ⟨_, rfl⟩
        obtain ⟨d2, hd2⟩ : ∃ d, lc - i = d := ⟨_, rfl⟩
        rw [hd1, hd2] at hap3
        simp only [enC] at hap2
        clear fin sE1
        go_wp2_with (first | (at_builtin; refine wpList_append_eq rfl _ _ _ _ rfl _ _ _ _ rfl rfl hap1 ?_; clear hap1) | (at_builtin; refine wpList_append_eq rfl _ _ _ _ rfl _ _ _ _ rfl rfl hap2 ?_; clear hap2) | (at_builtin; refine wpList_append_eq rfl _ _ _ _ rfl _ _ _ _ rfl rfl hap3 ?_; clear hap3; clear hd1 hd2))
        go_ret2
        have hW := chain HB.out.1 (chain HW5.out FIN.out.2.1 (Nat.le_refl _)) (Nat.le_refl _)
        refine ⟨hW, i, ⟨Nat.le_of_eq hin.out, HLO.out.1, fun h => by have := hin.out; omega⟩, .inr ⟨fun h => by have := hin.out; omega, _, rfl, ?_⟩⟩
        have k := FIN.out
        rw [← HA.out.2.2.2] at k
        exact ⟨k.1, fun g hg => Nat.le_trans HW6.out.size (k.2.2 g hg)⟩
      | some a =>
        obtain ⟨a1, c1, w1, a2, c2, w2, a4, c4, w3, hap1, sE1, hap2, hap3, fin⟩ := ap (if lc = i then some a else some (a.add (i * 5))) (lc - i)
        clear ap
        obtain ⟨a3, ha3⟩ : ∃ a3, (if lc = i then some a else some (a.add (i * 5))) = a3 := ⟨_, rfl⟩
        rw [ha3] at hap3
        have y0 := sE1 0 _ rfl
        have y1 := sE1 1 _ rfl
        have y2 := sE1 2 _ rfl
        have y3 := sE1 3 _ rfl
        have y4 := sE1 4 _ rfl
        have FIN := Hid.mk fin
        rw [← HA.out.2.2.2] at hap3
        obtain ⟨d1, hd1⟩ : ∃ d, n - i = d := ⟨_, rfl⟩
        obtain ⟨d2, hd2⟩ : ∃ d, lc - i = d := ⟨_, rfl⟩
        rw [hd1, hd2] at hap3
        simp only [enC] at hap2
        clear fin sE1
        go_wp2_with (first | (at_builtin; refine wpList_append_eq rfl _ _ _ _ rfl _ _ _ _ rfl rfl hap1 ?_; clear hap1) | (at_builtin; refine wpList_append_eq rfl _ _ _ _ rfl _ _ _ _ rfl rfl hap2 ?_; clear hap2) | (at_builtin; refine wpList_append_eq rfl _ _ _ _ rfl _ _ _ _ rfl rfl hap3 ?_; clear hap3; clear hd1 hd2 ha3))
        go_ret2
        have hW := chain HB.out.1 (chain HW5.out FIN.out.2.1 (Nat.le_refl _)) (Nat.le_refl _)
        refine ⟨hW, i, ⟨Nat.le_of_eq hin.out, HLO.out.1, fun h => by have := hin.out; omega⟩, .inr ⟨fun h => by have := hin.out; omega, _, rfl, ?_⟩⟩
        have k := FIN.out
        rw [← HA.out.2.2.2] at k
        exact ⟨k.1, fun g hg => Nat.le_trans HW6.out.size (k.2.2 g hg)⟩
end Go.Proofs.Ytchikfabfhjkgaa
