/-
  DERIVED. The document's Put.
-/
import Derived.Test.YtnhihpekdimbbaaERef1
import Derived.Test.YtnhihpekdimbbaaEAdd
import Derived.Test.YtnhihpekdimbbaaELawS
set_option linter.unusedVariables false
set_option linter.unusedSimpArgs false
namespace Go.Proofs.Ytnhihpekdimbbaa
open Classical
open Go.RowKit
/-- What Put answers. -/
def PutR (w : World) (v : Value) (w' : World) (v' : Value) (h : Ht) (X : List Ht) : Prop := HRow w' v' (ins h X) ∧ (∀ k, v'.ownBlock = some k → v.ownBlock = some k ∨ w.heap.size ≤ k) ∧ Below w.heap.size w w'
def RPut (w : World) (h : Ht) (n : Nat) (X : List Ht) (u : Value) (wr : World) : Prop := ∃ i : Nat, u = .int .i64 i ∧ i ≤ n ∧ Hid (Below w.heap.size w wr ∧ wr.heap[w.heap.size]? = some (.cells (hC h).toArray 31 (0, 0)) ∧ ∀ x ∈ X.take i, cpH x h < 0)
set_option maxHeartbeats 4000000 in
set_option maxRecDepth 100000 in
theorem put_any (v : Value) (X : List Ht) (h : Ht) (w : World) (hr : HRow w v X) (hX : Srt X) (hf : ∀ x ∈ X, HtW x) (hh : HtW h) (hl : X.length < LIM) (hne : v ≠ .slice none 0 0) :
    Calls Try.prog 39 #[v, .agg (hC h).toArray] w fun e w' => ∃ v', e = .returned v' ∧ PutR w v w' v' h X := by
  rcases hr.2 with ⟨h0, -⟩ | ⟨g, c, cur, hv, -, -, hc0, -⟩
  · exact absurd h0 hne
  clear hne
  obtain ⟨n, hn⟩ : ∃ n, n = X.length := ⟨_, rfl⟩
  rw [← hn] at hv hc0
  have HV := Hid.mk hv
  have bA : Below w.heap.size w (w.alloc (.cells (hC h).toArray 31)) := (Below.refl _ w).alloc (Nat.le_refl _) _
  have hb1 := heap_alloc_last w (.cells (hC h).toArray 31)
  obtain ⟨w1, hw1⟩ : ∃ w1, w1 = w.alloc (.cells (hC h).toArray 31) := ⟨_, rfl⟩
  rw [← hw1] at bA hb1
  have hw' : w.alloc (.cells #[.int .i64 h.d, .int .i64 h.i, .string h.c] 31) = w1 := hw1.symm
  have HA : Hid (HRow w (.slice (some ⟨g, 0, none⟩) n c) X ∧ n = X.length ∧ n ≤ c ∧ X.length < LIM) := ⟨by rw [← hv]; exact hr, hn, hc0, hl⟩
  have HS := Hid.mk (And.intro hX (And.intro hf hh))
  have H1 := Hid.mk (And.intro bA hb1)
  have hnl : n < 4398046511102 := by unfold LIM at hl; omega
  rw [show (#[v, .agg (hC h).toArray] : Array Value) = #[.slice (some ⟨g, 0, none⟩) n c, .agg (hC h).toArray] by rw [hv]]
  clear hr hX hf hh hl hn hc0 bA hb1 hw1 hv
  simp only [hC]
  go_enter Try.func39, Try.ntmps39
  go_wp2
  go_loopw [5] (fun u wr => RPut w h n X u wr) (fun u _ => n - (intOf u).toNat)
  case atStart => exact ⟨0, rfl, Nat.zero_le _, H1.out.1, H1.out.2, fun x hx => by simp at hx⟩
  case round =>
    clear H1
    obtain ⟨i, rfl, hi, HR⟩ := hrel
    obtain ⟨bwr, hbx, hL⟩ := HR.out
    have HL := Hid.mk hL
    clear hL HR
    obtain ⟨z0, z1, z2⟩ := box_cells hbx
    by_cases hlt : i < n
    · have i1 : (i : Int) < (n : Int) := by omega
      have i2 : (0 : Int) ≤ (i : Int) := by omega
      have hiX : i < X.length := by have := HA.out.2.1; omega
      obtain ⟨b0, c0, e0, x0, x1, x2, -⟩ := HRow.at' (HRow.below HA.out.1 bwr) i hiX
      simp only [Value.slice.injEq, Option.some.injEq, Addr.mk.injEq] at e0
      obtain ⟨⟨rfl, -, -⟩, -, -⟩ := e0
      obtain ⟨x, hx⟩ : ∃ x, x = X[i] := ⟨_, rfl⟩
      rw [← hx] at x0 x1 x2
      have HX := Hid.mk hx
      have hls := fun W => rless_any x h W
      simp only [hC] at hls
      clear hx
      by_cases hc : cpH x h < 0
      · rw [decide_eq_true hc] at hls
        have hwi : IntKind.i64.wrap ((i : Int) + 1) = ((i + 1 : Nat) : Int) := by rw [IntKind.wrap_i64]; omega
        have HN : Hid (∀ W, Below wr.heap.size wr W → RPut w h n X (.int .i64 ((i + 1 : Nat) : Int)) W) := fun W b => ⟨i + 1, rfl, hlt, bwr.trans (b.mono bwr.size), (b.block _ (Array.getElem?_eq_some_iff.1 hbx).1).trans hbx, fun y hy => by
          rw [List.take_succ_eq_append_getElem hiX] at hy
          rcases List.mem_append.1 hy with hy | hy
          · exact HL.out y hy
          · rw [List.mem_singleton.1 hy, ← HX.out]; exact hc⟩
        clear hc
        go_wp2
        go_region_held (fun w' => Below wr.heap.size wr w' ∧ w'.cell? ⟨g, i * 3, none⟩ = some (.int .i64 x.d) ∧ w'.cell? ⟨g, i * 3 + 1, none⟩ = some (.int .i64 x.i) ∧ w'.cell? ⟨g, i * 3 + 2, none⟩ = some (.string x.c) ∧ w'.cell? ⟨w.heap.size, 0, none⟩ = some (.int .i64 h.d) ∧ w'.cell? ⟨w.heap.size, 1, none⟩ = some (.int .i64 h.i) ∧ w'.cell? ⟨w.heap.size, 2, none⟩ = some (.string h.c))
          ((refine (fun hb => ⟨hb, cell_lat hb x0, cell_lat hb x1, cell_lat hb x2, cell_lat hb z0, cell_lat hb z1, cell_lat hb z2⟩) ?_; first | exact bb | exact b_drew wr))
          ((go_at_call 50; refine (hls _).mono ?_; clear hls; rintro r w4 ⟨rfl, b4⟩; have bb : Below wr.heap.size wr w4 := below_d b4))
        all_goals
          go_wp2
          exact ⟨HN.out _ bb, by simp only [intOf]; omega⟩
      · rw [decide_eq_false hc] at hls
        go_wp2
        go_region_held (fun w' => Below wr.heap.size wr w' ∧ w'.cell? ⟨g, i * 3, none⟩ = some (.int .i64 x.d) ∧ w'.cell? ⟨g, i * 3 + 1, none⟩ = some (.int .i64 x.i) ∧ w'.cell? ⟨g, i * 3 + 2, none⟩ = some (.string x.c) ∧ w'.cell? ⟨w.heap.size, 0, none⟩ = some (.int .i64 h.d) ∧ w'.cell? ⟨w.heap.size, 1, none⟩ = some (.int .i64 h.i) ∧ w'.cell? ⟨w.heap.size, 2, none⟩ = some (.string h.c))
          ((refine (fun hb => ⟨hb, cell_lat hb x0, cell_lat hb x1, cell_lat hb x2, cell_lat hb z0, cell_lat hb z1, cell_lat hb z2⟩) ?_; first | exact bb | exact b_drew wr))
          ((go_at_call 50; refine (hls _).mono ?_; clear hls; rintro r w4 ⟨rfl, b4⟩; have bb : Below wr.heap.size wr w4 := below_d b4))
        all_goals
          have bw4 : Below w.heap.size w w4 := bwr.trans (bb.mono bwr.size)
          have hb4 : w4.heap[w.heap.size]? = some (.cells (hC h).toArray 31 (0, 0)) := (bb.block _ (Array.getElem?_eq_some_iff.1 hbx).1).trans hbx
          replace x0 := cell_lat bb x0
          replace x1 := cell_lat bb x1
          replace x2 := cell_lat bb x2
          replace z0 := cell_lat bb z0
          replace z1 := cell_lat bb z1
          replace z2 := cell_lat bb z2
          have heq := fun W => eqH (a := x) (b := h) (by rw [HX.out]; exact HS.out.2.1 _ (List.getElem_mem hiX)) HS.out.2.2 W
          clear b4 bb
          by_cases he : x = h
          · have HF : Hid (PutR w v w4.drew (.slice (some ⟨g, 0, none⟩) n c) h X) := by
              have hm : h ∈ X := by rw [← he, HX.out]; exact List.getElem_mem hiX
              refine ⟨by rw [ins_in HS.out.1 hm]; exact HRow.below HA.out.1 bw4.drew, fun k hk => .inl (by rw [HV.out]; exact hk), bw4.drew⟩
            rw [decide_eq_true he] at heq
            clear bwr hbx bw4 hb4 HL HA HS HX he hc
            go_wp2
            go_region
            all_goals
              go_wp2
              go_ret
              exact ⟨_, rfl, HF.out⟩
          · rw [decide_eq_false he] at heq
            have HNE : Hid (∀ y, X[i]? = some y → ¬ cpH y h < 0 ∧ y ≠ h) := fun y hy => by
              rw [List.getElem?_eq_getElem hiX, ← HX.out] at hy
              cases hy; exact ⟨by omega, he⟩
            clear bwr hbx he hc HX
            go_wp2
            go_region
            all_goals
              obtain ⟨W3, hW3⟩ : ∃ W3, W3 = w4.drew := ⟨_, rfl⟩
              have b3 : Below w.heap.size w W3 := by rw [hW3]; exact bw4.drew
              have hb3 : W3.heap[w.heap.size]? = some (.cells (hC h).toArray 31 (0, 0)) := by rw [hW3]; exact hb4
              rw [← hW3]
              have r3 : HRow W3 (.slice (some ⟨g, 0, none⟩) n c) X := HRow.below HA.out.1 b3
              obtain ⟨a0, c0, e0, l3⟩ := HRow.lat r3
              simp only [Value.slice.injEq] at e0
              obtain ⟨rfl, -, rfl⟩ := e0
              have hil : i ≤ X.length := by have := HA.out.2.1; omega
              have htl : (X.take i).length = i := by rw [List.length_take]; omega
              obtain ⟨v4, W4, hap4, ho4, s4, hl4⟩ := ent_app W3 [] (X.take i) (.slice none 0 0) ⟨rfl, .inl ⟨rfl, rfl⟩⟩ (some ⟨g, 0, none⟩) c (l3.take i).at' (by have := HA.out.2.2.2; rw [htl]; simp; omega)
              simp only [List.nil_append, List.length_nil] at hap4 ho4
              rw [htl] at hap4
              have b4 : Below W3.heap.size W3 W4 := s4.toBelow (fun k hk e => by cases e) (Nat.le_refl _)
              have hn4 : ∀ k, v4.ownBlock = some k → W3.heap.size ≤ k := fun k hk => (hl4 k hk).elim (fun e => by cases e) id
              obtain ⟨a4, c4, hv4, -⟩ := slice_form ho4
              rw [htl] at hv4
              subst hv4
              obtain ⟨v5, W5, hap5, ho5, s5, hl5⟩ := ent_app1 W4 (X.take i) _ ho4 h (by have := HA.out.2.2.2; rw [htl]; omega)
              have b5 : Below W3.heap.size W4 W5 := s5.toBelow (fun k hk e => by have := hn4 k e; omega) b4.size
              have hn5 : ∀ k, v5.ownBlock = some k → W3.heap.size ≤ k := fun k hk => (hl5 k hk).elim (hn4 k) (fun e => Nat.le_trans b4.size e)
              have hl5' : (X.take i ++ [h]).length = i + 1 := by rw [List.length_append, htl]; rfl
              obtain ⟨a5, c5, hv5, -⟩ := slice_form ho5
              rw [hl5'] at hv5
              subst hv5
              have l5 : LAt W5 (some ⟨g, i * 3, none⟩) (X.drop i) := by
                have h0 := (l3.below (b4.trans b5)).drop i
                rw [Nat.zero_add] at h0; exact h0
              have hdl : (X.drop i).length = n - i := by rw [List.length_drop, ← HA.out.2.1]
              obtain ⟨v6, W6, hap6, ho6, s6, hl6⟩ := ent_app W5 (X.take i ++ [h]) (X.drop i) _ ho5 (some ⟨g, i * 3, none⟩) (c - i) l5.at' (by have := HA.out.2.2.2; rw [hl5', hdl]; omega)
              rw [hdl] at hap6
              have b6 : Below W3.heap.size W5 W6 := s6.toBelow (fun k hk e => by have := hn5 k e; omega) (Nat.le_trans b4.size b5.size)
              have hn6 : ∀ k, v6.ownBlock = some k → w.heap.size ≤ k := fun k hk => (hl6 k hk).elim (fun e => Nat.le_trans b3.size (hn5 k e)) (fun e => Nat.le_trans b3.size (Nat.le_trans b4.size (Nat.le_trans b5.size e)))
              have hsp : ins h X = X.take i ++ [h] ++ X.drop i := by
                rw [ins_split HL.out (fun y hy => by have h9 := HNE.out y hy; exact ⟨by omega, h9.2⟩) hil]; simp
              have HF : Hid (PutR w v W6 v6 h X) := ⟨by rw [hsp]; exact ho6, fun k hk => .inr (hn6 k hk), b3.trans ((b4.trans (b5.trans b6)).mono b3.size)⟩
              have x4 := box_cells (((b4.block _ (Array.getElem?_eq_some_iff.1 hb3).1).trans hb3))
              clear x0 x1 x2 z0 z1 z2
              obtain ⟨z0, z1, z2⟩ := x4
              have i9 : (i : Int) ≤ (n : Int) := by omega
              have i10 : (i : Int) ≤ (c : Int) := by have := HA.out.2.2.1; omega
              have i11 : (n : Int) ≤ (c : Int) := by have := HA.out.2.2.1; omega
              obtain ⟨di, hdi⟩ : ∃ di, di = n - i := ⟨_, rfl⟩
              obtain ⟨dc, hdc⟩ : ∃ dc, dc = c - i := ⟨_, rfl⟩
              rw [← hdi, ← hdc] at hap6
              have hdi' := hdi.symm
              have hdc' := hdc.symm
              simp only [hC] at hap5
              clear hsp hn6 b6 s6 hl6 ho6 hdl l5 hl5' hn5 b5 s5 hl5 ho5 hn4 b4 s4 hl4 ho4 htl hil l3 r3 hb3 b3 hW3 HL HA bw4 hb4 hdi hdc i1 HNE
              go_wp2_with first
                | (at_builtin; refine wpList_append_eq rfl _ _ _ _ rfl _ _ _ _ rfl rfl hap4 ?_; clear hap4)
                | (at_builtin; refine wpList_append_eq rfl _ _ _ _ rfl _ _ _ _ rfl rfl hap5 ?_; clear hap5)
                | (at_builtin; refine wpList_append_eq rfl _ _ _ _ rfl _ _ _ _ rfl rfl hap6 ?_; clear hap6)
              go_ret
              exact ⟨_, rfl, HF.out⟩
    · have i1 : ¬ (i : Int) < (n : Int) := by omega
      have hin : i = n := by omega
      subst hin
      have HNE : Hid (∀ y, X[i]? = some y → ¬ cpH y h < 0 ∧ y ≠ h) := fun y hy => by
        rw [List.getElem?_eq_none (by have := HA.out.2.1; omega)] at hy
        cases hy
      clear z0 z1 z2 hi hlt i1
      have i1 : ¬ (i : Int) < (i : Int) := by omega
      go_wp2
      go_region
      all_goals
        go_wp2
        go_region
        all_goals
          obtain ⟨W3, hW3⟩ : ∃ W3, W3 = wr.drew.drew := ⟨_, rfl⟩
          have b3 : Below w.heap.size w W3 := by rw [hW3]; exact bwr.drew.drew
          have hb3 : W3.heap[w.heap.size]? = some (.cells (hC h).toArray 31 (0, 0)) := by rw [hW3]; exact hbx
          rw [← hW3]
          have r3 : HRow W3 (.slice (some ⟨g, 0, none⟩) i c) X := HRow.below HA.out.1 b3
          obtain ⟨a0, c0, e0, l3⟩ := HRow.lat r3
          simp only [Value.slice.injEq] at e0
          obtain ⟨rfl, -, rfl⟩ := e0
          have hil : i ≤ X.length := by have := HA.out.2.1; omega
          have htl : (X.take i).length = i := by rw [List.length_take]; omega
          obtain ⟨v4, W4, hap4, ho4, s4, hl4⟩ := ent_app W3 [] (X.take i) (.slice none 0 0) ⟨rfl, .inl ⟨rfl, rfl⟩⟩ (some ⟨g, 0, none⟩) c (l3.take i).at' (by have := HA.out.2.2.2; rw [htl]; simp; omega)
          simp only [List.nil_append, List.length_nil] at hap4 ho4
          rw [htl] at hap4
          have b4 : Below W3.heap.size W3 W4 := s4.toBelow (fun k hk e => by cases e) (Nat.le_refl _)
          have hn4 : ∀ k, v4.ownBlock = some k → W3.heap.size ≤ k := fun k hk => (hl4 k hk).elim (fun e => by cases e) id
          obtain ⟨a4, c4, hv4, -⟩ := slice_form ho4
          rw [htl] at hv4
          subst hv4
          obtain ⟨v5, W5, hap5, ho5, s5, hl5⟩ := ent_app1 W4 (X.take i) _ ho4 h (by have := HA.out.2.2.2; rw [htl]; omega)
          have b5 : Below W3.heap.size W4 W5 := s5.toBelow (fun k hk e => by have := hn4 k e; omega) b4.size
          have hn5 : ∀ k, v5.ownBlock = some k → W3.heap.size ≤ k := fun k hk => (hl5 k hk).elim (hn4 k) (fun e => Nat.le_trans b4.size e)
          have hl5' : (X.take i ++ [h]).length = i + 1 := by rw [List.length_append, htl]; rfl
          obtain ⟨a5, c5, hv5, -⟩ := slice_form ho5
          rw [hl5'] at hv5
          subst hv5
          by_cases hci : i = c
          · subst hci
            have hdl : (X.drop i).length = 0 := by rw [List.length_drop, ← HA.out.2.1]; omega
            obtain ⟨v6, W6, hap6, ho6, s6, hl6⟩ := ent_app W5 (X.take i ++ [h]) (X.drop i) _ ho5 (some ⟨g, 0, none⟩) 0 (fun hn9 => absurd (List.eq_nil_of_length_eq_zero hdl) hn9) (by have := HA.out.2.2.2; rw [hl5', hdl]; omega)
            rw [hdl] at hap6
            have b6 : Below W3.heap.size W5 W6 := s6.toBelow (fun k hk e => by have := hn5 k e; omega) (Nat.le_trans b4.size b5.size)
            have hn6 : ∀ k, v6.ownBlock = some k → w.heap.size ≤ k := fun k hk => (hl6 k hk).elim (fun e => Nat.le_trans b3.size (hn5 k e)) (fun e => Nat.le_trans b3.size (Nat.le_trans b4.size (Nat.le_trans b5.size e)))
            have hsp : ins h X = X.take i ++ [h] ++ X.drop i := by
              rw [ins_split HL.out (fun y hy => by have h9 := HNE.out y hy; exact ⟨by omega, h9.2⟩) hil]; simp
            have HF : Hid (PutR w v W6 v6 h X) := ⟨by rw [hsp]; exact ho6, fun k hk => .inr (hn6 k hk), b3.trans ((b4.trans (b5.trans b6)).mono b3.size)⟩
            have x4 := box_cells (((b4.block _ (Array.getElem?_eq_some_iff.1 hb3).1).trans hb3))
            obtain ⟨z0, z1, z2⟩ := x4
            have i9 : (i : Int) ≤ (i : Int) := by omega
            have i10 : (i : Int) ≤ (i : Int) := by have := HA.out.2.2.1; omega
            have i11 : (i : Int) ≤ (i : Int) := by have := HA.out.2.2.1; omega
            simp only [hC] at hap5
            clear hsp hn6 b6 s6 hl6 ho6 hdl hl5' hn5 b5 s5 hl5 ho5 hn4 b4 s4 hl4 ho4 htl hil l3 r3 hb3 b3 hW3 HL HA bwr hbx i1 HNE
            go_wp2_with first
              | (at_builtin; refine wpList_append_eq rfl _ _ _ _ rfl _ _ _ _ rfl rfl hap4 ?_; clear hap4)
              | (at_builtin; refine wpList_append_eq rfl _ _ _ _ rfl _ _ _ _ rfl rfl hap5 ?_; clear hap5)
              | (at_builtin; refine wpList_append_eq rfl _ _ _ _ rfl _ _ _ _ rfl rfl hap6 ?_; clear hap6)
            go_ret
            exact ⟨_, rfl, HF.out⟩
          · have hci2 : ¬ c - i = 0 := by have := HA.out.2.2.1; omega
            have hdl : (X.drop i).length = 0 := by rw [List.length_drop, ← HA.out.2.1]; omega
            obtain ⟨v6, W6, hap6, ho6, s6, hl6⟩ := ent_app W5 (X.take i ++ [h]) (X.drop i) _ ho5 (some ⟨g, i * 3, none⟩) (c - i) (fun hn9 => absurd (List.eq_nil_of_length_eq_zero hdl) hn9) (by have := HA.out.2.2.2; rw [hl5', hdl]; omega)
            rw [hdl] at hap6
            have b6 : Below W3.heap.size W5 W6 := s6.toBelow (fun k hk e => by have := hn5 k e; omega) (Nat.le_trans b4.size b5.size)
            have hn6 : ∀ k, v6.ownBlock = some k → w.heap.size ≤ k := fun k hk => (hl6 k hk).elim (fun e => Nat.le_trans b3.size (hn5 k e)) (fun e => Nat.le_trans b3.size (Nat.le_trans b4.size (Nat.le_trans b5.size e)))
            have hsp : ins h X = X.take i ++ [h] ++ X.drop i := by
              rw [ins_split HL.out (fun y hy => by have h9 := HNE.out y hy; exact ⟨by omega, h9.2⟩) hil]; simp
            have HF : Hid (PutR w v W6 v6 h X) := ⟨by rw [hsp]; exact ho6, fun k hk => .inr (hn6 k hk), b3.trans ((b4.trans (b5.trans b6)).mono b3.size)⟩
            have x4 := box_cells (((b4.block _ (Array.getElem?_eq_some_iff.1 hb3).1).trans hb3))
            obtain ⟨z0, z1, z2⟩ := x4
            have i9 : (i : Int) ≤ (i : Int) := by omega
            have i10 : (i : Int) ≤ (c : Int) := by have := HA.out.2.2.1; omega
            have i11 : (i : Int) ≤ (c : Int) := by have := HA.out.2.2.1; omega
            obtain ⟨dc, hdc⟩ : ∃ dc, dc = c - i := ⟨_, rfl⟩
            rw [← hdc] at hap6
            have hdc' := hdc.symm
            simp only [hC] at hap5
            clear hsp hn6 b6 s6 hl6 ho6 hdl hl5' hn5 b5 s5 hl5 ho5 hn4 b4 s4 hl4 ho4 htl hil l3 r3 hb3 b3 hW3 HL HA bwr hbx hdc i1 HNE
            go_wp2_with first
              | (at_builtin; refine wpList_append_eq rfl _ _ _ _ rfl _ _ _ _ rfl rfl hap4 ?_; clear hap4)
              | (at_builtin; refine wpList_append_eq rfl _ _ _ _ rfl _ _ _ _ rfl rfl hap5 ?_; clear hap5)
              | (at_builtin; refine wpList_append_eq rfl _ _ _ _ rfl _ _ _ _ rfl rfl hap6 ?_; clear hap6)
            go_ret
            exact ⟨_, rfl, HF.out⟩
end Go.Proofs.Ytnhihpekdimbbaa
