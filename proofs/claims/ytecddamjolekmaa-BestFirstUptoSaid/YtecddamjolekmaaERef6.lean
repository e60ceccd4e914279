/-
  DERIVED. The document's own top: Add, Worst.
-/
import Derived.Test.YtecddamjolekmaaERef5
set_option linter.unusedVariables false
set_option linter.unusedSimpArgs false
namespace Go.Proofs.Ytecddamjolekmaa
open Classical
open Go.RowKit
def RTA (W1 : World) (h : Ht) (Z : List Ht) (k : Nat) (u : Value) (wr : World) : Prop := ∃ i : Nat, u = .int .i64 i ∧ i ≤ Z.length ∧ i ≤ k ∧ Hid (h ∉ Z.take i) ∧ Drew W1 wr
set_option maxHeartbeats 2000000 in
set_option maxRecDepth 100000 in
theorem rtadd_any (t k : Nat) (X : List Ht) (h : Ht) (w : World) (hT : RTp 45 w t k X) (hh : HtW h) (hl : X.length < LIM) (hk : k ≤ 4096) :
    Calls Try.prog 12 #[Pk t, .agg (hC h).toArray] w fun e w' => e = .returned (.bool (decide (h ∈ (ins h X).take k))) ∧ RTp 45 w' t k (ins h X) ∧ FrR t w w' := by
  have bA : Below w.heap.size w (w.alloc (.cells (hC h).toArray 28)) := (Below.refl _ w).alloc (Nat.le_refl _) _
  have hb1 := heap_alloc_last w (.cells (hC h).toArray 28)
  obtain ⟨w1, hw1⟩ : ∃ w1, w1 = w.alloc (.cells (hC h).toArray 28) := ⟨_, rfl⟩
  rw [← hw1] at bA hb1
  have hw' : w.alloc (.cells #[.int .i64 h.d, .int .i64 h.i, .string h.c] 28) = w1 := hw1.symm
  obtain ⟨v, hv, hr, hne⟩ := hT.at'
  have hv1 : RAt 45 w1 t k v := (bA.block t hv.lt).trans hv
  obtain ⟨c0, c1, -⟩ := hv1.cells
  obtain ⟨z0, z1, z2⟩ := box_cells hb1
  have hput := put_all v X h w1.drew (HRow.below hr bA.drew) hT.srt hT.fit hh hl
  simp only [hC] at hput ⊢
  have HE : Hid (∀ v' W', PutR w1.drew v W' v' h X → (RTp 45 (W'.setCell ⟨t, 1, none⟩ v') t k (ins h X) ∧ FrR t w (W'.setCell ⟨t, 1, none⟩ v')) ∧ W'.cell? ⟨t, 1, none⟩ = some v ∧ W'.frozen? ⟨t, 1, none⟩ = false ∧ RAt 45 (W'.setCell ⟨t, 1, none⟩ v') t k v' ∧ HRow (W'.setCell ⟨t, 1, none⟩ v') v' (ins h X) ∧ (W'.setCell ⟨t, 1, none⟩ v').heap[w.heap.size]? = some (.cells (hC h).toArray 28 (0, 0))) := fun v' W' hp => by
    have h9 := put_store hT hv bA.drew hp hh hr hne
    have hvW : RAt 45 W' t k v := (hp.2.2.block t hv1.lt).trans hv1
    obtain ⟨v2, g1, g2, g3⟩ := h9.1.at'
    have e2 : v2 = v' := by
      have := g1.cells.2.1
      rw [(hvW.set v').cells.2.1] at this
      exact (Option.some.inj this).symm
    subst e2
    refine ⟨h9, hvW.cells.2.1, hvW.cells.2.2 1, g1, g2, ?_⟩
    have hbx : W'.heap[w.heap.size]? = some (.cells (hC h).toArray 28 (0, 0)) := (hp.2.2.block _ (Array.getElem?_eq_some_iff.1 hb1).1).trans hb1
    exact ((stay_one' t 1 W' _).block _ (Array.getElem?_eq_some_iff.1 hbx).1 (fun e => by have := hv.lt; omega)).trans hbx
  obtain ⟨a, c, hva, -⟩ := slice_form hr
  subst hva
  obtain ⟨n, hn⟩ : ∃ n, n = X.length := ⟨_, rfl⟩
  rw [← hn] at hput c1 HE
  obtain ⟨Z, hZ⟩ : ∃ Z, Z = ins h X := ⟨_, rfl⟩
  rw [← hZ] at HE ⊢
  have hZl : Z.length ≤ 4398046511102 := by
    rw [hZ]
    have : (ins h X).length ≤ X.length + 1 := by
      by_cases hm : h ∈ X
      · rw [ins_in hT.srt hm]; omega
      · rw [ins_len hm]; exact Nat.le_refl _
    unfold LIM at hl; omega
  have HZ : Hid ((∀ x ∈ Z, HtW x) ∧ HtW h) := ⟨fun x hx => by
    rw [hZ] at hx
    rcases (ins_mem h x X).1 hx with rfl | hx
    · exact hh
    · exact hT.fit x hx, hh⟩
  clear hT hv hr hne hv1 bA hb1 hw1 hn hZ hl hh
  go_enter Try.func12, Try.ntmps12
  go_wp2
  go_region_with (go_at_call 17; refine hput.mono ?_; clear hput; rintro e w4 ⟨v', rfl, hp⟩; obtain ⟨q1, q3, q4, q5, q6, q7⟩ := HE.out _ _ hp; obtain ⟨a', c', hv', -⟩ := slice_form q6; subst hv'; replace q1 := Hid.mk q1; clear hp HE)
  all_goals
    obtain ⟨W5, hW5⟩ : ∃ W5, W5 = w4.setCell ⟨t, 1, none⟩ (.slice a' Z.length c') := ⟨_, rfl⟩
    rw [← hW5] at q1 q5 q6 q7
    have hW5' := hW5.symm
    obtain ⟨d0, d1, -⟩ := q5.cells
    obtain ⟨e0, e1, e2⟩ := box_cells q7
    obtain ⟨m, hm⟩ : ∃ m, m = Z.length := ⟨_, rfl⟩
    rw [← hm] at d1 q6 hZl hW5' ⊢
    have HM := Hid.mk (And.intro hm q6)
    clear hm hW5 q5 q7 q6
    go_wp2
    rw [hW5']
    clear hW5' q3 q4
    go_loopw [5] (fun u wr => RTA W5 h Z k u wr) (fun u _ => m - (intOf u).toNat)
    case atStart => exact ⟨0, rfl, Nat.zero_le _, Nat.zero_le _, (by show _ ∉ _; simp), Drew.refl _⟩
    case round =>
      obtain ⟨i, rfl, hi, hik, HNM, hd⟩ := hrel
      obtain ⟨dq, rfl⟩ := hd
      have hmZ := HM.out.1
      by_cases hlt : i < m
      · have i1 : (i : Int) < (m : Int) := by omega
        have i2 : (0 : Int) ≤ (i : Int) := by omega
        by_cases hlk : i < k
        · have k1 : (i : Int) < (k : Int) := by omega
          have hiZ : i < Z.length := by omega
          obtain ⟨g, cg, eg, y0, y1, y2, -⟩ := HRow.at' HM.out.2 i hiZ
          simp only [Value.slice.injEq] at eg
          obtain ⟨rfl, -, rfl⟩ := eg
          obtain ⟨x, hx⟩ : ∃ x, x = Z[i] := ⟨_, rfl⟩
          rw [← hx] at y0 y1 y2
          have heq := fun W => eqH (a := x) (b := h) (by rw [hx]; exact HZ.out.1 _ (List.getElem_mem hiZ)) HZ.out.2 W
          have hwi : IntKind.i64.wrap ((i : Int) + 1) = ((i + 1 : Nat) : Int) := by rw [IntKind.wrap_i64]; omega
          by_cases he : x = h
          · rw [decide_eq_true he] at heq
            have hd2 : decide (h ∈ Z.take k) = true := decide_eq_true (by
              rw [← he, hx]
              exact List.mem_take_iff_getElem.2 ⟨i, by omega, rfl⟩)
            have HF : Hid (RTp 45 ((W5.drewN dq).drew) t k Z ∧ FrR t w ((W5.drewN dq).drew)) := ⟨(q1.out.1.below ((Drew.below ⟨dq, rfl⟩ _).drew)).1, q1.out.2.trans (q1.out.1.frr ((Drew.below ⟨dq, rfl⟩ _).drew))⟩
            have HD := Hid.mk hd2
            clear hx he hmZ HM HNM hd2
            go_wp2
            go_region
            all_goals
              go_wp2
              go_ret
              exact ⟨ret_bool HD.out.symm, HF.out⟩
          · rw [decide_eq_false he] at heq
            have HN : Hid (RTA W5 h Z k (.int .i64 ((i + 1 : Nat) : Int)) (W5.drewN dq).drew) := ⟨i + 1, rfl, hiZ, hlk, (by
              show _ ∉ _
              rw [List.take_succ_eq_append_getElem hiZ]
              intro hmem
              rcases List.mem_append.1 hmem with h1 | h1
              · exact HNM.out h1
              · exact he (by rw [hx]; exact (List.mem_singleton.1 h1).symm)), Drew.drew ⟨dq, rfl⟩⟩
            clear hx he hmZ HM HNM
            go_wp2
            go_region
            all_goals
              go_wp2
              exact ⟨HN.out, by simp only [intOf]; omega⟩
        · have k1 : ¬ (i : Int) < (k : Int) := by omega
          obtain rfl : i = k := by omega
          have hd2 : decide (h ∈ Z.take i) = false := decide_eq_false HNM.out
          have HF : Hid (RTp 45 (W5.drewN dq) t i Z ∧ FrR t w (W5.drewN dq)) := ⟨(q1.out.1.below (Drew.below ⟨dq, rfl⟩ _)).1, q1.out.2.trans (q1.out.1.frr (Drew.below ⟨dq, rfl⟩ _))⟩
          have HD := Hid.mk hd2
          clear hd2 hmZ HM HNM
          go_wp2
          go_ret
          exact ⟨ret_bool HD.out.symm, HF.out⟩
      · have i1 : ¬ (i : Int) < (m : Int) := by omega
        have hd2 : decide (h ∈ Z.take k) = false := decide_eq_false (by
          have := HNM.out
          rw [List.take_of_length_le (by omega)] at this
          exact fun h9 => this (List.mem_of_mem_take h9))
        have HF : Hid (RTp 45 (W5.drewN dq) t k Z ∧ FrR t w (W5.drewN dq)) := ⟨(q1.out.1.below (Drew.below ⟨dq, rfl⟩ _)).1, q1.out.2.trans (q1.out.1.frr (Drew.below ⟨dq, rfl⟩ _))⟩
        have HD := Hid.mk hd2
        clear hd2 hmZ HM HNM
        go_wp2
        go_ret
        exact ⟨ret_bool HD.out.symm, HF.out⟩
end Go.Proofs.Ytecddamjolekmaa
