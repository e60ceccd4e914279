/-
  DERIVED. PlRooms, PlRow, as one text.
-/
import Derived.Test.YtojnlngpgbcimaaDoorTpAL
import Derived.Test.YtojnlngpgbcimaaDoorTpAM
import Derived.Test.YtojnlngpgbcimaaDoorTpAJ
set_option linter.unusedVariables false
set_option linter.unusedSimpArgs false
namespace Go.Proofs.YtojnlngpgbcimaaDoor
open Go.RowKit
set_option maxHeartbeats 16000000 in
set_option maxRecDepth 100000 in
theorem rooms_any {w0 w : World} {b cp n : Nat} (L : List Mt) (hn : n = L.length) (h : RW w0 w (.slice (some ⟨b, 0, none⟩) (n + 2) cp) (L ++ [xK 71, xK 72]) L) (hB : StB (L.map Mt.s)) :
    Calls Tryd.prog 12 #[.slice (some ⟨b, 0, none⟩) n cp] w fun e w' => e = .returned (.bool true) ∧ Drew w w' := by
  have hn1 : n ≤ 1048576 := by have := hB.n; rw [List.length_map] at this; omega
  obtain ⟨a9, c9, e9, hat⟩ := h.row.lat
  have hcp : n + 2 ≤ cp := by
    obtain ⟨a8, c8, e8, hc8⟩ := h.row.form
    simp only [Value.slice.injEq] at e8
    rw [List.length_append, ← hn] at hc8
    obtain ⟨-, -, rfl⟩ := e8
    exact hc8
  simp only [Value.slice.injEq] at e9
  rw [← e9.1] at hat
  have HX := Hid.mk (And.intro hn (And.intro hat (And.intro h.own hB)))
  have kc : (n : Int) + 2 ≤ (cp : Int) := by omega
  have q0 : w.cell? ⟨b, n * 6, none⟩ = some (.int .i64 71) := by
    obtain ⟨g, off, e, hc⟩ := mt_cells hat n (by simp; omega)
    simp only [Option.some.injEq, Addr.mk.injEq] at e
    obtain ⟨rfl, rfl, -⟩ := e
    have h1 := hc 0 (.int .i64 71) (by omega) (by subst hn; simp [mC, xK])
    simpa using h1
  have q1 : w.cell? ⟨b, (n + 1) * 6, none⟩ = some (.int .i64 72) := by
    obtain ⟨g, off, e, hc⟩ := mt_cells hat (n + 1) (by simp; omega)
    simp only [Option.some.injEq, Addr.mk.injEq] at e
    obtain ⟨rfl, rfl, -⟩ := e
    have h1 := hc 0 (.int .i64 72) (by omega) (by subst hn; simp [mC, xK])
    simpa using h1
  clear hn h hB e9 hat hcp
  go_enter Tryd.func12, Tryd.ntmps12
  go_wp2
  go_loopw [3] (fun u wr => ∃ i : Nat, u = .int .i64 i ∧ i ≤ n ∧ Drew w wr) (fun u _ => n - (intOf u).toNat)
  case atStart => exact ⟨0, rfl, Nat.zero_le _, Drew.refl _⟩
  case round =>
    obtain ⟨i, rfl, hi, hd⟩ := hrel
    by_cases hlt : i < n
    · have i1 : (i : Int) < (n : Int) := by omega
      have i2 : (0 : Int) ≤ (i : Int) := by omega
      have hiL : i < L.length := by rw [← HX.out.1]; exact hlt
      obtain ⟨g, off, e, hc⟩ := mt_cells (At_drew HX.out.2.1 hd) i (by rw [List.length_append]; omega)
      simp only [Option.some.injEq, Addr.mk.injEq] at e
      obtain ⟨rfl, rfl, -⟩ := e
      rw [List.getElem_append_left hiL] at hc
      have hm := HX.out.2.2.1 L[i] (List.getElem_mem hiL)
      have hs1 := sum_le (fun s : St => s.N.length) (L.map Mt.s) L[i].s (List.mem_map_of_mem (List.getElem_mem hiL))
      have hs2 := sum_le (fun s : St => s.S.length) (L.map Mt.s) L[i].s (List.mem_map_of_mem (List.getElem_mem hiL))
      have hz1 := HX.out.2.2.2.N
      have hz2 := HX.out.2.2.2.S
      unfold sumN at hz1
      unfold sumS at hz2
      generalize L[i] = m at hc hm hs1 hs2
      obtain ⟨⟨sk, sN, sS, sa, sb, sc⟩, ma, mca, mlb, mcb⟩ := m
      dsimp only at hs1 hs2
      have cN := hm.cN
      have cS := hm.cS
      dsimp only at cN cS
      obtain ⟨g1, o1, e1, z1⟩ := iAt (At_drew hm.N hd) sN.length (by simp)
      obtain ⟨g2, o2, e2, z2⟩ := iAt (At_drew hm.N hd) (sN.length + 1) (by simp)
      obtain ⟨g3, o3, e3, z3⟩ := sAt (At_drew hm.S hd) sS.length (by simp)
      obtain ⟨g4, o4, e4, z4⟩ := sAt (At_drew hm.S hd) (sS.length + 1) (by simp)
      dsimp only at e1 e2 e3 e4
      subst e1 e3
      simp only [Option.some.injEq, Addr.mk.injEq] at e2 e4
      obtain ⟨rfl, rfl, -⟩ := e2
      obtain ⟨rfl, rfl, -⟩ := e4
      have y1 : wr.cell? ⟨g1, o1 + sN.length, none⟩ = some (.int .i64 (-71)) := by rw [z1]; simp
      have y2 : wr.cell? ⟨g1, o1 + (sN.length + 1), none⟩ = some (.int .i64 (-72)) := by rw [z2]; simp
      have y3 : wr.cell? ⟨g3, o3 + sS.length, none⟩ = some (.string roomB) := by rw [z3]; simp
      have y4 : wr.cell? ⟨g3, o3 + (sS.length + 1), none⟩ = some (.string moreB) := by rw [z4]; simp
      have x1 := hc 1 _ (by omega) rfl
      have x2 := hc 2 _ (by omega) rfl
      dsimp only [Nat.zero_add] at x1 x2
      have hnl : sN.length ≤ 1048576 := by omega
      have hsl : sS.length ≤ 1048576 := by omega
      simp only [roomB, moreB] at y3 y4
      clear z1 z2 z3 z4 hc hm hs1 hs2 hz1 hz2
      generalize sN.length = p at *
      generalize sS.length = q at *
      have k1 : (p : Int) + 2 ≤ (mca : Int) := by omega
      have k2 : (q : Int) + 2 ≤ (mcb : Int) := by omega
      have k3 : (0 : Int) ≤ (p : Int) := by omega
      have k4 : (0 : Int) ≤ (q : Int) := by omega
      have HD := Hid.mk hd
      clear hd
      rw [Nat.zero_add] at x1 x2
      go_wp2
      go_region
      go_wp2
      go_region
      go_wp2
      exact ⟨⟨i + 1, rfl, hlt, HD.out.drew.drew⟩, by simp only [intOf]; omega⟩
    · have e : i = n := by omega
      rw [← cell_drew hd] at q0 q1
      have k0 : (0 : Int) ≤ (n : Int) := by omega
      subst e
      go_wp2
      go_ret
      exact ⟨rfl, hd⟩
end Go.Proofs.YtojnlngpgbcimaaDoor
set_option linter.unusedVariables false
set_option linter.unusedSimpArgs false
namespace Go.Proofs.YtojnlngpgbcimaaDoor
open Go.RowKit
/-- A row of the document's, of a shape. -/
def rowV (f : Sh) : Value := .agg #[.string f.w, .int .i64 (if f.k = 1 then 0 else f.n : Nat), .int .i64 f.t, .bool (decide (f.k = 1)), .bool f.o]
theorem results_cell1 {fn : Func} {p : Tmp} {ty : TypeId} (h : fn.results = #[.cell p ty]) (tmps : Array Value) (P : Program) (w : World) (a : Addr) (v : Value)
    (hp : tmps.getD p undef = .pointer (some a)) (hl : (loadVar ty a).run P w = .ok v w) : (results fn tmps).run P w = .ok v w := by
  have hp' : tmps[p]?.getD undef = .pointer (some a) := by simpa using hp
  simp [results, h, hp', asAddr, hl]
theorem load_row {W : World} {b : Nat} {v0 v1 v2 v3 v4 : Value} (h : W.heap[b]? = some (.cells #[v0, v1, v2, v3, v4] 80 (0, 0))) : (loadVar 80 ⟨b, 0, none⟩).run Tryd.prog W = .ok (.agg #[v0, v1, v2, v3, v4]) W := by
  have h0 : W.cell? ⟨b, 0, none⟩ = some v0 := by rw [cell_of_row _ _ _ _ _ (0, 0) h]; rfl
  have h1 : W.cell? ⟨b, 1, none⟩ = some v1 := by rw [cell_of_row _ _ _ _ _ (0, 0) h]; rfl
  have h2 : W.cell? ⟨b, 2, none⟩ = some v2 := by rw [cell_of_row _ _ _ _ _ (0, 0) h]; rfl
  have h3 : W.cell? ⟨b, 3, none⟩ = some v3 := by rw [cell_of_row _ _ _ _ _ (0, 0) h]; rfl
  have h4 : W.cell? ⟨b, 4, none⟩ = some v4 := by rw [cell_of_row _ _ _ _ _ (0, 0) h]; rfl
  have hu := Tryd.underlying80
  go_simp
set_option maxHeartbeats 8000000 in
set_option maxRecDepth 100000 in
theorem later_any (f : Sh) (hf : f ∈ shL.drop 12) (w : World) : Calls Tryd.prog 54 #[.int .i64 f.k] w fun e w' => e = .returned (rowV f) ∧ Below w.heap.size w w' := by
  have hl : shL.drop 12 = [shL[12], shL[13], shL[14], shL[15], shL[16], shL[17], shL[18], shL[19], shL[20], shL[21], shL[22]] := rfl
  rw [hl] at hf
  simp only [List.mem_cons, List.not_mem_nil, or_false] at hf
  rcases hf with rfl | rfl | rfl | rfl | rfl | rfl | rfl | rfl | rfl | rfl | rfl
  all_goals
    simp only [shL, List.getElem_cons_succ, List.getElem_cons_zero]
    go_enter Tryd.func54, Tryd.ntmps54
    go_wp2
    (try simp only [Exit.inBlock, Exit.then])
    refine bodyPost_ret (results_cell1 rfl _ _ _ ⟨w.heap.size, 0, none⟩ _ rfl (load_row (heap_alloc_last w _))) rfl ⟨rfl, (Below.refl _ _).alloc (Nat.le_refl _) _⟩
set_option maxHeartbeats 8000000 in
set_option maxRecDepth 100000 in
theorem row_any (f : Sh) (hf : f ∈ shL) (w : World) : Calls Tryd.prog 38 #[.int .i64 f.k] w fun e w' => e = .returned (rowV f) ∧ Below w.heap.size w w' := by
  have hl : shL = [shL[0], shL[1], shL[2], shL[3], shL[4], shL[5], shL[6], shL[7], shL[8], shL[9], shL[10], shL[11]] ++ shL.drop 12 := rfl
  rw [hl] at hf
  rcases List.mem_append.1 hf with hf | hf
  · simp only [List.mem_cons, List.not_mem_nil, or_false] at hf
    rcases hf with rfl | rfl | rfl | rfl | rfl | rfl | rfl | rfl | rfl | rfl | rfl | rfl
    all_goals
      simp only [shL, List.getElem_cons_succ, List.getElem_cons_zero]
      go_enter Tryd.func38, Tryd.ntmps38
      go_wp2
      (try simp only [Exit.inBlock, Exit.then])
      refine bodyPost_ret (results_cell1 rfl _ _ _ ⟨w.heap.size, 0, none⟩ _ rfl (load_row (heap_alloc_last w _))) rfl ⟨rfl, (Below.refl _ _).alloc (Nat.le_refl _) _⟩
  · have hlt := fun V => later_any f hf V
    have hk : 13 ≤ f.k := by
      have h : ∀ p ∈ shL.drop 12, 13 ≤ p.k := by decide
      exact h f hf
    obtain ⟨k, fw, fn, ft, fo⟩ := f
    dsimp only at hk hlt ⊢
    have n1 : ¬ k = 1 := by omega
    have n2 : ¬ k = 2 := by omega
    have n3 : ¬ k = 3 := by omega
    have n4 : ¬ k = 4 := by omega
    have n5 : ¬ k = 5 := by omega
    have n6 : ¬ k = 6 := by omega
    have n7 : ¬ k = 7 := by omega
    have n8 : ¬ k = 8 := by omega
    have n9 : ¬ k = 9 := by omega
    have n10 : ¬ k = 10 := by omega
    have n11 : ¬ k = 11 := by omega
    have n12 : ¬ k = 12 := by omega
    have hr : rowV ⟨k, fw, fn, ft, fo⟩ = .agg #[.string fw, .int .i64 fn, .int .i64 ft, .bool false, .bool fo] := by unfold rowV; simp [n1]
    rw [hr] at hlt ⊢
    clear hf hl hr
    go_enter Tryd.func38, Tryd.ntmps38
    go_wp2_with fail
    refine (hlt _).mono ?_
    clear hlt
    rintro r w1 ⟨rfl, b1⟩
    have bA : Below w.heap.size w (w.alloc (.cells #[.string ⟨#[]⟩, .int .i64 0, .int .i64 0, .bool false, .bool false] 80)) := (Below.refl _ _).alloc (Nat.le_refl _) _
    have hb1 : w1.heap[w.heap.size]? = some (.cells #[.string ⟨#[]⟩, .int .i64 0, .int .i64 0, .bool false, .bool false] 80 (0, 0)) := (b1.block w.heap.size (by simp)).trans (heap_alloc_last w _)
    have hb2 := heap_setCell_same w1 w.heap.size 0 _ _ (.string fw) hb1
    have hb3 := heap_setCell_same _ w.heap.size 1 _ _ (.int .i64 fn) hb2
    have hb4 := heap_setCell_same _ w.heap.size 2 _ _ (.int .i64 ft) hb3
    have hb5 := heap_setCell_same _ w.heap.size 3 _ _ (.bool false) hb4
    have hb6 := heap_setCell_same _ w.heap.size 4 _ _ (.bool fo) hb5
    have z0 : w1.cell? ⟨w.heap.size, 0, none⟩ = some (.string ⟨#[]⟩) := by rw [cell_of_row _ _ _ _ _ (0, 0) hb1]; rfl
    have z1 : w1.cell? ⟨w.heap.size, 1, none⟩ = some (.int .i64 0) := by rw [cell_of_row _ _ _ _ _ (0, 0) hb1]; rfl
    have z2 : w1.cell? ⟨w.heap.size, 2, none⟩ = some (.int .i64 0) := by rw [cell_of_row _ _ _ _ _ (0, 0) hb1]; rfl
    have z3 : w1.cell? ⟨w.heap.size, 3, none⟩ = some (.bool false) := by rw [cell_of_row _ _ _ _ _ (0, 0) hb1]; rfl
    have z4 : w1.cell? ⟨w.heap.size, 4, none⟩ = some (.bool false) := by rw [cell_of_row _ _ _ _ _ (0, 0) hb1]; rfl
    have hfz : ∀ j, w1.frozen? ⟨w.heap.size, j, none⟩ = false := fun j => frozen_of_row _ _ _ _ _ hb1
    have f0 := hfz 0
    have f1 := hfz 1
    have f2 := hfz 2
    have f3 := hfz 3
    have f4 := hfz 4
    have hst : Stay (fun x => x = w.heap.size) w1 (((((w1.setCell ⟨w.heap.size, 0, none⟩ (.string fw)).setCell ⟨w.heap.size, 1, none⟩ (.int .i64 fn)).setCell ⟨w.heap.size, 2, none⟩ (.int .i64 ft)).setCell ⟨w.heap.size, 3, none⟩ (.bool false)).setCell ⟨w.heap.size, 4, none⟩ (.bool fo)) :=
      ((((Stay.setCell (F := fun x => x = w.heap.size) (p := ⟨w.heap.size, 0, none⟩) (Stay.refl _ w1) (fun _ => rfl) _).setCell (p := ⟨w.heap.size, 1, none⟩) (fun _ => rfl) _).setCell (p := ⟨w.heap.size, 2, none⟩) (fun _ => rfl) _).setCell (p := ⟨w.heap.size, 3, none⟩) (fun _ => rfl) _).setCell (p := ⟨w.heap.size, 4, none⟩) (fun _ => rfl) _
    have bw1 : Below w.heap.size w w1 := bA.trans (b1.mono (by simp))
    have HB := Hid.mk (bw1.trans (hst.toBelow (fun x hx e => by omega) bw1.size))
    have HL := Hid.mk hb6
    clear hb1 hb2 hb3 hb4 hb5 hb6 hfz hst bw1 bA b1
    go_wp2
    (try simp only [Exit.inBlock, Exit.then])
    refine bodyPost_ret (results_cell1 rfl _ _ _ ⟨w.heap.size, 0, none⟩ _ rfl (load_row HL.out)) rfl ⟨rfl, HB.out⟩
end Go.Proofs.YtojnlngpgbcimaaDoor
