/-
  DERIVED. PlByK, as one text.
-/
import Derived.Test.YtojnlngpgbcimaaDoorTpAE
import Derived.Carry
set_option linter.unusedVariables false
set_option linter.unusedSimpArgs false
namespace Go.Proofs.YtojnlngpgbcimaaDoor
open Go.RowKit Go.Maps Go.ChangeMaps Go.MapKept Go.WideShapes
def kK (p : Sh) : Lit := .int .i64 p.k
def kW (p : Sh) : Lit := .string p.w.data.toList
theorem take_ne {α β : Type} (f : α → β) (l : List α) (h : (l.map f).Pairwise (· ≠ ·)) (i : Nat) (hi : i < l.length) : ∀ p ∈ l.take i, f p ≠ f l[i] := by
  intro p hp
  obtain ⟨j, hj, rfl⟩ := List.mem_iff_getElem.1 hp
  rw [List.length_take] at hj
  have h1 := List.pairwise_iff_getElem.1 h j i (by rw [List.length_map]; omega) (by rw [List.length_map]; exact hi) (by omega)
  rw [List.getElem_map, List.getElem_map] at h1
  rw [List.getElem_take]
  exact h1
theorem ndK : (shL.map Sh.k).Pairwise (· ≠ ·) := by decide
theorem ndW : (shL.map fun p => p.w.data.toList).Pairwise (· ≠ ·) := by decide
theorem shL_wf : ∀ p ∈ shL, 1 ≤ p.k ∧ p.k ≤ 23 ∧ p.w.size ≤ 7 ∧ p.n ≤ 3 ∧ p.t ≤ 1 := by decide
theorem law3 : Keyed Tryd.prog 3 := int_keyed Tryd.underlying3
theorem law9 : Keyed Tryd.prog 9 := string_keyed Tryd.underlying9
theorem wf_i64 {n : Int} (h : -9223372036854775808 ≤ n ∧ n ≤ 9223372036854775807) : (Lit.int .i64 n).wf = true := by
  have e1 : IntKind.i64.min = -9223372036854775808 := rfl
  have e2 : IntKind.i64.max = 9223372036854775807 := rfl
  simp [Lit.wf, e1, e2]
  omega
theorem row_cell {W : World} {b : Nat} {ty : TypeId} (h : W.heap[b]? = some (.cells (shL.flatMap shC).toArray ty (0, 0))) (i : Nat) (hi : i < shL.length) (j : Nat) (hj : j < 5) (u : Value) (hu : (shC shL[i])[j]? = some u) : W.cell? ⟨b, i * 5 + j, none⟩ = some u := by
  rw [cell_of_row _ _ _ _ _ (0, 0) h]
  have h1 := Rw.flat_at shC 5 (fun _ => rfl) shL i j hi hj
  rw [hu] at h1
  simpa using h1
set_option maxHeartbeats 4000000 in
set_option maxRecDepth 100000 in
theorem byKind_any (w : World) : Calls Tryd.prog 18 #[] w fun e w' => ∃ mb, e = .returned (.map (some mb)) ∧ SM 3 kK w' mb shL ∧ Below w.heap.size w w' := by
  obtain ⟨W0, hW0⟩ : ∃ W0, W0 = w.alloc (.map #[] 0) := ⟨_, rfl⟩
  have b0 : Below w.heap.size w W0 := hW0 ▸ (Below.refl _ w).alloc (Nat.le_refl _) _
  have s0 : W0.heap.size = w.heap.size + 1 := by rw [hW0]; simp
  have m0 : SM 3 kK W0 w.heap.size [] := hW0 ▸ SM.made 3 kK w
  have hs := shapes_any W0
  obtain ⟨sb, hsb⟩ : ∃ sb, sb = W0.heap.size := ⟨_, rfl⟩
  rw [← hsb] at hs
  have HSB := Hid.mk (hsb.trans s0)
  have HW := Hid.mk hW0
  have hmm := @run_makeMap Tryd.prog
  obtain ⟨R, hR⟩ : ∃ R, R = (shL.flatMap shC).toArray := ⟨_, rfl⟩
  rw [← hR] at hs
  clear hW0
  go_enter Tryd.func18, Tryd.ntmps18
  go_wp2_with fail
  rw [← HW.out]
  refine hs.mono ?_
  clear hs
  rintro e w1 ⟨rfl, hw1⟩
  have b1 : Below W0.heap.size W0 w1 := hw1 ▸ (Below.refl _ W0).alloc (Nat.le_refl _) _
  have hb1 : w1.heap[sb]? = some (.cells R 48 (0, 0)) := hsb ▸ hw1 ▸ heap_alloc_last W0 _
  have s1 : w1.heap.size = W0.heap.size + 1 := by rw [hw1]; simp
  have HI0 := Hid.mk (show SM 3 kK w1 w.heap.size (shL.take 0) ∧ Below w.heap.size w w1 ∧ w1.heap[sb]? = some (.cells R 48 (0, 0)) from ⟨m0.below b1, b0.trans (b1.mono b0.size), hb1⟩)
  have HR := Hid.mk hR
  clear hw1 b1 hb1 s1 m0 b0 hR HW s0 hsb
  go_wp2
  go_loopw [7] (fun u wr => ∃ i : Nat, u = .int .i64 i ∧ i ≤ 23 ∧ Hid (SM 3 kK wr w.heap.size (shL.take i) ∧ Below w.heap.size w wr ∧ wr.heap[sb]? = some (.cells R 48 (0, 0)))) (fun u _ => 23 - (intOf u).toNat)
  case atStart => exact ⟨0, rfl, Nat.zero_le _, HI0⟩
  case round =>
    clear HI0
    obtain ⟨i, rfl, hi, HM⟩ := hrel
    by_cases hlt : i < 23
    · have i1 : (i : Int) < 23 := by omega
      have i2 : (0 : Int) ≤ (i : Int) := by omega
      have hiL : i < shL.length := hlt
      have hb := HM.out.2.2
      rw [HR.out] at hb
      have hc := fun (j : Nat) (hj : j < 5) u hu => row_cell hb i hiL j hj u hu
      have hne := take_ne Sh.k shL ndK i hiL
      have hwf := shL_wf shL[i] (List.getElem_mem hiL)
      have hsn : shL.take (i + 1) = shL.take i ++ [shL[i]] := by rw [List.take_succ_eq_append_getElem hiL]
      generalize shL[i] = f at hc hne hwf hsn
      obtain ⟨k, wd, n, t, o⟩ := f
      have x0 : wr.cell? ⟨sb, i * 5, none⟩ = some (.int .i64 k) := hc 0 (by omega) _ rfl
      have x1 : wr.cell? ⟨sb, i * 5 + 1, none⟩ = some (.string wd) := hc 1 (by omega) _ rfl
      have x2 : wr.cell? ⟨sb, i * 5 + 2, none⟩ = some (.int .i64 n) := hc 2 (by omega) _ rfl
      have x3 : wr.cell? ⟨sb, i * 5 + 3, none⟩ = some (.int .i64 t) := hc 3 (by omega) _ rfl
      have x4 : wr.cell? ⟨sb, i * 5 + 4, none⟩ = some (.bool o) := hc 4 (by omega) _ rfl
      have bb : Below wr.heap.size wr (wr.alloc (.cells #[.int .i64 k, .string wd, .int .i64 n, .int .i64 t, .bool o] 48)) := (Below.refl _ wr).alloc (Nat.le_refl _) _
      obtain ⟨W', hput, hm, hst, hsz⟩ := (HM.out.1.below bb).put law3 Tryd.underlying41 (a := ⟨k, wd, n, t, o⟩) (key := .int .i64 k) (keyOf_int_mk Tryd.underlying3 (wf_i64 ⟨by have := hwf.1; dsimp only at this; omega, by have := hwf.2.1; dsimp only at this; omega⟩)) (by trivial) (fun p hp e => hne p hp (by unfold kK at e; injection e)) (by rw [List.length_take]; unfold maxLen; omega)
      have hmlt := HM.out.1.lt
      have HN := Hid.mk (show SM 3 kK W' w.heap.size (shL.take (i + 1)) ∧ Below w.heap.size w W' ∧ W'.heap[sb]? = some (.cells R 48 (0, 0)) from by
        refine ⟨by rw [hsn]; exact hm, ?_, ?_⟩
        · have b1 := HM.out.2.1.trans (bb.mono HM.out.2.1.size)
          exact b1.trans (hst.toBelow (fun k hk e => by omega) b1.size)
        · have h1 := (bb.block sb (Array.getElem?_eq_some_iff.1 HM.out.2.2).1).trans HM.out.2.2
          exact (hst.block sb (Array.getElem?_eq_some_iff.1 h1).1 (fun e => by have := HSB.out; omega)).trans h1)
      simp only [shC] at hput
      clear hc hne hwf hsn hb hm hst hsz bb hmlt HM
      go_wp2
      exact ⟨⟨i + 1, rfl, hlt, HN⟩, by simp only [intOf]; omega⟩
    · have e : i = 23 := by omega
      subst e
      go_wp2
      go_ret
      exact ⟨_, rfl, HM.out.1, HM.out.2.1⟩
set_option maxHeartbeats 4000000 in
set_option maxRecDepth 100000 in
theorem byWord_any (w : World) : Calls Tryd.prog 24 #[] w fun e w' => ∃ mb, e = .returned (.map (some mb)) ∧ SM 9 kW w' mb shL ∧ Below w.heap.size w w' := by
  obtain ⟨W0, hW0⟩ : ∃ W0, W0 = w.alloc (.map #[] 0) := ⟨_, rfl⟩
  have b0 : Below w.heap.size w W0 := hW0 ▸ (Below.refl _ w).alloc (Nat.le_refl _) _
  have s0 : W0.heap.size = w.heap.size + 1 := by rw [hW0]; simp
  have m0 : SM 9 kW W0 w.heap.size [] := hW0 ▸ SM.made 9 kW w
  have hs := shapes_any W0
  obtain ⟨sb, hsb⟩ : ∃ sb, sb = W0.heap.size := ⟨_, rfl⟩
  rw [← hsb] at hs
  have HSB := Hid.mk (hsb.trans s0)
  have HW := Hid.mk hW0
  have hmm := @run_makeMap Tryd.prog
  obtain ⟨R, hR⟩ : ∃ R, R = (shL.flatMap shC).toArray := ⟨_, rfl⟩
  rw [← hR] at hs
  clear hW0
  go_enter Tryd.func24, Tryd.ntmps24
  go_wp2_with fail
  rw [← HW.out]
  refine hs.mono ?_
  clear hs
  rintro e w1 ⟨rfl, hw1⟩
  have b1 : Below W0.heap.size W0 w1 := hw1 ▸ (Below.refl _ W0).alloc (Nat.le_refl _) _
  have hb1 : w1.heap[sb]? = some (.cells R 48 (0, 0)) := hsb ▸ hw1 ▸ heap_alloc_last W0 _
  have s1 : w1.heap.size = W0.heap.size + 1 := by rw [hw1]; simp
  have HI0 := Hid.mk (show SM 9 kW w1 w.heap.size (shL.take 0) ∧ Below w.heap.size w w1 ∧ w1.heap[sb]? = some (.cells R 48 (0, 0)) from ⟨m0.below b1, b0.trans (b1.mono b0.size), hb1⟩)
  have HR := Hid.mk hR
  clear hw1 b1 hb1 s1 m0 b0 hR HW s0 hsb
  go_wp2
  go_loopw [7] (fun u wr => ∃ i : Nat, u = .int .i64 i ∧ i ≤ 23 ∧ Hid (SM 9 kW wr w.heap.size (shL.take i) ∧ Below w.heap.size w wr ∧ wr.heap[sb]? = some (.cells R 48 (0, 0)))) (fun u _ => 23 - (intOf u).toNat)
  case atStart => exact ⟨0, rfl, Nat.zero_le _, HI0⟩
  case round =>
    clear HI0
    obtain ⟨i, rfl, hi, HM⟩ := hrel
    by_cases hlt : i < 23
    · have i1 : (i : Int) < 23 := by omega
      have i2 : (0 : Int) ≤ (i : Int) := by omega
      have hiL : i < shL.length := hlt
      have hb := HM.out.2.2
      rw [HR.out] at hb
      have hc := fun (j : Nat) (hj : j < 5) u hu => row_cell hb i hiL j hj u hu
      have hne := take_ne (fun p : Sh => p.w.data.toList) shL ndW i hiL
      have hwf := shL_wf shL[i] (List.getElem_mem hiL)
      have hsn : shL.take (i + 1) = shL.take i ++ [shL[i]] := by rw [List.take_succ_eq_append_getElem hiL]
      generalize shL[i] = f at hc hne hwf hsn
      obtain ⟨k, wd, n, t, o⟩ := f
      have x0 : wr.cell? ⟨sb, i * 5, none⟩ = some (.int .i64 k) := hc 0 (by omega) _ rfl
      have x1 : wr.cell? ⟨sb, i * 5 + 1, none⟩ = some (.string wd) := hc 1 (by omega) _ rfl
      have x2 : wr.cell? ⟨sb, i * 5 + 2, none⟩ = some (.int .i64 n) := hc 2 (by omega) _ rfl
      have x3 : wr.cell? ⟨sb, i * 5 + 3, none⟩ = some (.int .i64 t) := hc 3 (by omega) _ rfl
      have x4 : wr.cell? ⟨sb, i * 5 + 4, none⟩ = some (.bool o) := hc 4 (by omega) _ rfl
      have bb : Below wr.heap.size wr (wr.alloc (.cells #[.int .i64 k, .string wd, .int .i64 n, .int .i64 t, .bool o] 48)) := (Below.refl _ wr).alloc (Nat.le_refl _) _
      obtain ⟨W', hput, hm, hst, hsz⟩ := (HM.out.1.below bb).put law9 Tryd.underlying55 (a := ⟨k, wd, n, t, o⟩) (key := .string wd) (Go.WideMaps.keyOf_string_mk Tryd.underlying9 (by have := hwf.2.2.1; dsimp only at this; unfold maxLen; omega)) (by trivial) (fun p hp e => hne p hp (by unfold kW at e; injection e)) (by rw [List.length_take]; unfold maxLen; omega)
      have hmlt := HM.out.1.lt
      have HN := Hid.mk (show SM 9 kW W' w.heap.size (shL.take (i + 1)) ∧ Below w.heap.size w W' ∧ W'.heap[sb]? = some (.cells R 48 (0, 0)) from by
        refine ⟨by rw [hsn]; exact hm, ?_, ?_⟩
        · have b1 := HM.out.2.1.trans (bb.mono HM.out.2.1.size)
          exact b1.trans (hst.toBelow (fun k hk e => by omega) b1.size)
        · have h1 := (bb.block sb (Array.getElem?_eq_some_iff.1 HM.out.2.2).1).trans HM.out.2.2
          exact (hst.block sb (Array.getElem?_eq_some_iff.1 h1).1 (fun e => by have := HSB.out; omega)).trans h1)
      simp only [shC] at hput
      clear hc hne hwf hsn hb hm hst hsz bb hmlt HM
      go_wp2
      exact ⟨⟨i + 1, rfl, hlt, HN⟩, by simp only [intOf]; omega⟩
    · have e : i = 23 := by omega
      subst e
      go_wp2
      go_ret
      exact ⟨_, rfl, HM.out.1, HM.out.2.1⟩
end Go.Proofs.YtojnlngpgbcimaaDoor
