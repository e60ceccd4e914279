/-
  DERIVED. What is kept: the map is filled anew.
-/
import Derived.Test.YtekgppmhcbmpeaaDoorEKept2
set_option linter.unusedVariables false
set_option linter.unusedSimpArgs false
namespace Go.Proofs.YtekgppmhcbmpeaaDoor
open Go.RowKit
/-- While the map is filled. -/
def RF (kp mb : Nat) (v : Value) (g : Int) (xs : List Ht) (w : World) (u : Value) (wr : World) : Prop := ∃ i : Nat, u = .int .i64 i ∧ i ≤ xs.length ∧ Hid (Kp wr kp v mb g ∧ HRow wr v xs ∧ MS wr mb (xs.take i) ∧ Stay (fun k => k = mb) w wr)
theorem nodup_take {xs : List Ht} (h : xs.Nodup) {i : Nat} (hi : i < xs.length) : xs[i] ∉ xs.take i := fun hm => by
  obtain ⟨j, hj, he⟩ := List.getElem_of_mem hm
  rw [List.getElem_take] at he
  rw [List.length_take] at hj
  have := (List.pairwise_iff_getElem.1 h) j i (by omega) hi (by omega)
  exact this he
set_option maxRecDepth 100000 in
theorem fill_any (kp mb : Nat) (v : Value) (g : Int) (xs ys : List Ht) (w : World) (hk : Kp w kp v mb g) (hr : HRow w v xs) (hm : MS w mb ys) (hn : xs.Nodup) (hf : ∀ x ∈ xs, HtW x) (hl : xs.length ≤ LIM) :
    Calls Tryd.prog 66 #[Pk kp] w fun r w' => r = .returned (.tuple #[]) ∧ Kp w' kp v mb 0 ∧ HRow w' v xs ∧ MS w' mb xs ∧ Stay (fun k => k = mb ∨ k = kp) w w' := by
  obtain ⟨ha1, ha2⟩ := hm.apart hk hr
  obtain ⟨w1, hcl, m1, s1⟩ := hm.clear
  obtain ⟨-, -, q2, -⟩ := hk.cells
  have k1 := hk.kept s1 (fun e => ha1 e.symm)
  have r1 : HRow w1 v xs := row_kept hr s1 (fun k hk e => ha2 (e ▸ hk))
  obtain ⟨-, p1, -⟩ := k1.cells
  obtain ⟨a, c, hv, -⟩ := slice_form hr
  rw [hv] at p1
  obtain ⟨n, hnn⟩ : ∃ n, n = xs.length := ⟨_, rfl⟩
  rw [← hnn] at p1
  have hc0 := hcl 0
  have HA := Hid.mk (And.intro k1 (And.intro r1 (And.intro m1 (And.intro s1 (And.intro ha1 (And.intro ha2 (And.intro hn (And.intro hf (And.intro hl (And.intro hv hnn))))))))))
  clear k1 r1 m1 s1 ha1 ha2 hn hf hl hv hnn hk hr hm
  go_enter Tryd.func66, Tryd.ntmps66
  go_wp2
  clear hcl hc0 p1 q2
  go_loopw [13] (fun u wr => RF kp mb v g xs w u wr) (fun u _ => xs.length - (intOf u).toNat)
  case atStart => exact ⟨0, rfl, Nat.zero_le _, HA.out.1, HA.out.2.1, HA.out.2.2.1, HA.out.2.2.2.1⟩
  case round =>
    obtain ⟨i, rfl, hi, HR⟩ := hrel
    have hnn := HA.out.2.2.2.2.2.2.2.2.2.2
    subst hnn
    by_cases hlt : i < xs.length
    · have hI : (i : Int) < (xs.length : Int) := by omega
      obtain ⟨kr, rr, mr, sr⟩ := HR.out
      obtain ⟨b, cap, hv, x0, x1, x2, -⟩ := HRow.at' rr i hlt
      have hv2 := HA.out.2.2.2.2.2.2.2.2.2.1
      rw [hv] at hv2
      simp only [Value.slice.injEq] at hv2
      obtain ⟨rfl, -, rfl⟩ := hv2
      obtain ⟨x, hx⟩ : ∃ x, x = xs[i] := ⟨_, rfl⟩
      rw [← hx] at x0 x1 x2
      have bA : Below wr.heap.size wr (wr.alloc (.cells #[.int .i64 0, .int .i64 0, .string ⟨#[]⟩] 36)) := (Below.refl _ wr).alloc (Nat.le_refl _) _
      have hb1 := heap_alloc_last wr (.cells #[.int .i64 0, .int .i64 0, .string ⟨#[]⟩] 36)
      obtain ⟨W1, hW1⟩ : ∃ W1, W1 = wr.alloc (.cells #[.int .i64 0, .int .i64 0, .string ⟨#[]⟩] 36) := ⟨_, rfl⟩
      rw [← hW1] at bA hb1
      have z0 : W1.cell? ⟨wr.heap.size, 0, none⟩ = some (.int .i64 0) := by rw [cell_of_row _ _ 0 _ _ (0, 0) hb1]; rfl
      have z1 : W1.cell? ⟨wr.heap.size, 1, none⟩ = some (.int .i64 0) := by rw [cell_of_row _ _ 1 _ _ (0, 0) hb1]; rfl
      have z2 : W1.cell? ⟨wr.heap.size, 2, none⟩ = some (.string ⟨#[]⟩) := by rw [cell_of_row _ _ 2 _ _ (0, 0) hb1]; rfl
      have zf : ∀ j, W1.frozen? ⟨wr.heap.size, j, none⟩ = false := fun j => frozen_of_row _ _ _ _ _ hb1
      obtain ⟨W5, hW5, st5, hb5, o0, o1, o2⟩ := fin3 hb1 rfl (.int .i64 x.d) (.int .i64 x.i) (.string x.c)
      have b5 : Below wr.heap.size wr W5 := bA.trans (st5.toBelow (B := wr.heap.size) (fun k hk h => by (have h' : k = wr.heap.size := h; omega)) bA.size)
      have hw' := hW1.symm
      have k5 := kr.below b5.drew
      have q2 : W5.cell? ⟨kp, 2, none⟩ = some (.map (some mb)) := k5.cells.2.2.1
      have m5 : MS W5.drew mb (xs.take i) := mr.block (b5.drew.block mb mr.lt)
      obtain ⟨w6, hput, m6, s6⟩ := m5.put (fun y hy => HA.out.2.2.2.2.2.2.2.1 y (List.mem_of_mem_take hy)) (a := x) (by rw [hx]; exact HA.out.2.2.2.2.2.2.2.1 _ (List.getElem_mem hlt)) (by rw [hx]; exact nodup_take HA.out.2.2.2.2.2.2.1 hlt) (by
        have h1 : (xs.take i).length ≤ xs.length := by rw [List.length_take]; omega
        have h2 := HA.out.2.2.2.2.2.2.2.2.1
        unfold LIM at h2; unfold maxLen; omega)
      have HN : Hid (RF kp mb v g xs w (.int .i64 ((i + 1 : Nat) : Int)) w6) := by
        refine ⟨i + 1, rfl, hlt, k5.kept s6 (fun e => HA.out.2.2.2.2.1 e.symm), row_kept (HRow.below rr b5.drew) s6 (fun k hk e => HA.out.2.2.2.2.2.1 (e ▸ hk)), m6.perm ?_, sr.andThen ((Stay.below (F := fun k => k = mb) b5.drew).trans s6) (fun k _ h => h)⟩
        rw [List.take_succ_eq_append_getElem hlt, ← hx]
        exact List.perm_append_comm (l₁ := [x])
      have hwi : IntKind.i64.wrap ((i : Int) + 1) = ((i + 1 : Nat) : Int) := by
        have h2 := HA.out.2.2.2.2.2.2.2.2.1
        unfold LIM at h2
        rw [IntKind.wrap_i64]; omega
      simp only [hC] at hput
      have i0 : (0 : Int) ≤ (i : Int) := by omega
      clear HR kr rr mr sr bA hb1 hW1 st5 hb5 b5 k5 m5 m6 s6 hx hv HA
      go_wp2
      go_region
      all_goals
        go_wp2
        exact ⟨HN.out, by simp only [intOf]; omega⟩
    · have e : i = xs.length := by omega
      subst e
      have hI : ¬ (xs.length : Int) < (xs.length : Int) := by omega
      obtain ⟨kr, rr, mr, sr⟩ := HR.out
      rw [List.take_of_length_le (Nat.le_refl _)] at mr
      obtain ⟨-, -, -, q3, qf⟩ := kr.cells
      have qf := qf 3
      have s3 : Stay (fun k => k = kp) wr (wr.setCell ⟨kp, 3, none⟩ (.int .i64 0)) := stay_one' _ _ _ _
      have HN : Hid (Kp (wr.setCell ⟨kp, 3, none⟩ (.int .i64 0)) kp v mb 0 ∧ HRow (wr.setCell ⟨kp, 3, none⟩ (.int .i64 0)) v xs ∧ MS (wr.setCell ⟨kp, 3, none⟩ (.int .i64 0)) mb xs ∧ Stay (fun k => k = mb ∨ k = kp) w (wr.setCell ⟨kp, 3, none⟩ (.int .i64 0))) :=
        ⟨kr.set3 0, row_kept rr s3 (fun k hk e => kr.apart rr hk e), mr.kept s3 HA.out.2.2.2.2.1, (sr.mono (fun k _ e => .inl e)).andThen (s3.mono (fun k _ e => (show k = mb ∨ k = kp from .inr e))) (fun k _ h => h)⟩
      clear HR kr rr mr sr HA s3
      go_wp2
      go_end0
      exact ⟨rfl, HN.out⟩
end Go.Proofs.YtekgppmhcbmpeaaDoor
