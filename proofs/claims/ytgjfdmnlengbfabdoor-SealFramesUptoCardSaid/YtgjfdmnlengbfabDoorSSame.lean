/-
  DERIVED. The document's own Frames; two lists held against each other.
-/
import Derived.Test.YtgjfdmnlengbfabDoorSTm
import Derived.Test.YtgjfdmnlengbfabDoorSParseC
namespace Go.Proofs.YtgjfdmnlengbfabDoor
open Go.RowKit Go.Proofs.SealMath
theorem psA_end (b : ByteArray) : (psA b b.size).2.2.2 = 31 := by
  have h : hdA b b.size = (0, 0, 0, 31) := by unfold hdA; rw [if_pos (Nat.le_refl _)]
  unfold psA; rw [h, if_neg (by decide)]
theorem frs_len (b : ByteArray) : ∀ (n a : Nat), a ≤ b.size → 14 * (frs b n a).1.length + a ≤ b.size
  | 0, a, h => by simp [frs]; exact h
  | n + 1, a, h => by
    rw [frs]
    by_cases h0 : (psA b a).2.2.2 = 0
    · rw [if_pos h0]
      obtain ⟨k, p, _, _, _, hsz, hps, _⟩ := psA_yes b a h0
      rw [hps]
      have := frs_len b n (a + (p.length + 14)) hsz
      simp only [List.length_cons]
      omega
    · rw [if_neg h0]; simp; exact h
set_option maxRecDepth 100000 in
set_option maxHeartbeats 8000000 in
theorem rframes_any (b : ByteArray) (w : World) (hb : b.size < 4611686018427387904) (R : List Fr × Nat) (hR : R = frs b (b.size + 1) 0) (hN : R.1.length * 32 ≤ 140737488355328) :
    Calls Tryd.prog 13 #[.string b] w fun e w' => (∃ v, e = .returned (.tuple #[v, .int .i64 R.2]) ∧ w'.ownsRow w.heap.size 28 3 v R.1.length (frC R.1)) ∧ Below w.heap.size w w' := by
  obtain ⟨i0, hi, hz0, hz1, hz2⟩ := info_parts Tryd.info28
  go_enter Tryd.func13, Tryd.ntmps13
  go_wp2
  go_loopw [4, 5] (fun s u wr => ∃ (l : List Fr) (a n : Nat), u = .int .i64 a ∧ a ≤ b.size ∧ b.size - a < n ∧ R.1 = l ++ (frs b n a).1 ∧ R.2 = (frs b n a).2 ∧ wr.ownsRow w.heap.size 28 3 s l.length (frC l) ∧ Below w.heap.size w wr) (fun _ u _ => b.size + 1 - (intOf u).toNat)
  case atStart => exact ⟨[], 0, b.size + 1, rfl, by omega, by omega, by rw [hR]; rfl, by rw [hR], ⟨rfl, .inl ⟨rfl, rfl⟩⟩, Below.refl _ _⟩
  case round =>
    obtain ⟨l, a, n, rfl, ha, hn, hR1, hR2, hown, hbl⟩ := hrel
    clear hR
    obtain ⟨n, rfl⟩ : ∃ k, n = k + 1 := ⟨n - 1, by omega⟩
    have hcp0 := rparse_any b a wr hb
    have hcp : Calls Tryd.prog 12 #[.string b, .int .i64 a] wr fun e w' => e = .returned (.tuple #[.int .i64 (prA b a).1, .string ⟨(prA b a).2.1.toArray⟩, .int .i64 (prA b a).2.2.1, .int .i64 (prA b a).2.2.2]) ∧ Below wr.heap.size wr w' := by
      refine hcp0.mono ?_
      rintro e w' ⟨rfl, m, rfl⟩
      exact ⟨rfl, Drew.below ⟨m, rfl⟩ _⟩
    clear hcp0
    have e0 : prA b a = psA b a := by unfold prA; rw [if_pos (by omega), Int.toNat_natCast]
    rw [e0] at hcp
    rw [frs] at hR1 hR2
    clear e0
    by_cases hal : ¬ a < b.size
    · have e : a = b.size := by omega
      have h0 : (psA b a).2.2.2 ≠ 0 := by rw [e, psA_end]; decide
      rw [if_neg h0] at hR1 hR2
      rw [List.append_nil] at hR1
      dsimp only at hR2
      have HR1 : Hid (R.1 = l) := hR1
      have HR2 : Hid (R.2 = a) := hR2
      clear hR1 hR2 hcp h0 e
      go_wp2
      go_ret2
      rw [HR1.out, HR2.out]
      exact ⟨⟨u4, rfl, hown⟩, hbl⟩
    have hal2 : a < b.size := by omega
    by_cases h0 : (psA b a).2.2.2 = 0
    · rw [if_pos h0] at hR1 hR2
      obtain ⟨k, p, hk1, hk2, hp, hsz, hps, hsub⟩ := psA_yes b a h0
      rw [hps] at hR1 hR2 hcp
      dsimp only at hR1 hR2 hcp
      clear hps h0 hsub
      obtain ⟨z, hz⟩ : ∃ z, z = a + (p.length + 14) := ⟨_, rfl⟩
      rw [← hz] at hR1 hR2 hcp hsz
      have hza : a < z := by omega
      clear hz
      have HR1 : Hid (R.1 = (l ++ [(k, p, a)]) ++ (frs b n z).1) := by show _ = _; rw [hR1]; simp
      have HR2 : Hid (R.2 = (frs b n z).2) := hR2
      have hll : (l.length + 1) * 32 ≤ 140737488355328 := by
        have : l.length + 1 ≤ R.1.length := by rw [hR1]; simp
        omega
      clear hR1 hR2
      go_wp2_with fail
      refine hcp.mono ?_
      rintro e w2 ⟨rfl, b2⟩
      clear hcp
      have hbl2 := chain hbl b2 (Nat.le_refl _)
      have hown2 : w2.ownsRow w.heap.size 28 3 u4 l.length (frC l) := own_below hown b2
      go_wp2_with (at_builtin; refine wpList_append_own _ rfl _ _ 22 rfl w.heap.size 28 i0 (.agg #[.int .i64 0, .string ⟨#[]⟩, .int .i64 0]) 3 32 Tryd.underlying22 hi hz0 hz1 hz2 rfl (by decide) _ _ _ rfl (hown2.alloc _) ⟨w2.heap.size, 0, none⟩ 1 1 [.int .i64 k, .string ⟨p.toArray⟩, .int .i64 a] ?_ rfl (cell_new3 _ _ _ _ _) (fun x hx => by simp at hx; rcases hx with rfl | rfl | rfl <;> rfl) (by unfold maxLen; omega) (by omega) (by have := hbl2.size; simp; omega) ?_; go_simp; intro v' w3 hown' hgrow3 hnil3)
      clear hnil3
      have hgr : (w2.alloc (Obj.cells #[Value.int IntKind.i64 k, Value.string ⟨p.toArray⟩, Value.int IntKind.i64 a] 28)).grownBy w3 u4.ownBlock := hgrow3
      clear hgrow3
      have hb3 : Below w.heap.size w w3 := (hbl2.alloc hbl2.size _).grown hgr (by have := hbl2.size; simp; omega) (fun k hk => (hown2.lt k hk).1)
      refine ⟨⟨l ++ [(k, p, a)], z, n, rfl, hsz, by omega, HR1.out, HR2.out, ?_, hb3⟩, by simp only [intOf]; omega⟩
      rw [frC_snoc, List.length_append]; exact hown'
    · rw [if_neg h0] at hR1 hR2
      rw [List.append_nil] at hR1
      dsimp only at hR2
      obtain ⟨⟨rk, rp, rn, rx⟩, hP⟩ : ∃ P, P = psA b a := ⟨_, rfl⟩
      rw [← hP] at h0 hcp
      clear hP
      dsimp only at h0 hcp
      have HR1 : Hid (R.1 = l) := hR1
      have HR2 : Hid (R.2 = a) := hR2
      clear hR1 hR2
      go_wp2_with fail
      refine hcp.mono ?_
      rintro e w2 ⟨rfl, b2⟩
      clear hcp
      have hbl2 := chain hbl b2 (Nat.le_refl _)
      have hown2 : w2.ownsRow w.heap.size 28 3 u4 l.length (frC l) := own_below hown b2
      go_wp2
      go_ret2
      rw [HR1.out, HR2.out]
      exact ⟨⟨u4, rfl, hown2⟩, hbl2⟩
/-- A list of frames of the call's own, by its cells. -/
theorem own_form3 {W : World} {base : Nat} {v : Value} {l : List Fr} (h : W.ownsRow base 28 3 v l.length (frC l)) : ∃ D E, v = .slice D l.length E ∧ (0 < l.length → ∀ (j : Nat) (f : Fr), l[j]? = some f → ∃ g, D = some ⟨g, 0, none⟩ ∧ W.cell? ⟨g, j * 3, none⟩ = some (.int .i64 f.1) ∧ W.cell? ⟨g, j * 3 + 1, none⟩ = some (.string ⟨f.2.1.toArray⟩) ∧ W.cell? ⟨g, j * 3 + 2, none⟩ = some (.int .i64 f.2.2)) := by
  rcases h.2 with ⟨rfl, h0⟩ | ⟨g, cap, cur, rfl, _⟩
  · exact ⟨none, 0, by rw [h0], fun hp => by omega⟩
  · refine ⟨some ⟨g, 0, none⟩, cap, rfl, fun _ j f hj => ⟨g, rfl, ?_, ?_, ?_⟩⟩
    all_goals have hlt := (List.getElem?_eq_some_iff.1 hj).1
    · rw [h.cellAt (j * 3) (by omega), show j * 3 = 3 * j + 0 by omega, frC_at l j 0 f hj (by omega)]; rfl
    · rw [h.cellAt (j * 3 + 1) (by omega), show j * 3 + 1 = 3 * j + 1 by omega, frC_at l j 1 f hj (by omega)]; rfl
    · rw [h.cellAt (j * 3 + 2) (by omega), show j * 3 + 2 = 3 * j + 2 by omega, frC_at l j 2 f hj (by omega)]; rfl
set_option maxRecDepth 100000 in
set_option maxHeartbeats 8000000 in
theorem same_any (v1 v2 : Value) (l : List Fr) (c1 c2 : Nat) (w : World) (hl : l.length < 4611686018427387904) (h1 : w.ownsRow c1 28 3 v1 l.length (frC l)) (h2 : w.ownsRow c2 28 3 v2 l.length (frC l)) :
    Calls Tryd.prog 14 #[v1, v2] w fun e w' => e = .returned (.bool true) ∧ Drew w w' := by
  obtain ⟨D1, E1, rfl, k1⟩ := own_form3 h1
  obtain ⟨D2, E2, rfl, k2⟩ := own_form3 h2
  clear h1 h2
  obtain ⟨n, hn⟩ : ∃ n, n = l.length := ⟨_, rfl⟩
  rw [← hn] at hl k1 k2 ⊢
  have HC : Hid (∀ k, k < n → ∃ f, l[k]? = some f) := fun k hk => ⟨l[k]'(by omega), List.getElem?_eq_getElem (by omega)⟩
  clear hn
  have HK1 : Hid _ := k1
  have HK2 : Hid _ := k2
  clear k1 k2
  go_enter Tryd.func14, Tryd.ntmps14
  go_wp2
  go_loopw [5] (fun u wr => ∃ i : Nat, u = .int .i64 i ∧ i ≤ n ∧ Drew w wr) (fun u _ => n - (intOf u).toNat)
  case atStart => exact ⟨0, rfl, Nat.zero_le _, Drew.refl _⟩
  case round =>
    obtain ⟨i, rfl, hi, hd⟩ := hrel
    by_cases hlt : i < n
    · obtain ⟨f, hf⟩ := HC.out i hlt
      obtain ⟨g1, rfl, x0, x1, x2⟩ := HK1.out (by omega) i f hf
      obtain ⟨g2, rfl, y0, y1, y2⟩ := HK2.out (by omega) i f hf
      have hcell : ∀ a : Addr, wr.cell? a = w.cell? a := fun a => by obtain ⟨m, rfl⟩ := hd; exact World.cell?_drewN _ _ _
      rw [← hcell] at x0 x1 x2 y0 y1 y2
      have i1 : (i : Int) < (n : Int) := by omega
      have i2 : 0 ≤ (i : Int) := by omega
      clear hcell
      go_wp2
      go_quiet (fail)
      go_wp2
      refine ⟨⟨i + 1, rfl, hlt, hd.more _⟩, by simp only [intOf]; omega⟩
    · go_wp2
      go_ret
      exact ⟨rfl, hd⟩
end Go.Proofs.YtgjfdmnlengbfabDoor
