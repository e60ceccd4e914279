/-
  DERIVED. What Frames answers.
-/
import Derived.Test.YtgjfdmnlengbfabDoorSPm
namespace Go.Proofs.YtgjfdmnlengbfabDoor
open Go.RowKit Go.Proofs.SealMath
theorem Tryd.info28 : (Tryd.prog.info? 28).map (fun i => (i.zero, i.size, i.bytes)) = some (some (.agg #[.int .i64 0, .string ⟨#[]⟩, .int .i64 0]), 3, 32) := by kernel_rfl
/-- A frame as Frames tells it: kind, payload, place. -/
abbrev Fr := Nat × List UInt8 × Nat
def frC1 (f : Fr) : List Value := [.int .i64 f.1, .string ⟨f.2.1.toArray⟩, .int .i64 f.2.2]
def frC (l : List Fr) : List Value := l.flatMap frC1
theorem frC_snoc (l : List Fr) (f : Fr) : frC (l ++ [f]) = frC l ++ frC1 f := by simp [frC]
theorem frC_len (l : List Fr) : (frC l).length = 3 * l.length := by
  induction l with
  | nil => rfl
  | cons f l ih => show (frC1 f ++ frC l).length = _; rw [List.length_append, ih]; simp [frC1]; omega
/-- The frames from a place on, and where they end. -/
def frs (b : ByteArray) : Nat → Nat → List Fr × Nat
  | 0, a => ([], a)
  | n + 1, a => if (psA b a).2.2.2 = 0 then (((psA b a).1, (psA b a).2.1, a) :: (frs b n (psA b a).2.2.1).1, (frs b n (psA b a).2.2.1).2) else ([], a)
theorem cell_new3 (w : World) (x y z : Value) (t : TypeId) : ∀ j u, [x, y, z][j]? = some u → (w.alloc (.cells #[x, y, z] t)).cell? ((⟨w.heap.size, 0, none⟩ : Addr).add j) = some u := by
  intro j u hj
  have hh := heap_alloc_last w (.cells #[x, y, z] t)
  have ea : (⟨w.heap.size, 0, none⟩ : Addr).add j = ⟨w.heap.size, j, none⟩ := by unfold Addr.add; split <;> simp_all
  rw [ea, cell_of_row _ _ j _ t (0, 0) hh]
  simpa using hj
theorem own_below {w w' : World} {base n size : Nat} {e : TypeId} {v : Value} {xs : List Value} (h : w.ownsRow base e size v n xs) (hb : Below w.heap.size w w') : w'.ownsRow base e size v n xs := by
  obtain ⟨h1, h2⟩ := h
  refine ⟨h1, ?_⟩
  rcases h2 with h2 | ⟨g, cap, cur, rfl, hg, hc, r⟩
  · exact .inl h2
  · have hlt : g < w.heap.size := by
      rw [Array.getElem?_eq_some_iff] at hc; exact hc.1
    exact .inr ⟨g, cap, cur, rfl, hg, (hb.block g hlt).trans hc, r⟩
set_option maxRecDepth 100000 in
set_option maxHeartbeats 8000000 in
theorem frames_any (b : ByteArray) (w : World) (ht : Tab w) (hg : 0 < w.heap.size) (hb : b.size < 4611686018427387904) (R : List Fr × Nat) (hR : R = frs b (b.size + 1) 0) (hN : R.1.length * 32 ≤ 140737488355328) :
    Calls Tryd.prog 9 #[.string b] w fun e w' => (∃ v, e = .returned (.tuple #[v, .int .i64 R.2]) ∧ w'.ownsRow w.heap.size 28 3 v R.1.length (frC R.1)) ∧ Below w.heap.size w w' := by
  obtain ⟨i0, hi, hz0, hz1, hz2⟩ := info_parts Tryd.info28
  go_enter Tryd.func9, Tryd.ntmps9
  go_wp2
  go_loopw [4, 5] (fun s u wr => ∃ (l : List Fr) (a n : Nat), u = .int .i64 a ∧ a ≤ b.size ∧ b.size - a < n ∧ R.1 = l ++ (frs b n a).1 ∧ R.2 = (frs b n a).2 ∧ wr.ownsRow w.heap.size 28 3 s l.length (frC l) ∧ Below w.heap.size w wr) (fun _ u _ => b.size + 1 - (intOf u).toNat)
  case atStart => exact ⟨[], 0, b.size + 1, rfl, by omega, by omega, by rw [hR]; rfl, by rw [hR], ⟨rfl, .inl ⟨rfl, rfl⟩⟩, Below.refl _ _⟩
  case round =>
    obtain ⟨l, a, n, rfl, ha, hn, hR1, hR2, hown, hbl⟩ := hrel
    clear hR
    obtain ⟨n, rfl⟩ : ∃ k, n = k + 1 := ⟨n - 1, by omega⟩
    have hcp := parse_any b a wr (ht.below hbl hg) (Nat.lt_of_lt_of_le hg hbl.size) hb
    have e0 : prA b a = psA b a := by unfold prA; rw [if_pos (by omega), Int.toNat_natCast]
    rw [e0] at hcp
    rw [frs] at hR1 hR2
    clear e0
    by_cases h0 : (psA b a).2.2.2 = 0
    · rw [if_pos h0] at hR1 hR2
      obtain ⟨k, p, hk1, hk2, hp, hsz, hps, hsub⟩ := psA_yes b a h0
      rw [hps] at hR1 hR2 hcp
      dsimp only at hR1 hR2 hcp
      clear hps h0 hsub
      obtain ⟨z, hz⟩ : ∃ z, z = a + (p.length + 14) := ⟨_, rfl⟩
      rw [← hz] at hR1 hR2 hcp hsz
      have hza : a < z := by omega
      clear hz
      have HR1 : Hid (R.1 = (l ++ [(k, p, a)]) ++ (frs b n z).1) := by show _ = _; rw [hR1]; simp
      have HR2 : Hid (R.2 = (frs b n z).2) := hR2
      have hll : (l.length + 1) * 32 ≤ 140737488355328 := by
        have : l.length + 1 ≤ R.1.length := by rw [hR1]; simp
        omega
      clear hR1 hR2
      go_wp2_with fail
      refine hcp.mono ?_
      rintro e w2 ⟨rfl, b2⟩
      clear hcp
      have hbl2 := chain hbl b2 (Nat.le_refl _)
      have hown2 : w2.ownsRow w.heap.size 28 3 u4 l.length (frC l) := own_below hown b2
      go_wp2_with (at_builtin; refine wpList_append_own _ rfl _ _ 22 rfl w.heap.size 28 i0 (.agg #[.int .i64 0, .string ⟨#[]⟩, .int .i64 0]) 3 32 Tryd.underlying22 hi hz0 hz1 hz2 rfl (by decide) _ _ _ rfl (hown2.alloc _) ⟨w2.heap.size, 0, none⟩ 1 1 [.int .i64 k, .string ⟨p.toArray⟩, .int .i64 a] ?_ rfl (cell_new3 _ _ _ _ _) (fun x hx => by simp at hx; rcases hx with rfl | rfl | rfl <;> rfl) (by unfold maxLen; omega) (by omega) (by have := hbl2.size; simp; omega) ?_; go_simp; intro v' w3 hown' hgrow3 hnil3)
      clear hnil3
      have hgr : (w2.alloc (Obj.cells #[Value.int IntKind.i64 k, Value.string ⟨p.toArray⟩, Value.int IntKind.i64 a] 28)).grownBy w3 u4.ownBlock := hgrow3
      clear hgrow3
      have hb3 : Below w.heap.size w w3 := (hbl2.alloc hbl2.size _).grown hgr (by have := hbl2.size; simp; omega) (fun k hk => (hown2.lt k hk).1)
      refine ⟨⟨l ++ [(k, p, a)], z, n, rfl, hsz, by omega, HR1.out, HR2.out, ?_, hb3⟩, by simp only [intOf]; omega⟩
      rw [frC_snoc, List.length_append]; exact hown'
    · rw [if_neg h0] at hR1 hR2
      rw [List.append_nil] at hR1
      dsimp only at hR2
      obtain ⟨⟨rk, rp, rn, rx⟩, hP⟩ : ∃ P, P = psA b a := ⟨_, rfl⟩
      rw [← hP] at h0 hcp
      clear hP
      dsimp only at h0 hcp
      have HR1 : Hid (R.1 = l) := hR1
      have HR2 : Hid (R.2 = a) := hR2
      clear hR1 hR2
      go_wp2_with fail
      refine hcp.mono ?_
      rintro e w2 ⟨rfl, b2⟩
      clear hcp
      have hbl2 := chain hbl b2 (Nat.le_refl _)
      have hown2 : w2.ownsRow w.heap.size 28 3 u4 l.length (frC l) := own_below hown b2
      go_wp2
      go_ret2
      rw [HR1.out, HR2.out]
      exact ⟨⟨u4, rfl, hown2⟩, hbl2⟩
end Go.Proofs.YtgjfdmnlengbfabDoor
