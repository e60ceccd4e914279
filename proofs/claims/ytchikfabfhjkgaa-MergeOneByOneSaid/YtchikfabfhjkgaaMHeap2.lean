/-
  DERIVED. The merger's heap of sources: Len, Swap, Push, Pop.
-/
import Derived.Test.YtchikfabfhjkgaaMMeth
import Derived.Test.YtchikfabfhjkgaaMOrder0
set_option linter.unusedVariables false
set_option linter.unusedSimpArgs false
namespace Go.Proofs.Ytchikfabfhjkgaa
open Go.RowKit
theorem len_any (xs : List St) (v : Value) (w : World) (h : SRow w v xs) : Calls Try.prog 100 #[v] w fun r w' => r = .returned (.int .i64 xs.length) ∧ w' = w := by
  obtain ⟨a, c, rfl, -⟩ := slice_form h.own
  go_enter Try.func100, Try.ntmps100
  go_wp2
  go_ret
  exact ⟨rfl, rfl⟩
theorem SRow.keep {W W' : World} {v : Value} {xs : List St} {F : Nat → Prop} (h : SRow W v xs) (s : Stay F W W') (h1 : ∀ k, v.ownBlock = some k → ¬ F k) (h2 : ∀ x ∈ xs, ¬ F x.a) : SRow W' v xs :=
  ⟨row_kept h.own s h1, fun x hx => (s.block x.a (Array.getElem?_eq_some_iff.1 (h.st x hx)).1 (h2 x hx)).trans (h.st x hx)⟩
/-- A stand's block is none of a row of stands. -/
theorem SRow.apart {W : World} {v : Value} {xs : List St} (h : SRow W v xs) {k : Nat} (hk : v.ownBlock = some k) {s : St} (hs : StAt W s) : s.a ≠ k := fun e => by
  obtain ⟨cur, hc⟩ := row_block h.own hk
  unfold StAt at hs
  rw [e, hc] at hs
  simp at hs
theorem map_set2 (xs : List St) (i j : Nat) (hi : i < xs.length) (hj : j < xs.length) : ((xs.map Pp).set i (Pp xs[j])).set j (Pp xs[i]) = (swapL xs i j).map Pp := by
  rw [swapL_eq xs i j hi hj, List.map_set, List.map_set]
theorem SRow.swap {W : World} {b cap n : Nat} {xs : List St} (h : SRow W (.slice (some ⟨b, 0, none⟩) n cap) xs) (hn : n = xs.length) (i j : Nat) (hi : i < xs.length) (hj : j < xs.length) :
    SRow ((W.setCell ⟨b, i, none⟩ (Pp xs[j])).setCell ⟨b, j, none⟩ (Pp xs[i])) (.slice (some ⟨b, 0, none⟩) n cap) (swapL xs i j) := by
  subst hn
  refine ⟨?_, fun s hs => ?_⟩
  · rw [swapL_len, ← map_set2 xs i j hi hj]
    exact (World.ownsRow.stored (World.ownsRow.stored h.own _ _).1 _ _).1
  · have hs' : s ∈ xs := by
      have := (swap_perm xs i j hi hj).mem_iff.1 hs
      exact this
    have st : Stay (fun k => k = b) W ((W.setCell ⟨b, i, none⟩ (Pp xs[j])).setCell ⟨b, j, none⟩ (Pp xs[i])) := stay_one _ _ _ _ _ (stay_one _ _ _ _ _ (.refl _ _))
    exact (st.block s.a (Array.getElem?_eq_some_iff.1 (h.st s hs')).1 (h.apart rfl (h.st s hs'))).trans (h.st s hs')
set_option maxRecDepth 100000 in
theorem swap_any (xs : List St) (v : Value) (i j : Nat) (w : World) (h : SRow w v xs) (hi : i < xs.length) (hj : j < xs.length) (hl : xs.length < 4611686018427387904) :
    Calls Try.prog 102 #[v, .int .i64 i, .int .i64 j] w fun r w' => r = .returned (.tuple #[]) ∧ SRow w' v (swapL xs i j) ∧ Stay (fun k => v.ownBlock = some k) w w' := by
  obtain ⟨b, cap, rfl, p0, f0⟩ := h.at' i hi
  obtain ⟨b', cap', hv, p1, f1⟩ := h.at' j hj
  simp only [Value.slice.injEq, Option.some.injEq, Addr.mk.injEq] at hv
  obtain ⟨⟨rfl, -, -⟩, -, rfl⟩ := hv
  have HS := Hid.mk (h.swap rfl i j hi hj)
  obtain ⟨A, hAe⟩ : ∃ A, A = xs[i].a := ⟨_, rfl⟩
  obtain ⟨B, hBe⟩ : ∃ B, B = xs[j].a := ⟨_, rfl⟩
  rw [← hAe] at p0
  rw [← hBe] at p1
  have HE := Hid.mk (And.intro hAe hBe)
  obtain ⟨n, hn⟩ : ∃ n, n = xs.length := ⟨_, rfl⟩
  rw [← hn] at HS ⊢
  have i1 : (i : Int) < (n : Int) := by omega
  have j1 : (j : Int) < (n : Int) := by omega
  have i0 : (0 : Int) ≤ (i : Int) := by omega
  have j0 : (0 : Int) ≤ (j : Int) := by omega
  clear hAe hBe h hn hl
  go_enter Try.func102, Try.ntmps102
  go_wp2
  have fin : ∀ A' B', A' = xs[i].a → B' = xs[j].a → SRow ((w.setCell ⟨b, i, none⟩ (.pointer (some ⟨B', 0, none⟩))).setCell ⟨b, j, none⟩ (.pointer (some ⟨A', 0, none⟩))).drew (.slice (some ⟨b, 0, none⟩) n cap) (swapL xs i j) ∧ Stay (fun k => (Value.slice (some ⟨b, 0, none⟩) n cap).ownBlock = some k) w ((w.setCell ⟨b, i, none⟩ (.pointer (some ⟨B', 0, none⟩))).setCell ⟨b, j, none⟩ (.pointer (some ⟨A', 0, none⟩))).drew := fun A' B' e1 e2 => by
    subst e1 e2
    exact ⟨⟨HS.out.own, HS.out.st⟩, ((stay_one _ _ _ _ _ (stay_one _ _ _ _ _ (Stay.refl _ w))).mono (fun k _ e => by rw [e]; rfl)).drew⟩
  have HF := Hid.mk fin
  clear fin HS
  by_cases hij : i = j
  · subst hij
    have hAB : B = A := HE.out.2.trans HE.out.1.symm
    subst hAB
    clear p1 f1 j1 j0
    go_region
    all_goals
      go_end0
      exact ⟨rfl, HF.out _ _ HE.out.1 HE.out.2⟩
  · have hji : ¬ j = i := fun h => hij h.symm
    go_region
    all_goals
      go_end0
      exact ⟨rfl, HF.out _ _ HE.out.1 HE.out.2⟩
end Go.Proofs.Ytchikfabfhjkgaa
