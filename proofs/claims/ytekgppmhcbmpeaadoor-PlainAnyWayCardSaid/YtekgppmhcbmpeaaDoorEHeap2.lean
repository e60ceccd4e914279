/-
  DERIVED. Hits as a heap: Len, Swap, Push, Pop.
-/
import Derived.Test.YtekgppmhcbmpeaaDoorEHeap
set_option linter.unusedVariables false
set_option linter.unusedSimpArgs false
namespace Go.Proofs.YtekgppmhcbmpeaaDoor
open Go.RowKit
theorem len_any (kp mb : Nat) (g : Int) (xs : List Ht) (v : Value) (w : World) (hk : Kp w kp v mb g) (h : HRow w v xs) : Calls Tryd.prog 64 #[.pointer (some ⟨kp, 0, none⟩)] w fun r w' => r = .returned (.int .i64 xs.length) ∧ w' = w := by
  obtain ⟨a, c, rfl, -⟩ := slice_form h
  obtain ⟨-, q1, -⟩ := hk.cells
  clear hk h
  go_enter Tryd.func64, Tryd.ntmps64
  go_wp2
  go_ret
  exact ⟨rfl, rfl⟩
theorem Kp.apart {W : World} {kp mb : Nat} {v u : Value} {g : Int} {n : Nat} {xs : List Value} (h : Kp W kp v mb g) (ho : W.ownsRow 0 36 3 u n xs) {k : Nat} (hk : u.ownBlock = some k) : k ≠ kp := fun e => by
  obtain ⟨cur, hc⟩ := row_block ho hk
  unfold Kp at h
  rw [← e, hc] at h
  simp at h
theorem Kp.kept {W W' : World} {kp mb : Nat} {v : Value} {g : Int} {F : Nat → Prop} (h : Kp W kp v mb g) (s : Stay F W W') (hF : ¬ F kp) : Kp W' kp v mb g := (s.block kp h.lt hF).trans h
theorem Kp.set1 {W : World} {kp mb : Nat} {v : Value} {g : Int} (h : Kp W kp v mb g) (v' : Value) : Kp (W.setCell ⟨kp, 1, none⟩ v') kp v' mb g := by
  unfold Kp
  rw [heap_setCell_same W kp 1 _ _ _ h]; rfl
theorem Kp.set3 {W : World} {kp mb : Nat} {v : Value} {g : Int} (h : Kp W kp v mb g) (g' : Int) : Kp (W.setCell ⟨kp, 3, none⟩ (.int .i64 g')) kp v mb g' := by
  unfold Kp
  rw [heap_setCell_same W kp 3 _ _ _ h]; rfl
theorem swap_cells (xs : List Ht) (i j : Nat) (hi : i < xs.length) (hj : j < xs.length) :
    ((((((xs.flatMap hC).set (i * 3) (.int .i64 xs[j].d)).set (i * 3 + 1) (.int .i64 xs[j].i)).set (i * 3 + 2) (.string xs[j].c)).set (j * 3) (.int .i64 xs[i].d)).set (j * 3 + 1) (.int .i64 xs[i].i)).set (j * 3 + 2) (.string xs[i].c) = (swapL xs i j).flatMap hC := by
  rw [flat_set3 xs i xs[j] hi, flat_set3 _ j xs[i] (by simpa using hj), swapL_eq xs i j hi hj]
abbrev put3 (W : World) (b i : Nat) (A : Ht) : World := ((W.setCell ⟨b, i * 3, none⟩ (.int .i64 A.d)).setCell ⟨b, i * 3 + 1, none⟩ (.int .i64 A.i)).setCell ⟨b, i * 3 + 2, none⟩ (.string A.c)
theorem HRow.swap {W : World} {b cap n : Nat} {xs : List Ht} (h : HRow W (.slice (some ⟨b, 0, none⟩) n cap) xs) (hn : n = xs.length) (i j : Nat) (hi : i < xs.length) (hj : j < xs.length) :
    HRow (put3 (put3 W b i xs[j]) b j xs[i]) (.slice (some ⟨b, 0, none⟩) n cap) (swapL xs i j) := by
  subst hn
  unfold HRow
  rw [swapL_len, ← swap_cells xs i j hi hj]
  exact (World.ownsRow.stored (World.ownsRow.stored (World.ownsRow.stored (World.ownsRow.stored (World.ownsRow.stored (World.ownsRow.stored h _ _).1 _ _).1 _ _).1 _ _).1 _ _).1 _ _).1
theorem put3_stay {F : Nat → Prop} {a W : World} {b i : Nat} {A : Ht} (h : Stay F a W) (hF : F b) : Stay F a (put3 W b i A) := ((h.setCell (fun _ => hF) _).setCell (fun _ => hF) _).setCell (fun _ => hF) _
set_option maxHeartbeats 1000000 in
set_option maxRecDepth 100000 in
theorem swap_any (kp mb : Nat) (g : Int) (xs : List Ht) (v : Value) (i j : Nat) (w : World) (hk : Kp w kp v mb g) (h : HRow w v xs) (hi : i < xs.length) (hj : j < xs.length) :
    Calls Tryd.prog 121 #[.pointer (some ⟨kp, 0, none⟩), .int .i64 i, .int .i64 j] w fun r w' => r = .returned (.tuple #[]) ∧ HRow w' v (swapL xs i j) ∧ Stay (fun k => v.ownBlock = some k) w w' := by
  obtain ⟨b, cap, rfl, x0, x1, x2, fz⟩ := HRow.at' h i hi
  obtain ⟨b', cap', hv, y0, y1, y2, -⟩ := HRow.at' h j hj
  simp only [Value.slice.injEq, Option.some.injEq, Addr.mk.injEq] at hv
  obtain ⟨⟨rfl, -, -⟩, -, rfl⟩ := hv
  obtain ⟨-, q1, -⟩ := hk.cells
  have hne : b ≠ kp := hk.apart h rfl
  have HS := Hid.mk (HRow.swap h rfl i j hi hj)
  obtain ⟨A, hAe⟩ : ∃ A, A = xs[i] := ⟨_, rfl⟩
  obtain ⟨B, hBe⟩ : ∃ B, B = xs[j] := ⟨_, rfl⟩
  rw [← hAe] at x0 x1 x2 HS
  rw [← hBe] at y0 y1 y2 HS
  obtain ⟨n, hn⟩ : ∃ n, n = xs.length := ⟨_, rfl⟩
  rw [← hn] at q1 HS ⊢
  have i1 : (i : Int) < (n : Int) := by omega
  have j1 : (j : Int) < (n : Int) := by omega
  have i0 : (0 : Int) ≤ (i : Int) := by omega
  have j0 : (0 : Int) ≤ (j : Int) := by omega
  have HE := Hid.mk (And.intro hAe hBe)
  have st0 : Stay (fun k => (Value.slice (some ⟨b, 0, none⟩) n cap).ownBlock = some k) w (put3 (put3 w b i B) b j A) := put3_stay (F := fun k => (Value.slice (some ⟨b, 0, none⟩) n cap).ownBlock = some k) (put3_stay (F := fun k => (Value.slice (some ⟨b, 0, none⟩) n cap).ownBlock = some k) (.refl _ w) rfl) rfl
  have fin : HRow (put3 (put3 w b i B) b j A).drew (.slice (some ⟨b, 0, none⟩) n cap) (swapL xs i j) ∧ Stay (fun k => (Value.slice (some ⟨b, 0, none⟩) n cap).ownBlock = some k) w (put3 (put3 w b i B) b j A).drew := ⟨World.ownsRow.drew HS.out, st0.drew⟩
  have HF := Hid.mk fin
  clear fin st0 HS hAe hBe h hn hk
  have fz0 := fz (i * 3)
  have fz1 := fz (i * 3 + 1)
  have fz2 := fz (i * 3 + 2)
  have gz0 := fz (j * 3)
  have gz1 := fz (j * 3 + 1)
  have gz2 := fz (j * 3 + 2)
  clear fz
  go_enter Tryd.func121, Tryd.ntmps121
  go_wp2
  by_cases hij : i = j
  · subst hij
    have hAB : B = A := HE.out.2.trans HE.out.1.symm
    subst hAB
    clear y0 y1 y2 gz0 gz1 gz2 j1 j0
    go_region
    all_goals
      go_end0
      exact ⟨rfl, HF.out⟩
  · have hji : ¬ j = i := fun h => hij h.symm
    go_region
    all_goals
      go_end0
      exact ⟨rfl, HF.out⟩
end Go.Proofs.YtekgppmhcbmpeaaDoor
