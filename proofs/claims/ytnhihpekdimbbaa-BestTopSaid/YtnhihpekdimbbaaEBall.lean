/-
  DERIVED. A ball: a new one, a hit handed in, its list.
-/
import Derived.Test.YtnhihpekdimbbaaEAdd
import Derived.Test.YtnhihpekdimbbaaEList
set_option linter.unusedVariables false
set_option linter.unusedSimpArgs false
namespace Go.Proofs.Ytnhihpekdimbbaa
open Classical
open Go.RowKit
/-- A ball in its block. -/
def BallAt (W : World) (b : Nat) (r : Int) (kp : Nat) : Prop := W.heap[b]? = some (.cells #[.int .i64 r, Pk kp] 67 (0, 0))
theorem BallAt.cells {W : World} {b kp : Nat} {r : Int} (h : BallAt W b r kp) : W.cell? ⟨b, 0, none⟩ = some (.int .i64 r) ∧ W.cell? ⟨b, 1, none⟩ = some (Pk kp) :=
  ⟨by rw [cell_of_row _ _ 0 _ _ (0, 0) h]; rfl, by rw [cell_of_row _ _ 1 _ _ (0, 0) h]; rfl⟩
theorem BallAt.lt {W : World} {b kp : Nat} {r : Int} (h : BallAt W b r kp) : b < W.heap.size := (Array.getElem?_eq_some_iff.1 h).1
theorem KK.ball {W : World} {b kp kq : Nat} {r : Int} {X : List Ht} (h : KK W kq X) (ht : BallAt W b r kp) : ¬ Ft W kq b := fun hf => by
  obtain ⟨mb, v, g, xs, hK⟩ := h
  unfold BallAt at ht
  rcases (hK.kp'.ft b).1 hf with e | e | e
  · have := hK.kp'
    unfold Kp at this
    rw [← e, ht] at this; simp at this
  · obtain ⟨cur, hc⟩ := row_block hK.row e
    rw [ht] at hc; simp at hc
  · obtain ⟨D, ⟨es, clock, hb, -⟩, -⟩ := hK.set
    rw [e, ht] at hb; simp at hb
/-- A ball keeps these. -/
def BT (W : World) (b : Nat) (r : Int) (kp : Nat) (X : List Ht) : Prop := BallAt W b r kp ∧ KK W kp X
theorem BT.keep {W W' : World} {b kp : Nat} {r : Int} {X : List Ht} {F : Nat → Prop} (h : BT W b r kp X) (s : Stay F W W') (ht : ¬ F b) (hF : ∀ j, Ft W kp j → ¬ F j) : BT W' b r kp X ∧ ∀ j, Ft W' kp j ↔ Ft W kp j := by
  obtain ⟨h1, h2⟩ := h
  obtain ⟨h4, h5⟩ := h2.keep s hF
  exact ⟨⟨(s.block b h1.lt ht).trans h1, h4⟩, h5⟩
theorem BT.below {W W' : World} {b kp : Nat} {r : Int} {X : List Ht} (h : BT W b r kp X) (bl : Below W.heap.size W W') : BT W' b r kp X ∧ ∀ j, Ft W' kp j ↔ Ft W kp j := h.keep (F := fun _ => False) (.below bl) (fun h => h) (fun _ _ h => h)
theorem BallAt.frk {W W' : World} {b kp kq : Nat} {r : Int} {X : List Ht} (h : BallAt W b r kp) (hK : KK W kq X) (f : FrK kq W W') : BallAt W' b r kp := (f.stay.block b h.lt (hK.ball h)).trans h
set_option maxRecDepth 100000 in
theorem newBall_any (r : Int) (h0 : 0 ≤ r) (h1 : r ≤ 1024) (w : World) : Calls Try.prog 18 #[.int .i64 r] w fun e w' => ∃ b kp, e = .returned (.tuple #[Pk b, .int .i64 0]) ∧ BT w' b r kp [] ∧ FreshK w w' kp ∧ w.heap.size ≤ b := by
  have h1 : ¬ r < 0 := by omega
  have h2 : ¬ (1024 : Int) < r := by omega
  have hn := newKept_any w
  go_enter Try.func18, Try.ntmps18
  go_wp2_with (go_at_call 36; refine hn.mono ?_; clear hn; rintro r w2 ⟨kp, rfl, hK, hF, b2⟩)
  go_ret2
  have b3 := (Below.refl w2.heap.size w2).alloc (Nat.le_refl _) (.cells #[.int .i64 r, Pk kp] 67)
  have hft : ∀ j, Ft (w2.alloc (.cells #[.int .i64 r, Pk kp] 67)) kp j → Ft w2 kp j := fun j h => ((hK.keep (F := fun _ => False) (.below b3) (fun _ _ h => h)).2 j).1 h
  exact ⟨w2.heap.size, kp, rfl, ⟨heap_alloc_last w2 _, hK.below b3⟩, ⟨fun j h => hF j (hft j h), chain b2 b3 (Nat.le_refl _)⟩, b2.size⟩
/-- What a ball keeps behind a hit. -/
def putB (r : Int) (h : Ht) (X : List Ht) : List Ht := if h.d ≤ r then ins h X else X
theorem BT.same {w w' : World} {b kp : Nat} {r : Int} {X Y : List Ht} (hT : BT w b r kp X) (bl : Below w.heap.size w w') (e : Y = X) : BT w' b r kp Y ∧ FrK kp w w' := by
  rw [e]
  exact ⟨(hT.below bl).1, hT.2.frk bl⟩
set_option maxHeartbeats 2000000 in
set_option maxRecDepth 100000 in
theorem badd_any (b kp : Nat) (r : Int) (X : List Ht) (h : Ht) (w : World) (hT : BT w b r kp X) (hh : HtW h) (hl : X.length < LIM) :
    Calls Try.prog 21 #[Pk b, .agg (hC h).toArray] w fun e w' => e = .returned (.bool (decide (h.d ≤ r))) ∧ BT w' b r kp (putB r h X) ∧ FrK kp w w' := by
  have bA : Below w.heap.size w (w.alloc (.cells (hC h).toArray 31)) := (Below.refl _ w).alloc (Nat.le_refl _) _
  have hb1 := heap_alloc_last w (.cells (hC h).toArray 31)
  obtain ⟨w1, hw1⟩ : ∃ w1, w1 = w.alloc (.cells (hC h).toArray 31) := ⟨_, rfl⟩
  rw [← hw1] at bA hb1
  have hw' : w.alloc (.cells #[.int .i64 h.d, .int .i64 h.i, .string h.c] 31) = w1 := hw1.symm
  have T1 := (hT.below bA).1
  obtain ⟨c0, c1⟩ := T1.1.cells
  obtain ⟨z0, z1, z2⟩ := box_cells hb1
  have HT := Hid.mk (And.intro hT (And.intro bA (And.intro hb1 T1)))
  simp only [hC]
  clear hT bA hb1 T1 hw1
  by_cases hd : h.d ≤ r
  · have hgt : ¬ r < h.d := by omega
    rw [decide_eq_true hd]
    by_cases hm : h ∈ X
    · have Hp : Hid (putB r h X = X) := by show _ = _; unfold putB; rw [if_pos hd, ins_in HT.out.1.2.srt hm]
      have hhas := has_any kp X h w1.drew.drew (HT.out.2.2.2.2.below ((b_drew w1).drew)) hh
      rw [decide_eq_true hm] at hhas
      simp only [hC] at hhas
      clear hm hd
      go_enter Try.func21, Try.ntmps21
      go_wp2
      go_region
      all_goals
        go_wp2
        go_region_held (fun w' => Below w1.heap.size w1 w' ∧ w'.cell? ⟨b, 1, none⟩ = some (Pk kp) ∧ w'.cell? ⟨w.heap.size, 0, none⟩ = some (.int .i64 h.d) ∧ w'.cell? ⟨w.heap.size, 1, none⟩ = some (.int .i64 h.i) ∧ w'.cell? ⟨w.heap.size, 2, none⟩ = some (.string h.c))
          ((refine (fun hb => ⟨hb, cell_lat hb c1, cell_lat hb z0, cell_lat hb z1, cell_lat hb z2⟩) ?_; first | exact bb | exact (b_drew w1).drew))
          ((go_at_call 32; refine hhas.mono ?_; clear hhas; rintro e w4 ⟨rfl, b4⟩; have bb : Below w1.heap.size w1 w4 := below_d (below_d b4)))
        all_goals
          go_wp2
          go_ret
          exact ⟨rfl, HT.out.1.same (HT.out.2.1.trans (bb.mono HT.out.2.1.size)) Hp.out⟩
    · have Hp : Hid (putB r h X = ins h X) := by show _ = _; unfold putB; rw [if_pos hd]
      have hhas := has_any kp X h w1.drew.drew (HT.out.2.2.2.2.below ((b_drew w1).drew)) hh
      rw [decide_eq_false hm] at hhas
      simp only [hC] at hhas
      clear hd
      go_enter Try.func21, Try.ntmps21
      go_wp2
      go_region
      all_goals
        go_wp2
        go_region_held (fun w' => Below w1.heap.size w1 w' ∧ w'.cell? ⟨b, 1, none⟩ = some (Pk kp) ∧ w'.cell? ⟨w.heap.size, 0, none⟩ = some (.int .i64 h.d) ∧ w'.cell? ⟨w.heap.size, 1, none⟩ = some (.int .i64 h.i) ∧ w'.cell? ⟨w.heap.size, 2, none⟩ = some (.string h.c))
          ((refine (fun hb => ⟨hb, cell_lat hb c1, cell_lat hb z0, cell_lat hb z1, cell_lat hb z2⟩) ?_; first | exact bb | exact (b_drew w1).drew))
          ((go_at_call 32; refine hhas.mono ?_; clear hhas; rintro e w4 ⟨rfl, b4⟩; have bb : Below w1.heap.size w1 w4 := below_d (below_d b4)))
        all_goals
          have b4' : Below w.heap.size w w4 := HT.out.2.1.trans (bb.mono HT.out.2.1.size)
          have T4 := (HT.out.1.below b4').1
          have d1 := cell_lat bb c1
          have e0 := cell_lat bb z0
          have e1 := cell_lat bb z1
          have e2 := cell_lat bb z2
          have hadd := add_any kp X h w4.drew (T4.2.below (b_drew w4)) hh hm hl
          simp only [hC] at hadd
          have HA : Hid (∀ w6, KK w6 kp (ins h X) → FrK kp w4.drew w6 → BT w6 b r kp (putB r h X) ∧ FrK kp w w6) := fun w6 K6 f6 => by
            rw [Hp.out]
            exact ⟨⟨BallAt.frk (W := w4.drew) T4.1 (T4.2.below (b_drew w4)) f6, K6⟩, (HT.out.1.2.frk b4').trans ((T4.2.frk (b_drew w4)).trans f6)⟩
          clear b4 bb T4 b4' c0 c1 z0 z1 z2
          go_wp2
          go_region_with (go_at_call 34; refine hadd.mono ?_; clear hadd; rintro r w6 ⟨rfl, K6, f6⟩)
          all_goals
            go_wp2
            go_ret
            exact ⟨rfl, HA.out _ K6 f6⟩
  · have hgt : r < h.d := by omega
    rw [decide_eq_false hd]
    have HP := Hid.mk (HT.out.1.same (Y := putB r h X) (HT.out.2.1.drew) (by unfold putB; rw [if_neg hd]))
    clear hd
    go_enter Try.func21, Try.ntmps21
    go_wp2
    go_region
    all_goals
      go_wp2
      go_ret
      exact ⟨rfl, HP.out⟩
set_option maxRecDepth 100000 in
theorem blist_any (b kp : Nat) (r : Int) (X : List Ht) (w : World) (hT : BT w b r kp X) : Calls Try.prog 23 #[Pk b] w fun e w' => ∃ v, e = .returned v ∧ Told w w' v X := by
  have hl := list_any kp X w hT.2
  obtain ⟨-, c1⟩ := hT.1.cells
  clear hT
  go_enter Try.func23, Try.ntmps23
  go_wp2_with (go_at_call 31; refine hl.mono ?_; clear hl; rintro r w2 ⟨v2, rfl, T2⟩)
  go_ret
  exact ⟨_, rfl, T2⟩
end Go.Proofs.Ytnhihpekdimbbaa
