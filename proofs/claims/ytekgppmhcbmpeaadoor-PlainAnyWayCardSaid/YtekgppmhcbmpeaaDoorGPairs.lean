/-
  DERIVED. A plain map's Pairs and Delete.
-/
import Derived.Test.YtekgppmhcbmpeaaDoorGSort
import Derived.Test.YtekgppmhcbmpeaaDoorGLook
set_option linter.unusedVariables false
set_option linter.unusedSimpArgs false
namespace Go.Proofs.YtekgppmhcbmpeaaDoor
open Go.RowKit Go.Maps
/-- What holds while the pairs are gathered. -/
structure LP (w : World) (mb r n : Nat) (xs : List Pr) (D : DataW Unit) (v : Value) (wr : World) (left : Lit → Bool) (cnt : Nat) (sn : List Pr) : Prop where
  rg : wr.ranges Tryd.prog 3 prE mb r n D left cnt
  sn' : Seen xs sn left
  row : PRow wr v sn
  far : ∀ k, v.ownBlock = some k → w.heap.size ≤ k ∧ k ≠ r
  st : Below w.heap.size w wr
  rf : w.heap.size ≤ r
set_option maxHeartbeats 4000000 in
set_option maxRecDepth 100000 in
theorem pairs_any (p mb : Nat) (wd n : Int) (xs : List Pr) (w : World) (h : MP w p mb wd xs n) (hl : xs.length ≤ 1048576) :
    Calls Tryd.prog 17 #[Pt p] w fun e w' => ∃ v, e = .returned v ∧ PRow w' v (srtP xs) ∧ (∀ k, v.ownBlock = some k → w.heap.size ≤ k) ∧ Below w.heap.size w w' := by
  obtain ⟨-, c1, -⟩ := h.at'.cells
  obtain ⟨D, hown, d2, d3, d4, hnd⟩ := h.pm
  have hln := fun ty => h.pm.len ty
  have hmb := h.pm.lt
  obtain ⟨i0, hi, hz0, hz1, hz2⟩ := info_parts infoPr
  have HX := Hid.mk (And.intro d2 (And.intro d3 (And.intro d4 (And.intro hnd hl))))
  have hlI : (0 : Int) ≤ (xs.length : Int) := by omega
  clear d2 d3 d4 hnd h
  go_enter Tryd.func17, Tryd.ntmps17
  go_wp2_with (first
    | (at_make; refine wpList_make_own _ rfl _ _ 22 rfl 0 56 i0 _ 2 Tryd.underlying22 hi hz0 hz1 _ _ _ xs.length rfl rfl rfl (by rw [hz2]; omega) (by unfold maxLen; omega) (Nat.zero_le _) ?_; intro w1 hrow1 hg1; have p1 := hg1.cell c1 (by simp))
    | (at_range; refine wpList_range_own _ rfl _ 65 rfl 3 56 law3 Tryd.underlying65 _ mb xs.length _ rfl (hown.kept hg1 (by simp)) ?_; intro w0 hrg0 hg0 hs0)
    | go_in)
  go_frame
  have b1 : Below w.heap.size w w1 := (Below.refl _ _).grown hg1 (Nat.le_refl _) (fun j hj => by cases hj)
  have b0 : Below w.heap.size w w0 := b1.grown hg0 b1.size (fun j hj => by cases hj)
  have HS0 : Hid (LP w mb w1.heap.size xs.length xs D (.slice (some ⟨w.heap.size, 0, none⟩) 0 xs.length) w0 (Maps.has D) (Maps.size D) []) := ⟨hrg0, Seen.start HX.out.1, hrow1.kept hg0 (Or.inr (by simp [Value.ownBlock])), fun k hk => (by
    cases hk
    have := row_lt hrow1 rfl
    exact ⟨Nat.le_refl _, by omega⟩), b0, b1.size⟩
  clear hrg0 hg0 hs0 c1 hown hrow1 hg1 p1 b1 b0 hln
  go_loopw [3] (fun v wr => ∃ left cnt sn, Hid (LP w mb w1.heap.size xs.length xs D v wr left cnt sn)) (fun _ wr => wr.rangeLeft mb w1.heap.size)
  case atStart => exact ⟨_, _, _, HS0⟩
  case round =>
    clear HS0
    obtain ⟨left, cnt, sn, HL⟩ := hrel
    have hrg := HL.out.rg
    go_wp2_with (first
      | (at_next; refine wpList_next_ranges _ rfl _ rfl 3 law3 prE (Value.int .i64) (fun x : Pr => Value.agg (pC x).toArray) (fun key kl hk => by obtain ⟨x, hx, _⟩ := Maps.keyOf_int_inv Tryd.underlying3 hk; exact ⟨x, hx⟩) (fun v y hv => prE_inv hv) mb w1.heap.size xs.length _ _ _ rfl hrg ?_ ?_)
      | go_in)
    · intro hc0 hl0
      have hperm : sn.Perm xs := HL.out.sn'.perm HX.out.2.2.2.1 hl0
      have hsort := sortP_all sn (srtP xs) u3 wr HL.out.row (hperm.trans (srtP_perm xs).symm) (srtP_srt HX.out.2.2.2.1) (by rw [hperm.length_eq]; exact HX.out.2.2.2.2)
      clear hrg hl0 hperm
      go_wp2_with (go_at_call 40; refine hsort.mono ?_; clear hsort; rintro e w5 ⟨rfl, r5, s5⟩)
      go_ret
      exact ⟨_, rfl, r5, fun k hk => (HL.out.far k hk).1, HL.out.st.trans (s5.toBelow (fun k hk e => by have := (HL.out.far k e).1; omega) HL.out.st.size)⟩
    · intro x pr kl yd yp w2 cnt2 hkey hlk hv hat hrg2 hlt hg2 hs2 hen
      obtain ⟨x', ex, rfl, _⟩ := Maps.keyOf_int_inv Tryd.underlying3 hkey
      obtain rfl : x = x' := by simpa using ex
      obtain ⟨p', hp', -, e1⟩ := (HL.out.sn'.lft _).1 hlk
      obtain rfl : x = p'.i := by simpa using e1
      have hpp : pr = p' := by
        have h3 := HX.out.2.1 p' hp' (enP zP)
        rw [hat] at h3
        rw [prE_mk] at hv
        have h4 : enP pr = yd := by simp at hv; exact hv.1
        exact enP_inj (h4.trans h3)
      subst hpp
      have hS2 : Seen xs (sn ++ [pr]) (fun z => left z && !z.sameKey (.int .i64 pr.i)) := HL.out.sn'.step HX.out.2.2.2.1 hp' hlk
      have hslt : sn.length < xs.length := seen_lt hS2.sub hS2.nd
      have row2 : PRow w2 u3 sn := row_kept HL.out.row (.grown hg2 (F := fun j => j = w1.heap.size) (fun k e => by cases e; rfl)) (fun k hk => (HL.out.far k hk).2)
      have row3 : PRow (w2.alloc (.cells (pC pr).toArray 56)) u3 sn := World.ownsRow.alloc row2 _
      obtain ⟨a4, c4, w4, hap, ho4, s4, hloc⟩ := pair_app1 (w2.alloc (.cells (pC pr).toArray 56)) sn u3 row3 pr (by have := HX.out.2.2.2.2; omega)
      have HN : Hid (LP w mb w1.heap.size xs.length xs D (.slice a4 (sn.length + 1) c4) w4 (fun z => left z && !z.sameKey (.int .i64 pr.i)) cnt2 (sn ++ [pr])) := by
        have hr2 := hrg2.alloc (.cells (pC pr).toArray 56)
        have hbl : Below w.heap.size w w2 := HL.out.st.trans ((Stay.grown hg2 (F := fun j => j = w1.heap.size) (fun k e => by cases e; rfl)).toBelow (fun k hk e => by have := HL.out.rf; omega) HL.out.st.size)
        have hbl3 := hbl.alloc hbl.size (.cells (pC pr).toArray 56)
        refine ⟨ranges_blocks hr2 (s4.block mb hr2.owns.lt (fun e => ?_)) (s4.block _ hr2.lt (fun e => (HL.out.far _ e).2 rfl)), hS2, ho4, fun k hk => ?_, hbl3.trans (s4.toBelow (fun k hk e => by have := (HL.out.far k e).1; omega) hbl3.size), HL.out.rf⟩
        · have := (HL.out.far _ e).1
          omega
        · rcases hloc k hk with h1 | h1
          · exact HL.out.far k h1
          · have h2 := hrg2.lt
            have h3 := hbl.size
            simp at h1
            exact ⟨by omega, by omega⟩
      have HM : Hid (∀ W' v, LP w mb w1.heap.size xs.length xs D v W' (fun z => left z && !z.sameKey (.int .i64 pr.i)) cnt2 (sn ++ [pr]) → W'.rangeLeft mb w1.heap.size < wr.rangeLeft mb w1.heap.size) := fun W' v h => by rw [h.rg.left_eq, hrg.left_eq]; exact hlt
      have e3 : (w2.alloc (.cells (pC pr).toArray 56)).heap.size = w2.heap.size + 1 := by simp
      rw [e3] at hap
      simp only [pC] at hap hen
      clear hv hat hkey ex e1 hS2 hslt row2 row3 hrg hlt hrg2 hg2 hs2 HL hlk hp' ho4 s4 hloc
      go_wp2_with (first
        | (at_builtin; refine wpList_append_eq rfl _ _ _ _ rfl _ _ _ _ rfl rfl hap ?_; clear hap)
        | go_in)
      exact ⟨⟨_, _, _, HN⟩, HM.out _ _ HN.out⟩
end Go.Proofs.YtekgppmhcbmpeaaDoor
