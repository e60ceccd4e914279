/-
  DERIVED. What a search has found, as hits.
-/
import Derived.Test.YtnnbcdfpbdmgdaaDoorTMay
set_option linter.unusedVariables false
set_option linter.unusedSimpArgs false
set_option linter.unnecessarySimpa false
namespace Go.Proofs.YtnnbcdfpbdmgdaaDoor
open Go.RowKit Go.Maps Go.Sort Go.Proofs.BitMath Go.Proofs.TreeMath
/-- A row of texts is sorted. -/
theorem sortS {n : Nat} {B : Nat} {w : World} {v : Value} {l : List (Cd n)} (h : w.ownsRow B 9 1 v l.length (l.map sV)) (hl : l.length ≤ 1099511627776) :
    Calls Tryd.prog 66 #[v] w fun r w' => r = .returned (.tuple #[]) ∧ w'.ownsRow B 9 1 v l.length ((srtC l).map sV) ∧ Stay (fun k => v.ownBlock = some k) w w' := by
  rcases h.2 with ⟨rfl, h0⟩ | ⟨g, cap, cur, rfl, hbase, hb, h1, h2, h3, h4⟩
  · have e : l = [] := List.eq_nil_of_length_eq_zero h0
    subst e
    refine (Tryd.slices_Sort_string_none none 0 w).mono ?_
    rintro e w' ⟨rfl, rfl⟩
    exact ⟨rfl, ⟨by simp [srtC], .inl ⟨rfl, rfl⟩⟩, .refl _ _⟩
  · have hmp : l.map sV = (l.map byC).map encStr := by rw [List.map_map]; exact List.map_congr_left fun c _ => sV_enc c
    have hH : Holds encStr w g 0 (l.map byC).toArray := holds_of_block hb (by rw [← hmp, List.length_map, ← h4, Nat.mul_one])
    have hgl : g < w.heap.size := (Array.getElem?_eq_some_iff.1 hb).1
    have hc := Tryd.slices_Sort_string g 0 cap (l.map byC) w hH hgl (by rw [List.length_map]; omega)
    rw [List.length_map] at hc
    refine hc.mono ?_
    rintro e w' ⟨rfl, nn, os, rfl⟩
    have hro := ownsRow_sorted (ss := l.map byC) (ts := (l.map byC).mergeSort leB) (n := nn) (os := os) (by simp) hbase hb (by rw [List.length_map]; exact h1) h2 h3
    rw [List.length_map] at hro
    have e2 : ((l.map byC).mergeSort leB).map encStr = (srtC l).map sV := by
      rw [← srtC_map, List.map_map]
      exact List.map_congr_left fun c _ => (sV_enc c).symm
    rw [e2] at hro
    refine ⟨rfl, hro, Stay.mono (.grown (grownBy_sorted (w := w) (g := g) (n := nn) (os := os) ((l.map byC).mergeSort leB).toArray) (fun k hk => hk)) (fun k _ e => by cases e; rfl)⟩
/-- A hit's cells. -/
def hV {n : Nat} (x : Nat × Cd n) : List Value := [.int .i64 (x.1 : Nat), .int .i64 0, .string x.2.1]
theorem infH : (Tryd.prog.info? 36).map (fun i => (i.zero, i.size, i.bytes)) = some (some (.agg #[.int .i64 0, .int .i64 0, .string ⟨#[]⟩]), 3, 32) := by kernel_rfl
/-- What is found, in order. -/
def hitsR {n : Nat} (R : List (List (Cd n))) (j : Nat) : List (Nat × Cd n) := (List.range j).flatMap (fun i => (srtC (R.getD i [])).map (fun c => (i, c)))
theorem hitsR_succ {n : Nat} (R : List (List (Cd n))) (j : Nat) : hitsR R (j + 1) = hitsR R j ++ (srtC (R.getD j [])).map (fun c => (j, c)) := by
  unfold hitsR
  rw [List.range_succ, List.flatMap_append]
  simp
theorem cells_new3 {n : Nat} (W : World) (x : Nat × Cd n) (t : TypeId) (j : Nat) (u : Value) (hu : (hV x)[j]? = some u) : (W.alloc (.cells #[.int .i64 (x.1 : Nat), .int .i64 0, .string x.2.1] t)).cell? ((⟨W.heap.size, 0, none⟩ : Addr).add j) = some u := by
  have e : (⟨W.heap.size, 0, none⟩ : Addr).add j = ⟨W.heap.size, j, none⟩ := by unfold Addr.add; split <;> simp_all
  rw [e]
  have hh : (W.alloc (.cells #[.int .i64 (x.1 : Nat), .int .i64 0, .string x.2.1] t)).heap[W.heap.size]? = some (.cells #[.int .i64 (x.1 : Nat), .int .i64 0, .string x.2.1] t (0, 0)) := Array.getElem?_push_size
  simp only [World.cell?, hh]
  simpa [hV] using hu
theorem hitsR_len {n : Nat} (R : List (List (Cd n))) : ∀ j, (hitsR R j).length ≤ (R.map List.length).sum := by
  have key : ∀ j, (hitsR R j).length = ((R.take j).map List.length).sum := by
    intro j
    induction j with
    | zero => simp [hitsR]
    | succ j ih =>
      rw [hitsR_succ, List.length_append, ih, List.length_map, (srtC_perm _).length_eq]
      rcases Nat.lt_or_ge j R.length with hj | hj
      · rw [List.take_succ_eq_append_getElem hj, List.map_append, List.sum_append]
        simp [hj]
      · rw [List.take_of_length_le hj, List.take_of_length_le (by omega)]
        simp [List.getD, List.getElem?_eq_none hj]
  intro j
  rw [key]
  conv => rhs; rw [← List.take_append_drop j R, List.map_append, List.sum_append]
  omega
/-- What stands while the hits are told. -/
structure HS {n : Nat} (B : Nat) (w wr : World) (cb : Nat) (R : List (List (Cd n))) (vs : List Value) (i : Nat) (X : List (Nat × Cd n)) (lv : Value) : Prop where
  row : wr.heap[cb]? = some (.cells vs.toArray 45 (0, 0))
  left : ∀ (j : Nat) (v : Value) (l : List (Cd n)), i ≤ j → vs[j]? = some v → R[j]? = some l → wr.ownsRow B 9 1 v l.length (l.map sV)
  lst : wr.ownsRow w.heap.size 36 3 lv X.length (X.flatMap hV)
  st : Below B w wr
theorem HS.sort {n : Nat} {B : Nat} {w wr w2 : World} {cb : Nat} {R : List (List (Cd n))} {vs : List Value} {i : Nat} {X : List (Nat × Cd n)} {lv v : Value} {l : List (Cd n)} (h : HS B w wr cb R vs i X lv) (hap : ∀ (i j q : Nat) (v u : Value), vs[i]? = some v → vs[j]? = some u → v.ownBlock = some q → u.ownBlock = some q → i = j) (hv : vs[i]? = some v) (hl : R[i]? = some l) (s : Stay (fun k => v.ownBlock = some k) wr w2) (hB : B ≤ w.heap.size) : HS B w w2 cb R vs (i + 1) X lv := by
  have hr := h.left i v l (Nat.le_refl _) hv hl
  refine ⟨?_, fun j u m hj hu hm => ?_, ?_, ?_⟩
  · refine (s.block cb (Array.getElem?_eq_some_iff.1 h.row).1 fun e => ?_).trans h.row
    obtain ⟨cur, e⟩ := row_block hr e
    rw [h.row] at e; simp at e
  · exact row_kept (h.left j u m (by omega) hu hm) s (fun k hk e => by have := hap i j k v u hv hu e hk; omega)
  · exact row_kept h.lst s (fun k hk e => by
      obtain ⟨c1, e1⟩ := row_block hr e
      obtain ⟨c2, e2⟩ := row_block h.lst hk
      rw [e1] at e2; simp at e2)
  · exact h.st.trans (s.toBelow (fun k hk e => by have := (hr.lt k e).1; omega) (Nat.le_trans hB h.st.size))
theorem HS.app {n : Nat} {B : Nat} {w wr w3 : World} {cb : Nat} {R : List (List (Cd n))} {vs : List Value} {i : Nat} {X : List (Nat × Cd n)} {lv v3 : Value} {o : Obj} {x : Nat × Cd n} (h : HS B w wr cb R vs i X lv) (hr3 : w3.ownsRow w.heap.size 36 3 v3 (X.length + 1) (X.flatMap hV ++ hV x)) (hg : (wr.alloc o).grownBy w3 lv.ownBlock) (hB : B ≤ w.heap.size) : HS B w w3 cb R vs i (X ++ [x]) v3 ∧ ∀ {v : Value} {m : Nat} {xs : List Value}, wr.ownsRow B 9 1 v m xs → w3.ownsRow B 9 1 v m xs := by
  have st : Stay (fun k => lv.ownBlock = some k) wr w3 := (Stay.below ((Below.refl _ wr).alloc (Nat.le_refl _) o)).trans (.grown hg (fun k hk => hk))
  have key : ∀ {v : Value} {m : Nat} {xs : List Value}, wr.ownsRow B 9 1 v m xs → w3.ownsRow B 9 1 v m xs := fun {v m xs} hv => row_kept hv st (fun k hk e => by
    obtain ⟨c1, e1⟩ := row_block hv hk
    obtain ⟨c2, e2⟩ := row_block h.lst e
    rw [e1] at e2; simp at e2)
  refine ⟨⟨?_, fun j u m hj hu hm => key (h.left j u m hj hu hm), ?_, ?_⟩, key⟩
  · refine (st.block cb (Array.getElem?_eq_some_iff.1 h.row).1 fun e => ?_).trans h.row
    obtain ⟨cur, e⟩ := row_block h.lst e
    rw [h.row] at e; simp at e
  · rw [List.length_append, List.flatMap_append]
    simpa using hr3
  · exact h.st.trans (st.toBelow (fun k hk e => by have := (h.lst.lt k e).1; omega) (Nat.le_trans hB h.st.size))
set_option maxHeartbeats 4000000 in
set_option maxRecDepth 100000 in
theorem hits_any {n : Nat} (B g cb : Nat) (k : Int) (bound cnt : Nat) (R : List (List (Cd n))) (vs : List Value) (w : World) (h : FB B w g cb k bound cnt R vs) (hB : B ≤ w.heap.size) (hc : cnt ≤ 1099511627776) (hl : vs.length ≤ 8193) :
    Calls Tryd.prog 58 #[.pointer (some ⟨g, 0, none⟩)] w fun r w' => ∃ v, r = .returned v ∧ w'.ownsRow w.heap.size 36 3 v (hitsR R vs.length).length ((hitsR R vs.length).flatMap hV) ∧ Below B w w' := by
  obtain ⟨k0, k1, k2, k3, kf⟩ := h.fx.cell
  obtain ⟨i0, hi, hz0, hz1, hz2⟩ := info_parts infH
  have hcnt := h.cnt
  have hlenR := h.len
  have hap := h.apart
  have HF := Hid.mk h
  have HA := Hid.mk (And.intro hap (And.intro hcnt hlenR))
  clear h hap hcnt hlenR
  go_enter Tryd.func58, Tryd.ntmps58
  go_wp2_with (first
    | (at_make; refine wpList_make_own _ rfl _ _ 32 rfl w.heap.size 36 i0 (.agg #[.int .i64 0, .int .i64 0, .string ⟨#[]⟩]) 3 Tryd.underlying32 hi hz0 hz1 _ _ _ cnt rfl rfl rfl (by rw [hz2]; omega) (by unfold maxLen; omega) (Nat.le_refl _) ?_; intro w1 hrow1 hg1; have p3 := hg1.cell k3 (by simp))
    | go_in)
  have H0 := Hid.mk (show HS B w w1 cb R vs 0 (hitsR R 0) (.slice (some ⟨w.heap.size, 0, none⟩) 0 cnt) from by
    have st : Stay (fun _ => False) w w1 := .grown hg1 (fun k hk => by cases hk)
    exact ⟨(st.block cb (Array.getElem?_eq_some_iff.1 HF.out.row).1 (fun h => h)).trans HF.out.row, fun j v l _ hv hl => row_kept (HF.out.each j v l hv hl) st (fun _ _ h => h), by simpa [hitsR] using hrow1, st.toBelow (fun _ _ h => h) hB⟩)
  clear hrow1 hg1 p3 k0 k1 k2 k3 kf
  go_loopw [3, 18] (fun lv u wr => ∃ i : Nat, u = .int .i64 i ∧ i ≤ vs.length ∧ Hid (HS B w wr cb R vs i (hitsR R i) lv)) (fun _ u _ => vs.length - (intOf u).toNat)
  case atStart => exact ⟨0, rfl, Nat.zero_le _, H0⟩
  case round =>
    obtain ⟨i, rfl, hiv, HJ⟩ := hrel
    by_cases hlt : i < vs.length
    · have i1 : (i : Int) < (vs.length : Int) := by omega
      have i2 : (0 : Int) ≤ (i : Int) := by omega
      have hwi : IntKind.i64.wrap ((i : Int) + 1) = ((i + 1 : Nat) : Int) := by rw [IntKind.wrap_i64]; omega
      obtain ⟨v, hv⟩ : ∃ v, vs[i]? = some v := ⟨_, List.getElem?_eq_getElem hlt⟩
      obtain ⟨l, hlR⟩ : ∃ l, R[i]? = some l := ⟨_, List.getElem?_eq_getElem (by rw [HA.out.2.2]; exact hlt)⟩
      have hvr := HJ.out.left i v l (Nat.le_refl _) hv hlR
      have hgd : R.getD i [] = l := by simp [List.getD, hlR]
      have hsum := hitsR_len R (i + 1)
      rw [hitsR_succ, hgd, List.length_append, List.length_map, (srtC_perm l).length_eq, ← HA.out.2.1] at hsum
      have hsrt := fun (W : World) (hW : W.ownsRow B 9 1 v l.length (l.map sV)) => sortS hW (by omega)
      obtain ⟨va, vc, hvf, -⟩ := slice_form hvr
      have hcell : wr.cell? ⟨cb, i, none⟩ = some v := by simp [World.cell?, HJ.out.row, hv]
      obtain ⟨ln, hln⟩ : ∃ ln, ln = l.length := ⟨_, rfl⟩
      have hss : (srtC l).length = ln := by rw [(srtC_perm l).length_eq, hln]
      rw [← hln] at hvf hvr hsrt hsum
      subst hvf
      have HG := Hid.mk (And.intro hgd hss)
      clear hln hgd hss
      obtain ⟨wz, hwz⟩ : ∃ wz, wz = wr := ⟨_, rfl⟩
      subst hwz
      go_wp2_with fail
      refine (hsrt wz hvr).mono ?_
      rintro e w2 ⟨rfl, hr2, st2⟩
      go_wp2_with fail
      have hs2 := HJ.out.sort HA.out.1 hv hlR st2 hB
      have H2 := Hid.mk (And.intro hs2 (And.intro hr2 HG.out))
      clear hs2 hr2 st2 hvr hsrt hcell
      try go_frame
      go_loopw [3, 27] (fun lv u wr => ∃ m : Nat, u = .int .i64 m ∧ m ≤ ln ∧ Hid (HS B w wr cb R vs (i + 1) (hitsR R i ++ ((srtC l).take m).map (fun c => (i, c))) lv ∧ wr.ownsRow B 9 1 (.slice va ln vc) ln ((srtC l).map sV))) (fun _ u _ => ln - (intOf u).toNat)
      case atStart => exact ⟨0, rfl, Nat.zero_le _, Hid.mk ⟨by simpa using H2.out.1, H2.out.2.1⟩⟩
      case round =>
        obtain ⟨m, rfl, hm, HK⟩ := hrel
        by_cases hml : m < ln
        · have m1 : (m : Int) < (ln : Int) := by omega
          have m2 : (0 : Int) ≤ (m : Int) := by omega
          have hwm : IntKind.i64.wrap ((m : Int) + 1) = ((m + 1 : Nat) : Int) := by rw [IntKind.wrap_i64]; omega
          have hms : m < (srtC l).length := by rw [H2.out.2.2.2]; exact hml
          obtain ⟨g5, c5, e5⟩ : ∃ g5 c5, Value.slice va ln vc = .slice (some ⟨g5, 0, none⟩) ln c5 := by
            rcases HK.out.2.2 with ⟨h0, hz⟩ | ⟨g5, c5, cur, h0, _⟩
            · omega
            · exact ⟨g5, c5, h0⟩
          have hcm : wr.cell? ⟨g5, m, none⟩ = some (.string ((srtC l)[m]).1) := by
            have := row_cell (e5 ▸ HK.out.2) m hml
            rw [this, List.getElem?_map, List.getElem?_eq_getElem hms]
            rfl
          cases e5
          obtain ⟨c, hcc⟩ : ∃ c, c = (srtC l)[m] := ⟨_, rfl⟩
          rw [← hcc] at hcm
          have HC := Hid.mk hcc
          clear hcc
          have hXl : (hitsR R i ++ ((srtC l).take m).map (fun c => (i, c))).length ≤ cnt := by
            rw [List.length_append, List.length_map, List.length_take]
            omega
          have hlst := HK.out.1.lst
          have hszw : w.heap.size ≤ wr.heap.size := HK.out.1.st.size
          go_wp2_with (first
            | (at_builtin; refine wpList_append_own _ rfl _ _ 32 rfl w.heap.size 36 i0 (.agg #[.int .i64 0, .int .i64 0, .string ⟨#[]⟩]) 3 32 Tryd.underlying32 hi hz0 hz1 hz2 rfl (by decide) _ _ _ rfl (hlst.alloc _) ⟨wr.heap.size, 0, none⟩ 1 1 (hV (i, c)) rfl rfl (fun j u hu => ?newc) (fun u hu => ?onec) (by unfold maxLen; omega) (by omega) (by simp; omega) ?_; rotate_left 2; intro v3 w3 hr3 hg3 hnil3)
            | go_in)
          case newc => exact cells_new3 _ _ _ j u hu
          case onec =>
            simp [hV] at hu
            rcases hu with rfl | rfl | rfl <;> rfl
          obtain ⟨hs3, key⟩ := HK.out.1.app hr3 hg3 hB
          refine ⟨⟨m + 1, by push_cast; rfl, hml, Hid.mk ⟨?_, key HK.out.2⟩⟩, by simp only [intOf]; omega⟩
          rw [List.take_succ_eq_append_getElem hms, List.map_append, ← List.append_assoc, ← HC.out]
          exact hs3
        · have m1 : ¬ (m : Int) < (ln : Int) := by omega
          have hmn : m = ln := by omega
          subst hmn
          go_wp2
          refine ⟨⟨i + 1, by push_cast; rfl, hlt, Hid.mk ?_⟩, by simp only [intOf]; omega⟩
          have := HK.out.1
          rw [List.take_of_length_le (by rw [H2.out.2.2.2]; exact Nat.le_refl _)] at this
          rw [hitsR_succ, H2.out.2.2.1]
          exact this
    · have i1 : ¬ (i : Int) < (vs.length : Int) := by omega
      have hie : i = vs.length := by omega
      subst hie
      go_wp2
      go_ret
      exact ⟨_, rfl, HJ.out.lst, HJ.out.st⟩
end Go.Proofs.YtnnbcdfpbdmgdaaDoor
