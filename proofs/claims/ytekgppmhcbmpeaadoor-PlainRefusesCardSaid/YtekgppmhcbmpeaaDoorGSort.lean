/-
  DERIVED. slices.SortFunc on pairs, by their ids.
-/
import Derived.Test.YtekgppmhcbmpeaaDoorGRow
import Derived.Test.YtekgppmhcbmpeaaDoorESort
import Derived.Test.YtekgppmhcbmpeaaDoorSortP
import Derived.Shelf.SlSortCmp.NoneTotal
set_option linter.unusedVariables false
set_option linter.unusedSimpArgs false
namespace Go.Proofs.YtekgppmhcbmpeaaDoor
open Go.RowKit Go.Shelf Go.Lib Go.Sort
/-- Ids rise. -/
def SrtP (l : List Pr) : Prop := l.Pairwise (fun a b => a.i < b.i)
theorem SrtP.nodup {l : List Pr} (h : SrtP l) : (l.map Pr.i).Nodup := by
  unfold List.Nodup
  rw [List.pairwise_map]
  refine List.Pairwise.imp (R := fun a b : Pr => a.i < b.i) ?_ h
  intro a b hab e
  omega
theorem srtP_ext : ∀ {l m : List Pr}, SrtP l → SrtP m → (∀ x, x ∈ l ↔ x ∈ m) → l = m
  | [], [], _, _, _ => rfl
  | [], y :: m, _, _, h => absurd ((h y).2 List.mem_cons_self) (by simp)
  | x :: l, [], _, _, h => absurd ((h x).1 List.mem_cons_self) (by simp)
  | x :: l, y :: m, h1, h2, h => by
    obtain ⟨a1, a2⟩ := List.pairwise_cons.1 h1
    obtain ⟨b1, b2⟩ := List.pairwise_cons.1 h2
    have hxy : x = y := by
      rcases List.mem_cons.1 ((h x).1 List.mem_cons_self) with e | e
      · exact e
      · rcases List.mem_cons.1 ((h y).2 List.mem_cons_self) with e' | e'
        · exact e'.symm
        · have := b1 x e
          have := a1 y e'
          omega
    subst hxy
    congr 1
    refine srtP_ext a2 b2 fun z => ⟨fun hz => ?_, fun hz => ?_⟩
    · rcases List.mem_cons.1 ((h z).1 (List.mem_cons_of_mem _ hz)) with e | e
      · subst e; have := a1 z hz; omega
      · exact e
    · rcases List.mem_cons.1 ((h z).2 (List.mem_cons_of_mem _ hz)) with e | e
      · subst e; have := b1 z hz; omega
      · exact e
/-- The pairs, ids rising. -/
def leP (a b : Pr) : Bool := decide (a.i ≤ b.i)
def srtP (l : List Pr) : List Pr := l.mergeSort leP
theorem srtP_perm (l : List Pr) : (srtP l).Perm l := List.mergeSort_perm l leP
theorem srtP_srt {l : List Pr} (h : (l.map Pr.i).Nodup) : SrtP (srtP l) := by
  have h1 : (srtP l).Pairwise (fun a b => leP a b = true) := List.pairwise_mergeSort (fun a b c => by simp [leP]; omega) (fun a b => by simp [leP]; omega) l
  have h2 : ((srtP l).map Pr.i).Nodup := (((srtP_perm l).map Pr.i).nodup_iff).2 h
  have h3 : (srtP l).Pairwise (fun a b => a.i ≠ b.i) := by
    unfold List.Nodup at h2
    rw [List.pairwise_map] at h2
    exact h2
  unfold SrtP
  exact List.Pairwise.imp₂ (fun a b (h1 : leP a b = true) (h2 : a.i ≠ b.i) => by simp [leP] at h1; omega) h1 h3
def cpP (a b : Pr) : Int := Lib.compareInt a.i b.i
abbrev cmpP : Value := .func (.func 41) #[] #[]
theorem PRow.at0 {W : World} {v : Value} {xs : List Pr} (h : PRow W v xs) (hi : 0 < xs.length) : ∃ b cap, v = .slice (some ⟨b, 0, none⟩) xs.length cap ∧ ∀ j, W.frozen? ⟨b, j, none⟩ = false := by
  rcases h.2 with ⟨h0, hn⟩ | ⟨b, cap, cur, rfl, h1, h2, h3, h4, h5, h6⟩
  · omega
  · exact ⟨b, cap, rfl, fun j => World.ownsRow.frozenAt h j⟩
set_option maxRecDepth 100000 in
theorem pairs1_any (a b : Pr) (w : World) :
    Calls Tryd.prog 41 #[.agg (pC a).toArray, .agg (pC b).toArray] w fun r w' => r = .returned (.int .i64 (cpP a b)) ∧ w' = (w.alloc (.cells (pC a).toArray 56)).alloc (.cells (pC b).toArray 56) := by
  obtain ⟨i, c⟩ := a
  obtain ⟨j, d⟩ := b
  have k1 := fun W => Tryd.cmp_Compare_int i j W
  unfold cpP
  simp only [pC]
  go_enter Tryd.func41, Tryd.ntmps41
  go_wp2_with (go_at_call 42; refine (k1 _).mono ?_; rintro e w' ⟨rfl, rfl⟩)
  go_ret
  exact ⟨rfl, rfl⟩
theorem flatK_listP [Inhabited Pr] (d : Array Pr) : (flatK pC 2 d).toList = d.toList.flatMap pC := by
  apply List.ext_getElem?
  intro t
  by_cases ht : t < d.size * 2
  · have h1 : t / 2 < d.toList.length := by simp; omega
    have h2 := flat_at pC 2 pC_len d.toList (t / 2) (t % 2) h1 (by omega)
    have h3 : t / 2 * 2 + t % 2 = t := by omega
    rw [h3] at h2
    rw [h2]
    have h4 := get_flatK pC 2 d t ht
    have h5 : t < (flatK pC 2 d).size := by rw [size_flatK]; exact ht
    rw [getElem!_pos _ t h5, getElem!_pos d (t / 2) (by simpa using h1)] at h4
    rw [Array.getElem?_toList, Array.getElem?_eq_getElem h5, h4]
    have h6 : t % 2 < (pC d[t / 2]).length := by rw [pC_len]; omega
    rw [getElem!_pos _ (t % 2) h6]
    simp
  · rw [List.getElem?_eq_none (by simp; omega), List.getElem?_eq_none (by rw [flat_len2]; simp; omega)]
theorem cmp_laysP [Inhabited Pr] (b : Nat) (w : World) (n : Nat) : CmpLays Tryd.prog 41 #[] pC 2 cpP b 0 n w := fun m os dk hs x y => (pairs1_any x y _).mono fun r w' ⟨e, e2⟩ => ⟨e, 0, #[.cells (pC x).toArray 56, .cells (pC y).toArray 56], by
  subst e2
  show _ = grow _ _
  unfold grow World.alloc
  simp [World.drewN]
  apply Array.ext'
  simp⟩
theorem swoP : SWO (ltOf cpP) := ⟨fun x => by
  have := cmpI x.i x.i
  unfold ltOf cpP; simp; omega, fun x y z h1 h2 => by
  unfold ltOf cpP at *
  simp at *
  have a1 := cmpI x.i y.i
  have a2 := cmpI y.i z.i
  have a3 := cmpI x.i z.i
  omega, fun x y z h1 h2 => by
  unfold ltOf cpP at *
  simp at *
  have a1 := cmpI x.i y.i
  have a2 := cmpI y.i z.i
  have a3 := cmpI x.i z.i
  omega⟩
set_option maxHeartbeats 1000000 in
theorem sortP_any (L X : List Pr) (v : Value) (w : World) (h : PRow w v L) (hp : L.Perm X) (hX : SrtP X) (hne : L ≠ []) (hl : L.length ≤ 1048576) :
    Calls Tryd.prog 40 #[v, cmpP] w fun r w' => r = .returned (.tuple #[]) ∧ PRow w' v X ∧ Stay (fun k => v.ownBlock = some k) w w' := by
  haveI : Inhabited Pr := ⟨⟨0, ⟨#[]⟩⟩⟩
  have hpos : 0 < L.length := List.length_pos_iff.2 hne
  obtain ⟨b, cap, rfl, fz⟩ := PRow.at0 h hpos
  let d : Array Pr := L.toArray
  have hds : d.size = L.length := by simp [d]
  have hdl : d.toList = L := by simp [d]
  have hH : HoldsK pC 2 w b 0 d := fun j hj => by
    have hfl := flatK_listP d
    rw [hdl] at hfl
    rw [size_flatK, hds] at hj
    have hj2 : j < (flatK pC 2 d).size := by rw [size_flatK, hds]; exact hj
    rw [Nat.zero_add]
    refine ⟨?_, fz j⟩
    rw [World.ownsRow.cellAt h j hj, ← hfl, Array.getElem?_toList, getElem!_pos _ j hj2, Array.getElem?_eq_getElem hj2]
    rfl
  have hblk : b < w.heap.size := row_lt h rfl
  have hc := AnyQ.slices_SortFunc (P := Tryd.prog) Tryd.sortP 2 (fun w => by kernel_rfl) (fun w => by kernel_rfl) pC pC_len (fun x u hu => by
    simp [pC] at hu
    rcases hu with rfl | rfl <;> rfl) cpP swoP 41 #[] b 0 cap d w (fun args W => by kernel_rfl) (cmp_laysP b w d.size) hH hblk (by rw [hds]; omega)
  rw [hds] at hc
  refine hc.mono ?_
  rintro r w' ⟨rfl, d', n, os, hpm, hsrt, rfl⟩
  have hsz : d'.size = L.length := hpm.1.trans hds
  have hperm : d'.toList.Perm L := by
    have h1 := hpm.2.2
    have e1 : d'.extract 0 L.length = d' := by rw [← hsz]; simp
    have e2 : d.extract 0 L.length = d := by rw [← hds]; simp
    rw [e1, e2, hdl] at h1
    exact h1
  have hnd : (d'.toList.map Pr.i).Nodup := (((hperm.trans hp).map Pr.i).nodup_iff).2 hX.nodup
  have hs' : SrtP d'.toList := by
    unfold SrtP
    rw [List.pairwise_iff_getElem]
    intro i j hi hj hij
    have hj' : j < d'.size := by simpa using hj
    have := hsrt i j (Nat.zero_le _) hij (by rw [← hsz]; exact hj')
    rw [getElem!_pos d' i (by omega), getElem!_pos d' j hj'] at this
    unfold ltOf at this
    simp at this
    have hne' : d'.toList[i].i ≠ d'.toList[j].i := by
      have := (List.pairwise_iff_getElem.1 hnd) i j (by simpa using hi) (by simpa using hj) hij
      simpa using this
    have h1 : 0 ≤ cpP d'.toList[j] d'.toList[i] := by simpa using this
    have h2 := cmpI d'.toList[j].i d'.toList[i].i
    unfold cpP at h1
    omega
  have hx : d'.toList = X := srtP_ext hs' hX (fun x => (hperm.trans hp).mem_iff)
  refine ⟨rfl, ?_, Stay.mono (sw_stay id w b n (flatK pC 2 d') os) (fun k _ e => by rw [e]; rfl)⟩
  show World.ownsRow _ 0 56 2 _ X.length _
  have hXl : X.length = L.length := hp.length_eq.symm
  rcases h.2 with ⟨h0, _⟩ | ⟨g, c, cur, hv, k1, k2, k3, k4, k5, k6⟩
  · simp at h0
  · simp only [Value.slice.injEq, Option.some.injEq, Addr.mk.injEq] at hv
    obtain ⟨⟨rfl, -, -⟩, -, rfl⟩ := hv
    rw [hXl]
    refine ⟨by rw [flat_len2, hXl], .inr ⟨b, cap, putCells id 0 (flatK pC 2 d') cur, rfl, k1, sw_row id w b n (flatK pC 2 d') os k2, k3, k4, by simp [putCells, k5], ?_⟩⟩
    have hfl := flatK_listP d'
    rw [hx] at hfl
    apply List.ext_getElem?
    intro t
    by_cases ht : t < L.length * 2
    · have htc : t < cur.size := by rw [k5]; omega
      have htd : t < (flatK pC 2 d').size := by rw [size_flatK, hsz]; exact ht
      rw [List.getElem?_take_of_lt (by omega), ← hfl]
      simp only [putCells, Array.toList_mapIdx, List.getElem?_mapIdx, Nat.zero_le, true_and, Nat.zero_add, Nat.sub_zero]
      rw [Array.getElem?_toList, Array.getElem?_eq_getElem htc]
      simp only [Option.map_some, htd, if_true]
      rw [Array.getElem?_toList, Array.getElem?_eq_getElem htd, getElem!_pos _ t htd]
      rfl
    · rw [List.getElem?_eq_none (by rw [List.length_take]; omega), List.getElem?_eq_none (by rw [flat_len2, hXl]; omega)]
theorem sortP_all (L X : List Pr) (v : Value) (w : World) (h : PRow w v L) (hp : L.Perm X) (hX : SrtP X) (hl : L.length ≤ 1048576) :
    Calls Tryd.prog 40 #[v, cmpP] w fun r w' => r = .returned (.tuple #[]) ∧ PRow w' v X ∧ Stay (fun k => v.ownBlock = some k) w w' := by
  by_cases hne : L = []
  · subst hne
    have hx : X = [] := List.Perm.eq_nil (hp.symm)
    subst hx
    obtain ⟨a, c, hv, -⟩ := slice_form h
    have hs := AnyF.slices_SortFunc_none (P := Tryd.prog) Tryd.sortP a c cmpP w
    rw [hv]
    rw [hv] at h
    exact Calls.mono hs fun r w' ⟨e1, e2⟩ => ⟨e1, by subst e2; exact h, by subst e2; exact .refl _ _⟩
  · exact sortP_any L X v w h hp hX hne hl
end Go.Proofs.YtekgppmhcbmpeaaDoor
