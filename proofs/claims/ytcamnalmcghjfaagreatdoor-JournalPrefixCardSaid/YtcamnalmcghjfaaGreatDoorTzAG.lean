/-
  DERIVED. DSorted, as one text.
-/
import Derived.Test.YtcamnalmcghjfaaGreatDoorTzAC
import Derived.Test.YtcamnalmcghjfaaGreatDoorTzAF
import Derived.Sort.OwnSorted
import Derived.Maps.RangeWalk
set_option linter.unusedVariables false
set_option linter.unusedSimpArgs false
set_option linter.unnecessarySimpa false
namespace Go.Proofs.YtcamnalmcghjfaaGreatDoor.Dk
open Go.RowKit Go.Maps Go.Sort Go.Proofs.DiskMath
theorem Tryz.info9 : (Tryz.prog.info? 9).map (fun i => (i.zero, i.size, i.bytes)) = some (some (.string ⟨#[]⟩), 1, 16) := by kernel_rfl
set_option maxHeartbeats 4000000 in
set_option maxRecDepth 100000 in
theorem sorted_any {p mb : Nat} {es : List Ent} {c : Ctl} (w : World) (h : DK w p mb es c) (R : Ending → World → Prop)
    (h1 : ∀ g cap w', w'.ownsRow w.heap.size 9 1 (.slice (some ⟨g, 0, none⟩) es.length cap) es.length ((es.map Ent.nm).map encStr) → Below w.heap.size w w' → R (.returned (.slice (some ⟨g, 0, none⟩) es.length cap)) w') :
    Calls Tryz.prog 39 #[Pt p] w R := by
  obtain ⟨p0, -⟩ := h.cell
  obtain ⟨i0, hi, hz0, hz1, hz2⟩ := info_parts Tryz.info9
  have hown := h.hm
  have hbl := hown.lt
  have hmany := h.many
  have hpl := h.lt (k := p) (.inl rfl)
  have hsz := dmap_size es
  have HR := Hid.mk h1
  clear h1
  go_enter Tryz.func39, Tryz.ntmps39
  go_wp2_with (first
    | (at_len; refine wpList_len_own _ rfl _ 51 rfl 9 62 Tryz.underlying51 _ mb es.length _ rfl hown ?_; rw [hsz])
    | (at_make; refine wpList_make_own _ rfl _ _ 86 rfl w.heap.size 9 i0 (.string ⟨#[]⟩) 1 Tryz.underlying86 hi hz0 hz1 _ _ _ es.length rfl rfl rfl (by rw [hz2]; omega) (by unfold maxLen; omega) (Nat.le_refl _) ?_; intro w1 hrow1 hg1; have p1 := hg1.cell p0 (by simp))
    | (at_range; refine wpList_range_own _ rfl _ 51 rfl 9 62 law9 Tryz.underlying51 _ mb es.length _ rfl (hown.kept hg1 (by simp)) ?_; intro w0 hrg0 hg0 hs0)
    | go_in)
  go_frame
  go_loopw [3] (fun v wr => ∃ (left : Lit → Bool) (cnt : Nat) (ss : List (List UInt8)), wr.ranges Tryz.prog 9 ptrE mb w1.heap.size es.length (dmap es) left cnt ∧ ss.length + cnt ≤ es.length ∧
      wr.ownsRow w.heap.size 9 1 v ss.length (ss.map encStr) ∧ v ≠ .slice none 0 0 ∧ Collected (dmap es) left ss ∧ Below w.heap.size w wr)
    (fun _ wr => wr.rangeLeft mb w1.heap.size)
  case atStart =>
    exact ⟨_, _, [], hrg0, by rw [hsz]; simp, hrow1.kept hg0 (Or.inr (by simp [Value.ownBlock])), by simp, Collected.start (dmap es),
      ((Below.refl _ _).grown hg1 (Nat.le_refl _) (fun j hj => by cases hj)).grown hg0 hg1.size (fun j hj => by cases hj)⟩
  case round =>
    obtain ⟨left, cnt, ss, hrg, hcs, hrow, hnn, hC, hnx⟩ := hrel
    go_wp2_with (first
      | (at_next; refine wpList_next_ranges _ rfl _ rfl 9 law9 ptrE encStr Value.pointer (fun key kl hk => by obtain ⟨x, hx, _⟩ := Maps.keyOf_str Tryz.underlying9 hk; exact ⟨x, hx⟩) (fun v y hv => ptrE_inv hv) mb w1.heap.size es.length _ _ _ rfl hrg ?_ ?_)
      | go_in)
    · intro hc0 hl0
      rcases hrow.2 with ⟨hnil, _⟩ | ⟨g, cap, cur, rfl, hbase, hb, h1, h2, h3, h4⟩
      · exact absurd hnil hnn
      have hH : Holds encStr wr g 0 ss.toArray := holds_of_block hb (by simpa using h4)
      have hgl : g < wr.heap.size := (Array.getElem?_eq_some_iff.1 hb).1
      have hc := Tryz.slices_Sort_string g 0 cap ss wr hH hgl (by omega)
      have hperm := hC.perm hown law9 Tryz.underlying9 hl0
      have hss := sorted_keys h.srt hperm
      have hlen : ss.length = es.length := by rw [hperm.length_eq, dmap_keys, List.length_map]
      have HS := Hid.mk (And.intro hss hlen)
      clear hss hlen hsz
      go_wp2_with (go_at_call 67; refine hc.mono ?_; rintro e w' ⟨rfl, nn, os, rfl⟩)
      have hro := ownsRow_sorted (ts := ss.mergeSort leB) (n := nn) (os := os) (by simp) hbase hb h1 h2 h3
      rw [HS.out.1, HS.out.2] at hro
      have hbel := hnx.grown (grownBy_sorted (w := wr) (g := g) (n := nn) (os := os) (ss.mergeSort leB).toArray) hnx.size (fun j hj => by cases hj; exact hbase)
      show R (.returned (.slice (some ⟨g, 0, none⟩) ss.length cap)) _
      rw [HS.out.2]
      refine HR.out g cap _ ?_ hbel
      rw [HS.out.1]
      exact hro
    · intro x cc kl yd yp w2 cnt2 hkey hlk hv hat hrg2 hlt hg2 hs2 hen
      obtain ⟨x', ex, rfl, _⟩ := Maps.keyOf_str Tryz.underlying9 hkey
      obtain rfl : x = x' := encStr_inj ex
      have hrow2 := hrow.kept hg2 (Or.inr (row_ne_iter hrow hrg).symm)
      clear hs2 hsz
      go_wp2_with (first
        | (at_builtin; refine wpList_append_own _ rfl _ _ 86 rfl w.heap.size 9 i0 (.string ⟨#[]⟩) 1 16 Tryz.underlying86 hi hz0 hz1 hz2 rfl (by decide) _ _ _ rfl (hrow2.alloc _) ⟨w2.heap.size, 0, none⟩ 1 1 [encStr x] rfl rfl (cell_one_new _ _ _) (by simp [Value.oneCell', encStr]) (by unfold maxLen at *; omega) (by omega) (by have := hnx.size; have := hg2.size; simp; omega) ?_; intro v' w3 hown' hg3 hnil3)
        | go_in)
      have hrg3 := (hrg2.alloc _).kept hg3 (row_ne_low hrow2 hbl) (row_ne_iter hrow2 hrg2)
      go_roundw
      case rel =>
        refine ⟨_, cnt2, ss ++ [x], hrg3, by simp; omega, by simpa using hown', fun hv' => by have := (hnil3.1 hv').2; omega, hC.step hlk hat, ?_⟩
        exact ((hnx.grown hg2 hnx.size (fun j hj => by cases hj; exact hg1.size)).alloc (by have := hnx.size; have := hg2.size; omega) _).grown hg3 (by have := hnx.size; have := hg2.size; simp; omega) (fun j hj => (hrow2.lt j hj).1)
      case measure => rw [hrg3.left_eq, hrg.left_eq]; exact hlt
end Go.Proofs.YtcamnalmcghjfaaGreatDoor.Dk
