/-
  DERIVED. slices.Collect and slices.Sorted over slices.Values at ints.
-/
import Derived.Test.YtmhifofeobhhgaaUIter
import Derived.Sort.OwnSortedInts
set_option linter.unusedVariables false
set_option linter.unusedSimpArgs false
namespace Go.Proofs.Ytmhifofeobhhgaa
open Go.RowKit Go.Shelf Go.Sort Go.Proofs.UnionMath
/-- A new row of ints. -/
def NrO (w : World) (l : List Int) (e : Ending) (w' : World) : Prop := ∃ v, e = .returned v ∧ iE.Row w' v l ∧ (∀ k, v.ownBlock = some k → w.heap.size ≤ k) ∧ Below w.heap.size w w'
theorem collect_any (bS m : Nat) (la : Option Addr) (cap : Nat) (l : List Int) (w : World) (hS : w.cell? ⟨bS, 0, none⟩ = some (.slice la m cap)) (hm : l.length = m) (hA : iE.At w la l) (hK : ∀ a, la = some a → a.block < w.heap.size) (hl : m ≤ 1048576) :
    Calls Try.prog 21 #[.func (.func 23) #[] #[Pt bS]] w (NrO w l) := by
  have hc := append_any bS m la cap l w hS hm hA hK hl
  clear hS hm hA hK hl
  go_enter Try.func21, Try.ntmps21
  go_wp2_with (go_at_call 26; refine hc.mono ?_; clear hc; rintro e w' ⟨v, rfl, hr, ho, hb⟩)
  have HQ := Hid.mk (And.intro hr (And.intro ho hb))
  clear hr ho hb
  go_ret
  exact ⟨v, rfl, HQ.out.1, HQ.out.2.1, HQ.out.2.2⟩
abbrev srt (l : List Int) : List Int := l.mergeSort (fun x y => decide (x ≤ y))
/-- slices.Sort over a row of the call's own. -/
theorem sort_any (v : Value) (l : List Int) (w : World) (h : iE.Row w v l) (hl : l.length ≤ 1048576) :
    Calls Try.prog 22 #[v] w fun e w' => e = .returned (.tuple #[]) ∧ iE.Row w' v (srt l) ∧ Stay (fun k => v.ownBlock = some k) w w' := by
  have hlen : (srt l).length = l.length := List.length_mergeSort l
  rcases h.2 with ⟨rfl, h0⟩ | ⟨g, cap, cur, rfl, hbase, hb, h1, h2, h3, h4⟩
  · have hl0 : l = [] := List.eq_nil_of_length_eq_zero h0
    subst hl0
    refine (Try.slices_Sort_int_none none 0 w).mono ?_
    rintro e w' ⟨rfl, rfl⟩
    exact ⟨rfl, by simpa [srt] using h, .refl _ _⟩
  · have h4' : cur.toList.take l.length = l.map (Value.int .i64) := by
      have : (l.length * iE.sz) = l.length := Nat.mul_one _
      rw [this, iCells] at h4; exact h4
    refine (Try.slices_Sort_int g 0 cap l w (holds_of_blockI hb h4') (Array.getElem?_eq_some_iff.1 hb).1 (by omega)).mono ?_
    rintro e w' ⟨rfl, nn, os, rfl⟩
    refine ⟨rfl, ?_, .grown (grownBy_sortedI _) (fun k hk => by cases hk; rfl)⟩
    have hro := ownsRow_sortedI (ts := srt l) (ss := l) (n := nn) (os := os) hlen hbase hb h1 h2 h3
    rw [← hlen] at hro ⊢
    show World.ownsRow _ 0 iE.ty iE.sz _ (srt l).length _
    rw [iCells]
    exact hro
set_option maxHeartbeats 1000000 in
theorem sorted_any (bS m : Nat) (la : Option Addr) (cap : Nat) (l : List Int) (w : World) (hS : w.cell? ⟨bS, 0, none⟩ = some (.slice la m cap)) (hm : l.length = m) (hA : iE.At w la l) (hK : ∀ a, la = some a → a.block < w.heap.size) (hl : m ≤ 1048576) :
    Calls Try.prog 14 #[.func (.func 23) #[] #[Pt bS]] w (NrO w (srt l)) := by
  have hc := collect_any bS m la cap l w hS hm hA hK hl
  have HL : Hid (l.length ≤ 1048576) := Hid.mk (by omega)
  clear hS hm hA hK hl
  go_enter Try.func14, Try.ntmps14
  go_wp2_with (first
    | (go_at_call 21; refine hc.mono ?_; clear hc; rintro e w1 ⟨v, rfl, hr, ho, hb⟩; have hs := sort_any v l w1 hr HL.out; have HQ := Hid.mk (And.intro ho hb); clear hr ho hb)
    | (go_at_call 22; refine hs.mono ?_; clear hs; rintro e w2 ⟨rfl, hr2, st2⟩)
    | fail)
  have HR := Hid.mk (And.intro hr2 st2)
  clear hr2 st2
  go_ret
  exact ⟨v, rfl, HR.out.1, HQ.out.1, HQ.out.2.trans (HR.out.2.toBelow (fun k hk e => by have := HQ.out.1 k e; omega) HQ.out.2.size)⟩
end Go.Proofs.Ytmhifofeobhhgaa
