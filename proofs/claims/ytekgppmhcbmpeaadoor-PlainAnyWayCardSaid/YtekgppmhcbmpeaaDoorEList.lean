/-
  DERIVED. What is kept, and a top's list.
-/
import Derived.Test.YtekgppmhcbmpeaaDoorESort
import Derived.Test.YtekgppmhcbmpeaaDoorETop
import Derived.Shelf.SlSortCmp.NoneTotal
set_option linter.unusedVariables false
set_option linter.unusedSimpArgs false
namespace Go.Proofs.YtekgppmhcbmpeaaDoor
open Go.RowKit
/-- A list that is told: it lies in new memory. -/
def Told (w w' : World) (v : Value) (X : List Ht) : Prop := HRow w' v X ∧ (∀ k, v.ownBlock = some k → w.heap.size ≤ k) ∧ Below w.heap.size w w'
theorem sort_all (L X : List Ht) (v : Value) (w : World) (h : HRow w v L) (hp : L.Perm X) (hX : Srt X) (hl : L.length ≤ LIM) :
    Calls Tryd.prog 63 #[v, cmpF] w fun r w' => r = .returned (.tuple #[]) ∧ HRow w' v X ∧ Stay (fun k => v.ownBlock = some k) w w' := by
  by_cases hne : L = []
  · subst hne
    have hx : X = [] := List.Perm.eq_nil (hp.symm)
    subst hx
    obtain ⟨a, c, hv, -⟩ := slice_form h
    have hs := AnyF.slices_SortFunc_none (P := Tryd.prog) Tryd.sortL a c cmpF w
    rw [hv]
    rw [hv] at h
    exact Calls.mono hs fun r w' ⟨e1, e2⟩ => ⟨e1, by subst e2; exact h, by subst e2; exact .refl _ _⟩
  · exact sort_any L X v w h hp hX hne hl
set_option maxRecDepth 100000 in
theorem list_any (kp : Nat) (X : List Ht) (w : World) (hk : KK w kp X) : Calls Tryd.prog 50 #[Pk kp] w fun r w' => ∃ v, r = .returned v ∧ Told w w' v X := by
  obtain ⟨mb, v, g, xs, hK⟩ := hk
  obtain ⟨q0, q1, -⟩ := hK.kp'.cells
  have hl : xs.length ≤ LIM := by rw [hK.len]; exact hK.lim
  have hc := clone_hits xs v w hK.row hl
  have HK := Hid.mk (And.intro hK hl)
  clear hK hl
  go_enter Tryd.func50, Tryd.ntmps50
  go_wp2_with (go_at_call 62; refine hc.mono ?_; clear hc; rintro r w2 ⟨v2, rfl, r2, l2, b2⟩; have hs := sort_all xs X v2 w2 r2 HK.out.1.perm HK.out.1.srt HK.out.2; have q5 := cell_lat b2 q0)
  refine hs.mono ?_
  clear hs
  rintro r w3 ⟨rfl, r3, s3⟩
  have HE : Hid (Told w w3 v2 X) := ⟨r3, l2, b2.trans (s3.toBelow (fun k hk e => by have := l2 k e; omega) b2.size)⟩
  clear r2 l2 b2 r3 s3 HK
  go_wp2
  go_ret
  exact ⟨_, rfl, HE.out⟩
set_option maxRecDepth 100000 in
theorem tlist_any (t k kp : Nat) (X : List Ht) (w : World) (hT : TT w t k kp X) : Calls Tryd.prog 37 #[Pk t] w fun r w' => ∃ v, r = .returned v ∧ Told w w' v X := by
  have hl := list_any kp X w hT.2.1
  obtain ⟨-, c1⟩ := hT.1.cells
  clear hT
  go_enter Tryd.func37, Tryd.ntmps37
  go_wp2_with (go_at_call 50; refine hl.mono ?_; clear hl; rintro r w2 ⟨v2, rfl, T2⟩)
  go_ret
  exact ⟨_, rfl, T2⟩
end Go.Proofs.YtekgppmhcbmpeaaDoor
