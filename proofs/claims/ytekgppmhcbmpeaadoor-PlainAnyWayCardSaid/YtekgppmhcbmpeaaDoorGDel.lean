/-
  DERIVED. A plain map's Delete.
-/
import Derived.Test.YtekgppmhcbmpeaaDoorGIns
set_option linter.unusedVariables false
set_option linter.unusedSimpArgs false
namespace Go.Proofs.YtekgppmhcbmpeaaDoor
open Go.RowKit
def delX (xs : List Pr) (i : Int) : List Pr := if (getE xs i).2 = 0 then delP xs i else xs
def delN (xs : List Pr) (i n : Int) : Int := if (getE xs i).2 = 0 then n + 1 else n
set_option maxHeartbeats 1000000 in
set_option maxRecDepth 100000 in
theorem delete_any (p mb : Nat) (wd n i : Int) (xs : List Pr) (w : World) (h : MP w p mb wd xs n) (hi : I64 i) (hn : 0 ≤ n ∧ n < 4611686018427387904) :
    Calls Tryd.prog 20 #[Pt p, .int .i64 i] w fun e w' => e = .returned (.int .i64 (getE xs i).2) ∧ MP w' p mb wd (delX xs i) (delN xs i n) ∧ Stay (fun k => k = p ∨ k = mb) w w' := by
  have hg := get_any p mb wd n i xs w h hi
  unfold delX delN
  obtain ⟨s, E, hE⟩ : ∃ s E, getE xs i = (s, E) := ⟨_, _, rfl⟩
  rw [hE] at hg ⊢
  by_cases h0 : E = 0
  · subst h0
    rw [if_pos rfl, if_pos rfl]
    have hwn : IntKind.i64.wrap (n + 1) = n + 1 := by rw [IntKind.wrap_i64]; omega
    have HP := Hid.mk (And.intro h hn)
    clear hE h hn
    go_enter Tryd.func20, Tryd.ntmps20
    go_wp2_with fail
    refine hg.mono ?_
    clear hg
    rintro e w1 ⟨rfl, b1⟩
    have h1 := HP.out.1.below b1
    obtain ⟨c0, c1, c2⟩ := h1.at'.cells
    obtain ⟨w2, hdl, m2, s2, z2⟩ := h1.pm.del hi
    have q2 : MapAt w2 p mb wd n := (s2.block p h1.at'.lt (fun e => h1.ne e)).trans h1.at'
    obtain ⟨y0, y1, y2⟩ := q2.cells
    have yf : ∀ j, w2.frozen? ⟨p, j, none⟩ = false := fun j => frozen_of_row _ _ _ _ _ q2
    have HF : Hid (MP (w2.setCell ⟨p, 2, none⟩ (.int .i64 (n + 1))) p mb wd (delP xs i) (n + 1) ∧ Stay (fun k => k = p ∨ k = mb) w (w2.setCell ⟨p, 2, none⟩ (.int .i64 (n + 1)))) := by
      refine ⟨⟨?_, m2.block (Below.heap_setCell _ _ _ _ (fun e => h1.ne e.symm)), fun x hx => HP.out.1.fit x (delP_mem.1 hx).1, h1.isW⟩, ?_⟩
      · unfold MapAt
        rw [heap_setCell_same w2 p 2 _ _ _ q2]; rfl
      · refine Stay.setCell ?_ (fun _ => .inl rfl) _
        exact (Stay.below b1).andThen (s2.mono (fun k _ e => Or.inr e)) (fun k _ e => e)
    clear h1 m2 s2 q2 b1
    go_wp2_with fail
    go_ret
    exact ⟨rfl, HF.out⟩
  · rw [if_neg h0, if_neg h0]
    have h0' : (E != 0) = true := by simpa using h0
    have HP := Hid.mk h
    clear hE h hn h0
    go_enter Tryd.func20, Tryd.ntmps20
    go_wp2_with fail
    refine hg.mono ?_
    clear hg
    rintro e w1 ⟨rfl, b1⟩
    go_wp2_with fail
    go_ret
    exact ⟨rfl, HP.out.below b1, .below b1⟩
end Go.Proofs.YtekgppmhcbmpeaaDoor
