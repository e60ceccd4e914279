/-
  DERIVED. A list of frames that came in, opened.
-/
import Derived.Test.YtgjfdmnlengbfabDoorSTorn
import Derived.Test.YtgjfdmnlengbfabDoorSFive
import Derived.Deep.Slices
namespace Go.Proofs.YtgjfdmnlengbfabDoor
open Go.RowKit Go.ChangeShapes Go.Deep
theorem add_plain (b off j : Nat) : (⟨b, off, none⟩ : Addr).add j = ⟨b, off + j, none⟩ := by unfold Addr.add; split <;> simp_all
theorem cellsFd : Tryd.prog.cellsOf 28 = 3 := by kernel_rfl
theorem bytesFd : Tryd.prog.bytesOf 28 = 32 := by kernel_rfl
theorem cells3 : Tryd.prog.cellsOf 3 = 1 := by kernel_rfl
theorem cells9 : Tryd.prog.cellsOf 9 = 1 := by kernel_rfl
/-- What a list of frames reads as. -/
theorem open_framed {H : Type} {enc : TypeId × Value → H} {W : World} {base : Nat} {spare : Nat → Bool} {held : Bool} {fuel : Nat} {a0 : Option Addr} {len cap : Nat} {d : DataW H} {ps : List MemPlace} {B : Nat}
    (h : DataW.trod enc Tryd.prog W base spare held fuel 22 [.slice a0 len cap] = some (d, ps)) (hlt : ∀ x ∈ ps, x.block < B) :
    (a0 = none ∧ len = 0) ∨ ((∃ F, LArr W a0 B len F) ∧ ∃ elems sp, d = .slice elems sp ∧ elems.length = len) := by
  rcases open_slice Tryd.underlying22 h with ⟨hcs, _⟩ | ⟨a, len', cap', m, n, D, Pl, hcs, _, _, _, hm, hx, hel⟩
  · simp at hcs; exact .inl ⟨hcs.1, hcs.2.1⟩
  · right
    simp at hcs
    obtain ⟨rfl, rfl, rfl⟩ := hcs
    have hlm : len ≤ m := by rw [hm]; split <;> omega
    simp only [Prod.mk.injEq] at hx
    obtain ⟨hd, hps⟩ := hx
    refine ⟨?_, _, _, hd, by simp⟩
    have each : ∀ i, i < len → ∃ f : Int × ByteArray, W.cell? (a.add (i * 3)) = some (.int .i64 f.1) ∧ W.cell? (a.add (i * 3 + 1)) = some (.string f.2) := by
      intro i hi
      obtain ⟨cs', h1, h2⟩ := hel i (by omega)
      rw [cellsFd] at h1
      obtain ⟨_, hlen, hcell⟩ := World.cells?_some h1
      obtain ⟨xs, k, hk, hxy, _, hxl, hf⟩ := DataW.trod_struct Tryd.underlying28 h2
      match xs, hxl, cs', hlen with
      | [y0, y1, y2], _, [v0, v1, v2], _ =>
        have g0 := hf 0 _ rfl
        have g1 := hf 1 _ rfl
        simp [cells3] at g0
        simp [cells9] at g1
        obtain ⟨z, hz, _⟩ := DataW.trod_int Tryd.underlying3 g0
        obtain ⟨s, hs, _⟩ := DataW.trod_string Tryd.underlying9 g1
        simp at hz hs
        subst hz
        subst hs
        have e0 := hcell 0 (by omega)
        have e1 := hcell 1 (by omega)
        refine ⟨(z, s), ?_, ?_⟩
        · have : (a.add (i * 3)).add 0 = a.add (i * 3) := by unfold Addr.add; split <;> simp_all
          rw [this] at e0; simpa using e0
        · have : (a.add (i * 3)).add 1 = a.add (i * 3 + 1) := by
            unfold Addr.add
            by_cases hz : i * 3 = 0
            · simp [hz]
            · simp [hz]; omega
          rw [this] at e1; simpa using e1
    obtain ⟨F, hF⟩ := choose_lt each
    refine ⟨F, fun i hi => ?_⟩
    obtain ⟨b, off, spot⟩ := a
    have hsp : spot = none := by
      have := World.cell?_spot (hF 0 (by omega)).1
      simpa [Addr.add] using this
    subst hsp
    have hbB : b < B := hlt (.cell b off) (by rw [hps, cellsFd]; exact List.mem_append_left _ (MemPlace.mem_row.2 ⟨0, by omega, by simp⟩))
    obtain ⟨h0, h1⟩ := hF i hi
    rw [add_plain] at h0 h1
    exact ⟨b, off, rfl, hbB, h0, h1⟩
theorem laidOut : laidOutB Tryd.prog = true := by kernel_rfl
end Go.Proofs.YtgjfdmnlengbfabDoor
