/-
  DERIVED. fit: a text of n bytes.
-/
import Derived.Test.YtajnhpmokhmmeaaDoorLift
namespace Go.Proofs.YtajnhpmokhmmeaaDoor
open Go.ChangeShapes Go.WideShapes Go.ChangeAt Go.WideMaps Go.WideElems Go.RowKit Go.Proofs.BitMath
open Go.ChangeMaps (open_string shut_string)
set_option maxHeartbeats 400000 in
theorem fit_any (s : ByteArray) (n : Nat) (w : World) (hs : s.size ≤ 140737488351232) (hn : n ≤ 140737488351232) :
    Calls Tryd.prog 6 #[.string s, .int .i64 n] w fun e w' => (∃ t : ByteArray, t.size = n ∧ e = .returned (.string t)) ∧ Below w.heap.size w w' := by
  obtain ⟨i0, hi, hz0, hz1, hz2⟩ := info_parts Tryd.info5
  go_enter Tryd.func6, Tryd.ntmps6
  go_wp2_with (at_make; refine wpList_make_full _ rfl _ _ 41 rfl w.heap.size 5 i0 (.int .u8 0) 1 Tryd.underlying41 hi hz0 hz1 _ _ _ _ n rfl rfl rfl rfl (by rw [hz2]; omega) (by unfold maxLen; omega) (Nat.le_refl _) ?_; intro w1 hown hgr)
  have hown1 := made_bytes n ▸ hown
  clear hown
  have hb1 : Below w.heap.size w w1 := (Below.refl _ _).grown hgr (Nat.le_refl _) (fun k h => by cases h)
  clear hgr
  go_loopw [6] (fun i wr => ∃ (k : Nat) (l : List UInt8), k ≤ n ∧ k ≤ s.size ∧ i = .int .i64 k ∧ l.length = n ∧ wr.ownsRow w.heap.size 5 1 (.slice (some ⟨w.heap.size, 0, none⟩) n n) n (l.map BV) ∧ Below w.heap.size w wr) (fun i _ => n - (intOf i).toNat)
  case atStart => exact ⟨0, List.replicate n 0, Nat.zero_le _, Nat.zero_le _, rfl, by simp, hown1, hb1⟩
  case round =>
    obtain ⟨k, l, hk, hks, rfl, hl, hown, hb⟩ := hrel
    have Hl : Hid (l.length = n) := hl
    clear hl hown1 hb1
    by_cases hlt : k < n ∧ k < s.size
    · obtain ⟨h1, h2⟩ := hlt
      have hc : wr.cell? ⟨w.heap.size, k, none⟩ = some (BV (l[k]'(by rw [Hl.out]; exact h1))) := by
        rw [hown.cellAt k (by omega), List.getElem?_map, List.getElem?_eq_getElem (by rw [Hl.out]; exact h1)]; rfl
      have hf := hown.frozenAt k
      have hst := hown.stored k (.int .u8 s[k].toNat)
      have HST : Hid _ := hst
      clear hst hown
      go_wp2
      refine ⟨⟨k + 1, l.set k s[k], h1, h2, by go_num, by simpa using Hl.out, ?_, (hb.grown HST.out.2 (by have := hb.size; omega) (fun j h => by cases h; exact Nat.le_refl _))⟩, by simp [intOf]; omega⟩
      rw [List.map_set]; exact HST.out.1
    · have hcv := conv_row (w := wr) (g := w.heap.size) (cap := n) l (by rw [Hl.out]; exact hown)
      rw [Hl.out] at hcv
      by_cases h1 : k < n
      all_goals
        go_wp2
        go_ret
        exact ⟨⟨⟨l.toArray⟩, by simpa [ByteArray.size] using Hl.out, rfl⟩, hb⟩
end Go.Proofs.YtajnhpmokhmmeaaDoor
