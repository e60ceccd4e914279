/-
  DERIVED. bits: Weight.
-/
import Derived.Test.YtmdmjjobhkpojaaDoorDist
import Derived.Test.YtmdmjjobhkpojaaDoorBStay
namespace Go.Proofs.YtmdmjjobhkpojaaDoor
open Go.RowKit Go.Proofs.BitMath
set_option maxHeartbeats 1000000 in
theorem weight_any (a : ByteArray) (w : World) (hs : a.size ≤ 140737488351232) (ht : Tab w) :
    Calls Tryd.prog 10 #[.string a] w fun e w' => e = .returned (.int .i64 (wt a.data.toList)) ∧ Drew w w' := by
  have Hl : Hid (a.data.toList.length = a.size) := by show _ = _; simp
  go_enter Tryd.func10, Tryd.ntmps10
  go_wp2
  go_loopw [3, 4, 7] (fun n _ i wr => ∃ k : Nat, k ≤ a.size ∧ i = .int .i64 k ∧ n = .int .i64 (wt (a.data.toList.take k)) ∧ Drew w wr) (fun _ _ i _ => a.size - (intOf i).toNat)
  case atStart => exact ⟨0, Nat.zero_le _, rfl, rfl, Drew.refl _⟩
  case round =>
    obtain ⟨k, hk, rfl, rfl, hw⟩ := hrel
    have hd := wt_take_le a.data.toList k (by rw [Hl.out]; exact hk)
    by_cases hlt : k < a.size
    · have hlt' : (k : Int) < (a.size : Int) := by omega
      have hsu := wt_take_succ a.data.toList k (by rw [Hl.out]; exact hlt)
      have hpl := popB_le (a[k]).toNat
      have hsu' : wt (a.data.toList.take (k + 1)) = wt (a.data.toList.take k) + popB (a[k]).toNat := hsu
      have HS := Hid.mk hsu'
      have kO := ones_any ((a[k]).toNat : Nat) (by omega) (by have := (a[k]).toNat_lt; omega)
      have HT := Hid.mk (ht.later hw)
      have HW := Hid.mk hw
      generalize wt (a.data.toList.take k) = T at *
      clear hsu hsu' hw
      go_wp2_with (go_at_call 15; refine (kO _ HT.out).mono ?_; rintro e w' ⟨rfl, hdr⟩)
      go_roundw
      case rel => exact ⟨k + 1, hlt, by go_num, ival (by rw [HS.out]; simp), HW.out.trans hdr⟩
      case measure => simp [intOf]; omega
    · have e : k = a.size := by omega
      have HE : Hid (wt (a.data.toList.take k) = wt a.data.toList) := by show _ = _; rw [List.take_of_length_le (by rw [Hl.out]; omega)]
      have hlt' : ¬ (k : Int) < (a.size : Int) := by omega
      clear e
      go_wp2
      go_ret
      exact ⟨ret_int (by rw [HE.out]), hw⟩
end Go.Proofs.YtmdmjjobhkpojaaDoor
