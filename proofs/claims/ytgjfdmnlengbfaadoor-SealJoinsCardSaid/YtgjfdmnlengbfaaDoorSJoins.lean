/-
  DERIVED. SealJoins' walk.
-/
import Derived.Test.YtgjfdmnlengbfaaDoorSPm
namespace Go.Proofs.YtgjfdmnlengbfaaDoor
open Go.RowKit Go.Proofs.SealMath
set_option maxRecDepth 100000 in
set_option maxHeartbeats 4000000 in
theorem law_joins (a b : ByteArray) (w : World) (ht : Tab w) (hg : 0 < w.heap.size) (ha : a.size < 2305843009213693952) (hb : b.size < 2305843009213693952) :
    Calls Tryd.prog 4 #[.string a, .string b] w fun e w' => e = .returned (.bool true) ∧ Below w.heap.size w w' := by
  have hab : (a ++ b).size < 9223372036854775807 := by rw [ByteArray.size_append]; omega
  have hl : (a ++ b).data.toList = a.data.toList ++ b.data.toList := by rw [ByteArray.data_append, Array.toList_append]
  have hca := crc_lt (s := 0) a.data.toList (by omega)
  have hS : ∀ W, Tab W → Calls Tryd.prog 7 #[.string (a ++ b)] W fun e w' => e = .returned (.int .u32 (crc (crc 0 a.data.toList) b.data.toList)) ∧ w' = W := fun W hW => by
    have := sum_any (a ++ b) W hW hab
    rw [hl, crc_append] at this; exact this
  have hO : ∀ W, Tab W → Calls Tryd.prog 9 #[.int .u32 0, .string (a ++ b)] W fun e w' => e = .returned (.int .u32 (crc (crc 0 a.data.toList) b.data.toList)) ∧ w' = W := fun W hW => by
    have := on_any 0 (a ++ b) W hW (by omega) hab
    rw [hl, crc_append] at this; exact this
  clear hl
  obtain ⟨s, hs⟩ : ∃ s, s = crc 0 a.data.toList := ⟨_, rfl⟩
  have hA : ∀ W, Tab W → Calls Tryd.prog 7 #[.string a] W fun e w' => e = .returned (.int .u32 s) ∧ w' = W := fun W hW => by rw [hs]; exact sum_any a W hW (by omega)
  rw [← hs] at hca hS hO
  clear hs
  have hB := fun W (hW : Tab W) => on_any s b W hW hca (by omega)
  generalize crc s b.data.toList = t at *
  go_enter Tryd.func4, Tryd.ntmps4
  go_wp2_with fail
  refine (lbegun_any w ht hg).mono ?_
  rintro e w1 ⟨rfl, b1⟩
  have ht1 := ht.below b1 hg
  go_wp2_with fail
  refine (hS w1 ht1).mono ?_
  rintro e w2 ⟨rfl, rfl⟩
  go_wp2_with fail
  refine (hA w2 ht1).mono ?_
  rintro e w3 ⟨rfl, rfl⟩
  go_wp2_with fail
  refine (hB w3 ht1).mono ?_
  rintro e w4 ⟨rfl, rfl⟩
  go_wp2_with fail
  refine (hO w4 ht1).mono ?_
  rintro e w5 ⟨rfl, rfl⟩
  go_wp2
  go_ret
  exact ⟨rfl, b1⟩
end Go.Proofs.YtgjfdmnlengbfaaDoor
