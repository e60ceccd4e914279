/-
  DERIVED. BitsChunks: its walk.
-/
import Derived.Test.YtfjbabiobobboaaVChunked
import Derived.Test.YtfjbabiobobboaaVParted
import Derived.Test.YtfjbabiobobboaaVJoined
set_option linter.unusedVariables false
set_option linter.unusedSimpArgs false
namespace Go.Proofs.Ytfjbabiobobboaa
open Go.RowKit
set_option maxHeartbeats 1000000 in
set_option maxRecDepth 100000 in
theorem law_chunks (x m : Int) (s : ByteArray) (Z : List Int) (hZ : ∀ z ∈ Z, -9223372036854775808 ≤ z ∧ z ≤ 9223372036854775807) (hZl : Z.length ≤ 17592186044416) (la : Option Addr) (ca : Nat) (w : World) (ha : EI.At w la Z) : Calls Try.prog 3 #[.int .i64 x, .int .i64 m, .string s, .slice la Z.length ca] w fun e w' => e = .returned (.bool true) ∧ Below w.heap.size w w' := by
  have c1 := chunked_any x m w
  have c2 := fun W => parted_any x m s W
  have c3 := fun W h => joined_any x m Z hZ hZl la ca W h
  have HA := Hid.mk ha
  clear ha
  go_enter Try.func3, Try.ntmps3
  go_wp2_with first
    | (go_at_call 4; refine c1.mono ?_; clear c1; rintro e w1 ⟨rfl, b1⟩)
    | (go_at_call 5; refine (c2 _).mono ?_; clear c2; rintro e w2 ⟨rfl, b2'⟩; have b2 := b1.trans (b2'.mono b1.size); clear b1 b2')
    | (go_at_call 6; refine (c3 _ (HA.out.below b2)).mono ?_; clear c3; rintro e w3 ⟨rfl, b3'⟩; have b3 := b2.trans (b3'.mono b2.size); clear b2 b3')
  go_ret
  exact ⟨rfl, b3⟩
end Go.Proofs.Ytfjbabiobobboaa
