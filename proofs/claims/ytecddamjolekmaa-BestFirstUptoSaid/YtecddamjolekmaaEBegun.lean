/-
  DERIVED. The laws' begun.
-/
import Derived.Test.YtecddamjolekmaaEHanded
set_option linter.unusedVariables false
set_option linter.unusedSimpArgs false
namespace Go.Proofs.Ytecddamjolekmaa
open Classical
open Go.RowKit
abbrev bh (d i : Int) : Ht := ⟨d, i, ⟨#[]⟩⟩
theorem bh_w (d i : Int) (h1 : I64 d) (h2 : I64 i) : HtW (bh d i) := ⟨h1, h2, by show (0 : Nat) ≤ _; omega⟩
theorem b1 : putK 2 (bh 5 1) [] = [bh 5 1] := by kernel_rfl
theorem b2 : putK 2 (bh 5 3) [bh 5 1] = [bh 5 1, bh 5 3] := by kernel_rfl
theorem b3 : putK 2 (bh 5 2) [bh 5 1, bh 5 3] = [bh 5 1, bh 5 2] := by kernel_rfl
theorem b4 : putK 2 (bh 5 3) [bh 5 1, bh 5 2] = [bh 5 1, bh 5 2] := by kernel_rfl
theorem begun_add (w W : World) (t kp : Nat) {h : Ht} (hh : HtW h) (X Y : List Ht) (O : Own w W t 2 kp X) (e : putK 2 h X = Y) (b : Bool) (hb : decide (h ∈ Y) = b) :
    Calls Try.prog 15 #[Pk t, .agg #[.int .i64 h.d, .int .i64 h.i, .string h.c]] W fun r W' => r = .returned (.bool b) ∧ Own w W' t 2 kp Y := by
  have := tadd_any t 2 kp X h W O.tt hh
  rw [e, hb] at this
  exact this.mono fun r W' ⟨h1, h2, h3⟩ => ⟨h1, O.frk h2 h3⟩
end Go.Proofs.Ytecddamjolekmaa
