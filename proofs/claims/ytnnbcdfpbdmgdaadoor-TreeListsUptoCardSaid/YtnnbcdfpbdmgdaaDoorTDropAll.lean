/-
  DERIVED. Drop and makeAnew for every tree.
-/
import Derived.Test.YtnnbcdfpbdmgdaaDoorTCodes1
set_option linter.unusedVariables false
namespace Go.Proofs.YtnnbcdfpbdmgdaaDoor
open Go.RowKit Go.Maps Go.Proofs.BitMath Go.Proofs.TreeMath
/-- Drop, for every tree and every text. -/
theorem drop_all {n t wd : Nat} {T : List (Nd (Cd n))} {bs : List Nat} {ms : List (Option Nat)} {x : Num} (s : ByteArray) (W : World) (h : TR W t wd T bs ms x) (ht : Tab W) (htp : 0 < t) :
    Calls Tryd.prog 14 #[.pointer (some ⟨t, 0, none⟩), .string s] W (DropO W t wd T bs ms x s) := drop_any s W h ht htp codes_any
end Go.Proofs.YtnnbcdfpbdmgdaaDoor
