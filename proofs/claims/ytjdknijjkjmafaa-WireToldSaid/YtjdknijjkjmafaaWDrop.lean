/-
  DERIVED. Parts of a function's code.
-/
import Derived.Test.YtjdknijjkjmafaaSBase
namespace Go.Proofs.Ytjdknijjkjmafaa
def sndC : Code → Code
  | .seq _ b => b
  | c => c
def dropC : Nat → Code → Code
  | 0, c => c
  | n + 1, c => dropC n (sndC c)
end Go.Proofs.Ytjdknijjkjmafaa
