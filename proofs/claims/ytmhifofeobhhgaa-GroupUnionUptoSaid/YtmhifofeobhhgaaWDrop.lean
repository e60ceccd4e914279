/-
  DERIVED. Parts of a function's code.
-/
import Derived.Test.YtmhifofeobhhgaaSBase
namespace Go.Proofs.Ytmhifofeobhhgaa
def sndC : Code → Code
  | .seq _ b => b
  | c => c
def dropC : Nat → Code → Code
  | 0, c => c
  | n + 1, c => dropC n (sndC c)
end Go.Proofs.Ytmhifofeobhhgaa
