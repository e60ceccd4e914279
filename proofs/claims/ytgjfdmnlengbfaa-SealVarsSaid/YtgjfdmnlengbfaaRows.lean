/-
  No cell of these rows narrows 'for every input' (looked for: loops, veiled, ifaces, maps, wideKeys, modest, calm, conditions, laid).
  DERIVED. THE GIVEN ROWS OF THIS SEAT. 2 by the template 'for every input the law returns true; each argument reads behind the call as it read before'; 0 by the template 'total and deterministic' (their statements: YtgjfdmnlengbfaaTotals.lean).
  GIVEN WITH THE SEED: the statements are not yours to turn. If you find one false, say at which input.
  Laid BY PROGRAM, IN A SANDBOX (cutbox-rows.mjs): the forced cells as the released guide's own fill.sh prints them over the translation 20b6e6d020857d6e… (all of the seat's roots in one cut). By AI agents, Wed Nov 11 2026. No macro, syntax, notation, axiom, sorry.
-/
import Derived.Test.YtgjfdmnlengbfaaChecked
import GoSem.Claim
import GoSem.ClaimJoined
import GoSem.ClaimMapViews
import Derived.JoinedTies
import Derived.KernelRfl
namespace Go.Proofs.Ytgjfdmnlengbfaa
/- THE CELL 'sum', in the pinned program and in every row, IS THE sha256 OF THE DUMP (.gsa) THAT YtgjfdmnlengbfaaProg.lean LOADS. Nothing in Lean hashes anything: it is a label: what it is worth is what the hold of that sum in a sandbox is worth. -/
noncomputable def Try.pinned : Pinned := { name := "ytgjfdmnlengbfaa", sum := "20b6e6d020857d6ec4fd7b19c3e8e92fb44d59bb4048987e43eba12cbccf0a9f", checked := Try.checked }
namespace Rows
def none {H : Type} : Left H := { results := [], args := [] }

/-- 'kindredlaw3.SealVars': WHATEVER THE INPUT: true; the input reads as it did. -/
def sealVarsSpec : ChangeSpec := { name := "sealVars", fn := fun _ => fun
  | [d1, d2, d3] => { results := [.lit (.bool true)], args := [d1, d2, d3] }
  | _ => none }
def sealVarsRow : OpenClaim := { program := "ytgjfdmnlengbfaa", sum := "20b6e6d020857d6ec4fd7b19c3e8e92fb44d59bb4048987e43eba12cbccf0a9f", func := "kindred/kindredlaw3.SealVars", spec := "sealVars", apart := false }
def SealVarsSaid : Prop := sealVarsRow.holds Try.pinned (OpenSpec.ofChange sealVarsSpec)

/-- ITS FALSE NEIGHBOUR: 'it returns false'. Refute it at one input. -/
def sealVarsWrong : ChangeSpec := { name := "sealVars", fn := fun _ => fun
  | [d1, d2, d3] => { results := [.lit (.bool false)], args := [d1, d2, d3] }
  | _ => none }
def SealVarsWrongFalsely : Prop := sealVarsRow.holds Try.pinned (OpenSpec.ofChange sealVarsWrong)

/-- 'kindredlaw3.SealFixed': WHATEVER THE INPUT: true; the input reads as it did. -/
def sealFixedSpec : ChangeSpec := { name := "sealFixed", fn := fun _ => fun
  | [d1, d2, d3, d4] => { results := [.lit (.bool true)], args := [d1, d2, d3, d4] }
  | _ => none }
def sealFixedRow : OpenClaim := { program := "ytgjfdmnlengbfaa", sum := "20b6e6d020857d6ec4fd7b19c3e8e92fb44d59bb4048987e43eba12cbccf0a9f", func := "kindred/kindredlaw3.SealFixed", spec := "sealFixed", apart := false }
def SealFixedSaid : Prop := sealFixedRow.holds Try.pinned (OpenSpec.ofChange sealFixedSpec)

/-- ITS FALSE NEIGHBOUR: 'it returns false'. Refute it at one input. -/
def sealFixedWrong : ChangeSpec := { name := "sealFixed", fn := fun _ => fun
  | [d1, d2, d3, d4] => { results := [.lit (.bool false)], args := [d1, d2, d3, d4] }
  | _ => none }
def SealFixedWrongFalsely : Prop := sealFixedRow.holds Try.pinned (OpenSpec.ofChange sealFixedWrong)

/- THE SECOND FORM. 'bulk': how many values and letters a reading holds, each counted each time it is reached (what is shared counts as often as it is met; a slice's spare places count too). A statement '..UptoSaid' is the law's where the arguments, and the package variables that the reading takes, are together of bulk at most 1048576: NARROWER than '..Said'. Prove '..Said' where nothing that the law and all that it calls make is longer than what came in: it says more and counts as full. Else prove '..UptoSaid'. A law counts once. -/
mutual
def uptoBulk {H : Type} : DataW H → Nat
  | .lit (.string bytes) => bytes.length + 1
  | .lit _ => 1
  | .nil => 1
  | .ptr d => uptoBulk d + 1
  | .slice elems spare => uptoBulkAll elems + uptoBulkAll spare + 1
  | .agg parts => uptoBulkAll parts + 1
  | .iface _ d => uptoBulk d + 1
  | .map entries => uptoBulkEntries entries + 1
  | .held _ => 1
def uptoBulkAll {H : Type} : List (DataW H) → Nat
  | [] => 0
  | d :: r => uptoBulk d + uptoBulkAll r
def uptoBulkEntries {H : Type} : List (Lit × DataW H) → Nat
  | [] => 0
  | x :: r => uptoBulkEntry x + uptoBulkEntries r
def uptoBulkEntry {H : Type} : Lit × DataW H → Nat
  | (.string bytes, d) => bytes.length + uptoBulk d + 1
  | (_, d) => uptoBulk d + 1
 end
def uptoSmall : (H : Type) → List (DataW H) → Bool := fun _ ds => decide (uptoBulkAll ds ≤ 1048576)
def OpenSpec.upto (s : _root_.Go.ChangeSpec) : _root_.Go.OpenSpec := { _root_.Go.OpenSpec.ofChange s with cond := some uptoSmall }

/-- 'kindredlaw3.SealVars', WHERE WHAT IT READS IS OF BULK AT MOST 1048576: true; the input reads as it did. -/
def sealVarsUptoRow : OpenClaim := { program := "ytgjfdmnlengbfaa", sum := "20b6e6d020857d6ec4fd7b19c3e8e92fb44d59bb4048987e43eba12cbccf0a9f", func := "kindred/kindredlaw3.SealVars", spec := "sealVars", apart := false, narrowed := true }
def SealVarsUptoSaid : Prop := sealVarsUptoRow.holds Try.pinned (OpenSpec.upto sealVarsSpec)

/-- 'kindredlaw3.SealFixed', WHERE WHAT IT READS IS OF BULK AT MOST 1048576: true; the input reads as it did. -/
def sealFixedUptoRow : OpenClaim := { program := "ytgjfdmnlengbfaa", sum := "20b6e6d020857d6ec4fd7b19c3e8e92fb44d59bb4048987e43eba12cbccf0a9f", func := "kindred/kindredlaw3.SealFixed", spec := "sealFixed", apart := false, narrowed := true }
def SealFixedUptoSaid : Prop := sealFixedUptoRow.holds Try.pinned (OpenSpec.upto sealFixedSpec)

end Rows
end Go.Proofs.Ytgjfdmnlengbfaa
