/-
  DERIVED. The merger's heap behind the library's interface.
-/
import Derived.Test.YtchikfabfhjkgaaMHeap
set_option linter.unusedVariables false
set_option linter.unusedSimpArgs false
namespace Go.Proofs.Ytchikfabfhjkgaa
open Go.RowKit
theorem methOf (name : String) (f : FuncId) (h : ((Try.prog.info? 103).bind fun i => (i.methods.find? (·.name == name)).map fun m => (m.path, m.func)) = some (#[], some (f, false))) (p : Addr) (W : World) (av : Value) (hc : W.cell? p = some av) (hw : ∀ s : String, (Builtin.ssaWrapNilChk_ #[103] 103 #[.pointer (some p), strVal "", strVal s]).run Try.prog W = .ok (.pointer (some p)) W) :
    (method 254 103 (.pointer (some p)) name).run Try.prog W = .ok (f, av) W := by
  obtain ⟨i, hi, hm⟩ := Option.bind_eq_some_iff.1 h
  obtain ⟨m, hf, hm⟩ := Option.map_eq_some_iff.1 hm
  simp only [Prod.mk.injEq] at hm
  unfold method
  simp [typeInfo, hi, hf, hm.1, hm.2, follow, receiverAt, run_underlying Try.underlying103, Place.get, asAddr, hw, loadVar, go_sem, hc]
theorem meth_less (p : Addr) (W : World) (av : Value) (hc : W.cell? p = some av) : (method 254 103 (.pointer (some p)) "Less").run Try.prog W = .ok (101, av) W := methOf "Less" 101 (by kernel_rfl) p W av hc (fun _ => rfl)
theorem meth_swap (p : Addr) (W : World) (av : Value) (hc : W.cell? p = some av) : (method 254 103 (.pointer (some p)) "Swap").run Try.prog W = .ok (102, av) W := methOf "Swap" 102 (by kernel_rfl) p W av hc (fun _ => rfl)
theorem meth_len (p : Addr) (W : World) (av : Value) (hc : W.cell? p = some av) : (method 254 103 (.pointer (some p)) "Len").run Try.prog W = .ok (100, av) W := methOf "Len" 100 (by kernel_rfl) p W av hc (fun _ => rfl)
theorem meth_push (p : Addr) (W : World) : (method 254 103 (.pointer (some p)) "Push").run Try.prog W = .ok (104, .pointer (some p)) W := by kernel_rfl
theorem meth_pop (p : Addr) (W : World) : (method 254 103 (.pointer (some p)) "Pop").run Try.prog W = .ok (103, .pointer (some p)) W := by kernel_rfl
end Go.Proofs.Ytchikfabfhjkgaa
