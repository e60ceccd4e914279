/-
  DERIVED. MergeLists: its second row.
-/
import Derived.ProofKit
import Derived.SizedLaws
import Derived.OpenShut
import Derived.JoinedCond
import Derived.Deep.CondSized
import Derived.Test.YtbkbnhdeleoibaaLLaw
import Derived.Test.YtbkbnhdeleoibaaLOpen
import Derived.ChangeMaps5
set_option linter.unusedSimpArgs false
set_option linter.unusedVariables false
namespace Go.Proofs.Ytbkbnhdeleoibaa
open Go.ChangeMaps (open_string shut_string)
open Go.ChangeShapes Go.WideShapes Go.ChangeAt Go.WideMaps Go.WideElems Go.RowKit
theorem lists_own : ownKnob Try.prog.godebug = none := by kernel_rfl
theorem lists_small {H : Type} {k : Bool} {d : DataW H} (hk : Rows.uptoSmall H [d, .lit (.bool k)] = true) : Rows.uptoBulk d ≤ 1048576 := by
  have h : Rows.uptoBulkAll [d, DataW.lit (H := H) (.bool k)] ≤ 1048576 := of_decide_eq_true hk
  simp only [Rows.uptoBulkAll, Rows.uptoBulk] at h
  omega
set_option maxRecDepth 100000 in
theorem lists_lifted (os : Os) (started : os.Started) (H : Type) (enc : TypeId × Value → H) (F : Stop.Interp) :
    ReturnsInHanded {} Try.checked os 3 .any ((Rows.OpenSpec.upto Rows.mergeListsSpec).pre6 enc Try.prog Try.f3 Rows.mergeListsUptoRow.domain false)
      (((Rows.OpenSpec.upto Rows.mergeListsSpec).at F).post enc Try.prog Try.f3 false true false false) := by
  refine returnsInHanded_of_cond_sized (C := Try.checked) (s := Rows.OpenSpec.upto Rows.mergeListsSpec) (k := Rows.uptoSmall) rfl lists_own started (by kernel_rfl) Try.func3
    (OpenSpec.witness (enc := enc) (C := Try.checked) (s := Rows.OpenSpec.upto Rows.mergeListsSpec) (k := Rows.uptoSmall) rfl false ⟨#[], #[.slice none 0 0, .bool false], []⟩ 8 (by kernel_rfl) (by kernel_rfl) (by kernel_rfl)
      (x := ([.nil, .lit (.bool false)], [], [])) (by kernel_rfl) rfl (by kernel_rfl)) ?_
  intro W base args ds gs before hval0 hW _ hk hsz0 _
  have hsz : (DataW.weightsEach Try.prog (Try.f3.params.toList ++ Rows.mergeListsSpec.plain.varTypes Try.prog) (ds ++ gs)).all (· ≤ reachBytes) = true := hsz0
  clear hsz0
  have hval : ∀ (j : Nat) t v, Try.f3.params[j]? = some t → args[j]? = some v → Value.okWide Try.prog W .any base t v := hval0
  have hW' := hW
  obtain ⟨p, q, hA0, hV, rfl, hfz, hnd⟩ := hW
  have hA : DataW.TrodAll enc Try.prog W 0 (fun _ => true) true Try.f3.params.toList args.toList ds p := hA0
  rw [Try.params3] at hA hval hsz
  obtain ⟨v0, v1, d0, d1, p0, p1, rfl, rfl, rfl, h0, h1⟩ := trodAll_two hA
  obtain ⟨rfl, rfl⟩ := trodVars_none hV
  obtain ⟨k, rfl, rfl, rfl⟩ := open_bool Try.underlying4 (hval 1 4 v1 rfl rfl) h1
  obtain ⟨a1, len1, cap1, rfl⟩ := okWide_slice Try.underlying22 (hval 0 22 v0 rfl rfl)
  have h1k := h0
  obtain ⟨fuel1, hf1⟩ := h0
  have hs1 : ∀ n ∈ d0.weights Try.prog 22, n ≤ reachBytes := fun n hn => by simpa using List.all_eq_true.1 hsz n (DataW.weights_mem_each (j := 0) (t := 22) rfl rfl n hn)
  obtain ⟨R, hl1, hL1, hC1, hB1, hB2, hB3⟩ := open_lists (by simpa [Value.cells] using hf1) hs1
  subst hl1
  clear hA0 hval0
  simp only [List.append_nil, List.nil_append] at hW' hk
  have hsm := lists_small hk
  have hlt1 : ∀ x ∈ p0, x.block < W.heap.size := fun x hx => hW'.lt x (by simp [hx])
  have e1 : Rows.mergeListsSpec.fn H ([d0, .lit (.bool k)] ++ []) = { results := [.lit (.bool true)], args := [d0, .lit (.bool k)] } := by simp [Rows.mergeListsSpec]
  have fin : ∀ (e : Ending) (W' : World), (e = .returned (.bool true) ∧ Below W.heap.size W W') → ∃ v, e = .returned v ∧ ((Rows.OpenSpec.upto Rows.mergeListsSpec).at F).post enc Try.prog Try.f3 false true false false W #[.slice a1 R.length cap1, .bool k] v W' := by
    rintro e W' ⟨rfl, hbl⟩
    refine ⟨_, rfl, _, _, _, [], p0, [], hW', ?_, ?_, ?_, hbl.frame _, fun h => by cases h⟩
    · exact (show _ from by rw [show ((Rows.OpenSpec.upto Rows.mergeListsSpec).at F).fn = Rows.mergeListsSpec.fn from rfl, e1]; exact trodAll_mk1 (shut_bool Try.underlying4 true))
    · exact (show _ from by rw [show ((Rows.OpenSpec.upto Rows.mergeListsSpec).at F).fn = Rows.mergeListsSpec.fn from rfl, e1]; have h5 := trodAll_mk2 (Below.trod laidOut (by kernel_rfl) (of_decide_eq_true (by kernel_rfl)) h1k hbl hlt1) (shut_bool Try.underlying4 k); (try simp only [List.append_nil, List.nil_append] at h5); exact h5)
    · exact (show _ from by rw [show ((Rows.OpenSpec.upto Rows.mergeListsSpec).at F).fn = Rows.mergeListsSpec.fn from rfl, e1]; rfl)
  exact (law_lists R k hC1 a1 cap1 W hL1 (by omega) (by omega)).mono fin
theorem lists_row : Rows.MergeListsUptoSaid :=
  OpenClaim.holds_of_cond 3 Try.f3 rfl rfl rfl rfl rfl rfl rfl ⟨rfl, rfl, rfl, rfl, rfl⟩ rfl rfl rfl rfl rfl (by kernel_rfl) Try.func3 (by kernel_rfl)
    (of_decide_eq_true (by kernel_rfl)) (by unfold Func.isWrapper; rw [if_neg (of_decide_eq_false (by kernel_rfl))]; exact ⟨rfl, rfl⟩)
    (fun os started H enc _ F => lists_lifted os started H enc F)
#print axioms lists_row
end Go.Proofs.Ytbkbnhdeleoibaa
