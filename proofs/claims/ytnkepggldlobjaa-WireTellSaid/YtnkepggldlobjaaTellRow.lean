/-
  DERIVED. WireTell: its row.
-/
import Derived.ProofKit
import Derived.SizedLaws
import Derived.OpenShut
import Derived.Test.YtnkepggldlobjaaWOpen
import Derived.Test.YtnkepggldlobjaaWTl
import Derived.ChangeMaps5
import Derived.Test.YtnkepggldlobjaaWOpenR
set_option linter.unusedSimpArgs false
set_option linter.unusedVariables false
namespace Go.Proofs.Ytnkepggldlobjaa
open Go.ChangeMaps (open_string shut_string)
open Go.ChangeShapes Go.WideShapes Go.ChangeAt Go.WideMaps Go.WideElems Go.RowKit Go.Proofs.SealMath
set_option maxRecDepth 100000 in
theorem tell_lifted (os : Os) (started : os.Started) (H : Type) (enc : TypeId × Value → H) :
    ReturnsInHanded {} Try.checked os 5 .any (Rows.wireTellSpec.pre6 enc Try.prog Try.f5 Rows.wireTellRow.domain false)
      (Rows.wireTellSpec.post enc Try.prog Try.f5 false true false false) := by
  refine returnsInHanded_of_change_sized (C := Try.checked) own started (by kernel_rfl) Try.func5
    (ChangeSpec.witness6 (enc := enc) (C := Try.checked) false ⟨#[], #[.int .i64 0, .agg #[.int .i64 0, .int .i64 0, .string ⟨#[]⟩, .slice none 0 0]], []⟩ 8 (by kernel_rfl) (by kernel_rfl) (by kernel_rfl) (by kernel_rfl)) ?_
  intro W base args ds gs before hval0 hW _ hsz0 _
  have hsz : (DataW.weightsEach Try.prog (Try.f5.params.toList ++ Rows.wireTellSpec.plain.varTypes Try.prog) (ds ++ gs)).all (· ≤ reachBytes) = true := hsz0
  clear hsz0
  have hval : ∀ (j : Nat) t v, Try.f5.params[j]? = some t → args[j]? = some v → Value.okWide Try.prog W .any base t v := hval0
  have hW' := hW
  obtain ⟨p, q, hA0, hV, rfl, hfz, hnd⟩ := hW
  have hA : DataW.TrodAll enc Try.prog W 0 (fun _ => true) true Try.f5.params.toList args.toList ds p := hA0
  rw [Try.params5] at hA hval hsz
  obtain ⟨v0, v1, d0, d1, p0, p1, rfl, rfl, rfl, h0, h1⟩ := trodAll_two hA
  obtain ⟨rfl, rfl⟩ := trodVars_none hV
  obtain ⟨op, rfl, rfl, rfl, wop⟩ := open_int Try.underlying3 (hval 0 3 v0 rfl rfl) h0
  have h1k := h1
  obtain ⟨r, rL, ra, rc, rfl, rH, rN, rW, rD⟩ := open_rp (hval 1 37 v1 rfl rfl) h1
  have sr : rL.length ≤ 140737488351232 := by
    rcases rD with h | ⟨x0, x1, x2, elems, sp, hd, hl⟩
    · rw [h]; decide
    · have := List.all_eq_true.1 hsz ((elems.length + sp.length) * Try.prog.bytesOf 39) (DataW.weights_mem_each (j := 1) (t := 37) rfl (by rw [hd]; rfl) _ (by simp [DataW.weights, DataW.weightsEach, Try.underlying37, Try.underlying35]))
      have h2 : (elems.length + sp.length) * Try.prog.bytesOf 39 ≤ reachBytes := by simpa using this
      rw [bytesHt] at h2
      have h3 : reachBytes = 140737488351232 := by decide
      omega
  have tr : (rL.length + 1) * 32 ≤ 140737488355328 := by
    rcases rD with h | ⟨x0, x1, x2, elems, sp, hd, hl⟩
    · rw [h]; decide
    · have := List.all_eq_true.1 hsz ((elems.length + sp.length) * Try.prog.bytesOf 39) (DataW.weights_mem_each (j := 1) (t := 37) rfl (by rw [hd]; rfl) _ (by simp [DataW.weights, DataW.weightsEach, Try.underlying37, Try.underlying35]))
      have h2 : (elems.length + sp.length) * Try.prog.bytesOf 39 ≤ reachBytes := by simpa using this
      rw [bytesHt] at h2
      have h3 : reachBytes = 140737488351232 := by decide
      omega
  clear hA0 hval0
  simp only [List.append_nil, List.nil_append] at hW'
  have hlt1 : ∀ x ∈ p1, x.block < W.heap.size := fun x hx => hW'.lt x (by simp [hx])
  have e1 : Rows.wireTellSpec.fn H ([.lit (.int .i64 op), d1] ++ []) = { results := [.lit (.bool true)], args := [.lit (.int .i64 op), d1] } := by simp [Rows.wireTellSpec]
  have fin : ∀ (e : Ending) (W' : World), (e = .returned (.bool true) ∧ Below W.heap.size W W') → ∃ v, e = .returned v ∧ Rows.wireTellSpec.post enc Try.prog Try.f5 false true false false W #[.int .i64 op, .agg (rpC r (.slice ra rL.length rc))] v W' := by
    rintro e W' ⟨rfl, hbl⟩
    refine ⟨_, rfl, _, _, _, [], p1, [], hW', ?_, ?_, ?_, hbl.frame _, fun h => by cases h⟩
    · rw [e1]; exact trodAll_mk1 (shut_bool Try.underlying4 true)
    · rw [e1]; have h5 := trodAll_mk2 (shut_int Try.underlying3 wop) (Below.trod laidOut (by kernel_rfl) (of_decide_eq_true (by kernel_rfl)) h1k hbl hlt1); (try simp only [List.append_nil, List.nil_append] at h5); exact h5
    · rw [e1]; rfl
  exact (law_tell op r rL ra rc W rN rW tr rH).mono fin

theorem tell_row : Rows.WireTellSaid :=
  OpenClaim.holds_of_wide 5 Try.f5 rfl rfl rfl rfl rfl rfl rfl ⟨rfl, rfl, rfl, rfl, rfl⟩ rfl rfl rfl rfl rfl (by kernel_rfl) Try.func5 (by kernel_rfl)
    (of_decide_eq_true (by kernel_rfl)) (by unfold Func.isWrapper; rw [if_neg (of_decide_eq_false (by kernel_rfl))]; exact ⟨rfl, rfl⟩)
    (fun os started H enc _ => tell_lifted os started H enc)
#print axioms tell_row
end Go.Proofs.Ytnkepggldlobjaa
