/-
  DERIVED. The document's own top: Worst.
-/
import Derived.Test.YtnhihpekdimbbaaERef6
set_option linter.unusedVariables false
set_option linter.unusedSimpArgs false
namespace Go.Proofs.Ytnhihpekdimbbaa
open Go.RowKit
set_option maxHeartbeats 1000000 in
set_option maxRecDepth 100000 in
theorem rworst_any (t k : Nat) (X : List Ht) (w : World) (hT : RTp 73 w t k X) (hk : k ≤ 4096) :
    Calls Try.prog 26 #[Pk t] w fun r w' => r = .returned (.tuple #[.int .i64 (wrs k (X.take k)), .bool (decide ((X.take k).length = k))]) ∧ Below w.heap.size w w' := by
  obtain ⟨v, hv, hr, -⟩ := hT.at'
  obtain ⟨c0, c1, -⟩ := hv.cells
  obtain ⟨a, c, hva, la⟩ := HRow.lat hr
  subst hva
  obtain ⟨n, hn⟩ : ∃ n, n = X.length := ⟨_, rfl⟩
  rw [← hn] at c1
  by_cases h0 : k = 0
  · have hf : (X.take k).length = k := by rw [h0]; simp
    rw [decide_eq_true hf, wrs_nil hf h0]
    have hk0 : ((k : Int) == 0) = true := by simp [h0]
    clear hT hv hr la hf h0 hn
    go_enter Try.func26, Try.ntmps26
    go_wp2
    go_ret2
    exact ⟨rfl, Below.refl _ _⟩
  · have hk0 : ((k : Int) == 0) = false := by simp; omega
    by_cases hlt : n < k
    · have hf : ¬ (X.take k).length = k := by rw [List.length_take]; omega
      rw [decide_eq_false hf, wrs_not hf]
      have k1 : (n : Int) < (k : Int) := by omega
      clear hT hv hr la hf h0 hn
      go_enter Try.func26, Try.ntmps26
      go_wp2
      go_region
      all_goals
        go_wp2
        go_ret2
        exact ⟨rfl, b_drew w⟩
    · have hf : (X.take k).length = k := by rw [List.length_take]; omega
      have hkX : k - 1 < X.length := by omega
      have hx : X.take k = (X.take k).dropLast ++ [X[k - 1]] := by
        have hne : X.take k ≠ [] := fun e => by rw [e] at hf; simp at hf; omega
        have h1 := (List.dropLast_concat_getLast hne).symm
        have h2 : (X.take k).getLast hne = X[k - 1] := by
          rw [List.getLast_eq_getElem, List.getElem_take]
          congr 1; omega
        rw [h2] at h1; exact h1
      rw [decide_eq_true hf, wrs_last hf hx]
      obtain ⟨g, off, e1, x0, -, -⟩ := la.hit (W := w) (fun _ _ => rfl) (k - 1) hkX
      subst e1
      obtain ⟨x, hxe⟩ : ∃ x, x = X[k - 1] := ⟨_, rfl⟩
      rw [← hxe] at x0 ⊢
      have k1 : ¬ (n : Int) < (k : Int) := by omega
      have hwk : IntKind.i64.wrap ((k : Int) - 1) = ((k - 1 : Nat) : Int) := by rw [IntKind.wrap_i64]; omega
      have k4 : ((k - 1 : Nat) : Int) < (n : Int) := by omega
      have k5 : (0 : Int) ≤ ((k - 1 : Nat) : Int) := by omega
      obtain ⟨p, hp⟩ : ∃ p, p = k - 1 := ⟨_, rfl⟩
      rw [← hp] at hwk k4 k5 x0
      clear hT hv hr la hf h0 hn hx hxe hp hkX
      go_enter Try.func26, Try.ntmps26
      go_wp2
      go_region
      all_goals
        go_wp2
        go_region
        all_goals
          go_wp2
          go_ret2
          exact ⟨rfl, (b_drew w).drew⟩
end Go.Proofs.Ytnhihpekdimbbaa
