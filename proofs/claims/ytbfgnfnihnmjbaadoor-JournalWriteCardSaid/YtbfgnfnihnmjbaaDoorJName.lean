/-
  DERIVED. The names of journals.
-/
import Derived.Test.YtbfgnfnihnmjbaaDoorJBits
import Derived.Test.YtbfgnfnihnmjbaaDoorShelf
import Derived.Lib.ItoaLen
import Derived.Lib.AppendIntMem
set_option linter.unusedVariables false
set_option linter.unusedSimpArgs false
namespace Go.Proofs.YtbfgnfnihnmjbaaDoor
open Go.RowKit
/-- Is the number one of a journal? -/
def nmB (n : Int) : Bool := decide (1 ≤ n ∧ n ≤ 1099511627776)
/-- A journal's name. -/
def nmT (n : Int) : ByteArray := if nmB n = true then ⟨#[106]⟩ ++ ⟨(Lib.itoa n).toArray⟩ else ⟨#[]⟩
abbrev Pow (w : World) : Prop := Lib.TabIs Tryd.prog w "internal/strconv.uint64pow10" .u64 Lib.pow10Tab
theorem itoa_sz (n : Int) (h : nmB n = true) : (Lib.itoa n).length ≤ 21 := by
  have hn : 1 ≤ n ∧ n ≤ 1099511627776 := of_decide_eq_true h
  have := Lib.itoa_length_le n (by omega) (by omega)
  omega
theorem itoa_any (n : Int) (w : World) (h : nmB n = true) (ht : Pow w) :
    Calls Tryd.prog 41 #[.int .i64 n] w fun e w' => e = .returned (.string ⟨(Lib.itoa n).toArray⟩) ∧ Below w.heap.size w w' := by
  have hn : 1 ≤ n ∧ n ≤ 1099511627776 := of_decide_eq_true h
  refine (Tryd.strconv_Itoa n (by omega) (by omega) w ht).mono ?_
  rintro e w' ⟨rfl, k, os, rfl⟩
  exact ⟨rfl, Lib.below_grow _ _ (Nat.le_refl _) _ _⟩
set_option maxHeartbeats 1000000 in
set_option maxRecDepth 100000 in
theorem name_any (n : Int) (w : World) (ht : Pow w) :
    Calls Tryd.prog 14 #[.int .i64 n] w fun e w' => e = .returned (.string (nmT n)) ∧ Below w.heap.size w w' := by
  unfold nmT
  cases h : nmB n
  · have H : Hid _ := h
    go_enter Tryd.func14, Tryd.ntmps14
    go_wp2_with (go_at_call 40; refine (isNumber_any _ _).mono ?_; rintro e w' ⟨rfl, rfl⟩; rw [show decide (1 ≤ n ∧ n ≤ 1099511627776) = false from H.out])
    go_ret
    exact ⟨rfl, Below.refl _ _⟩
  · have H : Hid _ := h
    have hs := itoa_sz n h
    go_enter Tryd.func14, Tryd.ntmps14
    go_wp2_with first
      | (go_at_call 40; refine (isNumber_any _ _).mono ?_; rintro e w' ⟨rfl, rfl⟩; rw [show decide (1 ≤ n ∧ n ≤ 1099511627776) = true from H.out])
      | (go_at_call 41; refine (itoa_any n _ H.out ht).mono ?_; rintro e w' ⟨rfl, b⟩)
    all_goals first | (exfalso; omega) | skip
    go_ret
    exact ⟨rfl, b⟩
set_option maxHeartbeats 1000000 in
set_option maxRecDepth 100000 in
theorem rname_any (n : Int) (w : World) (ht : Pow w) :
    Calls Tryd.prog 16 #[.int .i64 n] w fun e w' => e = .returned (.string (nmT n)) ∧ Below w.heap.size w w' := by
  unfold nmT
  cases h : nmB n
  · have hn : ¬ (1 ≤ n ∧ n ≤ 1099511627776) := of_decide_eq_false h
    go_enter Tryd.func16, Tryd.ntmps16
    go_wp2
    all_goals first | (go_ret; exact ⟨rfl, Below.refl _ _⟩) | (exfalso; omega)
  · have H : Hid _ := h
    have hn : 1 ≤ n ∧ n ≤ 1099511627776 := of_decide_eq_true h
    have hs := itoa_sz n h
    go_enter Tryd.func16, Tryd.ntmps16
    go_wp2_with
      (go_at_call 41; refine (itoa_any n _ H.out ht).mono ?_; rintro e w' ⟨rfl, b⟩)
    all_goals first | (exfalso; omega) | skip
    go_ret
    exact ⟨rfl, b⟩
end Go.Proofs.YtbfgnfnihnmjbaaDoor
