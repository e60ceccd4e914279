/-
  DERIVED. The handlers: three functions each.
-/
import Derived.Test.YtjdknijjkjmafaaWBox
import Derived.Test.YtjdknijjkjmafaaWFields
set_option linter.unusedVariables false
set_option linter.unusedSimpArgs false
namespace Go.Proofs.Ytjdknijjkjmafaa
open Go.RowKit
def rdH (r : Nat) : Hn := ⟨48, 49, 50, #[Pt r]⟩
theorem rdH_ent (r : Nat) : Ent (rdH r).n ∧ Ent (rdH r).t ∧ Ent (rdH r).h := ⟨fun args W => by unfold rdH; kernel_rfl, fun args W => by unfold rdH; kernel_rfl, fun args W => by unfold rdH; kernel_rfl⟩
set_option maxHeartbeats 1000000 in
theorem rdH_any (r : Nat) (w : World) : Calls Try.prog 26 #[Pt r] w fun e w' => e = .returned (rdH r).v ∧ Below w.heap.size w w' := by
  have hsf : ∀ (W : World) (p : Addr) (f : Fn) (x c : Array Value), (store p (.func f x c)).run Try.prog W = stored Try.prog W p (.func f x c) .plain := fun W p f x c => run_store Try.prog W p _ .plain rfl
  have hsn : ∀ (W : World) (p : Addr), (store p .nilFunc).run Try.prog W = stored Try.prog W p .nilFunc .plain := fun W p => run_store Try.prog W p _ .plain rfl
  go_enter Try.func26, Try.ntmps26
  go_wp2
  have K9 := HC.new w #[Fv 48 #[Pt r], Fv 49 #[Pt r], Fv 50 #[Pt r]] 73
  have b9 : Below w.heap.size w (w.alloc (.cells #[Fv 48 #[Pt r], Fv 49 #[Pt r], Fv 50 #[Pt r]] 73)) := (Below.refl _ w).alloc (Nat.le_refl _) _
  obtain ⟨W9, hW9⟩ : ∃ W9, W9 = w.alloc (.cells #[Fv 48 #[Pt r], Fv 49 #[Pt r], Fv 50 #[Pt r]] 73) := ⟨_, rfl⟩
  rw [← hW9] at K9 b9 ⊢
  have x0 : W9.cell? ⟨w.heap.size, 0, none⟩ = some (Fv 48 #[Pt r]) := K9.cell rfl
  have x1 : W9.cell? ⟨w.heap.size, 1, none⟩ = some (Fv 49 #[Pt r]) := K9.cell rfl
  have x2 : W9.cell? ⟨w.heap.size, 2, none⟩ = some (Fv 50 #[Pt r]) := K9.cell rfl
  refine bodyPost_ret (v := .agg #[Fv 48 #[Pt r], Fv 49 #[Pt r], Fv 50 #[Pt r]]) (by simp [results, Try.results26, go_sem, x0, x1, x2]; try rfl) rfl ?_
  exact ⟨rfl, b9⟩
def ckH (r : Nat) : Hn := ⟨55, 56, 57, #[Pt r]⟩
theorem ckH_ent (r : Nat) : Ent (ckH r).n ∧ Ent (ckH r).t ∧ Ent (ckH r).h := ⟨fun args W => by unfold ckH; kernel_rfl, fun args W => by unfold ckH; kernel_rfl, fun args W => by unfold ckH; kernel_rfl⟩
set_option maxHeartbeats 1000000 in
theorem ckH_any (r : Nat) (w : World) : Calls Try.prog 36 #[Pt r] w fun e w' => e = .returned (ckH r).v ∧ Below w.heap.size w w' := by
  have hsf : ∀ (W : World) (p : Addr) (f : Fn) (x c : Array Value), (store p (.func f x c)).run Try.prog W = stored Try.prog W p (.func f x c) .plain := fun W p f x c => run_store Try.prog W p _ .plain rfl
  have hsn : ∀ (W : World) (p : Addr), (store p .nilFunc).run Try.prog W = stored Try.prog W p .nilFunc .plain := fun W p => run_store Try.prog W p _ .plain rfl
  go_enter Try.func36, Try.ntmps36
  go_wp2
  have K9 := HC.new w #[Fv 55 #[Pt r], Fv 56 #[Pt r], Fv 57 #[Pt r]] 73
  have b9 : Below w.heap.size w (w.alloc (.cells #[Fv 55 #[Pt r], Fv 56 #[Pt r], Fv 57 #[Pt r]] 73)) := (Below.refl _ w).alloc (Nat.le_refl _) _
  obtain ⟨W9, hW9⟩ : ∃ W9, W9 = w.alloc (.cells #[Fv 55 #[Pt r], Fv 56 #[Pt r], Fv 57 #[Pt r]] 73) := ⟨_, rfl⟩
  rw [← hW9] at K9 b9 ⊢
  have x0 : W9.cell? ⟨w.heap.size, 0, none⟩ = some (Fv 55 #[Pt r]) := K9.cell rfl
  have x1 : W9.cell? ⟨w.heap.size, 1, none⟩ = some (Fv 56 #[Pt r]) := K9.cell rfl
  have x2 : W9.cell? ⟨w.heap.size, 2, none⟩ = some (Fv 57 #[Pt r]) := K9.cell rfl
  refine bodyPost_ret (v := .agg #[Fv 55 #[Pt r], Fv 56 #[Pt r], Fv 57 #[Pt r]]) (by simp [results, Try.results36, go_sem, x0, x1, x2]; try rfl) rfl ?_
  exact ⟨rfl, b9⟩
def wrH (r : Nat) : Hn := ⟨42, 59, 60, #[Pt r]⟩
theorem wrH_ent (r : Nat) : Ent (wrH r).n ∧ Ent (wrH r).t ∧ Ent (wrH r).h := ⟨fun args W => by unfold wrH; kernel_rfl, fun args W => by unfold wrH; kernel_rfl, fun args W => by unfold wrH; kernel_rfl⟩
set_option maxHeartbeats 1000000 in
theorem wrH_any (r : Nat) (w : World) : Calls Try.prog 39 #[Pt r] w fun e w' => e = .returned (wrH r).v ∧ Below w.heap.size w w' := by
  have hsf : ∀ (W : World) (p : Addr) (f : Fn) (x c : Array Value), (store p (.func f x c)).run Try.prog W = stored Try.prog W p (.func f x c) .plain := fun W p f x c => run_store Try.prog W p _ .plain rfl
  have hsn : ∀ (W : World) (p : Addr), (store p .nilFunc).run Try.prog W = stored Try.prog W p .nilFunc .plain := fun W p => run_store Try.prog W p _ .plain rfl
  go_enter Try.func39, Try.ntmps39
  go_wp2
  have K9 := HC.new w #[Fv 42 #[Pt r], Fv 59 #[Pt r], Fv 60 #[Pt r]] 73
  have b9 : Below w.heap.size w (w.alloc (.cells #[Fv 42 #[Pt r], Fv 59 #[Pt r], Fv 60 #[Pt r]] 73)) := (Below.refl _ w).alloc (Nat.le_refl _) _
  obtain ⟨W9, hW9⟩ : ∃ W9, W9 = w.alloc (.cells #[Fv 42 #[Pt r], Fv 59 #[Pt r], Fv 60 #[Pt r]] 73) := ⟨_, rfl⟩
  rw [← hW9] at K9 b9 ⊢
  have x0 : W9.cell? ⟨w.heap.size, 0, none⟩ = some (Fv 42 #[Pt r]) := K9.cell rfl
  have x1 : W9.cell? ⟨w.heap.size, 1, none⟩ = some (Fv 59 #[Pt r]) := K9.cell rfl
  have x2 : W9.cell? ⟨w.heap.size, 2, none⟩ = some (Fv 60 #[Pt r]) := K9.cell rfl
  refine bodyPost_ret (v := .agg #[Fv 42 #[Pt r], Fv 59 #[Pt r], Fv 60 #[Pt r]]) (by simp [results, Try.results39, go_sem, x0, x1, x2]; try rfl) rfl ?_
  exact ⟨rfl, b9⟩
def clH : Hn := ⟨76, 77, 78, #[]⟩
theorem clH_ent : Ent (clH).n ∧ Ent (clH).t ∧ Ent (clH).h := ⟨fun args W => by unfold clH; kernel_rfl, fun args W => by unfold clH; kernel_rfl, fun args W => by unfold clH; kernel_rfl⟩
set_option maxHeartbeats 1000000 in
theorem clH_any (w : World) : Calls Try.prog 54 #[] w fun e w' => e = .returned (clH).v ∧ Below w.heap.size w w' := by
  have hsf : ∀ (W : World) (p : Addr) (f : Fn) (x c : Array Value), (store p (.func f x c)).run Try.prog W = stored Try.prog W p (.func f x c) .plain := fun W p f x c => run_store Try.prog W p _ .plain rfl
  have hsn : ∀ (W : World) (p : Addr), (store p .nilFunc).run Try.prog W = stored Try.prog W p .nilFunc .plain := fun W p => run_store Try.prog W p _ .plain rfl
  go_enter Try.func54, Try.ntmps54
  go_wp2
  have K9 := HC.new w #[Fv 76 #[], Fv 77 #[], Fv 78 #[]] 73
  have b9 : Below w.heap.size w (w.alloc (.cells #[Fv 76 #[], Fv 77 #[], Fv 78 #[]] 73)) := (Below.refl _ w).alloc (Nat.le_refl _) _
  obtain ⟨W9, hW9⟩ : ∃ W9, W9 = w.alloc (.cells #[Fv 76 #[], Fv 77 #[], Fv 78 #[]] 73) := ⟨_, rfl⟩
  rw [← hW9] at K9 b9 ⊢
  have x0 : W9.cell? ⟨w.heap.size, 0, none⟩ = some (Fv 76 #[]) := K9.cell rfl
  have x1 : W9.cell? ⟨w.heap.size, 1, none⟩ = some (Fv 77 #[]) := K9.cell rfl
  have x2 : W9.cell? ⟨w.heap.size, 2, none⟩ = some (Fv 78 #[]) := K9.cell rfl
  refine bodyPost_ret (v := .agg #[Fv 76 #[], Fv 77 #[], Fv 78 #[]]) (by simp [results, Try.results54, go_sem, x0, x1, x2]; try rfl) rfl ?_
  exact ⟨rfl, b9⟩
end Go.Proofs.Ytjdknijjkjmafaa
