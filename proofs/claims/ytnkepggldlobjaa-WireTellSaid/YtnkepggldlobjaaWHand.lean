/-
  DERIVED. The handlers: three functions each.
-/
import Derived.Test.YtnkepggldlobjaaWBox
import Derived.Test.YtnkepggldlobjaaWFields
set_option linter.unusedVariables false
set_option linter.unusedSimpArgs false
namespace Go.Proofs.Ytnkepggldlobjaa
open Go.RowKit
def rdH (r : Nat) : Hn := ⟨54, 55, 56, #[Pt r]⟩
theorem rdH_ent (r : Nat) : Ent (rdH r).n ∧ Ent (rdH r).t ∧ Ent (rdH r).h := ⟨fun args W => by unfold rdH; kernel_rfl, fun args W => by unfold rdH; kernel_rfl, fun args W => by unfold rdH; kernel_rfl⟩
set_option maxHeartbeats 1000000 in
theorem rdH_any (r : Nat) (w : World) : Calls Try.prog 30 #[Pt r] w fun e w' => e = .returned (rdH r).v ∧ Below w.heap.size w w' := by
  have hsf : ∀ (W : World) (p : Addr) (f : Fn) (x c : Array Value), (store p (.func f x c)).run Try.prog W = stored Try.prog W p (.func f x c) .plain := fun W p f x c => run_store Try.prog W p _ .plain rfl
  have hsn : ∀ (W : World) (p : Addr), (store p .nilFunc).run Try.prog W = stored Try.prog W p .nilFunc .plain := fun W p => run_store Try.prog W p _ .plain rfl
  go_enter Try.func30, Try.ntmps30
  go_wp2
  have K9 := HC.new w #[Fv 54 #[Pt r], Fv 55 #[Pt r], Fv 56 #[Pt r]] 64
  have b9 : Below w.heap.size w (w.alloc (.cells #[Fv 54 #[Pt r], Fv 55 #[Pt r], Fv 56 #[Pt r]] 64)) := (Below.refl _ w).alloc (Nat.le_refl _) _
  obtain ⟨W9, hW9⟩ : ∃ W9, W9 = w.alloc (.cells #[Fv 54 #[Pt r], Fv 55 #[Pt r], Fv 56 #[Pt r]] 64) := ⟨_, rfl⟩
  rw [← hW9] at K9 b9 ⊢
  have x0 : W9.cell? ⟨w.heap.size, 0, none⟩ = some (Fv 54 #[Pt r]) := K9.cell rfl
  have x1 : W9.cell? ⟨w.heap.size, 1, none⟩ = some (Fv 55 #[Pt r]) := K9.cell rfl
  have x2 : W9.cell? ⟨w.heap.size, 2, none⟩ = some (Fv 56 #[Pt r]) := K9.cell rfl
  refine bodyPost_ret (v := .agg #[Fv 54 #[Pt r], Fv 55 #[Pt r], Fv 56 #[Pt r]]) (by simp [results, Try.results30, go_sem, x0, x1, x2]; try rfl) rfl ?_
  exact ⟨rfl, b9⟩
def ckH (r : Nat) : Hn := ⟨45, 46, 47, #[Pt r]⟩
theorem ckH_ent (r : Nat) : Ent (ckH r).n ∧ Ent (ckH r).t ∧ Ent (ckH r).h := ⟨fun args W => by unfold ckH; kernel_rfl, fun args W => by unfold ckH; kernel_rfl, fun args W => by unfold ckH; kernel_rfl⟩
set_option maxHeartbeats 1000000 in
theorem ckH_any (r : Nat) (w : World) : Calls Try.prog 21 #[Pt r] w fun e w' => e = .returned (ckH r).v ∧ Below w.heap.size w w' := by
  have hsf : ∀ (W : World) (p : Addr) (f : Fn) (x c : Array Value), (store p (.func f x c)).run Try.prog W = stored Try.prog W p (.func f x c) .plain := fun W p f x c => run_store Try.prog W p _ .plain rfl
  have hsn : ∀ (W : World) (p : Addr), (store p .nilFunc).run Try.prog W = stored Try.prog W p .nilFunc .plain := fun W p => run_store Try.prog W p _ .plain rfl
  go_enter Try.func21, Try.ntmps21
  go_wp2
  have K9 := HC.new w #[Fv 45 #[Pt r], Fv 46 #[Pt r], Fv 47 #[Pt r]] 64
  have b9 : Below w.heap.size w (w.alloc (.cells #[Fv 45 #[Pt r], Fv 46 #[Pt r], Fv 47 #[Pt r]] 64)) := (Below.refl _ w).alloc (Nat.le_refl _) _
  obtain ⟨W9, hW9⟩ : ∃ W9, W9 = w.alloc (.cells #[Fv 45 #[Pt r], Fv 46 #[Pt r], Fv 47 #[Pt r]] 64) := ⟨_, rfl⟩
  rw [← hW9] at K9 b9 ⊢
  have x0 : W9.cell? ⟨w.heap.size, 0, none⟩ = some (Fv 45 #[Pt r]) := K9.cell rfl
  have x1 : W9.cell? ⟨w.heap.size, 1, none⟩ = some (Fv 46 #[Pt r]) := K9.cell rfl
  have x2 : W9.cell? ⟨w.heap.size, 2, none⟩ = some (Fv 47 #[Pt r]) := K9.cell rfl
  refine bodyPost_ret (v := .agg #[Fv 45 #[Pt r], Fv 46 #[Pt r], Fv 47 #[Pt r]]) (by simp [results, Try.results21, go_sem, x0, x1, x2]; try rfl) rfl ?_
  exact ⟨rfl, b9⟩
def wrH (r : Nat) : Hn := ⟨38, 49, 50, #[Pt r]⟩
theorem wrH_ent (r : Nat) : Ent (wrH r).n ∧ Ent (wrH r).t ∧ Ent (wrH r).h := ⟨fun args W => by unfold wrH; kernel_rfl, fun args W => by unfold wrH; kernel_rfl, fun args W => by unfold wrH; kernel_rfl⟩
set_option maxHeartbeats 1000000 in
theorem wrH_any (r : Nat) (w : World) : Calls Try.prog 24 #[Pt r] w fun e w' => e = .returned (wrH r).v ∧ Below w.heap.size w w' := by
  have hsf : ∀ (W : World) (p : Addr) (f : Fn) (x c : Array Value), (store p (.func f x c)).run Try.prog W = stored Try.prog W p (.func f x c) .plain := fun W p f x c => run_store Try.prog W p _ .plain rfl
  have hsn : ∀ (W : World) (p : Addr), (store p .nilFunc).run Try.prog W = stored Try.prog W p .nilFunc .plain := fun W p => run_store Try.prog W p _ .plain rfl
  go_enter Try.func24, Try.ntmps24
  go_wp2
  have K9 := HC.new w #[Fv 38 #[Pt r], Fv 49 #[Pt r], Fv 50 #[Pt r]] 64
  have b9 : Below w.heap.size w (w.alloc (.cells #[Fv 38 #[Pt r], Fv 49 #[Pt r], Fv 50 #[Pt r]] 64)) := (Below.refl _ w).alloc (Nat.le_refl _) _
  obtain ⟨W9, hW9⟩ : ∃ W9, W9 = w.alloc (.cells #[Fv 38 #[Pt r], Fv 49 #[Pt r], Fv 50 #[Pt r]] 64) := ⟨_, rfl⟩
  rw [← hW9] at K9 b9 ⊢
  have x0 : W9.cell? ⟨w.heap.size, 0, none⟩ = some (Fv 38 #[Pt r]) := K9.cell rfl
  have x1 : W9.cell? ⟨w.heap.size, 1, none⟩ = some (Fv 49 #[Pt r]) := K9.cell rfl
  have x2 : W9.cell? ⟨w.heap.size, 2, none⟩ = some (Fv 50 #[Pt r]) := K9.cell rfl
  refine bodyPost_ret (v := .agg #[Fv 38 #[Pt r], Fv 49 #[Pt r], Fv 50 #[Pt r]]) (by simp [results, Try.results24, go_sem, x0, x1, x2]; try rfl) rfl ?_
  exact ⟨rfl, b9⟩
def clH : Hn := ⟨71, 72, 73, #[]⟩
theorem clH_ent : Ent (clH).n ∧ Ent (clH).t ∧ Ent (clH).h := ⟨fun args W => by unfold clH; kernel_rfl, fun args W => by unfold clH; kernel_rfl, fun args W => by unfold clH; kernel_rfl⟩
set_option maxHeartbeats 1000000 in
theorem clH_any (w : World) : Calls Try.prog 44 #[] w fun e w' => e = .returned (clH).v ∧ Below w.heap.size w w' := by
  have hsf : ∀ (W : World) (p : Addr) (f : Fn) (x c : Array Value), (store p (.func f x c)).run Try.prog W = stored Try.prog W p (.func f x c) .plain := fun W p f x c => run_store Try.prog W p _ .plain rfl
  have hsn : ∀ (W : World) (p : Addr), (store p .nilFunc).run Try.prog W = stored Try.prog W p .nilFunc .plain := fun W p => run_store Try.prog W p _ .plain rfl
  go_enter Try.func44, Try.ntmps44
  go_wp2
  have K9 := HC.new w #[Fv 71 #[], Fv 72 #[], Fv 73 #[]] 64
  have b9 : Below w.heap.size w (w.alloc (.cells #[Fv 71 #[], Fv 72 #[], Fv 73 #[]] 64)) := (Below.refl _ w).alloc (Nat.le_refl _) _
  obtain ⟨W9, hW9⟩ : ∃ W9, W9 = w.alloc (.cells #[Fv 71 #[], Fv 72 #[], Fv 73 #[]] 64) := ⟨_, rfl⟩
  rw [← hW9] at K9 b9 ⊢
  have x0 : W9.cell? ⟨w.heap.size, 0, none⟩ = some (Fv 71 #[]) := K9.cell rfl
  have x1 : W9.cell? ⟨w.heap.size, 1, none⟩ = some (Fv 72 #[]) := K9.cell rfl
  have x2 : W9.cell? ⟨w.heap.size, 2, none⟩ = some (Fv 73 #[]) := K9.cell rfl
  refine bodyPost_ret (v := .agg #[Fv 71 #[], Fv 72 #[], Fv 73 #[]]) (by simp [results, Try.results44, go_sem, x0, x1, x2]; try rfl) rfl ?_
  exact ⟨rfl, b9⟩
end Go.Proofs.Ytnkepggldlobjaa
