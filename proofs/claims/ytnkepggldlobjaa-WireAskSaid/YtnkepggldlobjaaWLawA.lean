/-
  DERIVED. WireAsk's walk.
-/
import Derived.Test.YtnkepggldlobjaaWRefA
set_option linter.unusedVariables false
set_option linter.unusedSimpArgs false
namespace Go.Proofs.Ytnkepggldlobjaa
open Go.RowKit
set_option maxHeartbeats 2000000 in
theorem law_ask (q : Rq) (hW : RqW q) (w : World) :
    Calls Try.prog 3 #[.agg (rqV q)] w fun e w' => e = .returned (.bool true) ∧ Below w.heap.size w w' := by
  have h1 := fun W => ask_any q hW W
  have h2 := fun W => rask_any q hW W
  obtain ⟨X, hX⟩ : ∃ X : ByteArray, X = ⟨(askA q).1.toArray⟩ := ⟨_, rfl⟩
  obtain ⟨x, hx⟩ : ∃ x, x = (askA q).2 := ⟨_, rfl⟩
  rw [← hX, ← hx] at h1 h2
  clear hX hx hW
  have h0 := HC.new w (rqV q) 23
  have bA : Below w.heap.size w (w.alloc (.cells (rqV q) 23)) := (Below.refl _ w).alloc (Nat.le_refl _) _
  obtain ⟨V, hV⟩ : ∃ V, V = w.alloc (.cells (rqV q) 23) := ⟨_, rfl⟩
  rw [← hV] at h0 bA
  have H0 := Hid.mk (And.intro h0 bA)
  have hV5 := hV.symm
  simp only [rqV] at hV5
  have hb : ∀ (a : ByteArray), (a.toList == a.toList) = true := fun a => by simp
  obtain ⟨op, id, c, k, r⟩ := q
  have y0 : V.cell? ⟨w.heap.size, 0, none⟩ = some (.int .i64 op) := h0.cell rfl
  have y1 : V.cell? ⟨w.heap.size, 1, none⟩ = some (.int .i64 id) := h0.cell rfl
  have y2 : V.cell? ⟨w.heap.size, 2, none⟩ = some (.string c) := h0.cell rfl
  have y3 : V.cell? ⟨w.heap.size, 3, none⟩ = some (.int .i64 k) := h0.cell rfl
  have y4 : V.cell? ⟨w.heap.size, 4, none⟩ = some (.int .i64 r) := h0.cell rfl
  clear h0 bA hV
  go_enter Try.func3, Try.ntmps3
  go_wp2_with (first
    | (go_at_call 9; refine (h1 _).mono ?_; clear h1; rintro e w1 ⟨rfl, b1⟩; have k1 := H0.out.1.below b1; have u0 : w1.cell? ⟨w.heap.size, 0, none⟩ = some (.int .i64 op) := k1.cell rfl; have u1 : w1.cell? ⟨w.heap.size, 1, none⟩ = some (.int .i64 id) := k1.cell rfl; have u2 : w1.cell? ⟨w.heap.size, 2, none⟩ = some (.string c) := k1.cell rfl; have u3 : w1.cell? ⟨w.heap.size, 3, none⟩ = some (.int .i64 k) := k1.cell rfl; have u4 : w1.cell? ⟨w.heap.size, 4, none⟩ = some (.int .i64 r) := k1.cell rfl; have H1 := Hid.mk b1; clear k1 b1)
    | (go_at_call 10; refine (h2 _).mono ?_; clear h2; rintro e w2 ⟨rfl, b2⟩))
  go_ret
  exact ⟨rfl, chain (chain H0.out.2 H1.out (Nat.le_refl _)) b2 (Nat.le_refl _)⟩
end Go.Proofs.Ytnkepggldlobjaa
