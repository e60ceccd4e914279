/-
  DERIVED. WireAsked's walk.
-/
import Derived.Test.YtnkepggldlobjaaWRefB
set_option linter.unusedVariables false
set_option linter.unusedSimpArgs false
namespace Go.Proofs.Ytnkepggldlobjaa
open Go.RowKit
abbrev fsR (m : Nat) (f : Fs) : Rq := ⟨m, f.id, ⟨f.c.toArray⟩, f.k, f.r⟩
set_option maxHeartbeats 2000000 in
theorem law_asked (b : ByteArray) (w : World) (hb : b.size < 4611686018427387904) :
    Calls Try.prog 4 #[.string b] w fun e w' => e = .returned (.bool true) ∧ Below w.heap.size w w' := by
  have h1 := fun W => asked_any b W hb
  have h2 := fun W => rasked_any b W hb
  have heq := fun W => rq_eql (fsR (askedA b).1 (askedA b).2.1) (fsR (askedA b).1 (askedA b).2.1) W
  rw [rqE_self] at heq
  obtain ⟨m, f, x, hA⟩ : ∃ m f x, askedA b = (m, f, x) := ⟨_, _, _, rfl⟩
  rw [hA] at h1 h2 heq
  obtain ⟨id, c, k, r⟩ := f
  simp only [rqV, rqC] at h1 h2 heq
  clear hA hb
  obtain ⟨T, hT⟩ : ∃ T : ByteArray, T = ⟨c.toArray⟩ := ⟨_, rfl⟩
  simp only [Tx, ← hT] at h1 h2 heq
  clear hT
  go_enter Try.func4, Try.ntmps4
  go_wp2_with (first
    | (go_at_call 11; refine (h1 _).mono ?_; clear h1; rintro e w1 ⟨rfl, b1⟩; have H1 := Hid.mk (And.intro (HC.new w1 #[.int .i64 m, .int .i64 id, .string T, .int .i64 k, .int .i64 r] 23) b1); clear b1)
    | (go_at_call 12; refine (h2 _).mono ?_; clear h2; rintro e w2 ⟨rfl, b2⟩; have k2 := H1.out.1.below b2; have l2 := k2.lt; have y0 : w2.cell? ⟨w1.heap.size, 0, none⟩ = some (.int .i64 m) := k2.cell rfl; have y1 : w2.cell? ⟨w1.heap.size, 1, none⟩ = some (.int .i64 id) := k2.cell rfl; have y2 : w2.cell? ⟨w1.heap.size, 2, none⟩ = some (.string T) := k2.cell rfl; have y3 : w2.cell? ⟨w1.heap.size, 3, none⟩ = some (.int .i64 k) := k2.cell rfl; have y4 : w2.cell? ⟨w1.heap.size, 4, none⟩ = some (.int .i64 r) := k2.cell rfl; have H2 := Hid.mk b2; clear k2 b2))
  go_ret
  refine ⟨rfl, ?_⟩
  have s1 : Below w.heap.size w (w1.alloc (.cells #[.int .i64 m, .int .i64 id, .string T, .int .i64 k, .int .i64 r] 23)) := H1.out.2.alloc H1.out.2.size _
  exact (chain s1 H2.out (Nat.le_refl _)).alloc (Nat.le_trans s1.size H2.out.size) _
end Go.Proofs.Ytnkepggldlobjaa
