/-
  DERIVED. A list's entries one by one: the closure that sourceOf makes.
-/
import Derived.Test.YtchikfabfhjkgaaMLeast
set_option linter.unusedVariables false
set_option linter.unusedSimpArgs false
namespace Go.Proofs.Ytchikfabfhjkgaa
open Go.RowKit
/-- What is left of a list, in its box. -/
structure SrcAt (w0 : World) (B : Nat) (W : World) (bx : Nat) (rest : List En) : Prop where
  ex : ∃ la cap, W.heap[bx]? = some (.cells #[.slice la rest.length cap] 24 (0, 0)) ∧ rest.length ≤ cap ∧ (rest ≠ [] → ∃ g off, la = some ⟨g, off, none⟩ ∧ g < B ∧ RowAt w0 g off (rest.flatMap enC)) ∧ rest.length < 4611686018427387904
  hi : B ≤ bx
def zeroE : Value := .agg #[.int .i64 0, .string ⟨#[]⟩, .int .i64 0, .int .i64 0, .bool false]
theorem SrcAt.lt {w0 : World} {B : Nat} {W : World} {bx : Nat} {rest : List En} (h : SrcAt w0 B W bx rest) : bx < W.heap.size := by
  obtain ⟨la, cap, h1, -⟩ := h.ex
  exact (Array.getElem?_eq_some_iff.1 h1).1
theorem SrcAt.same {w0 : World} {B : Nat} {W W' : World} {bx : Nat} {rest : List En} (h : SrcAt w0 B W bx rest) (b : W'.heap[bx]? = W.heap[bx]?) : SrcAt w0 B W' bx rest := by
  obtain ⟨la, cap, h1, h2, h3, h4⟩ := h.ex
  exact ⟨⟨la, cap, b.trans h1, h2, h3, h4⟩, h.hi⟩
theorem SrcAt.below {w0 : World} {B : Nat} {W W' : World} {bx : Nat} {rest : List En} (h : SrcAt w0 B W bx rest) (b : Below W.heap.size W W') : SrcAt w0 B W' bx rest := h.same (b.block bx h.lt)
set_option maxRecDepth 100000 in
theorem next_nil {w0 : World} {B : Nat} (bx : Nat) (w : World) (h : SrcAt w0 B w bx []) :
    Calls Try.prog 56 #[.pointer (some ⟨bx, 0, none⟩)] w fun r w' => r = .returned (.tuple #[zeroE, .bool false, .int .i64 0]) ∧ Below w.heap.size w w' := by
  obtain ⟨la, cap, h1, h2, h3, h4⟩ := h.ex
  have p0 : w.cell? ⟨bx, 0, none⟩ = some (.slice la 0 cap) := by rw [cell_of_row _ _ 0 _ _ (0, 0) h1]; rfl
  have hb : bx < w.heap.size := (Array.getElem?_eq_some_iff.1 h1).1
  have b0 : Below w.heap.size w (w.alloc (.cells #[.int .i64 0, .string ⟨#[]⟩, .int .i64 0, .int .i64 0, .bool false] 23)) := (Below.refl _ w).alloc (Nat.le_refl _) _
  clear h h1 h2 h3 h4
  go_enter Try.func56, Try.ntmps56
  go_wp2
  refine bodyPost_ret (v := .tuple #[zeroE, .bool false, .int .i64 0]) (by simp [results, Try.results56, go_sem]; try rfl) rfl ?_
  exact ⟨rfl, b0⟩
theorem src_step {w0 w : World} {B bx g off cap : Nat} {e : En} {rest : List En} (h1 : w.heap[bx]? = some (.cells #[.slice (some ⟨g, off, none⟩) (e :: rest).length cap] 24 (0, 0))) (h2 : (e :: rest).length ≤ cap) (hg : g < B) (hra : RowAt w0 g off ((e :: rest).flatMap enC)) (h4 : (e :: rest).length < 4611686018427387904) (hi : B ≤ bx)
    (a : Addr) (c : Nat) (ha : (rest = [] ∧ c = 0) ∨ (a = ⟨g, off + 5, none⟩ ∧ c = cap - 1)) (o o' : Obj) :
    SrcAt w0 B (((w.setCell ⟨bx, 0, none⟩ (.slice (some a) rest.length c)).alloc o).alloc o') bx rest ∧ Stay (fun k => k = bx) w (((w.setCell ⟨bx, 0, none⟩ (.slice (some a) rest.length c)).alloc o).alloc o') := by
  have st : Stay (fun k => k = bx) w (w.setCell ⟨bx, 0, none⟩ (.slice (some a) rest.length c)) := stay_one _ _ _ _ _ (.refl _ _)
  have hb : (w.setCell ⟨bx, 0, none⟩ (.slice (some a) rest.length c)).heap[bx]? = some (.cells #[.slice (some a) rest.length c] 24 (0, 0)) := by
    rw [heap_setCell_same w bx 0 _ _ _ h1]; rfl
  have b2 : Below (w.setCell ⟨bx, 0, none⟩ (.slice (some a) rest.length c)).heap.size (w.setCell ⟨bx, 0, none⟩ (.slice (some a) rest.length c)) (((w.setCell ⟨bx, 0, none⟩ (.slice (some a) rest.length c)).alloc o).alloc o') := ((Below.refl _ _).alloc (Nat.le_refl _) _).alloc (by simp) _
  have hs : SrcAt w0 B (w.setCell ⟨bx, 0, none⟩ (.slice (some a) rest.length c)) bx rest := by
    refine ⟨⟨some a, c, hb, ?_, fun hne => ?_, by simp at h4; omega⟩, hi⟩
    · rcases ha with ⟨e1, e2⟩ | ⟨-, e2⟩
      · subst e1; simp
      · simp at h2; omega
    · rcases ha with ⟨e1, -⟩ | ⟨e1, -⟩
      · exact absurd e1 hne
      · subst e1
        refine ⟨g, off + 5, rfl, hg, fun j x hx => ?_⟩
        have := hra (5 + j) x (by rw [List.flatMap_cons, List.getElem?_append_right (by rw [enC_len]; omega), enC_len]; simpa using hx)
        rw [← Nat.add_assoc] at this
        exact this
  exact ⟨hs.below b2, st.trans (.below b2)⟩
set_option maxRecDepth 100000 in
theorem next_cons {w0 : World} {B : Nat} (bx : Nat) (e : En) (rest : List En) (w : World) (h : SrcAt w0 B w bx (e :: rest)) (hB : Below B w0 w) :
    Calls Try.prog 56 #[.pointer (some ⟨bx, 0, none⟩)] w fun r w' => r = .returned (.tuple #[.agg (enC e).toArray, .bool true, .int .i64 0]) ∧ SrcAt w0 B w' bx rest ∧ Stay (fun k => k = bx) w w' := by
  obtain ⟨la, cap, h1, h2, h3, h4⟩ := h.ex
  obtain ⟨g, off, rfl, hgB, hra0⟩ := h3 (by simp)
  have hra : RowAt w g off ((e :: rest).flatMap enC) := fun j x hx => (hB.cell (p := ⟨g, off + j, none⟩) hgB).trans (hra0 j x hx)
  obtain ⟨x0, x1, x2, x3, x4⟩ := row_en hra rfl 0 (by simp)
  simp only [List.getElem_cons_zero, Nat.zero_mul, Nat.add_zero] at x0 x1 x2 x3 x4
  have p0 : w.cell? ⟨bx, 0, none⟩ = some (.slice (some ⟨g, off, none⟩) (rest.length + 1) cap) := by rw [cell_of_row _ _ 0 _ _ (0, 0) h1]; rfl
  have f0 : w.frozen? ⟨bx, 0, none⟩ = false := frozen_of_row _ _ _ _ _ h1
  obtain ⟨n, hn⟩ : ∃ n, n = rest.length := ⟨_, rfl⟩
  rw [← hn] at p0
  have hc1 : 1 ≤ cap := by simp at h2; omega
  have hcI : (1 : Int) ≤ (cap : Int) := by omega
  have hnI : (0 : Int) < (n : Int) + 1 := by omega
  have hn1 : (1 : Int) ≤ (n : Int) + 1 := by omega
  have hb : bx < w.heap.size := (Array.getElem?_eq_some_iff.1 h1).1
  have hgz : g < w.heap.size := World.block_lt_of_cell? w _ x0
  have hgb : ¬ g = bx := by have := h.hi; omega
  have HH := Hid.mk (And.intro h (And.intro h1 (And.intro h2 (And.intro (And.intro hgB hra0) (And.intro h4 hn)))))
  clear h h1 h2 h3 hra hra0 h4 hn hB hgB
  go_enter Try.func56, Try.ntmps56
  have hne : ((n : Int) + 1 == 0) = false := by
    apply beq_false_of_ne; omega
  go_wp2
  · refine bodyPost_ret (v := .tuple #[.agg (enC e).toArray, .bool true, .int .i64 0]) (by simp [results, Try.results56, go_sem, enC]; try rfl) rfl ?_
    obtain ⟨k0, k1, k2, k3, k4, k5⟩ := HH.out
    have hr0 : rest = [] := List.eq_nil_of_length_eq_zero (by simp at k2; omega)
    have := src_step k1 k2 k3.1 k3.2 k4 k0.hi ⟨g, off, none⟩ 0 (.inl ⟨hr0, rfl⟩)
    rw [← k5] at this
    exact ⟨rfl, this _ _⟩
  · refine bodyPost_ret (v := .tuple #[.agg (enC e).toArray, .bool true, .int .i64 0]) (by simp [results, Try.results56, go_sem, enC]; try rfl) rfl ?_
    obtain ⟨k0, k1, k2, k3, k4, k5⟩ := HH.out
    have := src_step k1 k2 k3.1 k3.2 k4 k0.hi ⟨g, off + 5, none⟩ (cap - 1) (.inr ⟨rfl, rfl⟩)
    rw [← k5] at this
    exact ⟨rfl, this _ _⟩
end Go.Proofs.Ytchikfabfhjkgaa
