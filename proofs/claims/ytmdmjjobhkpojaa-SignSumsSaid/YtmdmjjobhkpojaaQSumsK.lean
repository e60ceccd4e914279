/-
  DERIVED. SignSums: a round.
-/
import Derived.Test.YtmdmjjobhkpojaaQSS
set_option linter.unusedVariables false
set_option linter.unusedSimpArgs false
namespace Go.Proofs.Ytmdmjjobhkpojaa
open Go.RowKit Go.Shelf Go.Proofs.BitMath Go.Proofs.FloatMath
/-- The vector of round i. -/
def vcI (v : List Zp) (i : Nat) : List Zp := if i = 2 ∨ i = 3 then v.reverse else v
theorem vcI_len (v : List Zp) (i : Nat) : (vcI v i).length = v.length := by unfold vcI; split <;> simp
/-- While the vector of a round is laid down twice. -/
structure LyI (Wi : World) (bf n : Nat) (V : List Zp) (k : Nat) (o : Value) (W : World) : Prop where
  full : ∃ F : List Zp, F.length = n + 64 ∧ F.take k = V.take k ∧ zE.Row W (.slice (some ⟨bf, 0, none⟩) (n + 64) (n + 64)) F
  now : zE.Row W o (V.take k)
  new : ∀ b, o.ownBlock = some b → Wi.heap.size ≤ b
  st : Stay (fun k => k = bf) Wi W
/-- One part more. -/
theorem LyI.step {Wi W : World} {bf n k : Nat} {V : List Zp} {o : Value} (h : LyI Wi bf n V k o W) (hbf : bf < Wi.heap.size) (hV : V.length = n) (hn : n ≤ 8796093021952) (hk : k < n) (p : Zp) (hp : V[k]? = some p) :
    ∃ o' W', (Builtin.append_ #[23, 23] 23 #[o, .slice (some ⟨W.heap.size + 1, 0, none⟩) 1 1]).run Try.prog ((W.alloc (.cells #[.int .i64 p.1, .int .i64 p.2] 30)).alloc (.cells #[.int .i64 p.1, .int .i64 p.2] 30)) = .ok o' W' ∧
      W'.cell? ⟨W.heap.size, 0, none⟩ = some (.int .i64 p.1) ∧ W'.cell? ⟨W.heap.size, 1, none⟩ = some (.int .i64 p.2) ∧ (∃ u, W'.cell? ⟨bf, k * 2, none⟩ = some u) ∧ (∃ u, W'.cell? ⟨bf, k * 2 + 1, none⟩ = some u) ∧ (∀ j, W'.frozen? ⟨bf, j, none⟩ = false) ∧
      LyI Wi bf n V (k + 1) o' ((W'.setCell ⟨bf, k * 2, none⟩ (.int .i64 p.1)).setCell ⟨bf, k * 2 + 1, none⟩ (.int .i64 p.2)) := by
  obtain ⟨F, hF, hFk, hr⟩ := h.full
  have bA : Below W.heap.size W (W.alloc (.cells #[.int .i64 p.1, .int .i64 p.2] 30)) := (Below.refl _ W).alloc (Nat.le_refl _) _
  have hWi := h.st.size
  obtain ⟨o', W', h1, h2, h3, h4⟩ := El.app1 zOk (W.alloc (.cells #[.int .i64 p.1, .int .i64 p.2] 30)) (V.take k) o (h.now.below bA) p (by show ((V.take k).length + 1) * 16 ≤ _; rw [List.length_take]; omega) (by rw [List.length_take]; omega)
  rw [World.size_alloc] at h1
  have hol : ∀ b, o.ownBlock = some b → b < W.heap.size := fun b hb => row_lt h.now hb
  have hbx : W'.heap[W.heap.size]? = some (.cells #[.int .i64 p.1, .int .i64 p.2] 30 (0, 0)) := (h3.block _ (by simp) (fun e => by have := hol _ e; omega)).trans (heap_alloc_last W _)
  have hfr : zE.Row W' (.slice (some ⟨bf, 0, none⟩) (n + 64) (n + 64)) F := row_kept (hr.below bA) h3 (fun j hj e => by cases hj; have h9 : Wi.heap.size ≤ bf := h.new bf e; omega)
  obtain ⟨y0, y1, yf⟩ := z_row hfr k (by omega)
  have hlt : k < V.length := by omega
  have hVk : V[k] = p := by rw [List.getElem?_eq_getElem hlt] at hp; simpa using hp
  have st1 : Stay (fun k => k = bf) Wi W' := (h.st.trans (.below bA)).andThen h3 (fun b hb e => by have := h.new b e; omega)
  have nw : ∀ b, o'.ownBlock = some b → Wi.heap.size ≤ b := fun b hb => by
    rcases h4 b hb with e | e
    · exact h.new b e
    · simp at e; omega
  refine ⟨o', W', h1, by rw [cell_of_row _ _ 0 _ _ (0, 0) hbx]; rfl, by rw [cell_of_row _ _ 1 _ _ (0, 0) hbx]; rfl, ⟨_, y0⟩, ⟨_, y1⟩, yf, ⟨⟨F.set k p, by rw [List.length_set]; exact hF, ?_, z_set hfr hF.symm k (by omega) p⟩, ?_, nw, (st1.setCell (p := ⟨bf, k * 2, none⟩) (fun _ => rfl) _).setCell (p := ⟨bf, k * 2 + 1, none⟩) (fun _ => rfl) _⟩⟩
  · rw [List.take_succ_eq_append_getElem (by rw [List.length_set]; omega), List.take_set_of_le (Nat.le_refl _), hFk, List.getElem_set_self, List.take_succ_eq_append_getElem hlt, hVk]
  · rw [List.take_succ_eq_append_getElem hlt, hVk]
    exact row_kept h2 (F := fun k => k = bf) (((Stay.refl (fun k => k = bf) W').setCell (p := ⟨bf, k * 2, none⟩) (fun _ => rfl) _).setCell (p := ⟨bf, k * 2 + 1, none⟩) (fun _ => rfl) _) (fun b hb e => by have h9 := nw b hb; have : b = bf := e; omega)
/-- While marks are laid behind it. -/
structure MkI (Wi : World) (bf n : Nat) (V : List Zp) (k : Nat) (o : Value) (W : World) : Prop where
  full : ∃ F : List Zp, F.length = n + 64 ∧ F.take n = V ∧ (∀ j, n ≤ j → j < k → F[j]? = some (-77, 77)) ∧ zE.Row W (.slice (some ⟨bf, 0, none⟩) (n + 64) (n + 64)) F
  now : zE.Row W o V
  new : ∀ b, o.ownBlock = some b → Wi.heap.size ≤ b
  st : Stay (fun k => k = bf) Wi W
theorem LyI.toMk {Wi W : World} {bf n : Nat} {V : List Zp} {o : Value} (h : LyI Wi bf n V n o W) (hV : V.length = n) : MkI Wi bf n V n o W := by
  obtain ⟨F, h1, h2, h3⟩ := h.full
  have e : V.take n = V := List.take_of_length_le (by omega)
  refine ⟨⟨F, h1, by rw [h2, e], fun j h4 h5 => by omega, h3⟩, by have := h.now; rw [e] at this; exact this, h.new, h.st⟩
theorem MkI.step {Wi W : World} {bf n k : Nat} {V : List Zp} {o : Value} (h : MkI Wi bf n V k o W) (hbf : bf < Wi.heap.size) (hk : n ≤ k) (hk2 : k < n + 64) :
    (∃ u, W.cell? ⟨bf, k * 2, none⟩ = some u) ∧ (∃ u, W.cell? ⟨bf, k * 2 + 1, none⟩ = some u) ∧ (∀ j, W.frozen? ⟨bf, j, none⟩ = false) ∧ MkI Wi bf n V (k + 1) o ((W.setCell ⟨bf, k * 2, none⟩ (.int .i64 (-77))).setCell ⟨bf, k * 2 + 1, none⟩ (.int .i64 77)) := by
  obtain ⟨F, h1, h2, h3, h4⟩ := h.full
  obtain ⟨y0, y1, yf⟩ := z_row h4 k (by omega)
  refine ⟨⟨_, y0⟩, ⟨_, y1⟩, yf, ⟨F.set k (-77, 77), by rw [List.length_set]; exact h1, ?_, ?_, z_set h4 h1.symm k (by omega) (-77, 77)⟩, ?_, h.new, (h.st.setCell (p := ⟨bf, k * 2, none⟩) (fun _ => rfl) _).setCell (p := ⟨bf, k * 2 + 1, none⟩) (fun _ => rfl) _⟩
  · rw [List.take_set_of_le hk, h2]
  · intro j h5 h6
    by_cases e : j = k
    · subst e; rw [List.getElem?_set_self (by omega)]
    · rw [List.getElem?_set_ne (by omega)]; exact h3 j h5 (by omega)
  · exact row_kept h.now (F := fun k => k = bf) (((Stay.refl (fun k => k = bf) W).setCell (p := ⟨bf, k * 2, none⟩) (fun _ => rfl) _).setCell (p := ⟨bf, k * 2 + 1, none⟩) (fun _ => rfl) _) (fun b hb e => by have h9 := h.new b hb; have : b = bf := e; omega)
/-- The beginning of full is the vector. -/
theorem MkI.at {Wi W : World} {bf n k : Nat} {V : List Zp} {o : Value} (h : MkI Wi bf n V k o W) : zE.At W (some ⟨bf, 0, none⟩) V := by
  obtain ⟨F, h1, h2, h3, h4⟩ := h.full
  obtain ⟨a, c, e, hA⟩ := h4.lat
  simp only [Value.slice.injEq] at e
  refine ⟨fun hne => ⟨bf, 0, rfl, fun j x hx => ?_⟩⟩
  obtain ⟨g, off, e2, hc⟩ := hA.at' (fun e => by rw [e] at h1; simp at h1)
  rw [← e.1] at e2
  simp only [Option.some.injEq, Addr.mk.injEq] at e2
  obtain ⟨rfl, rfl, -⟩ := e2
  refine hc j x ?_
  rw [← List.take_append_drop n F, List.flatMap_append, h2]
  rw [List.getElem?_append_left (List.getElem?_eq_some_iff.1 hx).1]; exact hx
end Go.Proofs.Ytmdmjjobhkpojaa
