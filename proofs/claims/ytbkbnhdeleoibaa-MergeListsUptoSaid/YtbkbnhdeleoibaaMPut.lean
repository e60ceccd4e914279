/-
  DERIVED. The laws' own put.
-/
import Derived.Test.YtbkbnhdeleoibaaMPut0
set_option linter.unusedVariables false
set_option linter.unusedSimpArgs false
namespace Go.Proofs.Ytbkbnhdeleoibaa
open Go.RowKit
theorem nil_own (W : World) : W.ownsRow 0 36 5 (.slice none 0 0) ([] : List En).length (([] : List En).flatMap enC) := ⟨rfl, .inl ⟨rfl, rfl⟩⟩
theorem stay_below {F : Nat → Prop} {W W' : World} (s : Stay F W W') (hF : ∀ k, F k → W.heap.size ≤ k) : Below W.heap.size W W' := s.toBelow (fun k hk e => by have := hF k e; omega) (Nat.le_refl _)
theorem below_row {W W1 W2 : World} {B : Nat} {v v' : Value} (b1 : Below B W W1) (hv : ∀ k, v.ownBlock = some k → B ≤ k) (s : Stay (fun k => v.ownBlock = some k) W1 W2) (hv' : ∀ k, v'.ownBlock = some k → v.ownBlock = some k ∨ W1.heap.size ≤ k) (hB : B ≤ W1.heap.size) : Below B W W2 ∧ ∀ k, v'.ownBlock = some k → B ≤ k :=
  ⟨b1.trans (s.toBelow (fun k hk e => by have := hv k e; omega) hB), fun k hk => (hv' k hk).elim (hv k) (fun h => Nat.le_trans hB h)⟩
set_option maxRecDepth 100000 in
theorem put_apps {w5 : World} {la : Option Addr} {l : List En} {lc i gE : Nat} {e : En} (h : LAt w5 la l) (hi : i ≤ l.length) (hl : (l.length + 1) * 48 ≤ 140737488355328) (hE : SAt w5 gE (enC e)) (hgE : gE < w5.heap.size)
    (a3 : Option Addr) (c3 : Nat) (h3 : i < l.length → ∃ g off, la = some ⟨g, off, none⟩ ∧ a3 = some ⟨g, off + i * 5, none⟩) :
    ∃ a1 c1 w1 a2 c2 w2 a4 c4 w3, (Builtin.append_ #[24, 24] 24 #[.slice none 0 0, .slice la i lc]).run Try.prog w5 = .ok (.slice a1 i c1) w1 ∧ SAt w1 gE (enC e) ∧
      (Builtin.append_ #[24, 24] 24 #[.slice a1 i c1, .slice (some ⟨w1.heap.size, 0, none⟩) 1 1]).run Try.prog (w1.alloc (.cells (enC e).toArray 36)) = .ok (.slice a2 (i + 1) c2) w2 ∧
      (Builtin.append_ #[24, 24] 24 #[.slice a2 (i + 1) c2, .slice a3 (l.length - i) c3]).run Try.prog w2 = .ok (.slice a4 (l.length + 1) c4) w3 ∧
      w3.ownsRow 0 36 5 (.slice a4 (l.length + 1) c4) (insP l e i).length ((insP l e i).flatMap enC) ∧ Below w5.heap.size w5 w3 ∧ ∀ g, (Value.slice a4 (l.length + 1) c4).ownBlock = some g → w5.heap.size ≤ g := by
  have elen : (l.take i).length = i := by rw [List.length_take]; omega
  have edrop : (l.drop i).length = l.length - i := List.length_drop
  obtain ⟨v1, w1, hap1, ho1, st1, hl1⟩ := ent_app w5 [] (l.take i) (.slice none 0 0) (nil_own w5) la lc (fun hn => by
    obtain ⟨g, off, e1, hr⟩ := h.at' (fun h0 => hn (by rw [h0]; simp))
    refine ⟨g, off, e1, fun j x hx => hr j x ?_⟩
    rw [← List.take_append_drop i l, List.flatMap_append, List.getElem?_append_left (List.getElem?_eq_some_iff.1 hx).1]
    exact hx) (by rw [elen]; simp; omega)
  obtain ⟨b1, n1⟩ := below_row (v := .slice none 0 0) (Below.refl w5.heap.size w5) (fun k hk => by cases hk) st1 hl1 (Nat.le_refl _)
  rw [List.nil_append] at ho1
  obtain ⟨v2, w2, hap2, ho2, st2, hl2⟩ := ent_app1 w1 (l.take i) v1 ho1 e (by rw [elen]; omega)
  obtain ⟨b2, n2⟩ := below_row b1 n1 st2 hl2 b1.size
  obtain ⟨v3, w3, hap3, ho3, st3, hl3⟩ := ent_app w2 (l.take i ++ [e]) (l.drop i) v2 ho2 a3 c3 (fun hn => by
    have hlt : i < l.length := by
      rcases Nat.lt_or_ge i l.length with k | k
      · exact k
      · exact absurd (List.drop_eq_nil_of_le k) hn
    obtain ⟨g, off, e1, e2⟩ := h3 hlt
    obtain ⟨g', off', e1', hr⟩ := h.at' (fun h0 => by rw [h0] at hlt; simp at hlt)
    rw [e1] at e1'; cases e1'
    refine ⟨g, off + i * 5, e2, fun j x hx => cell_lat b2 ?_⟩
    rw [Nat.add_assoc]
    refine hr _ _ ?_
    rw [← List.take_append_drop i l, List.flatMap_append, List.getElem?_append_right (by rw [flat_len5, elen]; omega), flat_len5, elen, show i * 5 + j - i * 5 = j by omega]
    exact hx) (by rw [List.length_append, elen, edrop]; simp; omega)
  obtain ⟨b3, n3⟩ := below_row b2 n2 st3 hl3 b2.size
  obtain ⟨a1, c1, rfl, -⟩ := slice_form ho1
  obtain ⟨a2, c2, rfl, -⟩ := slice_form ho2
  obtain ⟨a4, c4, rfl, -⟩ := slice_form ho3
  have e4 : (l.take i ++ [e] ++ l.drop i) = insP l e i := by unfold insP; simp
  have e5 : (l.take i ++ [e]).length = i + 1 := by rw [List.length_append, elen]; rfl
  rw [e4] at ho3
  rw [elen] at hap1 hap2
  rw [e5] at hap2 hap3
  rw [edrop, e4, insP_len] at hap3
  rw [e4, insP_len] at n3
  exact ⟨a1, c1, w1, a2, c2, w2, a4, c4, w3, hap1, hE.below b1 hgE, hap2, hap3, by rw [insP_len] at ho3 ⊢; exact ho3, b3, n3⟩
/-- What put answers. -/
def PutO (l : List En) (la : Option Addr) (lc : Nat) (e : En) (w : World) (r : Ending) (w' : World) : Prop := Below w.heap.size w w' ∧ ∃ k, PutK l e k ∧
      (((∃ h : k < l.length, cpE l[k] e = 0) ∧ r = .returned (.tuple #[.slice la l.length lc, .bool false])) ∨
       ((∀ h : k < l.length, cpE l[k] e ≠ 0) ∧ ∃ v, r = .returned (.tuple #[v, .bool true]) ∧ w'.ownsRow 0 36 5 v (insP l e k).length ((insP l e k).flatMap enC) ∧ ∀ g, v.ownBlock = some g → w.heap.size ≤ g))
end Go.Proofs.Ytbkbnhdeleoibaa
