/-
  DERIVED. A list is put behind a row; the two halves of a row; ids put in their order.
-/
import Derived.Test.YtmhifofeobhhgaaULaw4
set_option linter.unusedVariables false
set_option linter.unusedSimpArgs false
namespace Go.Proofs.Ytmhifofeobhhgaa
open Go.RowKit Go.Proofs.UnionMath
theorem El.appL {α : Type} {E : El α} {P : Program} (ok : E.Ok P) (W : World) (X Y : List α) (v : Value) (h : E.Row W v X) (a : Option Addr) (c : Nat) (hY : E.At W a Y) (hb : (X.length + Y.length) * E.by' ≤ 140737488355328) (hb2 : X.length + Y.length < 4611686018427387904) :
    ∃ v' W', (Builtin.append_ #[E.sl, E.sl] E.sl #[v, .slice a Y.length c]).run P W = .ok v' W' ∧ E.Row W' v' (X ++ Y) ∧ Stay (fun k => v.ownBlock = some k) W W' ∧ (∀ k, v'.ownBlock = some k → v.ownBlock = some k ∨ W.heap.size ≤ k) := by
  obtain ⟨i0, hi, hz0, hz1, hz2⟩ := info_parts ok.info
  by_cases h0 : Y = []
  · subst h0
    obtain ⟨a0, c0, hv, hc0⟩ := El.Row.form h
    refine ⟨v, W, ?_, by simpa using h, .refl _ _, fun k hk => .inl hk⟩
    subst hv
    have hf : (Builtin.firstCells E.sz 0 (.slice a 0 c)).run P W = .ok #[] W := by cases a <;> simp [Builtin.firstCells, loadCells, loadCellsFrom]
    simp [Builtin.append_, run_underlying ok.und, sizeOf, typeInfo, hi, hz1, Builtin.lenOf, hf, hc0]
    cases a0 <;> simp [storeCells]
  · obtain ⟨g, off, rfl, hr⟩ := hY.at' h0
    obtain ⟨v', w', hrun, ho, hg, _, hloc⟩ := run_append_own_at (P := P) W 0 E.sl E.sl E.ty i0 _ E.sz E.by' ok.und hi hz0 hz1 hz2 ok.zs ok.pos v X.length _ h ⟨g, off, none⟩ Y.length c (Y.flatMap E.f) (ok.len Y) (fun j u hu => by
      have e1 : (⟨g, off, none⟩ : Addr).add j = ⟨g, off + j, none⟩ := by unfold Addr.add; split <;> simp_all
      rw [e1]; exact hr j u hu) (ok.ones Y) (by unfold maxLen; omega) hb (Nat.zero_le _)
    refine ⟨v', w', hrun, by show w'.ownsRow 0 E.ty E.sz v' (X ++ Y).length _; rw [List.length_append, List.flatMap_append]; exact ho, .grown hg (fun k hk => hk), fun k hk => ?_⟩
    rcases hloc with hl | hl
    · exact .inl (hl ▸ hk)
    · rw [hl] at hk; cases hk; exact .inr (Nat.le_refl _)
/-- The first half of ints that lie somewhere, and the second. -/
theorem i_take {W : World} {a : Option Addr} {X : List Int} (h : iE.At W a X) (k : Nat) : iE.At W a (X.take k) := ⟨fun hn => by
  have hX : X ≠ [] := fun e => hn (by rw [e]; simp)
  obtain ⟨g, off, e, hr⟩ := h.at' hX
  refine ⟨g, off, e, fun j x hx => hr j x ?_⟩
  rw [iCells] at hx ⊢
  rw [List.map_take, List.getElem?_take] at hx
  split at hx
  · exact hx
  · cases hx⟩
theorem i_drop {W : World} {g off : Nat} {X : List Int} (h : iE.At W (some ⟨g, off, none⟩) X) (k : Nat) : iE.At W (some ⟨g, off + k, none⟩) (X.drop k) := ⟨fun hn => by
  have hX : X ≠ [] := fun e => hn (by rw [e]; simp)
  obtain ⟨g', off', e, hr⟩ := h.at' hX
  cases e
  refine ⟨g, off + k, rfl, fun j x hx => ?_⟩
  rw [iCells, List.map_drop, List.getElem?_drop] at hx
  have := hr (k + j) x (by rw [iCells]; exact hx)
  rw [← Nat.add_assoc] at this; exact this⟩
/-- The place of a number among rising ones. -/
def plN (S : List Int) (x : Int) : Nat := (S.takeWhile (fun z => decide (z < x))).length
def insN (S : List Int) (x : Int) : List Int := S.take (plN S x) ++ [x] ++ S.drop (plN S x)
theorem insN_mem (S : List Int) (x z : Int) : z ∈ insN S x ↔ z = x ∨ z ∈ S := by
  unfold insN
  conv => rhs; rw [← List.take_append_drop (plN S x) S]
  simp only [List.mem_append, List.mem_singleton]
  constructor
  · rintro ((h | h) | h)
    · exact .inr (.inl h)
    · exact .inl h
    · exact .inr (.inr h)
  · rintro (h | h | h)
    · exact .inl (.inr h)
    · exact .inl (.inl h)
    · exact .inr h
theorem plN_le (S : List Int) (x : Int) : plN S x ≤ S.length := by
  unfold plN; exact (List.takeWhile_sublist _).length_le
theorem plN_take (S : List Int) (x : Int) : S.take (plN S x) = S.takeWhile (fun z => decide (z < x)) := by
  unfold plN
  induction S with
  | nil => rfl
  | cons a S ih =>
    by_cases h : a < x
    · simp [List.takeWhile_cons, h, ih]
    · simp [List.takeWhile_cons, h]
theorem plN_drop (S : List Int) (x : Int) : S.drop (plN S x) = S.dropWhile (fun z => decide (z < x)) := by
  unfold plN
  induction S with
  | nil => rfl
  | cons a S ih =>
    by_cases h : a < x
    · simp [List.takeWhile_cons, List.dropWhile_cons, h, ih]
    · simp [List.takeWhile_cons, List.dropWhile_cons, h]
theorem drop_ge (x : Int) : ∀ (S : List Int), S.Pairwise (· < ·) → ∀ z ∈ S.dropWhile (fun z => decide (z < x)), x ≤ z
  | [], _, z, hz => by simp at hz
  | a :: S, hS, z, hz => by
    by_cases h : a < x
    · rw [List.dropWhile_cons, if_pos (by simpa using h)] at hz
      exact drop_ge x S (List.pairwise_cons.1 hS).2 z hz
    · rw [List.dropWhile_cons, if_neg (by simpa using h)] at hz
      rcases List.mem_cons.1 hz with rfl | hz
      · omega
      · have := (List.pairwise_cons.1 hS).1 z hz; omega
theorem take_lt (x : Int) : ∀ (S : List Int), ∀ z ∈ S.takeWhile (fun z => decide (z < x)), z < x
  | [], z, hz => by simp at hz
  | a :: S, z, hz => by
    by_cases h : a < x
    · rw [List.takeWhile_cons, if_pos (by simpa using h)] at hz
      rcases List.mem_cons.1 hz with rfl | hz
      · exact h
      · exact take_lt x S z hz
    · rw [List.takeWhile_cons, if_neg (by simpa using h)] at hz
      simp at hz
theorem insN_up {S : List Int} {x : Int} (h : S.Pairwise (· < ·)) (hx : x ∉ S) : (insN S x).Pairwise (· < ·) := by
  unfold insN
  have h' := h
  rw [← List.take_append_drop (plN S x) S] at h'
  obtain ⟨h1, h2, h3⟩ := List.pairwise_append.1 h'
  have hd : ∀ z ∈ S.drop (plN S x), x < z := fun z hz => by
    have hm := List.mem_of_mem_drop hz
    rw [plN_drop] at hz
    have := drop_ge x S h z hz
    have hne : z ≠ x := fun e => hx (e ▸ hm)
    omega
  have ht : ∀ z ∈ S.take (plN S x), z < x := fun z hz => by rw [plN_take] at hz; exact take_lt x S z hz
  refine List.pairwise_append.2 ⟨List.pairwise_append.2 ⟨h1, by simp, fun a ha b hb => ?_⟩, h2, fun a ha b hb => ?_⟩
  · rw [List.mem_singleton.1 hb]; exact ht a ha
  · rcases List.mem_append.1 ha with q | q
    · exact h3 a q b hb
    · rw [List.mem_singleton.1 q]; exact hd b hb
/-- Rising lists of the same members are the same. -/
theorem up_same : ∀ (S T : List Int), S.Pairwise (· < ·) → T.Pairwise (· < ·) → (∀ z, z ∈ S ↔ z ∈ T) → S = T
  | [], [], _, _, _ => rfl
  | [], b :: T, _, _, h => absurd ((h b).2 (by simp)) (by simp)
  | a :: S, [], _, _, h => absurd ((h a).1 (by simp)) (by simp)
  | a :: S, b :: T, hS, hT, h => by
    obtain ⟨s1, s2⟩ := List.pairwise_cons.1 hS
    obtain ⟨t1, t2⟩ := List.pairwise_cons.1 hT
    have e : a = b := by
      rcases List.mem_cons.1 ((h a).1 (by simp)) with q | q
      · exact q
      · rcases List.mem_cons.1 ((h b).2 (by simp)) with r | r
        · exact r.symm
        · have := s1 b r; have := t1 a q; omega
    subst e
    rw [up_same S T s2 t2 (fun z => ⟨fun hz => ?_, fun hz => ?_⟩)]
    · rcases List.mem_cons.1 ((h z).1 (List.mem_cons_of_mem _ hz)) with q | q
      · have := s1 z hz; omega
      · exact q
    · rcases List.mem_cons.1 ((h z).2 (List.mem_cons_of_mem _ hz)) with q | q
      · have := t1 z hz; omega
      · exact q
end Go.Proofs.Ytmhifofeobhhgaa
