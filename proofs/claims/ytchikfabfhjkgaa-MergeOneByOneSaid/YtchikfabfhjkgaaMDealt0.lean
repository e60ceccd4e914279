/-
  DERIVED. Lists of lists of the call's own.
-/
import Derived.Test.YtchikfabfhjkgaaMPut
set_option linter.unusedVariables false
set_option linter.unusedSimpArgs false
namespace Go.Proofs.Ytchikfabfhjkgaa
open Go.RowKit
theorem infoEns : (Try.prog.info? 24).map (fun i => (i.zero, i.size, i.bytes)) = some (some (.slice none 0 0), 1, 24) := by kernel_rfl
/-- A list of lists: its row, and the rows that it leads to. -/
structure DL (base : Nat) (W : World) (lv : Value) (R : List (List En)) : Prop where
  row : ∃ ss : List Value, ss.length = R.length ∧ W.ownsRow 0 24 1 lv R.length ss ∧ ∀ (i : Nat) (r : List En) (s : Value), R[i]? = some r → ss[i]? = some s → W.ownsRow 0 23 5 s r.length (r.flatMap enC)
  new : ∀ g, lv.ownBlock = some g → base ≤ g
theorem DL.nil (base : Nat) (W : World) : DL base W (.slice none 0 0) [] := ⟨⟨[], rfl, ⟨rfl, .inl ⟨rfl, rfl⟩⟩, fun i r s h => by simp at h⟩, fun g h => by cases h⟩
theorem DL.lat {base : Nat} {W W' : World} {lv : Value} {R : List (List En)} (h : DL base W lv R) (b : Below W.heap.size W W') : DL base W' lv R := by
  obtain ⟨ss, h1, h2, h3⟩ := h.row
  exact ⟨⟨ss, h1, row_kept h2 (F := fun _ => False) (.below b) (fun _ _ h => h), fun i r s hr hs => row_kept (h3 i r s hr hs) (F := fun _ => False) (.below b) (fun _ _ h => h)⟩, h.new⟩
theorem DL.form {base : Nat} {W : World} {lv : Value} {R : List (List En)} (h : DL base W lv R) : ∃ a c, lv = .slice a R.length c ∧ R.length ≤ c := by
  obtain ⟨ss, h1, h2, h3⟩ := h.row
  exact slice_form h2
/-- Where the k-th list lies. -/
theorem DL.at' {base : Nat} {W : World} {a : Option Addr} {c : Nat} {R : List (List En)} (h : DL base W (.slice a R.length c) R) {k : Nat} {r : List En} (hr : R[k]? = some r) :
    ∃ g la lc, a = some ⟨g, 0, none⟩ ∧ W.cell? ⟨g, k, none⟩ = some (.slice la r.length lc) ∧ W.frozen? ⟨g, k, none⟩ = false ∧ r.length ≤ lc ∧ LAt W la r := by
  obtain ⟨ss, h1, h2, h3⟩ := h.row
  have hk : k < R.length := (List.getElem?_eq_some_iff.1 hr).1
  have hs : ss[k]? = some ss[k] := List.getElem?_eq_getElem (by omega)
  have h4 := h3 k r _ hr hs
  obtain ⟨la, lc, e, hlc, hL⟩ := own_lat h4
  have hg : ∃ g, a = some ⟨g, 0, none⟩ := by
    rcases h2.2 with ⟨e, e2⟩ | ⟨g, cap, cur, e, -⟩
    · omega
    · simp only [Value.slice.injEq] at e
      exact ⟨g, e.1⟩
  obtain ⟨g, rfl⟩ := hg
  refine ⟨g, la, lc, rfl, ?_, World.ownsRow.frozenAt h2 k, hlc, hL⟩
  rw [World.ownsRow.cellAt h2 k (by omega), hs, e]
theorem DL.ll {base : Nat} {W : World} {a : Option Addr} {c : Nat} {R : List (List En)} (h : DL base W (.slice a R.length c) R) (hl : ∀ r ∈ R, r.length ≤ 60) : LL W a R := ⟨fun i r hr => by
  obtain ⟨g, la, lc, e, h1, -, h3, h4⟩ := h.at' hr
  exact ⟨g, 0, la, lc, e, by rw [Nat.zero_add]; exact h1, h3, h4, by have := hl r (List.mem_of_getElem? hr); omega⟩⟩
/-- The row's block and a list's are two. -/
theorem DL.apart {W : World} {lv s : Value} {n m : Nat} {xs ys : List Value} (h : W.ownsRow 0 24 1 lv n xs) (k : W.ownsRow 0 23 5 s m ys) {g : Nat} (h1 : lv.ownBlock = some g) : s.ownBlock ≠ some g := fun h2 => by
  obtain ⟨c1, e1⟩ := row_block h h1
  obtain ⟨c2, e2⟩ := row_block k h2
  rw [e1] at e2
  simp at e2
/-- A new list is put behind. -/
theorem DL.push {base : Nat} {W : World} {a : Option Addr} {c : Nat} {R : List (List En)} (h : DL base W (.slice a R.length c) R) (hb : base ≤ W.heap.size) (hl : R.length ≤ 1000) {t : Value} {r : List En} (ht : W.ownsRow 0 23 5 t r.length (r.flatMap enC)) (h1c : t.oneCell' = true) :
    ∃ a' c' W', (Builtin.append_ #[59, 59] 59 #[.slice a R.length c, .slice (some ⟨W.heap.size, 0, none⟩) 1 1]).run Try.prog (W.alloc (.cells #[t] 24)) = .ok (.slice a' (R.length + 1) c') W' ∧ DL base W' (.slice a' (R.length + 1) c') (R ++ [r]) ∧ Below base W W' := by
  obtain ⟨i0, hi, hz0, hz1, hz2⟩ := info_parts infoEns
  obtain ⟨ss, h1, h2, h3⟩ := h.row
  have bA : Below W.heap.size W (W.alloc (.cells #[t] 24)) := (Below.refl _ W).alloc (Nat.le_refl _) _
  have h2A := row_kept h2 (F := fun _ => False) (.below bA) (fun _ _ h => h)
  obtain ⟨v', W', hap, ho, hg, -, hloc⟩ := run_append_own_at (P := Try.prog) (W.alloc (.cells #[t] 24)) 0 59 59 24 i0 _ 1 24 Try.underlying59 hi hz0 hz1 hz2 rfl (by decide) _ R.length _ h2A ⟨W.heap.size, 0, none⟩ 1 1 [t] rfl (fun j u hu => new_cells W [t] 24 j u hu) (fun u hu => by simp at hu; subst hu; exact h1c) (by unfold maxLen; omega) (by omega) (Nat.zero_le _)
  obtain ⟨a', c', rfl, -⟩ := slice_form ho
  have st : Stay (fun k => (Value.slice a R.length c).ownBlock = some k) (W.alloc (.cells #[t] 24)) W' := .grown hg (fun k hk => hk)
  refine ⟨a', c', W', hap, ⟨⟨ss ++ [t], by simp [h1], by rw [List.length_append]; exact ho, fun i r' s hr hs => ?_⟩, fun g hg' => ?_⟩, bA.mono hb |>.trans (st.toBelow (fun k hk e => by have := h.new k e; omega) (Nat.le_trans hb bA.size))⟩
  · have hin : (W.alloc (.cells #[t] 24)).ownsRow 0 23 5 s r'.length (r'.flatMap enC) := by
      rcases Nat.lt_or_ge i R.length with hlt | hge
      · rw [List.getElem?_append_left hlt] at hr
        rw [List.getElem?_append_left (by omega)] at hs
        exact row_kept (h3 i r' s hr hs) (F := fun _ => False) (.below bA) (fun _ _ h => h)
      · rw [List.getElem?_append_right hge] at hr
        rw [List.getElem?_append_right (by omega)] at hs
        obtain ⟨q1, q2⟩ := List.getElem?_eq_some_iff.1 hr
        obtain ⟨q3, q4⟩ := List.getElem?_eq_some_iff.1 hs
        simp at q1 q2 q3 q4
        subst q2; subst q4
        exact row_kept ht (F := fun _ => False) (.below bA) (fun _ _ h => h)
    exact row_kept hin st (fun k hk e => DL.apart h2A hin e hk)
  · rcases hloc with e | e
    · exact h.new g (e ▸ hg')
    · rw [e] at hg'; cases hg'; exact Nat.le_trans hb bA.size
/-- A list is put in the place of another. -/
theorem DL.set {base : Nat} {W : World} {g : Nat} {c : Nat} {R : List (List En)} (h : DL base W (.slice (some ⟨g, 0, none⟩) R.length c) R) {k : Nat} {t : Value} {r : List En} (hk : k < R.length) (ht : W.ownsRow 0 23 5 t r.length (r.flatMap enC)) :
    DL base (W.setCell ⟨g, k, none⟩ t) (.slice (some ⟨g, 0, none⟩) R.length c) (R.set k r) ∧ Below base W (W.setCell ⟨g, k, none⟩ t) := by
  obtain ⟨ss, h1, h2, h3⟩ := h.row
  have hlt := row_lt h2 (k := g) rfl
  have st : Stay (fun i => (Value.slice (some ⟨g, 0, none⟩) R.length c).ownBlock = some i) W (W.setCell ⟨g, k, none⟩ t) := Stay.setCell (F := fun i => (Value.slice (some ⟨g, 0, none⟩) R.length c).ownBlock = some i) (Stay.refl _ W) (p := ⟨g, k, none⟩) (fun _ => rfl) t
  have hgb := h.new g rfl
  refine ⟨⟨⟨ss.set k t, by simp [h1], by rw [List.length_set]; exact (World.ownsRow.stored h2 k t).1, fun i r' s hr hs => ?_⟩, h.new⟩, st.toBelow (fun i hi e => by have e2 : g = i := (by simpa [Value.ownBlock] using e); omega) (Nat.le_trans hgb (Nat.le_of_lt hlt))⟩
  have hin : W.ownsRow 0 23 5 s r'.length (r'.flatMap enC) := by
    by_cases e : k = i
    · subst e
      rw [List.getElem?_set_self hk] at hr
      rw [List.getElem?_set_self (by omega)] at hs
      cases hr; cases hs
      exact ht
    · rw [List.getElem?_set_ne e] at hr hs
      exact h3 i r' s hr hs
  exact row_kept hin st (fun i hi e => DL.apart h2 hin e hi)
/-- What is so far dealt. -/
structure RI (all : List En) (i : Nat) (R : List (List En)) : Prop where
  up : ∀ r ∈ R, Up r
  perm : R.flatten.Perm (all.take i)
  len : R.length ≤ i + 1
theorem flat_le : ∀ (R : List (List En)) (r : List En), r ∈ R → r.length ≤ R.flatten.length
  | [], _, h => by simp at h
  | a :: R, r, h => by
    rw [List.flatten_cons, List.length_append]
    rcases List.mem_cons.1 h with rfl | h
    · omega
    · have := flat_le R r h; omega
theorem RI.short {all : List En} {i : Nat} {R : List (List En)} (h : RI all i R) (r : List En) (hr : r ∈ R) : r.length ≤ i := by
  have := flat_le R r hr
  rw [h.perm.length_eq, List.length_take] at this
  omega
theorem take_one {all : List En} {i : Nat} {x : En} (hx : all[i]? = some x) : (x :: all.take i).Perm (all.take (i + 1)) := by
  obtain ⟨hi, rfl⟩ := List.getElem?_eq_some_iff.1 hx
  rw [List.take_succ_eq_append_getElem hi]
  exact (List.perm_append_comm (l₁ := [all[i]]) (l₂ := all.take i))
theorem RI.set {all : List En} {i k n : Nat} {R : List (List En)} {x : En} {r : List En} (h : RI all i R) (hx : all[i]? = some x) (hr : R[k]? = some r) (hp : PutK r x n) (hn : ∀ h : n < r.length, cpE r[n] x ≠ 0) : RI all (i + 1) (R.set k (insP r x n)) := by
  refine ⟨fun q hq => ?_, (set_flat R k r x _ hr (insP_perm r x n)).trans ((h.perm.cons x).trans (take_one hx)), by rw [List.length_set]; have := h.len; omega⟩
  rcases List.mem_or_eq_of_mem_set hq with h1 | rfl
  · exact h.up q h1
  · exact (hp.up (h.up r (List.mem_of_getElem? hr)) hn).1
theorem RI.push {all : List En} {i : Nat} {R : List (List En)} (h : RI all i R) (hl : R.length ≤ i) : RI all i (R ++ [[]]) := by
  refine ⟨fun q hq => ?_, by rw [List.flatten_append]; simpa using h.perm, by simp; omega⟩
  rcases List.mem_append.1 hq with h1 | h1
  · exact h.up q h1
  · simp at h1; subst h1; exact List.Pairwise.nil
/-- What put answers, in one form. -/
theorem PutO.form {l : List En} {la : Option Addr} {lc : Nat} {e : En} {w : World} {r : Ending} {w' : World} (h : PutO l la lc e w r w') : ∃ a n c b, r = .returned (.tuple #[.slice a n c, .bool b]) ∧ Below w.heap.size w w' ∧
    ((b = false ∧ l ≠ []) ∨ (b = true ∧ ∃ k, PutK l e k ∧ (∀ h : k < l.length, cpE l[k] e ≠ 0) ∧ w'.ownsRow 0 23 5 (.slice a n c) (insP l e k).length ((insP l e k).flatMap enC))) := by
  obtain ⟨b, k, pk, ⟨⟨hk, hz⟩, rfl⟩ | ⟨hn, v, rfl, ho, hg⟩⟩ := h
  · exact ⟨_, _, _, _, rfl, b, .inl ⟨rfl, fun h0 => by subst h0; simp at hk⟩⟩
  · obtain ⟨a, c, rfl, -⟩ := slice_form ho
    exact ⟨_, _, _, _, rfl, b, .inr ⟨rfl, k, pk, hn, ho⟩⟩
/-- The numbers of a list lie where a slice says. -/
def IAt (w : World) (ta : Option Addr) (ts : List Int) : Prop := ∀ j q, ts[j]? = some q → ∃ g off, ta = some ⟨g, off, none⟩ ∧ w.cell? ⟨g, off + j, none⟩ = some (.int .i64 q)
theorem IAt.below {w w' : World} {ta : Option Addr} {ts : List Int} (h : IAt w ta ts) (b : Below w.heap.size w w') : IAt w' ta ts := fun j q hq => by
  obtain ⟨g, off, e, hc⟩ := h j q hq
  exact ⟨g, off, e, cell_lat b hc⟩
end Go.Proofs.Ytchikfabfhjkgaa
