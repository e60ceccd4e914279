/-
  DERIVED. The first k of parts' firsts; lists of lists.
-/
import Derived.Test.YtnhihpekdimbbaaEFirst
import Derived.Test.YtnhihpekdimbbaaEAdd
set_option linter.unusedVariables false
set_option linter.unusedSimpArgs false
namespace Go.Proofs.Ytnhihpekdimbbaa
open Classical
open Go.RowKit
theorem pigeon : ∀ {A B : List Ht}, A.Nodup → (∀ x ∈ A, x ∈ B) → A.length ≤ B.length
  | [], B, _, _ => Nat.zero_le _
  | a :: A, B, hn, hs => by
    obtain ⟨h1, h2⟩ := List.nodup_cons.1 hn
    have ha := hs a List.mem_cons_self
    have := pigeon (A := A) (B := B.erase a) h2 (fun x hx => by
      have hne : x ≠ a := fun e => h1 (e ▸ hx)
      exact (List.mem_erase_of_ne hne).2 (hs x (List.mem_cons_of_mem _ hx)))
    rw [List.length_erase_of_mem ha] at this
    have : 0 < B.length := List.length_pos_of_mem ha
    simp; omega
theorem fst_sub {k : Nat} {T T' L : List Ht} (h : Fst k T L) (h' : Fst k T' L) : ∀ x ∈ T, x ∈ T' := fun x hx => by
  apply Classical.byContradiction
  intro hn
  obtain ⟨e, hall⟩ := h'.out x (h.sub x hx) hn
  have hsub : ∀ z ∈ x :: T', z ∈ T := fun z hz => by
    rcases List.mem_cons.1 hz with rfl | hz
    · exact hx
    · apply Classical.byContradiction
      intro hz'
      have h1 := (h.out z (h'.sub z hz) hz').2 x hx
      have h2 := hall z hz
      have := cpH_rev x z
      omega
  have hp := pigeon (A := x :: T') (B := T) (List.nodup_cons.2 ⟨hn, h'.srt.nodup⟩) hsub
  have := h.len
  simp at hp
  omega
theorem fst_one {k : Nat} {T T' L : List Ht} (h : Fst k T L) (h' : Fst k T' L) : T = T' := srt_ext h.srt h'.srt (fun x => ⟨fst_sub h h' x, fst_sub h' h x⟩)
/-- First of parts' firsts is First of all. -/
theorem fst_parts {k : Nat} (R : List (List Ht)) : topL k (R.map (topL k)).flatten = topL k R.flatten := by
  refine fst_one (L := R.flatten) ?_ (fst_top k _)
  obtain ⟨T, hT⟩ : ∃ T, T = topL k (R.map (topL k)).flatten := ⟨_, rfl⟩
  rw [← hT]
  have F : Fst k T (R.map (topL k)).flatten := by rw [hT]; exact fst_top k _
  have hmem : ∀ {x : Ht} {r : List Ht}, r ∈ R → x ∈ topL k r → x ∈ (R.map (topL k)).flatten := fun {x r} hr hx => List.mem_flatten.2 ⟨_, List.mem_map.2 ⟨r, hr, rfl⟩, hx⟩
  refine ⟨fun x hx => ?_, F.srt, F.len, fun x hx hn => ?_⟩
  · obtain ⟨l, hl, hxl⟩ := List.mem_flatten.1 (F.sub x hx)
    obtain ⟨r, hr, rfl⟩ := List.mem_map.1 hl
    exact List.mem_flatten.2 ⟨r, hr, topL_sub hxl⟩
  · obtain ⟨r, hr, hxr⟩ := List.mem_flatten.1 hx
    by_cases hxt : x ∈ topL k r
    · exact F.out x (hmem hr hxt) hn
    · obtain ⟨e, hall⟩ := topL_out hxr hxt
      have hlen : T.length = k := by
        apply Classical.byContradiction
        intro hne
        have hsub : ∀ z ∈ topL k r, z ∈ T := fun z hz => by
          apply Classical.byContradiction
          intro hz'
          exact hne (F.out z (hmem hr hz) hz').1
        have := pigeon (topL_srt k r).nodup hsub
        have := F.len
        omega
      refine ⟨hlen, fun y hy => ?_⟩
      apply Classical.byContradiction
      intro hlt
      have hxy : cpH x y ≤ 0 := by have := cpH_rev x y; omega
      have hzy : ∀ z ∈ topL k r, cpH z y < 0 := fun z hz => by
        have h1 := hall z hz
        rcases Int.lt_or_eq_of_le hxy with h2 | h2
        · exact cpH_tr h1 h2
        · rw [← (cpH_zero x y).1 h2]; exact h1
      have hsub : ∀ z ∈ y :: topL k r, z ∈ T := fun z hz => by
        rcases List.mem_cons.1 hz with rfl | hz
        · exact hy
        · apply Classical.byContradiction
          intro hz'
          have h1 := (F.out z (hmem hr hz) hz').2 y hy
          have h2 := hzy z hz
          have := cpH_rev y z
          omega
      have hnd : (y :: topL k r).Nodup := List.nodup_cons.2 ⟨fun hm => by have := hzy y hm; rw [cpH_self] at this; omega, (topL_srt k r).nodup⟩
      have := pigeon hnd hsub
      simp at this
      omega
theorem infoHs : (Try.prog.info? 22).map (fun i => (i.zero, i.size, i.bytes)) = some (some (.slice none 0 0), 1, 24) := by kernel_rfl
/-- A list of lists, that may lie anywhere. -/
structure LL (w : World) (la : Option Addr) (R : List (List Ht)) : Prop where
  at' : ∀ (i : Nat) (r : List Ht), R[i]? = some r → ∃ g off a c, la = some ⟨g, off, none⟩ ∧ w.cell? ⟨g, off + i, none⟩ = some (.slice a r.length c) ∧ LAt w a r
theorem LL.below {w w' : World} {la : Option Addr} {R : List (List Ht)} (h : LL w la R) (b : Below w.heap.size w w') : LL w' la R := ⟨fun i r hr => by
  obtain ⟨g, off, a, c, e, h1, h2⟩ := h.at' i r hr
  exact ⟨g, off, a, c, e, cell_lat b h1, h2.below b⟩⟩
/-- One of them alone. -/
theorem LL.one {w : World} {g off : Nat} {R : List (List Ht)} (h : LL w (some ⟨g, off, none⟩) R) {i : Nat} {r : List Ht} (hr : R[i]? = some r) : LL w (some ⟨g, off + i, none⟩) [r] := ⟨fun j r' hj => by
  obtain ⟨q1, q2⟩ := List.getElem?_eq_some_iff.1 hj
  simp at q1
  subst q1
  simp at q2
  subst q2
  obtain ⟨g', off', a, c, e, h1, h2⟩ := h.at' i r hr
  simp only [Option.some.injEq, Addr.mk.injEq] at e
  obtain ⟨rfl, rfl, -⟩ := e
  exact ⟨g, off + i, a, c, rfl, h1, h2⟩⟩
/-- A list of lists of the call's own: its row, and the rows that it leads to. -/
structure DL (base : Nat) (W : World) (lv : Value) (R : List (List Ht)) : Prop where
  row : ∃ ss : List Value, ss.length = R.length ∧ W.ownsRow 0 22 1 lv R.length ss ∧ ∀ (i : Nat) (r : List Ht) (s : Value), R[i]? = some r → ss[i]? = some s → HRow W s r
  new : ∀ g, lv.ownBlock = some g → base ≤ g
theorem DL.nil (base : Nat) (W : World) : DL base W (.slice none 0 0) [] := ⟨⟨[], rfl, ⟨rfl, .inl ⟨rfl, rfl⟩⟩, fun i r s h => by simp at h⟩, fun g h => by cases h⟩
theorem DL.lat {base : Nat} {W W' : World} {lv : Value} {R : List (List Ht)} (h : DL base W lv R) (b : Below W.heap.size W W') : DL base W' lv R := by
  obtain ⟨ss, h1, h2, h3⟩ := h.row
  exact ⟨⟨ss, h1, row_kept h2 (F := fun _ => False) (.below b) (fun _ _ h => h), fun i r s hr hs => HRow.below (h3 i r s hr hs) b⟩, h.new⟩
theorem DL.form {base : Nat} {W : World} {lv : Value} {R : List (List Ht)} (h : DL base W lv R) : ∃ a c, lv = .slice a R.length c ∧ R.length ≤ c := by
  obtain ⟨ss, h1, h2, h3⟩ := h.row
  exact slice_form h2
theorem DL.ll {base : Nat} {W : World} {a : Option Addr} {c : Nat} {R : List (List Ht)} (h : DL base W (.slice a R.length c) R) : LL W a R := ⟨fun k r hr => by
  obtain ⟨ss, h1, h2, h3⟩ := h.row
  have hk : k < R.length := (List.getElem?_eq_some_iff.1 hr).1
  have hs : ss[k]? = some ss[k] := List.getElem?_eq_getElem (by omega)
  have h4 := h3 k r _ hr hs
  obtain ⟨la, lc, e, hlc, hL⟩ := own_lat h4
  have hg : ∃ g, a = some ⟨g, 0, none⟩ := by
    rcases h2.2 with ⟨e, e2⟩ | ⟨g, cap, cur, e, -⟩
    · omega
    · simp only [Value.slice.injEq] at e
      exact ⟨g, e.1⟩
  obtain ⟨g, rfl⟩ := hg
  refine ⟨g, 0, la, lc, rfl, ?_, hL⟩
  rw [Nat.zero_add, World.ownsRow.cellAt h2 k (by omega), hs, e]⟩
/-- The row's block and a list's are two. -/
theorem DL.apart {W : World} {lv s : Value} {n : Nat} {xs : List Value} {r : List Ht} (h : W.ownsRow 0 22 1 lv n xs) (k : HRow W s r) {g : Nat} (h1 : lv.ownBlock = some g) : s.ownBlock ≠ some g := fun h2 => by
  obtain ⟨c1, e1⟩ := row_block h h1
  obtain ⟨c2, e2⟩ := row_block k h2
  rw [e1] at e2
  simp at e2
/-- A new list is put behind. -/
theorem DL.push {base : Nat} {W : World} {a : Option Addr} {c : Nat} {R : List (List Ht)} (h : DL base W (.slice a R.length c) R) (hb : base ≤ W.heap.size) (hl : R.length ≤ 1048576) {t : Value} {r : List Ht} (ht : HRow W t r) (h1c : t.oneCell' = true) :
    ∃ a' c' W', (Builtin.append_ #[36, 36] 36 #[.slice a R.length c, .slice (some ⟨W.heap.size, 0, none⟩) 1 1]).run Try.prog (W.alloc (.cells #[t] 22)) = .ok (.slice a' (R.length + 1) c') W' ∧ DL base W' (.slice a' (R.length + 1) c') (R ++ [r]) ∧ Below base W W' := by
  obtain ⟨i0, hi, hz0, hz1, hz2⟩ := info_parts infoHs
  obtain ⟨ss, h1, h2, h3⟩ := h.row
  have bA : Below W.heap.size W (W.alloc (.cells #[t] 22)) := (Below.refl _ W).alloc (Nat.le_refl _) _
  have h2A := row_kept h2 (F := fun _ => False) (.below bA) (fun _ _ h => h)
  obtain ⟨v', W', hap, ho, hg, -, hloc⟩ := run_append_own_at (P := Try.prog) (W.alloc (.cells #[t] 22)) 0 36 36 22 i0 _ 1 24 Try.underlying36 hi hz0 hz1 hz2 rfl (by decide) _ R.length _ h2A ⟨W.heap.size, 0, none⟩ 1 1 [t] rfl (fun j u hu => new_cells W [t] 22 j u hu) (fun u hu => by simp at hu; subst hu; exact h1c) (by unfold maxLen; omega) (by omega) (Nat.zero_le _)
  obtain ⟨a', c', rfl, -⟩ := slice_form ho
  have st : Stay (fun k => (Value.slice a R.length c).ownBlock = some k) (W.alloc (.cells #[t] 22)) W' := .grown hg (fun k hk => hk)
  refine ⟨a', c', W', hap, ⟨⟨ss ++ [t], by simp [h1], by rw [List.length_append]; exact ho, fun i r' s hr hs => ?_⟩, fun g hg' => ?_⟩, bA.mono hb |>.trans (st.toBelow (fun k hk e => by have := h.new k e; omega) (Nat.le_trans hb bA.size))⟩
  · have hin : HRow (W.alloc (.cells #[t] 22)) s r' := by
      rcases Nat.lt_or_ge i R.length with hlt | hge
      · rw [List.getElem?_append_left hlt] at hr
        rw [List.getElem?_append_left (by omega)] at hs
        exact HRow.below (h3 i r' s hr hs) bA
      · rw [List.getElem?_append_right hge] at hr
        rw [List.getElem?_append_right (by omega)] at hs
        obtain ⟨q1, q2⟩ := List.getElem?_eq_some_iff.1 hr
        obtain ⟨q3, q4⟩ := List.getElem?_eq_some_iff.1 hs
        simp at q1 q2 q3 q4
        subst q2; subst q4
        exact HRow.below ht bA
    exact row_kept hin st (fun k hk e => DL.apart h2A hin e hk)
  · rcases hloc with e | e
    · exact h.new g (e ▸ hg')
    · rw [e] at hg'; cases hg'; exact Nat.le_trans hb bA.size
end Go.Proofs.Ytnhihpekdimbbaa
