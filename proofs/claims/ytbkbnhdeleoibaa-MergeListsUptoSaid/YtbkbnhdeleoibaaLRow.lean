/-
  DERIVED. Rows of entries of the call's own, and rows of rows.
-/
import Derived.Test.YtbkbnhdeleoibaaLLs
import Derived.Maps.AppendAt
set_option linter.unusedVariables false
set_option linter.unusedSimpArgs false
namespace Go.Proofs.Ytbkbnhdeleoibaa
open Go.RowKit
abbrev HRow (W : World) (v : Value) (xs : List En) : Prop := W.ownsRow 0 36 5 v xs.length (xs.flatMap enC)
theorem infoEns : (Try.prog.info? 24).map (fun i => (i.zero, i.size, i.bytes)) = some (some (.slice none 0 0), 1, 24) := by kernel_rfl
theorem HRow.below {w w' : World} {v : Value} {xs : List En} (hs : HRow w v xs) (h : Below w.heap.size w w') : HRow w' v xs := row_kept (F := fun _ => False) hs (.below h) (fun _ _ h => h)
theorem HRow.at' {W : World} {v : Value} {xs : List En} (h : HRow W v xs) (i : Nat) (hi : i < xs.length) : ∃ b cap, v = .slice (some ⟨b, 0, none⟩) xs.length cap ∧ W.cell? ⟨b, i * 5, none⟩ = some (.int .i64 xs[i].v) ∧ W.cell? ⟨b, i * 5 + 1, none⟩ = some (.string xs[i].c) ∧ W.cell? ⟨b, i * 5 + 2, none⟩ = some (.int .i64 xs[i].i) ∧ W.cell? ⟨b, i * 5 + 3, none⟩ = some (.int .i64 xs[i].s) ∧ W.cell? ⟨b, i * 5 + 4, none⟩ = some (.bool xs[i].d) ∧ ∀ j, W.frozen? ⟨b, j, none⟩ = false := by
  rcases h.2 with ⟨h0, hn⟩ | ⟨b, cap, cur, rfl, h1, h2, h3, h4, h5, h6⟩
  · omega
  · have hr : RowAt W b 0 (xs.flatMap enC) := fun j x hx => by
      have hj : j < xs.length * 5 := by rw [← flat_len5]; exact (List.getElem?_eq_some_iff.1 hx).1
      rw [Nat.zero_add, World.ownsRow.cellAt h j hj, hx]
    have := row_en hr rfl i hi
    simp only [Nat.zero_add] at this
    exact ⟨b, cap, rfl, this.1, this.2.1, this.2.2.1, this.2.2.2.1, this.2.2.2.2, fun j => World.ownsRow.frozenAt h j⟩
theorem HRow.lat {W : World} {v : Value} {X : List En} (h : HRow W v X) : ∃ a c, v = .slice a X.length c ∧ LAt W a X := by
  obtain ⟨a, c, e, -, k⟩ := own_lat h
  exact ⟨a, c, e, k⟩
theorem HRow.cap {W : World} {a : Option Addr} {n c : Nat} {X : List En} (h : HRow W (.slice a n c) X) : n = X.length ∧ X.length ≤ c ∧ LAt W a X := by
  obtain ⟨a', c', e, h1, k⟩ := own_lat h
  simp only [Value.slice.injEq] at e
  obtain ⟨rfl, rfl, rfl⟩ := e
  exact ⟨rfl, h1, k⟩
theorem LAt.hit {w W : World} {la : Option Addr} {l : List En} (h : LAt w la l) (hW : ∀ k : Nat, k < w.heap.size → W.heap[k]? = w.heap[k]?) (i : Nat) (hi : i < l.length) : ∃ g off, la = some ⟨g, off, none⟩ ∧ W.cell? ⟨g, off + i * 5, none⟩ = some (.int .i64 l[i].v) ∧ W.cell? ⟨g, off + i * 5 + 1, none⟩ = some (.string l[i].c) ∧ W.cell? ⟨g, off + i * 5 + 2, none⟩ = some (.int .i64 l[i].i) ∧ W.cell? ⟨g, off + i * 5 + 3, none⟩ = some (.int .i64 l[i].s) ∧ W.cell? ⟨g, off + i * 5 + 4, none⟩ = some (.bool l[i].d) := by
  have hne : l ≠ [] := fun e => by rw [e] at hi; simp at hi
  obtain ⟨g, off, e, r⟩ := h.at' hne
  exact ⟨g, off, e, row_en r (hW g (h.lt e hne)) i hi⟩
theorem box_cells {W : World} {r : Nat} {h : En} (hb : W.heap[r]? = some (.cells (enC h).toArray 36 (0, 0))) : W.cell? ⟨r, 0, none⟩ = some (.int .i64 h.v) ∧ W.cell? ⟨r, 1, none⟩ = some (.string h.c) ∧ W.cell? ⟨r, 2, none⟩ = some (.int .i64 h.i) ∧ W.cell? ⟨r, 3, none⟩ = some (.int .i64 h.s) ∧ W.cell? ⟨r, 4, none⟩ = some (.bool h.d) :=
  ⟨by rw [cell_of_row _ _ 0 _ _ (0, 0) hb]; rfl, by rw [cell_of_row _ _ 1 _ _ (0, 0) hb]; rfl, by rw [cell_of_row _ _ 2 _ _ (0, 0) hb]; rfl, by rw [cell_of_row _ _ 3 _ _ (0, 0) hb]; rfl, by rw [cell_of_row _ _ 4 _ _ (0, 0) hb]; rfl⟩
/-- The row's block and a list's are two. -/
theorem rows_apart {W : World} {lv s : Value} {n m : Nat} {xs ys : List Value} (h : W.ownsRow 0 24 1 lv n xs) (k : W.ownsRow 0 36 5 s m ys) {g : Nat} (h1 : lv.ownBlock = some g) : s.ownBlock ≠ some g := fun h2 => by
  obtain ⟨c1, e1⟩ := row_block h h1
  obtain ⟨c2, e2⟩ := row_block k h2
  rw [e1] at e2
  simp at e2
theorem put5_to {F : Nat → Prop} {a W : World} {b i : Nat} {A : En} (h : Stay F a W) (hF : F b) : Stay F a (put5 W b i A) := h.andThen (put5_stay W b i A) (fun k _ e => by (have e' : k = b := e; rw [e']; exact hF))
/-- append onto a slice of the call's own: it lies where it lay, or anew, and then all is kept. -/
theorem run_append_keep {P : Program} (w : World) (base : Nat) (t ty e : TypeId) (i : TypeInfo) (z : Value) (size bytes : Nat) (ht : P.underlying t = some (.slice e)) (hi : P.info? e = some i) (hz : i.zero = some z)
    (hsize : i.size = size) (hby : i.bytes = bytes) (hzs : z.cells.size = size) (hsz : 0 < size)
    (v : Value) (n : Nat) (xs : List Value) (hown : w.ownsRow base e size v n xs)
    (a : Addr) (m c : Nat) (news : List Value) (hl : news.length = m * size) (hnews : ∀ j u, news[j]? = some u → w.cell? (a.add j) = some u) (h1 : ∀ u ∈ news, u.oneCell' = true)
    (h63 : n + m ≤ maxLen) (hbytes : (n + m) * bytes ≤ 140737488355328) (hbase : base ≤ w.heap.size) :
    ∃ v' w', (Builtin.append_ #[t, t] ty #[v, .slice (some a) m c]).run P w = .ok v' w' ∧ w'.ownsRow base e size v' (n + m) (xs ++ news) ∧ w.grownBy w' v.ownBlock ∧
      ((∃ g cap, v = .slice (some ⟨g, 0, none⟩) n cap ∧ v' = .slice (some ⟨g, 0, none⟩) (n + m) cap) ∨ (v'.ownBlock = v.ownBlock ∧ v.ownBlock = none) ∨ (v'.ownBlock = some w.heap.size ∧ ∀ k, k < w.heap.size → w'.heap[k]? = w.heap[k]?)) := by
  obtain ⟨v', w', hr, h2, h3, h4, h5⟩ := run_append_own_at (P := P) w base t ty e i z size bytes ht hi hz hsize hby hzs hsz v n xs hown a m c news hl hnews h1 h63 hbytes hbase
  refine ⟨v', w', hr, h2, h3, ?_⟩
  subst hsize
  subst hby
  have hown' := hown
  rcases hown.2 with ⟨rfl, rfl⟩ | ⟨g, cap, cur, rfl, hbg, hg, hnc, hcm, hcs, htake⟩
  · rcases h5 with h5 | h5
    · exact .inr (.inl ⟨h5, rfl⟩)
    · exact .inr (.inr ⟨h5, fun k hk => h3.block k hk (by simp [Value.ownBlock])⟩)
  · by_cases hroom : n + m ≤ cap
    · have hfit : n * i.size + news.length ≤ cur.size := by rw [hl, hcs, ← Nat.add_mul]; exact Nat.mul_le_mul_right _ hroom
      have hr2 := run_append_room (P := P) w t ty e i ht hi g n cap cur hg a m c news hl hnews h1 hroom hfit
      rw [hr2] at hr
      cases hr
      exact .inl ⟨g, cap, rfl, rfl⟩
    · have holds : ∀ j u, xs[j]? = some u → w.cell? ((⟨g, 0, none⟩ : Addr).add j) = some u := hown'.cells (g := g) rfl
      have hr2 := run_append_grow (P := P) w t ty e i z ht hi hz ⟨g, 0, none⟩ n cap xs hown'.1 holds a m c news hl hnews (by omega) (by simp only [maxLen] at h63; omega) (growslice_fits (by omega) hbytes)
      rw [hr2] at hr
      cases hr
      exact .inr (.inr ⟨rfl, fun k hk => heap_alloc_old w.drew _ hk⟩)
/-- The beginning of a row. -/
theorem row_pre {W : World} {g cap m n : Nat} {Y : List En} (h : HRow W (.slice (some ⟨g, 0, none⟩) m cap) Y) (hm : m = Y.length) (hn : n ≤ m) : HRow W (.slice (some ⟨g, 0, none⟩) n cap) (Y.take n) := by
  have hl : (Y.take n).length = n := by rw [List.length_take]; omega
  show W.ownsRow 0 36 5 _ (Y.take n).length _
  rw [hl]
  rcases h.2 with ⟨h0, _⟩ | ⟨g', c, cur, hv, k1, k2, k3, k4, k5, k6⟩
  · simp at h0
  · simp only [Value.slice.injEq, Option.some.injEq, Addr.mk.injEq] at hv
    obtain ⟨⟨rfl, -, -⟩, -, rfl⟩ := hv
    refine ⟨by rw [flat_len5, hl], .inr ⟨g, cap, cur, rfl, k1, k2, by omega, k4, k5, ?_⟩⟩
    have e : (cur.toList.take (Y.length * 5)).take (n * 5) = cur.toList.take (n * 5) := by rw [List.take_take]; congr 1; omega
    rw [← e, k6]
    conv => lhs; rw [← List.take_append_drop n Y, List.flatMap_append]
    rw [List.take_left' (by rw [flat_len5, hl])]
/-- One mark is put behind; the list that it grew from holds what it held. -/
theorem grow_one (W : World) (n t : Nat) (s l : Value) (h : En) (B : Nat) (hB : B ≤ W.heap.size) (hs : HRow W s (List.replicate n h)) (hl : HRow W l (List.replicate (n + t) h))
    (hrel : (∃ g cap, s = .slice (some ⟨g, 0, none⟩) n cap ∧ l = .slice (some ⟨g, 0, none⟩) (n + t) cap) ∨ ∀ b, l.ownBlock = some b → B ≤ b) (hsB : ∀ b, s.ownBlock = some b → b < B) (hsz : (n + t + 1) * 48 ≤ 140737488355328) :
    ∃ l' W', (Builtin.append_ #[24, 24] 24 #[l, .slice (some ⟨W.heap.size, 0, none⟩) 1 1]).run Try.prog (W.alloc (.cells (enC h).toArray 36)) = .ok l' W' ∧ HRow W' l' (List.replicate (n + (t + 1)) h) ∧ HRow W' s (List.replicate n h) ∧
      ((∃ g cap, s = .slice (some ⟨g, 0, none⟩) n cap ∧ l' = .slice (some ⟨g, 0, none⟩) (n + (t + 1)) cap) ∨ ∀ b, l'.ownBlock = some b → B ≤ b) ∧ Stay (fun k => s.ownBlock = some k ∨ l.ownBlock = some k) W W' := by
  obtain ⟨i0, hi, hz0, hz1, hz2⟩ := info_parts infoEn
  have bA : Below W.heap.size W (W.alloc (.cells (enC h).toArray 36)) := (Below.refl _ W).alloc (Nat.le_refl _) _
  have hlA := HRow.below hl bA
  have hll : (List.replicate (n + t) h).length = n + t := by simp
  have hlA' : (W.alloc (.cells (enC h).toArray 36)).ownsRow 0 36 5 l (n + t) ((List.replicate (n + t) h).flatMap enC) := by have := hlA; unfold HRow at this; rw [hll] at this; exact this
  obtain ⟨l', W', hap, ho, hg, hk⟩ := run_append_keep (P := Try.prog) (W.alloc (.cells (enC h).toArray 36)) 0 24 24 36 i0 _ 5 48 Try.underlying24 hi hz0 hz1 hz2 rfl (by decide) l (n + t) _ hlA' ⟨W.heap.size, 0, none⟩ 1 1 (enC h) rfl (fun j u hu => new_cells W (enC h) 36 j u hu) (fun u hu => by
    simp [enC] at hu
    rcases hu with rfl | rfl | rfl | rfl | rfl <;> rfl) (by unfold maxLen; omega) (by omega) (Nat.zero_le _)
  have hrep : (List.replicate (n + t) h).flatMap enC ++ enC h = (List.replicate (n + (t + 1)) h).flatMap enC := by
    rw [show n + (t + 1) = (n + t) + 1 by omega, List.replicate_succ', List.flatMap_append]; simp
  have hl' : HRow W' l' (List.replicate (n + (t + 1)) h) := by
    show W'.ownsRow 0 36 5 l' _ _
    rw [List.length_replicate, ← hrep, ← Nat.add_assoc]; exact ho
  have st : Stay (fun k => l.ownBlock = some k) (W.alloc (.cells (enC h).toArray 36)) W' := .grown hg (fun k hk => hk)
  have hsA := HRow.below hs bA
  have sW : Stay (fun k => s.ownBlock = some k ∨ l.ownBlock = some k) W W' := (Stay.below bA).andThen (st.mono (fun k _ e => (show s.ownBlock = some k ∨ l.ownBlock = some k from .inr e))) (fun k _ e => e)
  refine ⟨l', W', hap, hl', ?_, ?_, sW⟩
  · rcases hk with ⟨g, cap, e1, e2⟩ | ⟨e1, e2⟩ | ⟨e1, e2⟩
    · rcases hrel with ⟨g', cap', f1, f2⟩ | f
      · rw [e1] at f2
        simp only [Value.slice.injEq, Option.some.injEq, Addr.mk.injEq] at f2
        obtain ⟨⟨rfl, -, -⟩, -, rfl⟩ := f2
        have := row_pre (n := n) (by rw [e2] at hl'; exact hl') (by rw [List.length_replicate, Nat.add_assoc]) (by omega)
        rw [f1]
        have e3 : (List.replicate (n + (t + 1)) h).take n = List.replicate n h := by rw [List.take_replicate, Nat.min_eq_left (by omega)]
        rw [e3] at this
        exact this
      · exact row_kept hsA st (fun k hk e => by have := f k e; have := hsB k hk; omega)
    · exact row_kept hsA st (fun k hk e => by rw [e2] at e; cases e)
    · refine row_kept (F := fun _ => False) hsA ⟨hg.os, hg.tape, hg.output, hg.size, fun k hk _ => e2 k hk⟩ (fun _ _ h => h)
  · rcases hk with ⟨g, cap, e1, e2⟩ | ⟨e1, e2⟩ | ⟨e1, e2⟩
    · rcases hrel with ⟨g', cap', f1, f2⟩ | f
      · rw [e1] at f2
        simp only [Value.slice.injEq, Option.some.injEq, Addr.mk.injEq] at f2
        obtain ⟨⟨rfl, -, -⟩, -, rfl⟩ := f2
        exact .inl ⟨g, cap, f1, by rw [e2, Nat.add_assoc]⟩
      · right; intro b hb
        refine f b ?_
        rw [e2] at hb
        rw [e1]; exact hb
    · right; intro b hb
      rw [e1, e2] at hb; cases hb
    · right; intro b hb
      rw [e1] at hb; cases hb
      exact Nat.le_trans hB bA.size
theorem set5 {W : World} {g cap n : Nat} {X : List En} (h : HRow W (.slice (some ⟨g, 0, none⟩) n cap) X) (hn : n = X.length) (i : Nat) (hi : i < X.length) (x : En) : HRow (put5 W g i x) (.slice (some ⟨g, 0, none⟩) n cap) (X.set i x) := by
  subst hn
  show (put5 W g i x).ownsRow 0 36 5 _ (X.set i x).length _
  rw [List.length_set, ← flat_set5 X i x hi]
  exact (World.ownsRow.stored (World.ownsRow.stored (World.ownsRow.stored (World.ownsRow.stored (World.ownsRow.stored h _ _).1 _ _).1 _ _).1 _ _).1 _ _).1
/-- A slice is put behind slices. -/
theorem more_app (W : World) (ms : List Value) (a : Option Addr) (c : Nat) (h : W.ownsRow 0 24 1 (.slice a ms.length c) ms.length ms) (hl : ms.length ≤ 2097152) (l : Value) (h1c : l.oneCell' = true) :
    ∃ a' c' W', (Builtin.append_ #[22, 22] 22 #[.slice a ms.length c, .slice (some ⟨W.heap.size, 0, none⟩) 1 1]).run Try.prog (W.alloc (.cells #[l] 24)) = .ok (.slice a' (ms.length + 1) c') W' ∧ W'.ownsRow 0 24 1 (.slice a' (ms.length + 1) c') (ms ++ [l]).length (ms ++ [l]) ∧
      Stay (fun k => (Value.slice a ms.length c).ownBlock = some k) W W' ∧ ∀ b, (Value.slice a' (ms.length + 1) c').ownBlock = some b → (Value.slice a ms.length c).ownBlock = some b ∨ W.heap.size ≤ b := by
  obtain ⟨i0, hi, hz0, hz1, hz2⟩ := info_parts infoEns
  have bA : Below W.heap.size W (W.alloc (.cells #[l] 24)) := (Below.refl _ W).alloc (Nat.le_refl _) _
  have h2A := row_kept h (F := fun _ => False) (.below bA) (fun _ _ h => h)
  obtain ⟨v', W', hap, ho, hg, -, hloc⟩ := run_append_own_at (P := Try.prog) (W.alloc (.cells #[l] 24)) 0 22 22 24 i0 _ 1 24 Try.underlying22 hi hz0 hz1 hz2 rfl (by decide) _ ms.length _ h2A ⟨W.heap.size, 0, none⟩ 1 1 [l] rfl (fun j u hu => new_cells W [l] 24 j u hu) (fun u hu => by simp at hu; subst hu; exact h1c) (by unfold maxLen; omega) (by omega) (Nat.zero_le _)
  obtain ⟨a', c', rfl, -⟩ := slice_form ho
  have st : Stay (fun k => (Value.slice a ms.length c).ownBlock = some k) (W.alloc (.cells #[l] 24)) W' := .grown hg (fun k hk => hk)
  refine ⟨a', c', W', hap, by rw [List.length_append]; exact ho, (Stay.below bA).trans st, fun b hb => ?_⟩
  rcases hloc with e | e
  · exact .inl (e ▸ hb)
  · rw [e] at hb; cases hb; exact .inr bA.size
theorem get_snoc {α : Type} {l : List α} {x y : α} {i : Nat} (h : (l ++ [x])[i]? = some y) : (i < l.length ∧ l[i]? = some y) ∨ (i = l.length ∧ y = x) := by
  rcases Nat.lt_or_ge i l.length with hlt | hge
  · left; rw [List.getElem?_append_left hlt] at h; exact ⟨hlt, h⟩
  · right
    rw [List.getElem?_append_right hge] at h
    obtain ⟨q1, q2⟩ := List.getElem?_eq_some_iff.1 h
    simp at q1 q2
    exact ⟨by omega, q2.symm⟩
theorem HRow.some {W : World} {a : Option Addr} {c n : Nat} {X : List En} (h : HRow W (.slice a n c) X) (hn : 0 < n) : ∃ g, a = some ⟨g, 0, none⟩ ∧ n ≤ c := by
  have hX : n = X.length := by
    obtain ⟨a', c', e', -⟩ := slice_form h
    simp only [Value.slice.injEq] at e'
    exact e'.2.1
  rcases h.2 with ⟨e, e2⟩ | ⟨g, cap, cur, e, -, -, h5, -⟩
  · omega
  · simp only [Value.slice.injEq] at e
    exact ⟨g, e.1, by rw [e.2.2]; omega⟩
end Go.Proofs.Ytbkbnhdeleoibaa
