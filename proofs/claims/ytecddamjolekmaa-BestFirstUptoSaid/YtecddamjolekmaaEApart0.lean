/-
  DERIVED. A list of the call's own is written full and grown: what it lay in is kept.
-/
import Derived.Test.YtecddamjolekmaaERef5
import Derived.Test.YtecddamjolekmaaEParts0
import Derived.Maps.AppendAt
set_option linter.unusedVariables false
set_option linter.unusedSimpArgs false
namespace Go.Proofs.Ytecddamjolekmaa
open Go.RowKit
/-- append onto a slice of the call's own: it lies where it lay, or anew, and then all is kept. -/
theorem run_append_keep {P : Program} (w : World) (base : Nat) (t ty e : TypeId) (i : TypeInfo) (z : Value) (size bytes : Nat) (ht : P.underlying t = some (.slice e)) (hi : P.info? e = some i) (hz : i.zero = some z)
    (hsize : i.size = size) (hby : i.bytes = bytes) (hzs : z.cells.size = size) (hsz : 0 < size)
    (v : Value) (n : Nat) (xs : List Value) (hown : w.ownsRow base e size v n xs)
    (a : Addr) (m c : Nat) (news : List Value) (hl : news.length = m * size) (hnews : ∀ j u, news[j]? = some u → w.cell? (a.add j) = some u) (h1 : ∀ u ∈ news, u.oneCell' = true)
    (h63 : n + m ≤ maxLen) (hbytes : (n + m) * bytes ≤ 140737488355328) (hbase : base ≤ w.heap.size) :
    ∃ v' w', (Builtin.append_ #[t, t] ty #[v, .slice (some a) m c]).run P w = .ok v' w' ∧ w'.ownsRow base e size v' (n + m) (xs ++ news) ∧ w.grownBy w' v.ownBlock ∧
      ((∃ g cap, v = .slice (some ⟨g, 0, none⟩) n cap ∧ v' = .slice (some ⟨g, 0, none⟩) (n + m) cap) ∨ (v'.ownBlock = v.ownBlock ∧ v.ownBlock = none) ∨ (v'.ownBlock = some w.heap.size ∧ ∀ k, k < w.heap.size → w'.heap[k]? = w.heap[k]?)) := by
  obtain ⟨v', w', hr, h2, h3, h4, h5⟩ := run_append_own_at (P := P) w base t ty e i z size bytes ht hi hz hsize hby hzs hsz v n xs hown a m c news hl hnews h1 h63 hbytes hbase
  refine ⟨v', w', hr, h2, h3, ?_⟩
  subst hsize
  subst hby
  have hown' := hown
  rcases hown.2 with ⟨rfl, rfl⟩ | ⟨g, cap, cur, rfl, hbg, hg, hnc, hcm, hcs, htake⟩
  · rcases h5 with h5 | h5
    · exact .inr (.inl ⟨h5, rfl⟩)
    · exact .inr (.inr ⟨h5, fun k hk => h3.block k hk (by simp [Value.ownBlock])⟩)
  · by_cases hroom : n + m ≤ cap
    · have hfit : n * i.size + news.length ≤ cur.size := by rw [hl, hcs, ← Nat.add_mul]; exact Nat.mul_le_mul_right _ hroom
      have hr2 := run_append_room (P := P) w t ty e i ht hi g n cap cur hg a m c news hl hnews h1 hroom hfit
      rw [hr2] at hr
      cases hr
      exact .inl ⟨g, cap, rfl, rfl⟩
    · have holds : ∀ j u, xs[j]? = some u → w.cell? ((⟨g, 0, none⟩ : Addr).add j) = some u := hown'.cells (g := g) rfl
      have hr2 := run_append_grow (P := P) w t ty e i z ht hi hz ⟨g, 0, none⟩ n cap xs hown'.1 holds a m c news hl hnews (by omega) (by simp only [maxLen] at h63; omega) (growslice_fits (by omega) hbytes)
      rw [hr2] at hr
      cases hr
      exact .inr (.inr ⟨rfl, fun k hk => heap_alloc_old w.drew _ hk⟩)
/-- The beginning of a row. -/
theorem row_pre {W : World} {g cap m n : Nat} {Y : List Ht} (h : HRow W (.slice (some ⟨g, 0, none⟩) m cap) Y) (hm : m = Y.length) (hn : n ≤ m) : HRow W (.slice (some ⟨g, 0, none⟩) n cap) (Y.take n) := by
  have hl : (Y.take n).length = n := by rw [List.length_take]; omega
  show W.ownsRow 0 28 3 _ (Y.take n).length _
  rw [hl]
  rcases h.2 with ⟨h0, _⟩ | ⟨g', c, cur, hv, k1, k2, k3, k4, k5, k6⟩
  · simp at h0
  · simp only [Value.slice.injEq, Option.some.injEq, Addr.mk.injEq] at hv
    obtain ⟨⟨rfl, -, -⟩, -, rfl⟩ := hv
    refine ⟨by rw [flat_len3, hl], .inr ⟨g, cap, cur, rfl, k1, k2, by omega, k4, k5, ?_⟩⟩
    have e : (cur.toList.take (Y.length * 3)).take (n * 3) = cur.toList.take (n * 3) := by rw [List.take_take]; congr 1; omega
    rw [← e, k6]
    conv => lhs; rw [← List.take_append_drop n Y, List.flatMap_append]
    rw [List.take_left' (by rw [flat_len3, hl])]
/-- One mark is put behind; the list that it grew from holds what it held. -/
theorem grow_one (W : World) (n t : Nat) (s l : Value) (h : Ht) (B : Nat) (hB : B ≤ W.heap.size) (hs : HRow W s (List.replicate n h)) (hl : HRow W l (List.replicate (n + t) h))
    (hrel : (∃ g cap, s = .slice (some ⟨g, 0, none⟩) n cap ∧ l = .slice (some ⟨g, 0, none⟩) (n + t) cap) ∨ ∀ b, l.ownBlock = some b → B ≤ b) (hsB : ∀ b, s.ownBlock = some b → b < B) (hsz : (n + t + 1) * 32 ≤ 140737488355328) :
    ∃ l' W', (Builtin.append_ #[24, 24] 24 #[l, .slice (some ⟨W.heap.size, 0, none⟩) 1 1]).run Try.prog (W.alloc (.cells (hC h).toArray 28)) = .ok l' W' ∧ HRow W' l' (List.replicate (n + (t + 1)) h) ∧ HRow W' s (List.replicate n h) ∧
      ((∃ g cap, s = .slice (some ⟨g, 0, none⟩) n cap ∧ l' = .slice (some ⟨g, 0, none⟩) (n + (t + 1)) cap) ∨ ∀ b, l'.ownBlock = some b → B ≤ b) ∧ Stay (fun k => s.ownBlock = some k ∨ l.ownBlock = some k) W W' := by
  obtain ⟨i0, hi, hz0, hz1, hz2⟩ := info_parts infoHt
  have bA : Below W.heap.size W (W.alloc (.cells (hC h).toArray 28)) := (Below.refl _ W).alloc (Nat.le_refl _) _
  have hlA := HRow.below hl bA
  have hll : (List.replicate (n + t) h).length = n + t := by simp
  have hlA' : (W.alloc (.cells (hC h).toArray 28)).ownsRow 0 28 3 l (n + t) ((List.replicate (n + t) h).flatMap hC) := by have := hlA; unfold HRow at this; rw [hll] at this; exact this
  obtain ⟨l', W', hap, ho, hg, hk⟩ := run_append_keep (P := Try.prog) (W.alloc (.cells (hC h).toArray 28)) 0 24 24 28 i0 _ 3 32 Try.underlying24 hi hz0 hz1 hz2 rfl (by decide) l (n + t) _ hlA' ⟨W.heap.size, 0, none⟩ 1 1 (hC h) rfl (fun j u hu => new_cells W (hC h) 28 j u hu) (fun u hu => by
    simp [hC] at hu
    rcases hu with rfl | rfl | rfl <;> rfl) (by unfold maxLen; omega) (by omega) (Nat.zero_le _)
  have hrep : (List.replicate (n + t) h).flatMap hC ++ hC h = (List.replicate (n + (t + 1)) h).flatMap hC := by
    rw [show n + (t + 1) = (n + t) + 1 by omega, List.replicate_succ', List.flatMap_append]; simp
  have hl' : HRow W' l' (List.replicate (n + (t + 1)) h) := by
    show W'.ownsRow 0 28 3 l' _ _
    rw [List.length_replicate, ← hrep, ← Nat.add_assoc]; exact ho
  have st : Stay (fun k => l.ownBlock = some k) (W.alloc (.cells (hC h).toArray 28)) W' := .grown hg (fun k hk => hk)
  have hsA := HRow.below hs bA
  have sW : Stay (fun k => s.ownBlock = some k ∨ l.ownBlock = some k) W W' := (Stay.below bA).andThen (st.mono (fun k _ e => (show s.ownBlock = some k ∨ l.ownBlock = some k from .inr e))) (fun k _ e => e)
  refine ⟨l', W', hap, hl', ?_, ?_, sW⟩
  · rcases hk with ⟨g, cap, e1, e2⟩ | ⟨e1, e2⟩ | ⟨e1, e2⟩
    · rcases hrel with ⟨g', cap', f1, f2⟩ | f
      · rw [e1] at f2
        simp only [Value.slice.injEq, Option.some.injEq, Addr.mk.injEq] at f2
        obtain ⟨⟨rfl, -, -⟩, -, rfl⟩ := f2
        have := row_pre (n := n) (by rw [e2] at hl'; exact hl') (by rw [List.length_replicate, Nat.add_assoc]) (by omega)
        rw [f1]
        have e3 : (List.replicate (n + (t + 1)) h).take n = List.replicate n h := by rw [List.take_replicate, Nat.min_eq_left (by omega)]
        rw [e3] at this
        exact this
      · exact row_kept hsA st (fun k hk e => by have := f k e; have := hsB k hk; omega)
    · exact row_kept hsA st (fun k hk e => by rw [e2] at e; cases e)
    · refine row_kept (F := fun _ => False) hsA ⟨hg.os, hg.tape, hg.output, hg.size, fun k hk _ => e2 k hk⟩ (fun _ _ h => h)
  · rcases hk with ⟨g, cap, e1, e2⟩ | ⟨e1, e2⟩ | ⟨e1, e2⟩
    · rcases hrel with ⟨g', cap', f1, f2⟩ | f
      · rw [e1] at f2
        simp only [Value.slice.injEq, Option.some.injEq, Addr.mk.injEq] at f2
        obtain ⟨⟨rfl, -, -⟩, -, rfl⟩ := f2
        exact .inl ⟨g, cap, f1, by rw [e2, Nat.add_assoc]⟩
      · right; intro b hb
        refine f b ?_
        rw [e2] at hb
        rw [e1]; exact hb
    · right; intro b hb
      rw [e1, e2] at hb; cases hb
    · right; intro b hb
      rw [e1] at hb; cases hb
      exact Nat.le_trans hB bA.size
end Go.Proofs.Ytecddamjolekmaa
