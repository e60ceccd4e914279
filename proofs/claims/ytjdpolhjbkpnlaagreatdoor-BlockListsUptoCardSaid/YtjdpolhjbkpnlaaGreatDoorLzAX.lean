/-
  DERIVED. BAp0, BAp, BApW, as one text.
-/
import Derived.Test.YtjdpolhjbkpnlaaGreatDoorLzAW
import Derived.Maps.AppendAt
set_option linter.unusedVariables false
set_option linter.unusedSimpArgs false
namespace Go.Proofs.YtjdpolhjbkpnlaaGreatDoor.Ap
open Go.RowKit
/-- A kind of elements: its type, that of slices of it and of slices of these, its cells. -/
structure El (α : Type) where
  ty : TypeId
  sl : TypeId
  ll : TypeId
  sz : Nat
  by' : Nat
  z : Value
  f : α → List Value
structure El.Ok {α : Type} (E : El α) (P : Program) : Prop where
  hf : ∀ x, (E.f x).length = E.sz
  one : ∀ x, ∀ u ∈ E.f x, u.oneCell' = true
  pos : 0 < E.sz
  zs : E.z.cells.size = E.sz
  by1 : E.by' ≤ 64
  info : (P.info? E.ty).map (fun i => (i.zero, i.size, i.bytes)) = some (some E.z, E.sz, E.by')
  und : P.underlying E.sl = some (.slice E.ty)
  info2 : (P.info? E.sl).map (fun i => (i.zero, i.size, i.bytes)) = some (some (.slice none 0 0), 1, 24)
  und2 : P.underlying E.ll = some (.slice E.sl)
  ne : E.ty ≠ E.sl
/-- A row of the call's own that holds these. -/
def El.Row {α : Type} (E : El α) (W : World) (v : Value) (X : List α) : Prop := W.ownsRow 0 E.ty E.sz v X.length (X.flatMap E.f)
theorem El.Ok.len {α : Type} {E : El α} {P : Program} (h : E.Ok P) (l : List α) : (l.flatMap E.f).length = l.length * E.sz := by
  induction l with
  | nil => simp
  | cons x l ih => rw [List.flatMap_cons, List.length_append, ih, h.hf, List.length_cons, Nat.succ_mul, Nat.add_comm]
theorem El.Ok.ones {α : Type} {E : El α} {P : Program} (h : E.Ok P) (l : List α) : ∀ u ∈ l.flatMap E.f, u.oneCell' = true := fun u hu => by
  obtain ⟨e, _, he⟩ := List.mem_flatMap.1 hu
  exact h.one e u he
theorem El.Row.below {α : Type} {E : El α} {w w' : World} {v : Value} {X : List α} (h : E.Row w v X) (b : Below w.heap.size w w') : E.Row w' v X := row_kept (F := fun _ => False) h (.below b) (fun _ _ h => h)
theorem El.Row.nil {α : Type} (E : El α) (W : World) : E.Row W (.slice none 0 0) [] := ⟨by simp, .inl ⟨rfl, rfl⟩⟩
theorem El.Row.form {α : Type} {E : El α} {W : World} {v : Value} {X : List α} (h : E.Row W v X) : ∃ a c, v = .slice a X.length c ∧ X.length ≤ c := slice_form h
theorem cells_new (W : World) (cs : List Value) (t : TypeId) (j : Nat) (u : Value) (hu : cs[j]? = some u) : (W.alloc (.cells cs.toArray t)).cell? ((⟨W.heap.size, 0, none⟩ : Addr).add j) = some u := by
  have e : (⟨W.heap.size, 0, none⟩ : Addr).add j = ⟨W.heap.size, j, none⟩ := by unfold Addr.add; split <;> simp_all
  rw [e, cell_of_row _ _ j _ t (0, 0) (heap_alloc_last W _)]
  simpa using hu
/-- append onto a slice of the call's own: it lies where it lay, or anew, and then all is kept. -/
theorem run_append_keep {P : Program} (w : World) (base : Nat) (t ty e : TypeId) (i : TypeInfo) (z : Value) (size bytes : Nat) (ht : P.underlying t = some (.slice e)) (hi : P.info? e = some i) (hz : i.zero = some z)
    (hsize : i.size = size) (hby : i.bytes = bytes) (hzs : z.cells.size = size) (hsz : 0 < size)
    (v : Value) (n : Nat) (xs : List Value) (hown : w.ownsRow base e size v n xs)
    (a : Addr) (m c : Nat) (news : List Value) (hl : news.length = m * size) (hnews : ∀ j u, news[j]? = some u → w.cell? (a.add j) = some u) (h1 : ∀ u ∈ news, u.oneCell' = true)
    (h63 : n + m ≤ maxLen) (hbytes : (n + m) * bytes ≤ 140737488355328) (hbase : base ≤ w.heap.size) :
    ∃ v' w', (Builtin.append_ #[t, t] ty #[v, .slice (some a) m c]).run P w = .ok v' w' ∧ w'.ownsRow base e size v' (n + m) (xs ++ news) ∧ w.grownBy w' v.ownBlock ∧
      ((∃ g cap, v = .slice (some ⟨g, 0, none⟩) n cap ∧ v' = .slice (some ⟨g, 0, none⟩) (n + m) cap) ∨ (v'.ownBlock = v.ownBlock ∧ v.ownBlock = none) ∨ (v'.ownBlock = some w.heap.size ∧ ∀ k, k < w.heap.size → w'.heap[k]? = w.heap[k]?)) := by
  obtain ⟨v', w', hr, h2, h3, h4, h5⟩ := run_append_own_at (P := P) w base t ty e i z size bytes ht hi hz hsize hby hzs hsz v n xs hown a m c news hl hnews h1 h63 hbytes hbase
  refine ⟨v', w', hr, h2, h3, ?_⟩
  subst hsize
  subst hby
  have hown' := hown
  rcases hown.2 with ⟨rfl, rfl⟩ | ⟨g, cap, cur, rfl, hbg, hg, hnc, hcm, hcs, htake⟩
  · rcases h5 with h5 | h5
    · exact .inr (.inl ⟨h5, rfl⟩)
    · exact .inr (.inr ⟨h5, fun k hk => h3.block k hk (by simp [Value.ownBlock])⟩)
  · by_cases hroom : n + m ≤ cap
    · have hfit : n * i.size + news.length ≤ cur.size := by rw [hl, hcs, ← Nat.add_mul]; exact Nat.mul_le_mul_right _ hroom
      have hr2 := run_append_room (P := P) w t ty e i ht hi g n cap cur hg a m c news hl hnews h1 hroom hfit
      rw [hr2] at hr
      cases hr
      exact .inl ⟨g, cap, rfl, rfl⟩
    · have holds : ∀ j u, xs[j]? = some u → w.cell? ((⟨g, 0, none⟩ : Addr).add j) = some u := hown'.cells (g := g) rfl
      have hr2 := run_append_grow (P := P) w t ty e i z ht hi hz ⟨g, 0, none⟩ n cap xs hown'.1 holds a m c news hl hnews (by omega) (by simp only [maxLen] at h63; omega) (growslice_fits (by omega) hbytes)
      rw [hr2] at hr
      cases hr
      exact .inr (.inr ⟨rfl, fun k hk => heap_alloc_old w.drew _ hk⟩)
/-- One element, written out in a new block, is put behind. -/
theorem El.app1 {α : Type} {E : El α} {P : Program} (ok : E.Ok P) (W : World) (X : List α) (v : Value) (h : E.Row W v X) (x : α) (hb : (X.length + 1) * E.by' ≤ 140737488355328) (hb2 : X.length < 4611686018427387904) :
    ∃ v' W', (Builtin.append_ #[E.sl, E.sl] E.sl #[v, .slice (some ⟨W.heap.size, 0, none⟩) 1 1]).run P (W.alloc (.cells (E.f x).toArray E.ty)) = .ok v' W' ∧ E.Row W' v' (X ++ [x]) ∧ Stay (fun k => v.ownBlock = some k) W W' ∧ (∀ k, v'.ownBlock = some k → v.ownBlock = some k ∨ W.heap.size ≤ k) := by
  obtain ⟨i0, hi, hz0, hz1, hz2⟩ := info_parts ok.info
  have hby := ok.by1
  have bA : Below W.heap.size W (W.alloc (.cells (E.f x).toArray E.ty)) := (Below.refl _ W).alloc (Nat.le_refl _) _
  obtain ⟨v', W', hap, ho, hg, -, hloc⟩ := run_append_own_at (P := P) (W.alloc (.cells (E.f x).toArray E.ty)) 0 E.sl E.sl E.ty i0 _ E.sz E.by' ok.und hi hz0 hz1 hz2 ok.zs ok.pos v X.length _ (El.Row.below h bA) ⟨W.heap.size, 0, none⟩ 1 1 (E.f x) (by rw [ok.hf, Nat.one_mul]) (fun j u hu => cells_new W (E.f x) E.ty j u hu) (ok.one x) (by unfold maxLen; omega) hb (Nat.zero_le _)
  refine ⟨v', W', hap, by show W'.ownsRow 0 E.ty E.sz v' (X ++ [x]).length _; rw [List.length_append, List.flatMap_append]; simpa using ho, (Stay.below bA).trans (.grown hg (fun k hk => hk)), fun k hk => ?_⟩
  rcases hloc with hl | hl
  · exact .inl (hl ▸ hk)
  · rw [hl] at hk; cases hk; exact .inr bA.size
/-- The beginning of a row. -/
theorem El.pre {α : Type} {E : El α} {P : Program} (ok : E.Ok P) {W : World} {g cap m n : Nat} {Y : List α} (h : E.Row W (.slice (some ⟨g, 0, none⟩) m cap) Y) (hm : m = Y.length) (hn : n ≤ m) : E.Row W (.slice (some ⟨g, 0, none⟩) n cap) (Y.take n) := by
  have hl : (Y.take n).length = n := by rw [List.length_take]; omega
  show W.ownsRow 0 E.ty E.sz _ (Y.take n).length _
  rw [hl]
  rcases h.2 with ⟨h0, _⟩ | ⟨g', c, cur, hv, k1, k2, k3, k4, k5, k6⟩
  · simp at h0
  · simp only [Value.slice.injEq, Option.some.injEq, Addr.mk.injEq] at hv
    obtain ⟨⟨rfl, -, -⟩, -, rfl⟩ := hv
    refine ⟨by rw [ok.len, hl], .inr ⟨g, cap, cur, rfl, k1, k2, by omega, k4, k5, ?_⟩⟩
    have e : (cur.toList.take (Y.length * E.sz)).take (n * E.sz) = cur.toList.take (n * E.sz) := by
      rw [List.take_take]; congr 1
      exact Nat.min_eq_left (Nat.mul_le_mul_right _ (by omega))
    rw [← e, k6]
    conv => lhs; rw [← List.take_append_drop n Y, List.flatMap_append]
    rw [List.take_left' (by rw [ok.len, hl])]
/-- One mark is put behind; the list that it grew from holds what it held. -/
theorem El.grow {α : Type} {E : El α} {P : Program} (ok : E.Ok P) (W : World) (n t : Nat) (s l : Value) (h : α) (B : Nat) (hB : B ≤ W.heap.size) (hs : E.Row W s (List.replicate n h)) (hl : E.Row W l (List.replicate (n + t) h))
    (hrel : (∃ g cap, s = .slice (some ⟨g, 0, none⟩) n cap ∧ l = .slice (some ⟨g, 0, none⟩) (n + t) cap) ∨ ∀ b, l.ownBlock = some b → B ≤ b) (hsB : ∀ b, s.ownBlock = some b → b < B) (hsz : n + t ≤ 1099511627776) :
    ∃ l' W', (Builtin.append_ #[E.sl, E.sl] E.sl #[l, .slice (some ⟨W.heap.size, 0, none⟩) 1 1]).run P (W.alloc (.cells (E.f h).toArray E.ty)) = .ok l' W' ∧ E.Row W' l' (List.replicate (n + (t + 1)) h) ∧ E.Row W' s (List.replicate n h) ∧
      ((∃ g cap, s = .slice (some ⟨g, 0, none⟩) n cap ∧ l' = .slice (some ⟨g, 0, none⟩) (n + (t + 1)) cap) ∨ ∀ b, l'.ownBlock = some b → B ≤ b) ∧ Stay (fun k => s.ownBlock = some k ∨ l.ownBlock = some k) W W' := by
  obtain ⟨i0, hi, hz0, hz1, hz2⟩ := info_parts ok.info
  have hby := ok.by1
  have bA : Below W.heap.size W (W.alloc (.cells (E.f h).toArray E.ty)) := (Below.refl _ W).alloc (Nat.le_refl _) _
  have hlA := El.Row.below hl bA
  have hll : (List.replicate (n + t) h).length = n + t := by simp
  have hlA' : (W.alloc (.cells (E.f h).toArray E.ty)).ownsRow 0 E.ty E.sz l (n + t) ((List.replicate (n + t) h).flatMap E.f) := by have := hlA; unfold El.Row at this; rw [hll] at this; exact this
  obtain ⟨l', W', hap, ho, hg, hk⟩ := run_append_keep (P := P) (W.alloc (.cells (E.f h).toArray E.ty)) 0 E.sl E.sl E.ty i0 _ E.sz E.by' ok.und hi hz0 hz1 hz2 ok.zs ok.pos l (n + t) _ hlA' ⟨W.heap.size, 0, none⟩ 1 1 (E.f h) (by rw [ok.hf, Nat.one_mul]) (fun j u hu => cells_new W (E.f h) E.ty j u hu) (ok.one h) (by unfold maxLen; omega) (by
    have : (n + t + 1) * E.by' ≤ (n + t + 1) * 64 := Nat.mul_le_mul_left _ hby
    omega) (Nat.zero_le _)
  have hrep : (List.replicate (n + t) h).flatMap E.f ++ E.f h = (List.replicate (n + (t + 1)) h).flatMap E.f := by
    rw [show n + (t + 1) = (n + t) + 1 by omega, List.replicate_succ', List.flatMap_append]; simp
  have hl' : E.Row W' l' (List.replicate (n + (t + 1)) h) := by
    show W'.ownsRow 0 E.ty E.sz l' _ _
    rw [List.length_replicate, ← hrep, ← Nat.add_assoc]; exact ho
  have st : Stay (fun k => l.ownBlock = some k) (W.alloc (.cells (E.f h).toArray E.ty)) W' := .grown hg (fun k hk => hk)
  have hsA := El.Row.below hs bA
  have sW : Stay (fun k => s.ownBlock = some k ∨ l.ownBlock = some k) W W' := (Stay.below bA).andThen (st.mono (fun k _ e => (show s.ownBlock = some k ∨ l.ownBlock = some k from .inr e))) (fun k _ e => e)
  refine ⟨l', W', hap, hl', ?_, ?_, sW⟩
  · rcases hk with ⟨g, cap, e1, e2⟩ | ⟨e1, e2⟩ | ⟨e1, e2⟩
    · rcases hrel with ⟨g', cap', f1, f2⟩ | f
      · rw [e1] at f2
        simp only [Value.slice.injEq, Option.some.injEq, Addr.mk.injEq] at f2
        obtain ⟨⟨rfl, -, -⟩, -, rfl⟩ := f2
        have := El.pre ok (n := n) (by rw [e2] at hl'; exact hl') (by rw [List.length_replicate, Nat.add_assoc]) (by omega)
        rw [f1]
        have e3 : (List.replicate (n + (t + 1)) h).take n = List.replicate n h := by rw [List.take_replicate, Nat.min_eq_left (by omega)]
        rw [e3] at this
        exact this
      · exact row_kept hsA st (fun k hk e => by have := f k e; have := hsB k hk; omega)
    · exact row_kept hsA st (fun k hk e => by rw [e2] at e; cases e)
    · refine row_kept (F := fun _ => False) hsA ⟨hg.os, hg.tape, hg.output, hg.size, fun k hk _ => e2 k hk⟩ (fun _ _ h => h)
  · rcases hk with ⟨g, cap, e1, e2⟩ | ⟨e1, e2⟩ | ⟨e1, e2⟩
    · rcases hrel with ⟨g', cap', f1, f2⟩ | f
      · rw [e1] at f2
        simp only [Value.slice.injEq, Option.some.injEq, Addr.mk.injEq] at f2
        obtain ⟨⟨rfl, -, -⟩, -, rfl⟩ := f2
        exact .inl ⟨g, cap, f1, by rw [e2, Nat.add_assoc]⟩
      · right; intro b hb
        refine f b ?_
        rw [e2] at hb
        rw [e1]; exact hb
    · right; intro b hb
      rw [e1, e2] at hb; cases hb
    · right; intro b hb
      rw [e1] at hb; cases hb
      exact Nat.le_trans hB bA.size
/-- A slice is put behind slices. -/
theorem El.more {α : Type} {E : El α} {P : Program} (ok : E.Ok P) (W : World) (ms : List Value) (a : Option Addr) (c : Nat) (h : W.ownsRow 0 E.sl 1 (.slice a ms.length c) ms.length ms) (hl : ms.length ≤ 2097152) (l : Value) (h1c : l.oneCell' = true) :
    ∃ a' c' W', (Builtin.append_ #[E.ll, E.ll] E.ll #[.slice a ms.length c, .slice (some ⟨W.heap.size, 0, none⟩) 1 1]).run P (W.alloc (.cells #[l] E.sl)) = .ok (.slice a' (ms.length + 1) c') W' ∧ W'.ownsRow 0 E.sl 1 (.slice a' (ms.length + 1) c') (ms ++ [l]).length (ms ++ [l]) ∧
      Stay (fun k => (Value.slice a ms.length c).ownBlock = some k) W W' ∧ ∀ b, (Value.slice a' (ms.length + 1) c').ownBlock = some b → (Value.slice a ms.length c).ownBlock = some b ∨ W.heap.size ≤ b := by
  obtain ⟨i0, hi, hz0, hz1, hz2⟩ := info_parts ok.info2
  have bA : Below W.heap.size W (W.alloc (.cells #[l] E.sl)) := (Below.refl _ W).alloc (Nat.le_refl _) _
  have h2A := row_kept h (F := fun _ => False) (.below bA) (fun _ _ h => h)
  obtain ⟨v', W', hap, ho, hg, -, hloc⟩ := run_append_own_at (P := P) (W.alloc (.cells #[l] E.sl)) 0 E.ll E.ll E.sl i0 _ 1 24 ok.und2 hi hz0 hz1 hz2 rfl (by decide) _ ms.length _ h2A ⟨W.heap.size, 0, none⟩ 1 1 [l] rfl (fun j u hu => cells_new W [l] E.sl j u hu) (fun u hu => by simp at hu; subst hu; exact h1c) (by unfold maxLen; omega) (by omega) (Nat.zero_le _)
  obtain ⟨a', c', rfl, -⟩ := slice_form ho
  have st : Stay (fun k => (Value.slice a ms.length c).ownBlock = some k) (W.alloc (.cells #[l] E.sl)) W' := .grown hg (fun k hk => hk)
  refine ⟨a', c', W', hap, by rw [List.length_append]; exact ho, (Stay.below bA).trans st, fun b hb => ?_⟩
  rcases hloc with e | e
  · exact .inl (e ▸ hb)
  · rw [e] at hb; cases hb; exact .inr bA.size
/-- The row's block and a list's are two. -/
theorem El.two {α : Type} {E : El α} {P : Program} (ok : E.Ok P) {W : World} {lv s : Value} {n : Nat} {xs : List Value} {r : List α} (h : W.ownsRow 0 E.sl 1 lv n xs) (k : E.Row W s r) {g : Nat} (h1 : lv.ownBlock = some g) : s.ownBlock ≠ some g := fun h2 => by
  obtain ⟨c1, e1⟩ := row_block h h1
  obtain ⟨c2, e2⟩ := row_block k h2
  rw [e1] at e2
  simp only [Option.some.injEq, Obj.cells.injEq] at e2
  exact ok.ne e2.2.1.symm
/-- Lists of the call's own, each in a block of its own. -/
structure El.AP {α : Type} (E : El α) (W : World) (lv : Value) (ss : List Value) (ns : List Nat) : Prop where
  len : ns.length = ss.length
  row : W.ownsRow 0 E.sl 1 lv ss.length ss
  each : ∀ (j : Nat) (s : Value) (n : Nat), ss[j]? = some s → ns[j]? = some n → ∃ X : List α, X.length = n ∧ E.Row W s X
  apart : ∀ (j l : Nat) (s u : Value) (b : Nat), ss[j]? = some s → ss[l]? = some u → s.ownBlock = some b → u.ownBlock = some b → j = l
/-- One mark is put behind; the list that it grew from holds what it held. -/
theorem El.growX {α : Type} {E : El α} {P : Program} (ok : E.Ok P) (W : World) (X : List α) (n t : Nat) (hX : X.length = n) (s l : Value) (h : α) (B : Nat) (hB : B ≤ W.heap.size) (hs : E.Row W s X) (hl : E.Row W l (X ++ List.replicate t h))
    (hrel : (∃ g cap, s = .slice (some ⟨g, 0, none⟩) n cap ∧ l = .slice (some ⟨g, 0, none⟩) (n + t) cap) ∨ ∀ b, l.ownBlock = some b → B ≤ b) (hsB : ∀ b, s.ownBlock = some b → b < B) (hsz : n + t ≤ 1099511627776) :
    ∃ l' W', (Builtin.append_ #[E.sl, E.sl] E.sl #[l, .slice (some ⟨W.heap.size, 0, none⟩) 1 1]).run P (W.alloc (.cells (E.f h).toArray E.ty)) = .ok l' W' ∧ E.Row W' l' (X ++ List.replicate (t + 1) h) ∧ E.Row W' s X ∧
      ((∃ g cap, s = .slice (some ⟨g, 0, none⟩) n cap ∧ l' = .slice (some ⟨g, 0, none⟩) (n + (t + 1)) cap) ∨ ∀ b, l'.ownBlock = some b → B ≤ b) ∧ Stay (fun k => s.ownBlock = some k ∨ l.ownBlock = some k) W W' := by
  obtain ⟨i0, hi, hz0, hz1, hz2⟩ := info_parts ok.info
  have hby := ok.by1
  have bA : Below W.heap.size W (W.alloc (.cells (E.f h).toArray E.ty)) := (Below.refl _ W).alloc (Nat.le_refl _) _
  have hlA := El.Row.below hl bA
  have hll : (X ++ List.replicate t h).length = n + t := by simp [hX]
  have hlA' : (W.alloc (.cells (E.f h).toArray E.ty)).ownsRow 0 E.ty E.sz l (n + t) ((X ++ List.replicate t h).flatMap E.f) := by have := hlA; unfold El.Row at this; rw [hll] at this; exact this
  obtain ⟨l', W', hap, ho, hg, hk⟩ := run_append_keep (P := P) (W.alloc (.cells (E.f h).toArray E.ty)) 0 E.sl E.sl E.ty i0 _ E.sz E.by' ok.und hi hz0 hz1 hz2 ok.zs ok.pos l (n + t) _ hlA' ⟨W.heap.size, 0, none⟩ 1 1 (E.f h) (by rw [ok.hf, Nat.one_mul]) (fun j u hu => cells_new W (E.f h) E.ty j u hu) (ok.one h) (by unfold maxLen; omega) (by
    have : (n + t + 1) * E.by' ≤ (n + t + 1) * 64 := Nat.mul_le_mul_left _ hby
    omega) (Nat.zero_le _)
  have hrep : (X ++ List.replicate t h).flatMap E.f ++ E.f h = (X ++ List.replicate (t + 1) h).flatMap E.f := by
    rw [List.replicate_succ', ← List.append_assoc, List.flatMap_append (ys := [h])]; simp
  have hl2 : (X ++ List.replicate (t + 1) h).length = n + t + 1 := by simp [hX]; omega
  have hl' : E.Row W' l' (X ++ List.replicate (t + 1) h) := by
    show W'.ownsRow 0 E.ty E.sz l' _ _
    rw [hl2, ← hrep]; exact ho
  have st : Stay (fun k => l.ownBlock = some k) (W.alloc (.cells (E.f h).toArray E.ty)) W' := .grown hg (fun k hk => hk)
  have hsA := El.Row.below hs bA
  have sW : Stay (fun k => s.ownBlock = some k ∨ l.ownBlock = some k) W W' := (Stay.below bA).andThen (st.mono (fun k _ e => (show s.ownBlock = some k ∨ l.ownBlock = some k from .inr e))) (fun k _ e => e)
  refine ⟨l', W', hap, hl', ?_, ?_, sW⟩
  · rcases hk with ⟨g, cap, e1, e2⟩ | ⟨e1, e2⟩ | ⟨e1, e2⟩
    · rcases hrel with ⟨g', cap', f1, f2⟩ | f
      · rw [e1] at f2
        simp only [Value.slice.injEq, Option.some.injEq, Addr.mk.injEq] at f2
        obtain ⟨⟨rfl, -, -⟩, -, rfl⟩ := f2
        have := El.pre ok (n := n) (by rw [e2] at hl'; exact hl') (by rw [hl2]) (by omega)
        rw [f1]
        have e3 : (X ++ List.replicate (t + 1) h).take n = X := by rw [List.take_left' hX]
        rw [e3] at this
        exact this
      · exact row_kept hsA st (fun k hk e => by have := f k e; have := hsB k hk; omega)
    · exact row_kept hsA st (fun k hk e => by rw [e2] at e; cases e)
    · refine row_kept (F := fun _ => False) hsA ⟨hg.os, hg.tape, hg.output, hg.size, fun k hk _ => e2 k hk⟩ (fun _ _ h => h)
  · rcases hk with ⟨g, cap, e1, e2⟩ | ⟨e1, e2⟩ | ⟨e1, e2⟩
    · rcases hrel with ⟨g', cap', f1, f2⟩ | f
      · rw [e1] at f2
        simp only [Value.slice.injEq, Option.some.injEq, Addr.mk.injEq] at f2
        obtain ⟨⟨rfl, -, -⟩, -, rfl⟩ := f2
        exact .inl ⟨g, cap, f1, by rw [e2, Nat.add_assoc]⟩
      · right; intro b hb
        refine f b ?_
        rw [e2] at hb
        rw [e1]; exact hb
    · right; intro b hb
      rw [e1, e2] at hb; cases hb
    · right; intro b hb
      rw [e1] at hb; cases hb
      exact Nat.le_trans hB bA.size
/-- While each is marked and grown. -/
structure El.AQ {α : Type} (E : El α) (X Y : Nat → List α) (w W : World) (ss : List Value) (ns : List Nat) (lv mv : Value) (ms : List Value) (i : Nat) : Prop where
  ml : ms.length = i
  len : ns.length = ss.length
  lrow : W.ownsRow 0 E.sl 1 lv ss.length ss
  mrow : W.ownsRow 0 E.sl 1 mv ms.length ms
  mnew : ∀ b, mv.ownBlock = some b → w.heap.size ≤ b
  lold : ∀ b, lv.ownBlock = some b → b < w.heap.size
  sold : ∀ (j : Nat) (s : Value) (b : Nat), ss[j]? = some s → s.ownBlock = some b → b < w.heap.size
  apart : ∀ (j l : Nat) (s u : Value) (b : Nat), ss[j]? = some s → ss[l]? = some u → s.ownBlock = some b → u.ownBlock = some b → j = l
  done : ∀ (j : Nat) (s m : Value) (n : Nat), ss[j]? = some s → ms[j]? = some m → ns[j]? = some n → E.Row W s (X j) ∧ E.Row W m (X j ++ Y j)
  left : ∀ (j : Nat) (s : Value) (n : Nat), i ≤ j → ss[j]? = some s → ns[j]? = some n → E.Row W s (X j)
  loc : ∀ (j : Nat) (s m : Value) (b : Nat), ss[j]? = some s → ms[j]? = some m → m.ownBlock = some b → s.ownBlock = some b ∨ w.heap.size ≤ b
  st : Stay (fun k => ∃ (j : Nat) (s : Value), ss[j]? = some s ∧ s.ownBlock = some k) w W
theorem El.AQ.start {α : Type} {E : El α} {X Y : Nat → List α} {w0 w : World} {lv : Value} {ss : List Value} {ns : List Nat} (hlen : ns.length = ss.length) (hrow : w.ownsRow 0 E.sl 1 lv ss.length ss) (hap : ∀ (j l : Nat) (s u : Value) (b : Nat), ss[j]? = some s → ss[l]? = some u → s.ownBlock = some b → u.ownBlock = some b → j = l) (hX : ∀ (j : Nat) (s : Value) (n : Nat), ss[j]? = some s → ns[j]? = some n → E.Row w s (X j)) : E.AQ X Y w w ss ns lv (.slice none 0 0) [] 0 :=
  ⟨rfl, hlen, hrow, ⟨rfl, .inl ⟨rfl, rfl⟩⟩, fun b hb => (by cases hb), fun b hb => row_lt hrow hb, fun j s b hs hb => by
    have hj : j < ns.length := by rw [hlen]; exact (List.getElem?_eq_some_iff.1 hs).1
    exact row_lt (hX j s _ hs (List.getElem?_eq_getElem hj)) hb, hap, fun j s m n hs hm hn => by simp at hm, fun j s n _ hs hn => hX j s n hs hn, fun j s m b hs hm => by simp at hm, .refl _ _⟩
theorem El.AQ.step {α : Type} {E : El α} {P : Program} (ok : E.Ok P) {X Y : Nat → List α} {w W W2 W3 : World} {ss : List Value} {ns : List Nat} {lv mv mv' : Value} {ms : List Value} {i n : Nat} {s l : Value} (q : E.AQ X Y w W ss ns lv mv ms i) (hs : ss[i]? = some s) (hn : ns[i]? = some n)
    (st : Stay (fun k => s.ownBlock = some k) W W2) (h1 : E.Row W2 s (X i)) (h2 : E.Row W2 l (X i ++ Y i)) (hrel : ∀ b, l.ownBlock = some b → s.ownBlock = some b ∨ W.heap.size ≤ b)
    (m3 : W3.ownsRow 0 E.sl 1 mv' (ms ++ [l]).length (ms ++ [l])) (st3 : Stay (fun k => mv.ownBlock = some k) W2 W3) (hnew : ∀ b, mv'.ownBlock = some b → mv.ownBlock = some b ∨ W2.heap.size ≤ b) : E.AQ X Y w W3 ss ns lv mv' (ms ++ [l]) (i + 1) := by
  have hWw : w.heap.size ≤ W.heap.size := q.st.size
  have hX := q.left i s n (Nat.le_refl _) hs hn
  have l2 : W2.ownsRow 0 E.sl 1 lv ss.length ss := row_kept q.lrow st (fun k hk e => El.two ok q.lrow hX hk e)
  have mr2 : W2.ownsRow 0 E.sl 1 mv ms.length ms := row_kept q.mrow st (fun k hk e => El.two ok q.mrow hX hk e)
  have k3 : ∀ {u : Value} {Y : List α}, E.Row W2 u Y → E.Row W3 u Y := fun {u Y} h => row_kept h st3 (fun k hk e => El.two ok mr2 h e hk)
  refine ⟨by simp [q.ml], q.len, row_kept l2 st3 (fun k hk e => by have := q.lold k hk; have := q.mnew k e; omega), m3, fun b hb => (hnew b hb).elim (q.mnew b) (fun h => Nat.le_trans hWw (Nat.le_trans st.size h)), q.lold, q.sold, q.apart, fun j u m n' hu hm hn' => ?_, fun j u n' hj hu hn' => ?_, fun j u m b hu hm hb => ?_, ?_⟩
  · rcases Nat.lt_or_ge j ms.length with hlt | hge
    · rw [List.getElem?_append_left hlt] at hm
      obtain ⟨d1, d2⟩ := q.done j u m n' hu hm hn'
      have hji : j ≠ i := by rw [← q.ml]; omega
      refine ⟨k3 (row_kept d1 st (fun k hk e => hji (q.apart j i u s k hu hs hk e))), k3 (row_kept d2 st (fun k hk e => ?_))⟩
      rcases q.loc j u m k hu hm hk with h | h
      · exact hji (q.apart j i u s k hu hs h e)
      · have := q.sold i s k hs e; omega
    · rw [List.getElem?_append_right hge] at hm
      obtain ⟨q1, q2⟩ := List.getElem?_eq_some_iff.1 hm
      simp at q1 q2
      have hji : j = i := by rw [← q.ml]; omega
      subst hji
      rw [hs] at hu
      rw [hn] at hn'
      cases hu; cases hn'
      rw [← q2]
      exact ⟨k3 h1, k3 h2⟩
  · have hY2 := q.left j u n' (by omega) hu hn'
    exact k3 (row_kept hY2 st (fun k hk e => by have := q.apart j i u s k hu hs hk e; omega))
  · rcases Nat.lt_or_ge j ms.length with hlt | hge
    · rw [List.getElem?_append_left hlt] at hm
      exact q.loc j u m b hu hm hb
    · rw [List.getElem?_append_right hge] at hm
      obtain ⟨q1, q2⟩ := List.getElem?_eq_some_iff.1 hm
      simp at q1 q2
      have hji : j = i := by rw [← q.ml]; omega
      subst hji
      rw [hs] at hu
      cases hu
      rw [← q2] at hb
      exact (hrel b hb).imp id (fun h => Nat.le_trans hWw h)
  · refine (q.st.andThen st (fun k _ e => ⟨i, s, hs, e⟩)).andThen st3 (fun k hk e => ?_)
    have := q.mnew k e
    omega
end Go.Proofs.YtjdpolhjbkpnlaaGreatDoor.Ap
set_option linter.unusedVariables false
set_option linter.unusedSimpArgs false
namespace Go.Proofs.YtjdpolhjbkpnlaaGreatDoor.Ap
open Go.RowKit Go.Proofs.SealMath
abbrev set5 (w : World) (g o : Nat) (a b c d e : Value) : World := ((((w.setCell ⟨g, o, none⟩ a).setCell ⟨g, o + 1, none⟩ b).setCell ⟨g, o + 2, none⟩ c).setCell ⟨g, o + 3, none⟩ d).setCell ⟨g, o + 4, none⟩ e
theorem row_at {w : World} {B e sz g m cap : Nat} {xs : List Value} (h : w.ownsRow B e sz (.slice (some ⟨g, 0, none⟩) m cap) m xs) (j : Nat) (hj : j < m * sz) : w.cell? ⟨g, j, none⟩ = xs[j]? ∧ ∀ j, w.frozen? ⟨g, j, none⟩ = false := by
  rcases h with ⟨h1, ⟨h2, h3⟩ | ⟨g', cap', cur, h2, h3, h4, h5, h6, h7, h8⟩⟩
  · cases h2
  · cases h2
    refine ⟨?_, fun j => by simp [World.frozen?, h4]⟩
    rw [← h8, List.getElem?_take_of_lt (by omega)]
    simp [World.cell?, h4]
def eH : El En := ⟨38, 34, 43, 5, 48, .agg #[.int .i64 0, .string ⟨#[]⟩, .int .i64 0, .int .i64 0, .bool false], enC⟩
theorem eH_ok : eH.Ok Tryz.prog := ⟨fun _ => rfl, fun x u hu => by
  simp [eH, enC] at hu
  rcases hu with rfl | rfl | rfl | rfl | rfl <;> rfl, by decide, rfl, by decide, by kernel_rfl, by kernel_rfl, by kernel_rfl, by kernel_rfl, by decide⟩
def mA (j : Nat) : En := ⟨-1 - (j : Int), ⟨#[]⟩, 0, 0, false⟩
def mB (j : Nat) : En := ⟨-101 - (j : Int), ⟨#[]⟩, 0, 0, false⟩
theorem flat_set5 : ∀ (X : List En) (i : Nat) (x : En), i < X.length → (((((X.flatMap enC).set (i * 5) (.int .i64 x.v)).set (i * 5 + 1) (.string x.c)).set (i * 5 + 2) (.int .i64 x.i)).set (i * 5 + 3) (.int .i64 x.s)).set (i * 5 + 4) (.bool x.d) = (X.set i x).flatMap enC
  | [], i, x, h => by simp at h
  | y :: X, 0, x, _ => by simp [enC]
  | y :: X, i + 1, x, h => by
    have ih := flat_set5 X i x (by simpa using h)
    rw [List.set_cons_succ, List.flatMap_cons, List.flatMap_cons, ← ih]
    have hl : (enC y).length = 5 := rfl
    rw [List.set_append_right _ _ (by omega), List.set_append_right _ _ (by omega), List.set_append_right _ _ (by omega), List.set_append_right _ _ (by omega), List.set_append_right _ _ (by omega), hl, show (i + 1) * 5 - 5 = i * 5 by omega, show (i + 1) * 5 + 1 - 5 = i * 5 + 1 by omega, show (i + 1) * 5 + 2 - 5 = i * 5 + 2 by omega, show (i + 1) * 5 + 3 - 5 = i * 5 + 3 by omega, show (i + 1) * 5 + 4 - 5 = i * 5 + 4 by omega]
theorem set_ht {W : World} {g cap n : Nat} {X : List En} (h : eH.Row W (.slice (some ⟨g, 0, none⟩) n cap) X) (hn : n = X.length) (i : Nat) (hi : i < X.length) (x : En) : eH.Row (set5 W g (i * 5) (.int .i64 x.v) (.string x.c) (.int .i64 x.i) (.int .i64 x.s) (.bool x.d)) (.slice (some ⟨g, 0, none⟩) n cap) (X.set i x) := by
  subst hn
  show (set5 W g (i * 5) _ _ _ _ _).ownsRow 0 38 5 _ (X.set i x).length ((X.set i x).flatMap enC)
  rw [List.length_set, ← flat_set5 X i x hi]
  exact (World.ownsRow.stored (World.ownsRow.stored (World.ownsRow.stored (World.ownsRow.stored (World.ownsRow.stored h _ _).1 _ _).1 _ _).1 _ _).1 _ _).1
theorem ht_at {W : World} {v : Value} {X : List En} (h : eH.Row W v X) (i : Nat) (hi : i < X.length) : ∃ g cap, v = .slice (some ⟨g, 0, none⟩) X.length cap ∧ W.cell? ⟨g, i * 5, none⟩ = some (.int .i64 X[i].v) ∧ W.cell? ⟨g, i * 5 + 1, none⟩ = some (.string X[i].c) ∧ W.cell? ⟨g, i * 5 + 2, none⟩ = some (.int .i64 X[i].i) ∧ W.cell? ⟨g, i * 5 + 3, none⟩ = some (.int .i64 X[i].s) ∧ W.cell? ⟨g, i * 5 + 4, none⟩ = some (.bool X[i].d) ∧ ∀ j, W.frozen? ⟨g, j, none⟩ = false := by
  rcases h.2 with ⟨h2, h3⟩ | ⟨g, cap, cur, h2, h3⟩
  · omega
  · subst h2
    have hf : ∀ j, j < 5 → (X.flatMap enC)[i * 5 + j]? = (enC X[i])[j]? := fun j hj => flat_at enC 5 enC_len X i j hi hj
    have hr : W.ownsRow 0 38 5 (.slice (some ⟨g, 0, none⟩) X.length cap) X.length (X.flatMap enC) := h
    refine ⟨g, cap, rfl, ?_, ?_, ?_, ?_, ?_, (row_at hr 0 (by omega)).2⟩
    · rw [(row_at hr (i * 5) (by omega)).1]; exact hf 0 (by omega)
    · rw [(row_at hr (i * 5 + 1) (by omega)).1]; exact hf 1 (by omega)
    · rw [(row_at hr (i * 5 + 2) (by omega)).1]; exact hf 2 (by omega)
    · rw [(row_at hr (i * 5 + 3) (by omega)).1]; exact hf 3 (by omega)
    · rw [(row_at hr (i * 5 + 4) (by omega)).1]; exact hf 4 (by omega)
/-- A slice of slices: its cells. -/
theorem sl_at {W : World} {v : Value} {ss : List Value} (h : W.ownsRow 0 34 1 v ss.length ss) (i : Nat) (hi : i < ss.length) : ∃ g cap, v = .slice (some ⟨g, 0, none⟩) ss.length cap ∧ W.cell? ⟨g, i, none⟩ = some ss[i] := by
  rcases h.2 with ⟨h2, h3⟩ | ⟨g, cap, cur, h2, h3⟩
  · omega
  · subst h2
    refine ⟨g, cap, rfl, ?_⟩
    rw [(row_at h i (by omega)).1, List.getElem?_eq_getElem hi]
/-- While each is marked. -/
structure AM (w W : World) (lv : Value) (ss : List Value) (ns : List Nat) (i : Nat) : Prop where
  len : ns.length = ss.length
  row : W.ownsRow 0 34 1 lv ss.length ss
  apart : ∀ (j l : Nat) (s u : Value) (b : Nat), ss[j]? = some s → ss[l]? = some u → s.ownBlock = some b → u.ownBlock = some b → j = l
  done : ∀ (j : Nat) (s : Value) (n : Nat), j < i → ss[j]? = some s → ns[j]? = some n → eH.Row W s (List.replicate n (mA j))
  left : ∀ (j : Nat) (s : Value) (n : Nat), i ≤ j → ss[j]? = some s → ns[j]? = some n → ∃ X : List En, X.length = n ∧ eH.Row W s X
  st : Stay (fun k => ∃ (j : Nat) (s : Value), ss[j]? = some s ∧ s.ownBlock = some k) w W
theorem AM.step {w W W2 : World} {lv : Value} {ss : List Value} {ns : List Nat} {i n : Nat} {s : Value} (q : AM w W lv ss ns i) (hs : ss[i]? = some s) (hn : ns[i]? = some n) (st : Stay (fun k => s.ownBlock = some k) W W2) (h1 : eH.Row W2 s (List.replicate n (mA i))) : AM w W2 lv ss ns (i + 1) := by
  obtain ⟨X, -, hX⟩ := q.left i s n (Nat.le_refl _) hs hn
  refine ⟨q.len, row_kept q.row st (fun k hk e => El.two eH_ok (E := eH) q.row hX hk e), q.apart, fun j u m hj hu hm => ?_, fun j u m hj hu hm => ?_, q.st.andThen st (fun k _ e => ⟨i, s, hs, e⟩)⟩
  · by_cases e : j = i
    · subst e
      rw [hs] at hu
      rw [hn] at hm
      cases hu; cases hm
      exact h1
    · exact row_kept (q.done j u m (by omega) hu hm) st (fun k hk e2 => e (q.apart j i u s k hu hs hk e2))
  · obtain ⟨Y, hY1, hY2⟩ := q.left j u m (by omega) hu hm
    exact ⟨Y, hY1, row_kept hY2 st (fun k hk e => by have := q.apart j i u s k hu hs hk e; omega)⟩
/-- A list while it is marked. -/
def MK (w1 : World) (s : Value) (n i k : Nat) (wr : World) : Prop := ∃ X : List En, X.length = n ∧ X.take k = List.replicate k (mA i) ∧ eH.Row wr s X ∧ Stay (fun b => s.ownBlock = some b) w1 wr
theorem MK.step {w1 wr : World} {g cap n i k : Nat} (h : MK w1 (.slice (some ⟨g, 0, none⟩) n cap) n i k wr) (hk : k < n) : MK w1 (.slice (some ⟨g, 0, none⟩) n cap) n i (k + 1) (set5 wr g (k * 5) (.int .i64 (-1 - (i : Int))) (.string ⟨#[]⟩) (.int .i64 0) (.int .i64 0) (.bool false)) := by
  obtain ⟨X, h1, h2, h3, h4⟩ := h
  have hkX : k < X.length := by omega
  refine ⟨X.set k (mA i), by rw [List.length_set]; exact h1, ?_, set_ht h3 h1.symm k hkX (mA i), h4.andThen (Stay.setCell (F := fun b => b = g) (Stay.setCell (F := fun b => b = g) (Stay.setCell (F := fun b => b = g) (Stay.setCell (F := fun b => b = g) (Stay.setCell (F := fun b => b = g) (Stay.refl _ wr) (fun _ => rfl) _) (fun _ => rfl) _) (fun _ => rfl) _) (fun _ => rfl) _) (fun _ => rfl) _) (fun b _ e => by rw [e]; rfl)⟩
  rw [List.take_succ_eq_append_getElem (by rw [List.length_set]; exact hkX), List.getElem_set_self, List.take_set_of_le (Nat.le_refl _), h2, List.replicate_succ']
/-- A list while it is grown. -/
def GW (w1 : World) (s : Value) (n i t : Nat) (l : Value) (wr : World) : Prop := eH.Row wr s (List.replicate n (mA i)) ∧ eH.Row wr l (List.replicate n (mA i) ++ List.replicate t (mB i)) ∧ Stay (fun k => s.ownBlock = some k) w1 wr ∧ ((∃ g cap, s = .slice (some ⟨g, 0, none⟩) n cap ∧ l = .slice (some ⟨g, 0, none⟩) (n + t) cap) ∨ ∀ b, l.ownBlock = some b → w1.heap.size ≤ b)
theorem GW.step {w1 wr : World} {s l : Value} {n i t : Nat} (h : GW w1 s n i t l wr) (hsB : ∀ b, s.ownBlock = some b → b < w1.heap.size) (hn : n + t ≤ 1099511627776) :
    ∃ l' W', (Builtin.append_ #[34, 34] 34 #[l, .slice (some ⟨wr.heap.size, 0, none⟩) 1 1]).run Tryz.prog (wr.alloc (.cells #[.int .i64 (-101 - (i : Int)), .string ⟨#[]⟩, .int .i64 0, .int .i64 0, .bool false] 38)) = .ok l' W' ∧ GW w1 s n i (t + 1) l' W' := by
  obtain ⟨h1, h2, h3, h4⟩ := h
  obtain ⟨l', W', e1, e2, e3, e4, e5⟩ := El.growX eH_ok wr (List.replicate n (mA i)) n t (by simp) s l (mB i) w1.heap.size h3.size h1 h2 h4 hsB hn
  refine ⟨l', W', e1, e3, e2, h3.andThen e5 (fun k hk e => ?_), ?_⟩
  · rcases e with e | e
    · exact e
    · rcases h4 with ⟨g, cap, f1, f2⟩ | f
      · rw [f1]; rw [f2] at e; exact e
      · have := f k e; omega
  · rcases e4 with ⟨g, cap, f1, f2⟩ | f
    · exact .inl ⟨g, cap, f1, f2⟩
    · exact .inr f
end Go.Proofs.YtjdpolhjbkpnlaaGreatDoor.Ap
set_option linter.unusedVariables false
set_option linter.unusedSimpArgs false
namespace Go.Proofs.YtjdpolhjbkpnlaaGreatDoor.Ap
open Go.RowKit Go.Proofs.SealMath
def Xf (ns : List Nat) (j : Nat) : List En := List.replicate (ns.getD j 0) (mA j)
def Yf (j : Nat) : List En := List.replicate 64 (mB j)
theorem Xf_at {ns : List Nat} {j n : Nat} (h : ns[j]? = some n) : Xf ns j = List.replicate n (mA j) := by unfold Xf; rw [List.getD_eq_getElem?_getD, h]; rfl
set_option maxHeartbeats 4000000 in
set_option maxRecDepth 100000 in
theorem apart_any (lv : Value) (ss : List Value) (ns : List Nat) (w : World) (h : AM w w lv ss ns 0) (hN : ss.length ≤ 1048576) (hn : ∀ n ∈ ns, n ≤ 1073741824) :
    Calls Tryz.prog 19 #[lv] w fun e w' => e = .returned (.bool true) ∧ Stay (fun k => ∃ (j : Nat) (s : Value), ss[j]? = some s ∧ s.ownBlock = some k) w w' := by
  obtain ⟨a0, c0, hlv, -⟩ := slice_form h.row
  obtain ⟨NN, hNN⟩ : ∃ NN, NN = ss.length := ⟨_, rfl⟩
  rw [← hNN] at hlv hN
  have HH := Hid.mk (And.intro hn (And.intro hNN h.len))
  have H0 := Hid.mk h
  subst hlv
  clear h hn hNN
  have pick : ∀ i, i < NN → ∃ s n, ss[i]? = some s ∧ ns[i]? = some n ∧ n ≤ 1073741824 := fun i hi => by
    obtain ⟨h1, h2, h3⟩ := HH.out
    have hj : i < ns.length := by omega
    exact ⟨ss[i]'(by omega), ns[i], List.getElem?_eq_getElem (by omega), List.getElem?_eq_getElem hj, h1 _ (List.getElem_mem hj)⟩
  have HP := Hid.mk pick
  clear pick
  go_enter Tryz.func19, Tryz.ntmps19
  go_wp2
  go_loopw [3, 4] (fun u3 u4 wr => ∃ i : Nat, u3 = .int .i64 i ∧ i ≤ NN ∧ Hid (AM w wr (.slice a0 NN c0) ss ns i)) (fun u _ _ => NN - (intOf u).toNat)
  case atStart => exact ⟨0, rfl, Nat.zero_le _, H0⟩
  case round =>
    clear H0
    obtain ⟨i, rfl, hi, HQ⟩ := hrel
    by_cases hlt : i < NN
    · obtain ⟨s, n, hs, hns, hnb⟩ := HP.out i hlt
      obtain ⟨w1, hw1⟩ : ∃ w1, w1 = wr := ⟨_, rfl⟩
      subst hw1
      obtain ⟨X0, hX1, hX2⟩ := HQ.out.left i s n (Nat.le_refl _) hs hns
      obtain ⟨sa, sc, hsf, -⟩ := slice_form hX2
      rw [hX1] at hsf
      have hcell : ∀ W', Stay (fun b => s.ownBlock = some b) w1 W' → ∃ g, a0 = some ⟨g, 0, none⟩ ∧ W'.cell? ⟨g, i, none⟩ = some s := fun W' st => by
        have hr := row_kept HQ.out.row st (fun k hk e => El.two eH_ok (E := eH) HQ.out.row hX2 hk e)
        obtain ⟨g, cap, e, hc⟩ := sl_at hr i (by rw [← HH.out.2.1]; exact hlt)
        rw [← HH.out.2.1] at e
        cases e
        refine ⟨g, rfl, ?_⟩
        rw [hc, ← List.getElem?_eq_getElem, hs]
      have HC := Hid.mk hcell
      have HM := Hid.mk (show MK w1 s n i 0 w1 from ⟨X0, hX1, rfl, hX2, .refl _ _⟩)
      have HS := Hid.mk (And.intro hs hns)
      subst hsf
      have i1 : (i : Int) < (NN : Int) := by omega
      have i2 : 0 ≤ (i : Int) := by omega
      have hwi : IntKind.i64.wrap ((i : Int) + 1) = ((i + 1 : Nat) : Int) := by rw [IntKind.wrap_i64]; omega
      have hwm : IntKind.i64.wrap (-1 - (i : Int)) = -1 - (i : Int) := by rw [IntKind.wrap_i64]; omega
      clear hs hns hX1 hX2 hcell
      go_wp2
      go_loopw [4] (fun u4 wr => ∃ k : Nat, u4 = .int .i64 k ∧ k ≤ n ∧ Hid (MK w1 (.slice sa n sc) n i k wr)) (fun u _ => n - (intOf u).toNat)
      case atStart => exact ⟨0, rfl, Nat.zero_le _, HM⟩
      case round =>
        clear HM
        obtain ⟨k, rfl, hk, HK⟩ := hrel
        obtain ⟨gl, hgl, cl⟩ := HC.out wr (by obtain ⟨X, -, -, -, st⟩ := HK.out; exact st)
        subst hgl
        by_cases hkn : k < n
        · have hx : ∃ g cap v0 v1 v2 v3 v4, Value.slice sa n sc = .slice (some ⟨g, 0, none⟩) n cap ∧ wr.cell? ⟨g, k * 5, none⟩ = some v0 ∧ wr.cell? ⟨g, k * 5 + 1, none⟩ = some v1 ∧ wr.cell? ⟨g, k * 5 + 2, none⟩ = some v2 ∧ wr.cell? ⟨g, k * 5 + 3, none⟩ = some v3 ∧ wr.cell? ⟨g, k * 5 + 4, none⟩ = some v4 ∧ ∀ j, wr.frozen? ⟨g, j, none⟩ = false := by
            obtain ⟨X, x1, x2, x3, x4⟩ := HK.out
            obtain ⟨g, cap, e, p0, p1, p2, p3, p4, pf⟩ := ht_at x3 k (by omega)
            rw [x1] at e
            exact ⟨g, cap, _, _, _, _, _, e, p0, p1, p2, p3, p4, pf⟩
          obtain ⟨g, cap, v0, v1, v2, v3, v4, e, p0, p1, p2, p3, p4, pf⟩ := hx
          cases e
          have f0 := pf (k * 5)
          have f1 := pf (k * 5 + 1)
          have f2 := pf (k * 5 + 2)
          have f3 := pf (k * 5 + 3)
          have f4 := pf (k * 5 + 4)
          have k1 : (k : Int) < (n : Int) := by omega
          have k2 : 0 ≤ (k : Int) := by omega
          have hwk : IntKind.i64.wrap ((k : Int) + 1) = ((k + 1 : Nat) : Int) := by rw [IntKind.wrap_i64]; omega
          have hnext := HK.out.step hkn
          have HNX := Hid.mk hnext
          clear hnext pf
          go_wp2
          exact ⟨⟨k + 1, by push_cast; rfl, hkn, HNX⟩, by simp only [intOf]; omega⟩
        · have k1 : ¬ (k : Int) < (n : Int) := by omega
          have hfin : AM w wr (.slice (some ⟨gl, 0, none⟩) NN c0) ss ns (i + 1) := by
            obtain ⟨X, x1, x2, x3, x4⟩ := HK.out
            refine HQ.out.step HS.out.1 HS.out.2 x4 ?_
            have hXe : X = List.replicate n (mA i) := by
              have hkn2 : k = n := by omega
              rw [← hkn2, ← x2, hkn2, List.take_of_length_le (by omega)]
            rw [hXe] at x3
            exact x3
          have HF := Hid.mk hfin
          clear hfin
          go_wp2
          exact ⟨⟨i + 1, by push_cast; rfl, hlt, HF⟩, by simp only [intOf]; omega⟩
    · have i1 : ¬ (i : Int) < (NN : Int) := by omega
      obtain ⟨w1, hw1⟩ : ∃ w1, w1 = wr := ⟨_, rfl⟩
      subst hw1
      have Q0 := Hid.mk (show eH.AQ (Xf ns) Yf w1 w1 ss ns (.slice a0 NN c0) (.slice none 0 0) [] 0 from El.AQ.start (w0 := w1) HQ.out.len HQ.out.row HQ.out.apart (fun j s n hs hns => by
        rw [Xf_at hns]
        exact HQ.out.done j s n (by have h1 := (List.getElem?_eq_some_iff.1 hs).1; have := HH.out.2.1; omega) hs hns))
      have HST := Hid.mk HQ.out.st
      clear HQ
      go_wp2
      go_loopw [5, 6, 7, 8] (fun u5 u6 u7 u8 wr => ∃ (i : Nat) (ma : Option Addr) (mc : Nat) (ms : List Value), u5 = .slice ma i mc ∧ u6 = .int .i64 i ∧ i ≤ NN ∧ Hid (eH.AQ (Xf ns) Yf w1 wr ss ns (.slice a0 NN c0) (.slice ma i mc) ms i)) (fun _ u _ _ _ => NN - (intOf u).toNat)
      case atStart => exact ⟨0, none, 0, [], rfl, rfl, Nat.zero_le _, Q0⟩
      case round =>
        clear Q0
        obtain ⟨i, ma, mc, ms, rfl, rfl, hi, HQ⟩ := hrel
        by_cases hlt : i < NN
        · obtain ⟨s, n, hs, hns, hnb⟩ := HP.out i hlt
          obtain ⟨w2, hw2⟩ : ∃ w2, w2 = wr := ⟨_, rfl⟩
          subst hw2
          have hX2 := HQ.out.left i s n (Nat.le_refl _) hs hns
          rw [Xf_at hns] at hX2
          obtain ⟨sa, sc, hsf, -⟩ := slice_form hX2
          rw [List.length_replicate] at hsf
          obtain ⟨gl, cap, e, hc⟩ := sl_at HQ.out.lrow i (by rw [← HH.out.2.1]; exact hlt)
          rw [← HH.out.2.1] at e
          cases e
          have hcs : w2.cell? ⟨gl, i, none⟩ = some s := by rw [hc, ← List.getElem?_eq_getElem, hs]
          have hsB : ∀ b, s.ownBlock = some b → b < w2.heap.size := fun b hb => row_lt hX2 hb
          have HG := Hid.mk (show GW w2 s n i 0 s w2 from ⟨hX2, by simpa using hX2, .refl _ _, by
            rcases hX2.2 with ⟨h0, h1⟩ | ⟨g, cap, cur, h0, -⟩
            · right; intro b hb; rw [h0] at hb; cases hb
            · left; rw [List.length_replicate] at h0; exact ⟨g, cap, h0, h0⟩⟩)
          have HS := Hid.mk (And.intro hs (And.intro hns hsB))
          have i1 : (i : Int) < (NN : Int) := by omega
          have i2 : 0 ≤ (i : Int) := by omega
          have hwi : IntKind.i64.wrap ((i : Int) + 1) = ((i + 1 : Nat) : Int) := by rw [IntKind.wrap_i64]; omega
          have hwm : IntKind.i64.wrap (-101 - (i : Int)) = -101 - (i : Int) := by rw [IntKind.wrap_i64]; omega
          subst hsf
          clear hs hns hX2 hc hsB
          go_wp2
          go_loopw [7, 8] (fun u7 u8 wr => ∃ (t : Nat) (la : Option Addr) (lc : Nat), u7 = .slice la (n + t) lc ∧ u8 = .int .i64 t ∧ t ≤ 64 ∧ Hid (GW w2 (.slice sa n sc) n i t (.slice la (n + t) lc) wr)) (fun _ u _ => 64 - (intOf u).toNat)
          case atStart => exact ⟨0, sa, sc, rfl, rfl, Nat.zero_le _, HG⟩
          case round =>
            clear HG
            obtain ⟨t, la, lc, rfl, rfl, ht, HK⟩ := hrel
            by_cases htl : t < 64
            · obtain ⟨l', W', hap, hgw⟩ := HK.out.step HS.out.2.2 (by omega)
              have t1 : (t : Int) < 64 := by omega
              have hwt : IntKind.i64.wrap ((t : Int) + 1) = ((t + 1 : Nat) : Int) := by rw [IntKind.wrap_i64]; omega
              obtain ⟨l2a, l2c, hl2, -⟩ := slice_form hgw.2.1
              have hlen : (List.replicate n (mA i) ++ List.replicate (t + 1) (mB i)).length = n + (t + 1) := by simp
              rw [hlen] at hl2
              subst hl2
              have HA := Hid.mk hap
              have HN2 := Hid.mk hgw
              clear hap hgw hlen
              go_wp2_with (first
                | (at_builtin; refine wpList_append_eq rfl _ _ _ _ rfl _ _ _ _ rfl rfl HA.out ?_)
                | go_in)
              exact ⟨⟨t + 1, l2a, l2c, rfl, by push_cast; rfl, htl, HN2⟩, by simp only [intOf]; omega⟩
            · have t1 : ¬ (t : Int) < 64 := by omega
              have ht64 : t = 64 := by omega
              subst ht64
              obtain ⟨k1, k2, k3, k4⟩ := HK.out
              have hml := HQ.out.ml
              have hmr : wr.ownsRow 0 34 1 (.slice ma ms.length mc) ms.length ms := by
                have := row_kept HQ.out.mrow k3 (fun k hk e => El.two eH_ok (E := eH) HQ.out.mrow (HQ.out.left i _ n (Nat.le_refl _) HS.out.1 HS.out.2.1) hk e)
                rw [hml]
                rw [hml] at this
                exact this
              obtain ⟨a', c', W', hap, m3, st3, hnew⟩ := El.more eH_ok wr ms ma mc hmr (by omega) (.slice la (n + 64) lc) rfl
              rw [hml] at hap m3 hnew st3
              have hst := HQ.out.step eH_ok HS.out.1 HS.out.2.1 k3 (by rw [Xf_at HS.out.2.1]; exact k1) (by rw [Xf_at HS.out.2.1]; exact k2) (fun b hb => by
                rcases k4 with ⟨g, cap, f1, f2⟩ | f
                · left; rw [f1]; rw [f2] at hb; exact hb
                · exact .inr (f b hb)) m3 st3 hnew
              have HA := Hid.mk hap
              have HN2 := Hid.mk hst
              clear hap hst k1 k2 k3 k4 hmr m3 st3 hnew hml
              go_wp2_with (first
                | (at_builtin; refine wpList_append_eq rfl _ _ _ _ rfl _ _ _ _ rfl rfl HA.out ?_)
                | go_in)
              exact ⟨⟨i + 1, a', c', _, rfl, by push_cast; rfl, hlt, HN2⟩, by simp only [intOf]; omega⟩
        · have i1 : ¬ (i : Int) < (NN : Int) := by omega
          have hie : i = NN := by omega
          subst hie
          obtain ⟨w3, hw3⟩ : ∃ w3, w3 = wr := ⟨_, rfl⟩
          subst hw3
          have HFS := Hid.mk (HST.out.andThen HQ.out.st (fun k _ e => e))
          go_wp2
          go_loopw [9, 10, 11] (fun u9 u10 u11 wr => ∃ j : Nat, u9 = .int .i64 j ∧ j ≤ i ∧ Drew w3 wr) (fun u _ _ _ => i - (intOf u).toNat)
          case atStart => exact ⟨0, rfl, Nat.zero_le _, Drew.refl _⟩
          case round =>
            obtain ⟨j, rfl, hj, hd⟩ := hrel
            obtain ⟨nq, rfl⟩ := hd
            by_cases hjl : j < i
            · obtain ⟨s, n, hs, hns, hnb⟩ := HP.out j hjl
              have hjm : j < ms.length := by rw [HQ.out.ml]; exact hjl
              obtain ⟨d1, d2⟩ := HQ.out.done j s ms[j] n hs (List.getElem?_eq_getElem hjm) hns
              rw [Xf_at hns] at d1 d2
              obtain ⟨gl, cap, e, hc⟩ := sl_at HQ.out.lrow j (by rw [← HH.out.2.1]; exact hjl)
              rw [← HH.out.2.1] at e
              cases e
              have hcs : w3.cell? ⟨gl, j, none⟩ = some s := by rw [hc, ← List.getElem?_eq_getElem, hs]
              have hmrow := HQ.out.mrow
              obtain ⟨gm, capm, em, hcm⟩ := sl_at hmrow j hjm
              rw [HQ.out.ml] at em
              cases em
              obtain ⟨sa, sc, hsf, -⟩ := slice_form d1
              rw [List.length_replicate] at hsf
              obtain ⟨la, lc, hlf, -⟩ := slice_form d2
              have hl64 : (List.replicate n (mA j) ++ Yf j).length = n + 64 := by simp [Yf]
              rw [hl64] at hlf
              have hcm' : w3.cell? ⟨gm, j, none⟩ = some (.slice la (n + 64) lc) := by rw [hcm, hlf]
              subst hsf
              have HD := Hid.mk (And.intro d1 (show eH.Row w3 (.slice la (n + 64) lc) (List.replicate n (mA j) ++ Yf j) from by rw [← hlf]; exact d2))
              have j1 : (j : Int) < (i : Int) := by omega
              have j2 : 0 ≤ (j : Int) := by omega
              have hwj : IntKind.i64.wrap ((j : Int) + 1) = ((j + 1 : Nat) : Int) := by rw [IntKind.wrap_i64]; omega
              have hwa : IntKind.i64.wrap (-1 - (j : Int)) = -1 - (j : Int) := by rw [IntKind.wrap_i64]; omega
              have hwb : IntKind.i64.wrap (-101 - (j : Int)) = -101 - (j : Int) := by rw [IntKind.wrap_i64]; omega
              obtain ⟨n6, hn6⟩ : ∃ n6, n6 = n + 64 := ⟨_, rfl⟩
              rw [← hn6] at hcm' HD
              have HN6 := Hid.mk hn6
              clear d1 d2 hc hcm hlf hl64 hs hns hmrow hn6
              go_wp2
              go_loopw [11] (fun u11 wr => ∃ k : Nat, u11 = .int .i64 k ∧ k ≤ n6 ∧ Drew w3 wr) (fun u _ => n6 - (intOf u).toNat)
              case atStart => exact ⟨0, rfl, Nat.zero_le _, ⟨_, rfl⟩⟩
              case round =>
                obtain ⟨k, rfl, hk, hd⟩ := hrel
                obtain ⟨nq2, rfl⟩ := hd
                have hn6 := HN6.out
                by_cases hkl : k < n6
                · have k1 : (k : Int) < (n6 : Int) := by omega
                  have k2 : 0 ≤ (k : Int) := by omega
                  have hwk : IntKind.i64.wrap ((k : Int) + 1) = ((k + 1 : Nat) : Int) := by rw [IntKind.wrap_i64]; omega
                  obtain ⟨g2, cap2, e2, q0, -, -, -, -, -⟩ := ht_at HD.out.2 k (by simp [Yf]; omega)
                  have hl64 : (List.replicate n (mA j) ++ Yf j).length = n6 := by simp [Yf]; omega
                  rw [hl64] at e2
                  cases e2
                  by_cases hkn : k < n
                  · obtain ⟨g1, cap1, e1, p0, -, -, -, -, -⟩ := ht_at HD.out.1 k (by simpa using hkn)
                    rw [List.length_replicate] at e1
                    cases e1
                    have hq : (List.replicate n (mA j) ++ Yf j)[k]'(by rw [hl64]; exact hkl) = mA j := by rw [List.getElem_append_left (by simpa using hkn)]; simp
                    rw [hq] at q0
                    have hp : (List.replicate n (mA j))[k]'(by simpa using hkn) = mA j := by simp
                    rw [hp] at p0
                    simp only [mA] at p0 q0
                    have m1 : decide ((k : Int) < (n : Int)) = true := by simp; omega
                    have m2 : decide (k < n) = true := by simp; omega
                    have m3 : decide ((n : Int) ≤ (k : Int)) = false := by simp; omega
                    have m4 : decide (n ≤ k) = false := by simp; omega
                    have m5 : (k : Int) < (n : Int) := by omega
                    clear hn6 hq hp hl64
                    go_wp2
                    exact ⟨⟨k + 1, by push_cast; rfl, hkl, ⟨_, rfl⟩⟩, by simp only [intOf]; omega⟩
                  · have hq : (List.replicate n (mA j) ++ Yf j)[k]'(by rw [hl64]; exact hkl) = mB j := by
                      have hm : (List.replicate n (mA j) ++ Yf j)[k]? = some (mB j) := by
                        rw [List.getElem?_append_right (by rw [List.length_replicate]; omega)]
                        unfold Yf
                        rw [List.getElem?_replicate, if_pos (by rw [List.length_replicate]; omega)]
                      exact (List.getElem?_eq_some_iff.1 hm).2
                    rw [hq] at q0
                    simp only [mB] at q0
                    have m1 : decide ((k : Int) < (n : Int)) = false := by simp; omega
                    have m2 : decide (k < n) = false := by simp; omega
                    have m3 : decide ((n : Int) ≤ (k : Int)) = true := by simp; omega
                    have m4 : decide (n ≤ k) = true := by simp; omega
                    clear hn6 hq hl64
                    go_wp2
                    exact ⟨⟨k + 1, by push_cast; rfl, hkl, ⟨_, rfl⟩⟩, by simp only [intOf]; omega⟩
                · have k1 : ¬ (k : Int) < (n6 : Int) := by omega
                  clear hn6
                  go_wp2
                  exact ⟨⟨j + 1, by push_cast; rfl, hjl, ⟨_, rfl⟩⟩, by simp only [intOf]; omega⟩
            · have j1 : ¬ (j : Int) < (i : Int) := by omega
              go_wp2
              go_ret
              exact ⟨rfl, HFS.out.andThen (Stay.below (F := fun _ => False) (Drew.below (show Drew w3 (w3.drewN nq) from ⟨nq, rfl⟩) _)) (fun _ _ e => e.elim)⟩
end Go.Proofs.YtjdpolhjbkpnlaaGreatDoor.Ap
