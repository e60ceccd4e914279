/-
  DERIVED. TApart0, TApart, TApartW, WTd0, WTdL, ToldRow, as one text.
-/
import Derived.Test.YtjdknijjkjmafaaWRefE
import Derived.Maps.AppendAt
import Derived.Test.YtjdknijjkjmafaaWSame
import Derived.Test.YtjdknijjkjmafaaWRefT2
import Derived.Deep.Cut
import Derived.ProofKit
import Derived.SizedLaws
import Derived.OpenShut
import Derived.Test.YtjdknijjkjmafaaWOpen
import Derived.ChangeMaps5
set_option linter.unusedVariables false
set_option linter.unusedSimpArgs false
namespace Go.Proofs.Ytjdknijjkjmafaa.Ap
open Go.RowKit
/-- A kind of elements: its type, that of slices of it and of slices of these, its cells. -/
structure El (α : Type) where
  ty : TypeId
  sl : TypeId
  ll : TypeId
  sz : Nat
  by' : Nat
  z : Value
  f : α → List Value
structure El.Ok {α : Type} (E : El α) (P : Program) : Prop where
  hf : ∀ x, (E.f x).length = E.sz
  one : ∀ x, ∀ u ∈ E.f x, u.oneCell' = true
  pos : 0 < E.sz
  zs : E.z.cells.size = E.sz
  by1 : E.by' ≤ 64
  info : (P.info? E.ty).map (fun i => (i.zero, i.size, i.bytes)) = some (some E.z, E.sz, E.by')
  und : P.underlying E.sl = some (.slice E.ty)
  info2 : (P.info? E.sl).map (fun i => (i.zero, i.size, i.bytes)) = some (some (.slice none 0 0), 1, 24)
  und2 : P.underlying E.ll = some (.slice E.sl)
  ne : E.ty ≠ E.sl
/-- A row of the call's own that holds these. -/
def El.Row {α : Type} (E : El α) (W : World) (v : Value) (X : List α) : Prop := W.ownsRow 0 E.ty E.sz v X.length (X.flatMap E.f)
theorem El.Ok.len {α : Type} {E : El α} {P : Program} (h : E.Ok P) (l : List α) : (l.flatMap E.f).length = l.length * E.sz := by
  induction l with
  | nil => simp
  | cons x l ih => rw [List.flatMap_cons, List.length_append, ih, h.hf, List.length_cons, Nat.succ_mul, Nat.add_comm]
theorem El.Ok.ones {α : Type} {E : El α} {P : Program} (h : E.Ok P) (l : List α) : ∀ u ∈ l.flatMap E.f, u.oneCell' = true := fun u hu => by
  obtain ⟨e, _, he⟩ := List.mem_flatMap.1 hu
  exact h.one e u he
theorem El.Row.below {α : Type} {E : El α} {w w' : World} {v : Value} {X : List α} (h : E.Row w v X) (b : Below w.heap.size w w') : E.Row w' v X := row_kept (F := fun _ => False) h (.below b) (fun _ _ h => h)
theorem El.Row.nil {α : Type} (E : El α) (W : World) : E.Row W (.slice none 0 0) [] := ⟨by simp, .inl ⟨rfl, rfl⟩⟩
theorem El.Row.form {α : Type} {E : El α} {W : World} {v : Value} {X : List α} (h : E.Row W v X) : ∃ a c, v = .slice a X.length c ∧ X.length ≤ c := slice_form h
theorem cells_new (W : World) (cs : List Value) (t : TypeId) (j : Nat) (u : Value) (hu : cs[j]? = some u) : (W.alloc (.cells cs.toArray t)).cell? ((⟨W.heap.size, 0, none⟩ : Addr).add j) = some u := by
  have e : (⟨W.heap.size, 0, none⟩ : Addr).add j = ⟨W.heap.size, j, none⟩ := by unfold Addr.add; split <;> simp_all
  rw [e, cell_of_row _ _ j _ t (0, 0) (heap_alloc_last W _)]
  simpa using hu
/-- append onto a slice of the call's own: it lies where it lay, or anew, and then all is kept. -/
theorem run_append_keep {P : Program} (w : World) (base : Nat) (t ty e : TypeId) (i : TypeInfo) (z : Value) (size bytes : Nat) (ht : P.underlying t = some (.slice e)) (hi : P.info? e = some i) (hz : i.zero = some z)
    (hsize : i.size = size) (hby : i.bytes = bytes) (hzs : z.cells.size = size) (hsz : 0 < size)
    (v : Value) (n : Nat) (xs : List Value) (hown : w.ownsRow base e size v n xs)
    (a : Addr) (m c : Nat) (news : List Value) (hl : news.length = m * size) (hnews : ∀ j u, news[j]? = some u → w.cell? (a.add j) = some u) (h1 : ∀ u ∈ news, u.oneCell' = true)
    (h63 : n + m ≤ maxLen) (hbytes : (n + m) * bytes ≤ 140737488355328) (hbase : base ≤ w.heap.size) :
    ∃ v' w', (Builtin.append_ #[t, t] ty #[v, .slice (some a) m c]).run P w = .ok v' w' ∧ w'.ownsRow base e size v' (n + m) (xs ++ news) ∧ w.grownBy w' v.ownBlock ∧
      ((∃ g cap, v = .slice (some ⟨g, 0, none⟩) n cap ∧ v' = .slice (some ⟨g, 0, none⟩) (n + m) cap) ∨ (v'.ownBlock = v.ownBlock ∧ v.ownBlock = none) ∨ (v'.ownBlock = some w.heap.size ∧ ∀ k, k < w.heap.size → w'.heap[k]? = w.heap[k]?)) := by
  obtain ⟨v', w', hr, h2, h3, h4, h5⟩ := run_append_own_at (P := P) w base t ty e i z size bytes ht hi hz hsize hby hzs hsz v n xs hown a m c news hl hnews h1 h63 hbytes hbase
  refine ⟨v', w', hr, h2, h3, ?_⟩
  subst hsize
  subst hby
  have hown' := hown
  rcases hown.2 with ⟨rfl, rfl⟩ | ⟨g, cap, cur, rfl, hbg, hg, hnc, hcm, hcs, htake⟩
  · rcases h5 with h5 | h5
    · exact .inr (.inl ⟨h5, rfl⟩)
    · exact .inr (.inr ⟨h5, fun k hk => h3.block k hk (by simp [Value.ownBlock])⟩)
  · by_cases hroom : n + m ≤ cap
    · have hfit : n * i.size + news.length ≤ cur.size := by rw [hl, hcs, ← Nat.add_mul]; exact Nat.mul_le_mul_right _ hroom
      have hr2 := run_append_room (P := P) w t ty e i ht hi g n cap cur hg a m c news hl hnews h1 hroom hfit
      rw [hr2] at hr
      cases hr
      exact .inl ⟨g, cap, rfl, rfl⟩
    · have holds : ∀ j u, xs[j]? = some u → w.cell? ((⟨g, 0, none⟩ : Addr).add j) = some u := hown'.cells (g := g) rfl
      have hr2 := run_append_grow (P := P) w t ty e i z ht hi hz ⟨g, 0, none⟩ n cap xs hown'.1 holds a m c news hl hnews (by omega) (by simp only [maxLen] at h63; omega) (growslice_fits (by omega) hbytes)
      rw [hr2] at hr
      cases hr
      exact .inr (.inr ⟨rfl, fun k hk => heap_alloc_old w.drew _ hk⟩)
/-- One element, written out in a new block, is put behind. -/
theorem El.app1 {α : Type} {E : El α} {P : Program} (ok : E.Ok P) (W : World) (X : List α) (v : Value) (h : E.Row W v X) (x : α) (hb : (X.length + 1) * E.by' ≤ 140737488355328) (hb2 : X.length < 4611686018427387904) :
    ∃ v' W', (Builtin.append_ #[E.sl, E.sl] E.sl #[v, .slice (some ⟨W.heap.size, 0, none⟩) 1 1]).run P (W.alloc (.cells (E.f x).toArray E.ty)) = .ok v' W' ∧ E.Row W' v' (X ++ [x]) ∧ Stay (fun k => v.ownBlock = some k) W W' ∧ (∀ k, v'.ownBlock = some k → v.ownBlock = some k ∨ W.heap.size ≤ k) := by
  obtain ⟨i0, hi, hz0, hz1, hz2⟩ := info_parts ok.info
  have hby := ok.by1
  have bA : Below W.heap.size W (W.alloc (.cells (E.f x).toArray E.ty)) := (Below.refl _ W).alloc (Nat.le_refl _) _
  obtain ⟨v', W', hap, ho, hg, -, hloc⟩ := run_append_own_at (P := P) (W.alloc (.cells (E.f x).toArray E.ty)) 0 E.sl E.sl E.ty i0 _ E.sz E.by' ok.und hi hz0 hz1 hz2 ok.zs ok.pos v X.length _ (El.Row.below h bA) ⟨W.heap.size, 0, none⟩ 1 1 (E.f x) (by rw [ok.hf, Nat.one_mul]) (fun j u hu => cells_new W (E.f x) E.ty j u hu) (ok.one x) (by unfold maxLen; omega) hb (Nat.zero_le _)
  refine ⟨v', W', hap, by show W'.ownsRow 0 E.ty E.sz v' (X ++ [x]).length _; rw [List.length_append, List.flatMap_append]; simpa using ho, (Stay.below bA).trans (.grown hg (fun k hk => hk)), fun k hk => ?_⟩
  rcases hloc with hl | hl
  · exact .inl (hl ▸ hk)
  · rw [hl] at hk; cases hk; exact .inr bA.size
/-- The beginning of a row. -/
theorem El.pre {α : Type} {E : El α} {P : Program} (ok : E.Ok P) {W : World} {g cap m n : Nat} {Y : List α} (h : E.Row W (.slice (some ⟨g, 0, none⟩) m cap) Y) (hm : m = Y.length) (hn : n ≤ m) : E.Row W (.slice (some ⟨g, 0, none⟩) n cap) (Y.take n) := by
  have hl : (Y.take n).length = n := by rw [List.length_take]; omega
  show W.ownsRow 0 E.ty E.sz _ (Y.take n).length _
  rw [hl]
  rcases h.2 with ⟨h0, _⟩ | ⟨g', c, cur, hv, k1, k2, k3, k4, k5, k6⟩
  · simp at h0
  · simp only [Value.slice.injEq, Option.some.injEq, Addr.mk.injEq] at hv
    obtain ⟨⟨rfl, -, -⟩, -, rfl⟩ := hv
    refine ⟨by rw [ok.len, hl], .inr ⟨g, cap, cur, rfl, k1, k2, by omega, k4, k5, ?_⟩⟩
    have e : (cur.toList.take (Y.length * E.sz)).take (n * E.sz) = cur.toList.take (n * E.sz) := by
      rw [List.take_take]; congr 1
      exact Nat.min_eq_left (Nat.mul_le_mul_right _ (by omega))
    rw [← e, k6]
    conv => lhs; rw [← List.take_append_drop n Y, List.flatMap_append]
    rw [List.take_left' (by rw [ok.len, hl])]
/-- One mark is put behind; the list that it grew from holds what it held. -/
theorem El.grow {α : Type} {E : El α} {P : Program} (ok : E.Ok P) (W : World) (n t : Nat) (s l : Value) (h : α) (B : Nat) (hB : B ≤ W.heap.size) (hs : E.Row W s (List.replicate n h)) (hl : E.Row W l (List.replicate (n + t) h))
    (hrel : (∃ g cap, s = .slice (some ⟨g, 0, none⟩) n cap ∧ l = .slice (some ⟨g, 0, none⟩) (n + t) cap) ∨ ∀ b, l.ownBlock = some b → B ≤ b) (hsB : ∀ b, s.ownBlock = some b → b < B) (hsz : n + t ≤ 1099511627776) :
    ∃ l' W', (Builtin.append_ #[E.sl, E.sl] E.sl #[l, .slice (some ⟨W.heap.size, 0, none⟩) 1 1]).run P (W.alloc (.cells (E.f h).toArray E.ty)) = .ok l' W' ∧ E.Row W' l' (List.replicate (n + (t + 1)) h) ∧ E.Row W' s (List.replicate n h) ∧
      ((∃ g cap, s = .slice (some ⟨g, 0, none⟩) n cap ∧ l' = .slice (some ⟨g, 0, none⟩) (n + (t + 1)) cap) ∨ ∀ b, l'.ownBlock = some b → B ≤ b) ∧ Stay (fun k => s.ownBlock = some k ∨ l.ownBlock = some k) W W' := by
  obtain ⟨i0, hi, hz0, hz1, hz2⟩ := info_parts ok.info
  have hby := ok.by1
  have bA : Below W.heap.size W (W.alloc (.cells (E.f h).toArray E.ty)) := (Below.refl _ W).alloc (Nat.le_refl _) _
  have hlA := El.Row.below hl bA
  have hll : (List.replicate (n + t) h).length = n + t := by simp
  have hlA' : (W.alloc (.cells (E.f h).toArray E.ty)).ownsRow 0 E.ty E.sz l (n + t) ((List.replicate (n + t) h).flatMap E.f) := by have := hlA; unfold El.Row at this; rw [hll] at this; exact this
  obtain ⟨l', W', hap, ho, hg, hk⟩ := run_append_keep (P := P) (W.alloc (.cells (E.f h).toArray E.ty)) 0 E.sl E.sl E.ty i0 _ E.sz E.by' ok.und hi hz0 hz1 hz2 ok.zs ok.pos l (n + t) _ hlA' ⟨W.heap.size, 0, none⟩ 1 1 (E.f h) (by rw [ok.hf, Nat.one_mul]) (fun j u hu => cells_new W (E.f h) E.ty j u hu) (ok.one h) (by unfold maxLen; omega) (by
    have : (n + t + 1) * E.by' ≤ (n + t + 1) * 64 := Nat.mul_le_mul_left _ hby
    omega) (Nat.zero_le _)
  have hrep : (List.replicate (n + t) h).flatMap E.f ++ E.f h = (List.replicate (n + (t + 1)) h).flatMap E.f := by
    rw [show n + (t + 1) = (n + t) + 1 by omega, List.replicate_succ', List.flatMap_append]; simp
  have hl' : E.Row W' l' (List.replicate (n + (t + 1)) h) := by
    show W'.ownsRow 0 E.ty E.sz l' _ _
    rw [List.length_replicate, ← hrep, ← Nat.add_assoc]; exact ho
  have st : Stay (fun k => l.ownBlock = some k) (W.alloc (.cells (E.f h).toArray E.ty)) W' := .grown hg (fun k hk => hk)
  have hsA := El.Row.below hs bA
  have sW : Stay (fun k => s.ownBlock = some k ∨ l.ownBlock = some k) W W' := (Stay.below bA).andThen (st.mono (fun k _ e => (show s.ownBlock = some k ∨ l.ownBlock = some k from .inr e))) (fun k _ e => e)
  refine ⟨l', W', hap, hl', ?_, ?_, sW⟩
  · rcases hk with ⟨g, cap, e1, e2⟩ | ⟨e1, e2⟩ | ⟨e1, e2⟩
    · rcases hrel with ⟨g', cap', f1, f2⟩ | f
      · rw [e1] at f2
        simp only [Value.slice.injEq, Option.some.injEq, Addr.mk.injEq] at f2
        obtain ⟨⟨rfl, -, -⟩, -, rfl⟩ := f2
        have := El.pre ok (n := n) (by rw [e2] at hl'; exact hl') (by rw [List.length_replicate, Nat.add_assoc]) (by omega)
        rw [f1]
        have e3 : (List.replicate (n + (t + 1)) h).take n = List.replicate n h := by rw [List.take_replicate, Nat.min_eq_left (by omega)]
        rw [e3] at this
        exact this
      · exact row_kept hsA st (fun k hk e => by have := f k e; have := hsB k hk; omega)
    · exact row_kept hsA st (fun k hk e => by rw [e2] at e; cases e)
    · refine row_kept (F := fun _ => False) hsA ⟨hg.os, hg.tape, hg.output, hg.size, fun k hk _ => e2 k hk⟩ (fun _ _ h => h)
  · rcases hk with ⟨g, cap, e1, e2⟩ | ⟨e1, e2⟩ | ⟨e1, e2⟩
    · rcases hrel with ⟨g', cap', f1, f2⟩ | f
      · rw [e1] at f2
        simp only [Value.slice.injEq, Option.some.injEq, Addr.mk.injEq] at f2
        obtain ⟨⟨rfl, -, -⟩, -, rfl⟩ := f2
        exact .inl ⟨g, cap, f1, by rw [e2, Nat.add_assoc]⟩
      · right; intro b hb
        refine f b ?_
        rw [e2] at hb
        rw [e1]; exact hb
    · right; intro b hb
      rw [e1, e2] at hb; cases hb
    · right; intro b hb
      rw [e1] at hb; cases hb
      exact Nat.le_trans hB bA.size
/-- A slice is put behind slices. -/
theorem El.more {α : Type} {E : El α} {P : Program} (ok : E.Ok P) (W : World) (ms : List Value) (a : Option Addr) (c : Nat) (h : W.ownsRow 0 E.sl 1 (.slice a ms.length c) ms.length ms) (hl : ms.length ≤ 2097152) (l : Value) (h1c : l.oneCell' = true) :
    ∃ a' c' W', (Builtin.append_ #[E.ll, E.ll] E.ll #[.slice a ms.length c, .slice (some ⟨W.heap.size, 0, none⟩) 1 1]).run P (W.alloc (.cells #[l] E.sl)) = .ok (.slice a' (ms.length + 1) c') W' ∧ W'.ownsRow 0 E.sl 1 (.slice a' (ms.length + 1) c') (ms ++ [l]).length (ms ++ [l]) ∧
      Stay (fun k => (Value.slice a ms.length c).ownBlock = some k) W W' ∧ ∀ b, (Value.slice a' (ms.length + 1) c').ownBlock = some b → (Value.slice a ms.length c).ownBlock = some b ∨ W.heap.size ≤ b := by
  obtain ⟨i0, hi, hz0, hz1, hz2⟩ := info_parts ok.info2
  have bA : Below W.heap.size W (W.alloc (.cells #[l] E.sl)) := (Below.refl _ W).alloc (Nat.le_refl _) _
  have h2A := row_kept h (F := fun _ => False) (.below bA) (fun _ _ h => h)
  obtain ⟨v', W', hap, ho, hg, -, hloc⟩ := run_append_own_at (P := P) (W.alloc (.cells #[l] E.sl)) 0 E.ll E.ll E.sl i0 _ 1 24 ok.und2 hi hz0 hz1 hz2 rfl (by decide) _ ms.length _ h2A ⟨W.heap.size, 0, none⟩ 1 1 [l] rfl (fun j u hu => cells_new W [l] E.sl j u hu) (fun u hu => by simp at hu; subst hu; exact h1c) (by unfold maxLen; omega) (by omega) (Nat.zero_le _)
  obtain ⟨a', c', rfl, -⟩ := slice_form ho
  have st : Stay (fun k => (Value.slice a ms.length c).ownBlock = some k) (W.alloc (.cells #[l] E.sl)) W' := .grown hg (fun k hk => hk)
  refine ⟨a', c', W', hap, by rw [List.length_append]; exact ho, (Stay.below bA).trans st, fun b hb => ?_⟩
  rcases hloc with e | e
  · exact .inl (e ▸ hb)
  · rw [e] at hb; cases hb; exact .inr bA.size
/-- The row's block and a list's are two. -/
theorem El.two {α : Type} {E : El α} {P : Program} (ok : E.Ok P) {W : World} {lv s : Value} {n : Nat} {xs : List Value} {r : List α} (h : W.ownsRow 0 E.sl 1 lv n xs) (k : E.Row W s r) {g : Nat} (h1 : lv.ownBlock = some g) : s.ownBlock ≠ some g := fun h2 => by
  obtain ⟨c1, e1⟩ := row_block h h1
  obtain ⟨c2, e2⟩ := row_block k h2
  rw [e1] at e2
  simp only [Option.some.injEq, Obj.cells.injEq] at e2
  exact ok.ne e2.2.1.symm
/-- Lists of the call's own, each in a block of its own. -/
structure El.AP {α : Type} (E : El α) (W : World) (lv : Value) (ss : List Value) (ns : List Nat) : Prop where
  len : ns.length = ss.length
  row : W.ownsRow 0 E.sl 1 lv ss.length ss
  each : ∀ (j : Nat) (s : Value) (n : Nat), ss[j]? = some s → ns[j]? = some n → ∃ X : List α, X.length = n ∧ E.Row W s X
  apart : ∀ (j l : Nat) (s u : Value) (b : Nat), ss[j]? = some s → ss[l]? = some u → s.ownBlock = some b → u.ownBlock = some b → j = l
/-- One mark is put behind; the list that it grew from holds what it held. -/
theorem El.growX {α : Type} {E : El α} {P : Program} (ok : E.Ok P) (W : World) (X : List α) (n t : Nat) (hX : X.length = n) (s l : Value) (h : α) (B : Nat) (hB : B ≤ W.heap.size) (hs : E.Row W s X) (hl : E.Row W l (X ++ List.replicate t h))
    (hrel : (∃ g cap, s = .slice (some ⟨g, 0, none⟩) n cap ∧ l = .slice (some ⟨g, 0, none⟩) (n + t) cap) ∨ ∀ b, l.ownBlock = some b → B ≤ b) (hsB : ∀ b, s.ownBlock = some b → b < B) (hsz : n + t ≤ 1099511627776) :
    ∃ l' W', (Builtin.append_ #[E.sl, E.sl] E.sl #[l, .slice (some ⟨W.heap.size, 0, none⟩) 1 1]).run P (W.alloc (.cells (E.f h).toArray E.ty)) = .ok l' W' ∧ E.Row W' l' (X ++ List.replicate (t + 1) h) ∧ E.Row W' s X ∧
      ((∃ g cap, s = .slice (some ⟨g, 0, none⟩) n cap ∧ l' = .slice (some ⟨g, 0, none⟩) (n + (t + 1)) cap) ∨ ∀ b, l'.ownBlock = some b → B ≤ b) ∧ Stay (fun k => s.ownBlock = some k ∨ l.ownBlock = some k) W W' := by
  obtain ⟨i0, hi, hz0, hz1, hz2⟩ := info_parts ok.info
  have hby := ok.by1
  have bA : Below W.heap.size W (W.alloc (.cells (E.f h).toArray E.ty)) := (Below.refl _ W).alloc (Nat.le_refl _) _
  have hlA := El.Row.below hl bA
  have hll : (X ++ List.replicate t h).length = n + t := by simp [hX]
  have hlA' : (W.alloc (.cells (E.f h).toArray E.ty)).ownsRow 0 E.ty E.sz l (n + t) ((X ++ List.replicate t h).flatMap E.f) := by have := hlA; unfold El.Row at this; rw [hll] at this; exact this
  obtain ⟨l', W', hap, ho, hg, hk⟩ := run_append_keep (P := P) (W.alloc (.cells (E.f h).toArray E.ty)) 0 E.sl E.sl E.ty i0 _ E.sz E.by' ok.und hi hz0 hz1 hz2 ok.zs ok.pos l (n + t) _ hlA' ⟨W.heap.size, 0, none⟩ 1 1 (E.f h) (by rw [ok.hf, Nat.one_mul]) (fun j u hu => cells_new W (E.f h) E.ty j u hu) (ok.one h) (by unfold maxLen; omega) (by
    have : (n + t + 1) * E.by' ≤ (n + t + 1) * 64 := Nat.mul_le_mul_left _ hby
    omega) (Nat.zero_le _)
  have hrep : (X ++ List.replicate t h).flatMap E.f ++ E.f h = (X ++ List.replicate (t + 1) h).flatMap E.f := by
    rw [List.replicate_succ', ← List.append_assoc, List.flatMap_append (ys := [h])]; simp
  have hl2 : (X ++ List.replicate (t + 1) h).length = n + t + 1 := by simp [hX]; omega
  have hl' : E.Row W' l' (X ++ List.replicate (t + 1) h) := by
    show W'.ownsRow 0 E.ty E.sz l' _ _
    rw [hl2, ← hrep]; exact ho
  have st : Stay (fun k => l.ownBlock = some k) (W.alloc (.cells (E.f h).toArray E.ty)) W' := .grown hg (fun k hk => hk)
  have hsA := El.Row.below hs bA
  have sW : Stay (fun k => s.ownBlock = some k ∨ l.ownBlock = some k) W W' := (Stay.below bA).andThen (st.mono (fun k _ e => (show s.ownBlock = some k ∨ l.ownBlock = some k from .inr e))) (fun k _ e => e)
  refine ⟨l', W', hap, hl', ?_, ?_, sW⟩
  · rcases hk with ⟨g, cap, e1, e2⟩ | ⟨e1, e2⟩ | ⟨e1, e2⟩
    · rcases hrel with ⟨g', cap', f1, f2⟩ | f
      · rw [e1] at f2
        simp only [Value.slice.injEq, Option.some.injEq, Addr.mk.injEq] at f2
        obtain ⟨⟨rfl, -, -⟩, -, rfl⟩ := f2
        have := El.pre ok (n := n) (by rw [e2] at hl'; exact hl') (by rw [hl2]) (by omega)
        rw [f1]
        have e3 : (X ++ List.replicate (t + 1) h).take n = X := by rw [List.take_left' hX]
        rw [e3] at this
        exact this
      · exact row_kept hsA st (fun k hk e => by have := f k e; have := hsB k hk; omega)
    · exact row_kept hsA st (fun k hk e => by rw [e2] at e; cases e)
    · refine row_kept (F := fun _ => False) hsA ⟨hg.os, hg.tape, hg.output, hg.size, fun k hk _ => e2 k hk⟩ (fun _ _ h => h)
  · rcases hk with ⟨g, cap, e1, e2⟩ | ⟨e1, e2⟩ | ⟨e1, e2⟩
    · rcases hrel with ⟨g', cap', f1, f2⟩ | f
      · rw [e1] at f2
        simp only [Value.slice.injEq, Option.some.injEq, Addr.mk.injEq] at f2
        obtain ⟨⟨rfl, -, -⟩, -, rfl⟩ := f2
        exact .inl ⟨g, cap, f1, by rw [e2, Nat.add_assoc]⟩
      · right; intro b hb
        refine f b ?_
        rw [e2] at hb
        rw [e1]; exact hb
    · right; intro b hb
      rw [e1, e2] at hb; cases hb
    · right; intro b hb
      rw [e1] at hb; cases hb
      exact Nat.le_trans hB bA.size
/-- While each is marked and grown. -/
structure El.AQ {α : Type} (E : El α) (X Y : Nat → List α) (w W : World) (ss : List Value) (ns : List Nat) (lv mv : Value) (ms : List Value) (i : Nat) : Prop where
  ml : ms.length = i
  len : ns.length = ss.length
  lrow : W.ownsRow 0 E.sl 1 lv ss.length ss
  mrow : W.ownsRow 0 E.sl 1 mv ms.length ms
  mnew : ∀ b, mv.ownBlock = some b → w.heap.size ≤ b
  lold : ∀ b, lv.ownBlock = some b → b < w.heap.size
  sold : ∀ (j : Nat) (s : Value) (b : Nat), ss[j]? = some s → s.ownBlock = some b → b < w.heap.size
  apart : ∀ (j l : Nat) (s u : Value) (b : Nat), ss[j]? = some s → ss[l]? = some u → s.ownBlock = some b → u.ownBlock = some b → j = l
  done : ∀ (j : Nat) (s m : Value) (n : Nat), ss[j]? = some s → ms[j]? = some m → ns[j]? = some n → E.Row W s (X j) ∧ E.Row W m (X j ++ Y j)
  left : ∀ (j : Nat) (s : Value) (n : Nat), i ≤ j → ss[j]? = some s → ns[j]? = some n → E.Row W s (X j)
  loc : ∀ (j : Nat) (s m : Value) (b : Nat), ss[j]? = some s → ms[j]? = some m → m.ownBlock = some b → s.ownBlock = some b ∨ w.heap.size ≤ b
  st : Stay (fun k => ∃ (j : Nat) (s : Value), ss[j]? = some s ∧ s.ownBlock = some k) w W
theorem El.AQ.start {α : Type} {E : El α} {X Y : Nat → List α} {w0 w : World} {lv : Value} {ss : List Value} {ns : List Nat} (hlen : ns.length = ss.length) (hrow : w.ownsRow 0 E.sl 1 lv ss.length ss) (hap : ∀ (j l : Nat) (s u : Value) (b : Nat), ss[j]? = some s → ss[l]? = some u → s.ownBlock = some b → u.ownBlock = some b → j = l) (hX : ∀ (j : Nat) (s : Value) (n : Nat), ss[j]? = some s → ns[j]? = some n → E.Row w s (X j)) : E.AQ X Y w w ss ns lv (.slice none 0 0) [] 0 :=
  ⟨rfl, hlen, hrow, ⟨rfl, .inl ⟨rfl, rfl⟩⟩, fun b hb => (by cases hb), fun b hb => row_lt hrow hb, fun j s b hs hb => by
    have hj : j < ns.length := by rw [hlen]; exact (List.getElem?_eq_some_iff.1 hs).1
    exact row_lt (hX j s _ hs (List.getElem?_eq_getElem hj)) hb, hap, fun j s m n hs hm hn => by simp at hm, fun j s n _ hs hn => hX j s n hs hn, fun j s m b hs hm => by simp at hm, .refl _ _⟩
theorem El.AQ.step {α : Type} {E : El α} {P : Program} (ok : E.Ok P) {X Y : Nat → List α} {w W W2 W3 : World} {ss : List Value} {ns : List Nat} {lv mv mv' : Value} {ms : List Value} {i n : Nat} {s l : Value} (q : E.AQ X Y w W ss ns lv mv ms i) (hs : ss[i]? = some s) (hn : ns[i]? = some n)
    (st : Stay (fun k => s.ownBlock = some k) W W2) (h1 : E.Row W2 s (X i)) (h2 : E.Row W2 l (X i ++ Y i)) (hrel : ∀ b, l.ownBlock = some b → s.ownBlock = some b ∨ W.heap.size ≤ b)
    (m3 : W3.ownsRow 0 E.sl 1 mv' (ms ++ [l]).length (ms ++ [l])) (st3 : Stay (fun k => mv.ownBlock = some k) W2 W3) (hnew : ∀ b, mv'.ownBlock = some b → mv.ownBlock = some b ∨ W2.heap.size ≤ b) : E.AQ X Y w W3 ss ns lv mv' (ms ++ [l]) (i + 1) := by
  have hWw : w.heap.size ≤ W.heap.size := q.st.size
  have hX := q.left i s n (Nat.le_refl _) hs hn
  have l2 : W2.ownsRow 0 E.sl 1 lv ss.length ss := row_kept q.lrow st (fun k hk e => El.two ok q.lrow hX hk e)
  have mr2 : W2.ownsRow 0 E.sl 1 mv ms.length ms := row_kept q.mrow st (fun k hk e => El.two ok q.mrow hX hk e)
  have k3 : ∀ {u : Value} {Y : List α}, E.Row W2 u Y → E.Row W3 u Y := fun {u Y} h => row_kept h st3 (fun k hk e => El.two ok mr2 h e hk)
  refine ⟨by simp [q.ml], q.len, row_kept l2 st3 (fun k hk e => by have := q.lold k hk; have := q.mnew k e; omega), m3, fun b hb => (hnew b hb).elim (q.mnew b) (fun h => Nat.le_trans hWw (Nat.le_trans st.size h)), q.lold, q.sold, q.apart, fun j u m n' hu hm hn' => ?_, fun j u n' hj hu hn' => ?_, fun j u m b hu hm hb => ?_, ?_⟩
  · rcases Nat.lt_or_ge j ms.length with hlt | hge
    · rw [List.getElem?_append_left hlt] at hm
      obtain ⟨d1, d2⟩ := q.done j u m n' hu hm hn'
      have hji : j ≠ i := by rw [← q.ml]; omega
      refine ⟨k3 (row_kept d1 st (fun k hk e => hji (q.apart j i u s k hu hs hk e))), k3 (row_kept d2 st (fun k hk e => ?_))⟩
      rcases q.loc j u m k hu hm hk with h | h
      · exact hji (q.apart j i u s k hu hs h e)
      · have := q.sold i s k hs e; omega
    · rw [List.getElem?_append_right hge] at hm
      obtain ⟨q1, q2⟩ := List.getElem?_eq_some_iff.1 hm
      simp at q1 q2
      have hji : j = i := by rw [← q.ml]; omega
      subst hji
      rw [hs] at hu
      rw [hn] at hn'
      cases hu; cases hn'
      rw [← q2]
      exact ⟨k3 h1, k3 h2⟩
  · have hY2 := q.left j u n' (by omega) hu hn'
    exact k3 (row_kept hY2 st (fun k hk e => by have := q.apart j i u s k hu hs hk e; omega))
  · rcases Nat.lt_or_ge j ms.length with hlt | hge
    · rw [List.getElem?_append_left hlt] at hm
      exact q.loc j u m b hu hm hb
    · rw [List.getElem?_append_right hge] at hm
      obtain ⟨q1, q2⟩ := List.getElem?_eq_some_iff.1 hm
      simp at q1 q2
      have hji : j = i := by rw [← q.ml]; omega
      subst hji
      rw [hs] at hu
      cases hu
      rw [← q2] at hb
      exact (hrel b hb).imp id (fun h => Nat.le_trans hWw h)
  · refine (q.st.andThen st (fun k _ e => ⟨i, s, hs, e⟩)).andThen st3 (fun k hk e => ?_)
    have := q.mnew k e
    omega
end Go.Proofs.Ytjdknijjkjmafaa.Ap
set_option linter.unusedVariables false
set_option linter.unusedSimpArgs false
namespace Go.Proofs.Ytjdknijjkjmafaa.Ap
open Go.RowKit
abbrev set3 (w : World) (g o : Nat) (x y z : Value) : World := ((w.setCell ⟨g, o, none⟩ x).setCell ⟨g, o + 1, none⟩ y).setCell ⟨g, o + 2, none⟩ z
theorem row_at {w : World} {B e sz g m cap : Nat} {xs : List Value} (h : w.ownsRow B e sz (.slice (some ⟨g, 0, none⟩) m cap) m xs) (j : Nat) (hj : j < m * sz) : w.cell? ⟨g, j, none⟩ = xs[j]? ∧ ∀ j, w.frozen? ⟨g, j, none⟩ = false := by
  rcases h with ⟨h1, ⟨h2, h3⟩ | ⟨g', cap', cur, h2, h3, h4, h5, h6, h7, h8⟩⟩
  · cases h2
  · cases h2
    refine ⟨?_, fun j => by simp [World.frozen?, h4]⟩
    rw [← h8, List.getElem?_take_of_lt (by omega)]
    simp [World.cell?, h4]
abbrev H3 := Int × Int × ByteArray
def htC (x : H3) : List Value := [.int .i64 x.1, .int .i64 x.2.1, .string x.2.2]
def eH : El H3 := ⟨25, 26, 31, 3, 32, .agg #[.int .i64 0, .int .i64 0, .string ⟨#[]⟩], htC⟩
theorem eH_ok : eH.Ok Try.prog := ⟨fun _ => rfl, fun x u hu => by
  simp [eH, htC] at hu
  rcases hu with rfl | rfl | rfl <;> rfl, by decide, rfl, by decide, by kernel_rfl, by kernel_rfl, by kernel_rfl, by kernel_rfl, by decide⟩
def mA (j : Nat) : H3 := (-1 - (j : Int), 0, ⟨#[]⟩)
def mB (j : Nat) : H3 := (-101 - (j : Int), 0, ⟨#[]⟩)
theorem flat_set3 : ∀ (X : List H3) (i : Nat) (x : H3), i < X.length → (((X.flatMap htC).set (i * 3) (.int .i64 x.1)).set (i * 3 + 1) (.int .i64 x.2.1)).set (i * 3 + 2) (.string x.2.2) = (X.set i x).flatMap htC
  | [], i, x, h => by simp at h
  | y :: X, 0, x, _ => by simp [htC]
  | y :: X, i + 1, x, h => by
    have ih := flat_set3 X i x (by simpa using h)
    rw [List.set_cons_succ, List.flatMap_cons, List.flatMap_cons, ← ih]
    have hl : (htC y).length = 3 := rfl
    rw [List.set_append_right _ _ (by omega), List.set_append_right _ _ (by omega), List.set_append_right _ _ (by omega), hl, show (i + 1) * 3 - 3 = i * 3 by omega, show (i + 1) * 3 + 1 - 3 = i * 3 + 1 by omega, show (i + 1) * 3 + 2 - 3 = i * 3 + 2 by omega]
theorem set_ht {W : World} {g cap n : Nat} {X : List H3} (h : eH.Row W (.slice (some ⟨g, 0, none⟩) n cap) X) (hn : n = X.length) (i : Nat) (hi : i < X.length) (x : H3) : eH.Row (set3 W g (i * 3) (.int .i64 x.1) (.int .i64 x.2.1) (.string x.2.2)) (.slice (some ⟨g, 0, none⟩) n cap) (X.set i x) := by
  subst hn
  show (set3 W g (i * 3) _ _ _).ownsRow 0 25 3 _ (X.set i x).length ((X.set i x).flatMap htC)
  rw [List.length_set, ← flat_set3 X i x hi]
  exact (World.ownsRow.stored (World.ownsRow.stored (World.ownsRow.stored h _ _).1 _ _).1 _ _).1
theorem ht_at {W : World} {v : Value} {X : List H3} (h : eH.Row W v X) (i : Nat) (hi : i < X.length) : ∃ g cap, v = .slice (some ⟨g, 0, none⟩) X.length cap ∧ W.cell? ⟨g, i * 3, none⟩ = some (.int .i64 X[i].1) ∧ W.cell? ⟨g, i * 3 + 1, none⟩ = some (.int .i64 X[i].2.1) ∧ W.cell? ⟨g, i * 3 + 2, none⟩ = some (.string X[i].2.2) ∧ ∀ j, W.frozen? ⟨g, j, none⟩ = false := by
  rcases h.2 with ⟨h2, h3⟩ | ⟨g, cap, cur, h2, h3⟩
  · omega
  · subst h2
    have hf : ∀ j, j < 3 → (X.flatMap htC)[i * 3 + j]? = (htC X[i])[j]? := fun j hj => by
      have key : ∀ (l : List H3) (i j : Nat) (hi : i < l.length), j < 3 → (l.flatMap htC)[i * 3 + j]? = (htC l[i])[j]? := by
        intro l
        induction l with
        | nil => intro i j hi; simp at hi
        | cons x l ih =>
          intro i j hi hj
          cases i with
          | zero => rw [List.flatMap_cons, Nat.zero_mul, Nat.zero_add, List.getElem?_append_left (by simpa [htC] using hj)]; rfl
          | succ i =>
            have := ih i j (by simpa using hi) hj
            rw [List.flatMap_cons, List.getElem?_append_right (by simp [htC]; omega), show (i + 1) * 3 + j - (htC x).length = i * 3 + j from by simp [htC]; omega, this]; rfl
      exact key X i j hi hj
    have hr : W.ownsRow 0 25 3 (.slice (some ⟨g, 0, none⟩) X.length cap) X.length (X.flatMap htC) := h
    refine ⟨g, cap, rfl, ?_, ?_, ?_, (row_at hr 0 (by omega)).2⟩
    · rw [(row_at hr (i * 3) (by omega)).1]; exact hf 0 (by omega)
    · rw [(row_at hr (i * 3 + 1) (by omega)).1]; exact hf 1 (by omega)
    · rw [(row_at hr (i * 3 + 2) (by omega)).1]; exact hf 2 (by omega)
/-- A slice of slices: its cells. -/
theorem sl_at {W : World} {v : Value} {ss : List Value} (h : W.ownsRow 0 26 1 v ss.length ss) (i : Nat) (hi : i < ss.length) : ∃ g cap, v = .slice (some ⟨g, 0, none⟩) ss.length cap ∧ W.cell? ⟨g, i, none⟩ = some ss[i] := by
  rcases h.2 with ⟨h2, h3⟩ | ⟨g, cap, cur, h2, h3⟩
  · omega
  · subst h2
    refine ⟨g, cap, rfl, ?_⟩
    rw [(row_at h i (by omega)).1, List.getElem?_eq_getElem hi]
/-- While each is marked. -/
structure AM (w W : World) (lv : Value) (ss : List Value) (ns : List Nat) (i : Nat) : Prop where
  len : ns.length = ss.length
  row : W.ownsRow 0 26 1 lv ss.length ss
  apart : ∀ (j l : Nat) (s u : Value) (b : Nat), ss[j]? = some s → ss[l]? = some u → s.ownBlock = some b → u.ownBlock = some b → j = l
  done : ∀ (j : Nat) (s : Value) (n : Nat), j < i → ss[j]? = some s → ns[j]? = some n → eH.Row W s (List.replicate n (mA j))
  left : ∀ (j : Nat) (s : Value) (n : Nat), i ≤ j → ss[j]? = some s → ns[j]? = some n → ∃ X : List H3, X.length = n ∧ eH.Row W s X
  st : Stay (fun k => ∃ (j : Nat) (s : Value), ss[j]? = some s ∧ s.ownBlock = some k) w W
theorem AM.step {w W W2 : World} {lv : Value} {ss : List Value} {ns : List Nat} {i n : Nat} {s : Value} (q : AM w W lv ss ns i) (hs : ss[i]? = some s) (hn : ns[i]? = some n) (st : Stay (fun k => s.ownBlock = some k) W W2) (h1 : eH.Row W2 s (List.replicate n (mA i))) : AM w W2 lv ss ns (i + 1) := by
  obtain ⟨X, -, hX⟩ := q.left i s n (Nat.le_refl _) hs hn
  refine ⟨q.len, row_kept q.row st (fun k hk e => El.two eH_ok (E := eH) q.row hX hk e), q.apart, fun j u m hj hu hm => ?_, fun j u m hj hu hm => ?_, q.st.andThen st (fun k _ e => ⟨i, s, hs, e⟩)⟩
  · by_cases e : j = i
    · subst e
      rw [hs] at hu
      rw [hn] at hm
      cases hu; cases hm
      exact h1
    · exact row_kept (q.done j u m (by omega) hu hm) st (fun k hk e2 => e (q.apart j i u s k hu hs hk e2))
  · obtain ⟨Y, hY1, hY2⟩ := q.left j u m (by omega) hu hm
    exact ⟨Y, hY1, row_kept hY2 st (fun k hk e => by have := q.apart j i u s k hu hs hk e; omega)⟩
/-- A list while it is marked. -/
def MK (w1 : World) (s : Value) (n i k : Nat) (wr : World) : Prop := ∃ X : List H3, X.length = n ∧ X.take k = List.replicate k (mA i) ∧ eH.Row wr s X ∧ Stay (fun b => s.ownBlock = some b) w1 wr
theorem MK.step {w1 wr : World} {g cap n i k : Nat} (h : MK w1 (.slice (some ⟨g, 0, none⟩) n cap) n i k wr) (hk : k < n) : MK w1 (.slice (some ⟨g, 0, none⟩) n cap) n i (k + 1) (set3 wr g (k * 3) (.int .i64 (-1 - (i : Int))) (.int .i64 0) (.string ⟨#[]⟩)) := by
  obtain ⟨X, h1, h2, h3, h4⟩ := h
  have hkX : k < X.length := by omega
  refine ⟨X.set k (mA i), by rw [List.length_set]; exact h1, ?_, set_ht h3 h1.symm k hkX (mA i), h4.andThen (Stay.setCell (F := fun b => b = g) (Stay.setCell (F := fun b => b = g) (Stay.setCell (F := fun b => b = g) (Stay.refl _ wr) (fun _ => rfl) _) (fun _ => rfl) _) (fun _ => rfl) _) (fun b _ e => by rw [e]; rfl)⟩
  rw [List.take_succ_eq_append_getElem (by rw [List.length_set]; exact hkX), List.getElem_set_self, List.take_set_of_le (Nat.le_refl _), h2, List.replicate_succ']
/-- A list while it is grown. -/
def GW (w1 : World) (s : Value) (n i t : Nat) (l : Value) (wr : World) : Prop := eH.Row wr s (List.replicate n (mA i)) ∧ eH.Row wr l (List.replicate n (mA i) ++ List.replicate t (mB i)) ∧ Stay (fun k => s.ownBlock = some k) w1 wr ∧ ((∃ g cap, s = .slice (some ⟨g, 0, none⟩) n cap ∧ l = .slice (some ⟨g, 0, none⟩) (n + t) cap) ∨ ∀ b, l.ownBlock = some b → w1.heap.size ≤ b)
theorem GW.step {w1 wr : World} {s l : Value} {n i t : Nat} (h : GW w1 s n i t l wr) (hsB : ∀ b, s.ownBlock = some b → b < w1.heap.size) (hn : n + t ≤ 1099511627776) :
    ∃ l' W', (Builtin.append_ #[26, 26] 26 #[l, .slice (some ⟨wr.heap.size, 0, none⟩) 1 1]).run Try.prog (wr.alloc (.cells #[.int .i64 (-101 - (i : Int)), .int .i64 0, .string ⟨#[]⟩] 25)) = .ok l' W' ∧ GW w1 s n i (t + 1) l' W' := by
  obtain ⟨h1, h2, h3, h4⟩ := h
  obtain ⟨l', W', e1, e2, e3, e4, e5⟩ := El.growX eH_ok wr (List.replicate n (mA i)) n t (by simp) s l (mB i) w1.heap.size h3.size h1 h2 h4 hsB hn
  refine ⟨l', W', e1, e3, e2, h3.andThen e5 (fun k hk e => ?_), ?_⟩
  · rcases e with e | e
    · exact e
    · rcases h4 with ⟨g, cap, f1, f2⟩ | f
      · rw [f1]; rw [f2] at e; exact e
      · have := f k e; omega
  · rcases e4 with ⟨g, cap, f1, f2⟩ | f
    · exact .inl ⟨g, cap, f1, f2⟩
    · exact .inr f
end Go.Proofs.Ytjdknijjkjmafaa.Ap
set_option linter.unusedVariables false
set_option linter.unusedSimpArgs false
namespace Go.Proofs.Ytjdknijjkjmafaa.Ap
open Go.RowKit
def Xf (ns : List Nat) (j : Nat) : List H3 := List.replicate (ns.getD j 0) (mA j)
def Yf (j : Nat) : List H3 := List.replicate 64 (mB j)
theorem Xf_at {ns : List Nat} {j n : Nat} (h : ns[j]? = some n) : Xf ns j = List.replicate n (mA j) := by unfold Xf; rw [List.getD_eq_getElem?_getD, h]; rfl
set_option maxHeartbeats 4000000 in
set_option maxRecDepth 100000 in
theorem apart_any (lv : Value) (ss : List Value) (ns : List Nat) (w : World) (h : AM w w lv ss ns 0) (hN : ss.length ≤ 1048576) (hn : ∀ n ∈ ns, n ≤ 1073741824) :
    Calls Try.prog 11 #[lv] w fun e w' => e = .returned (.bool true) ∧ Stay (fun k => ∃ (j : Nat) (s : Value), ss[j]? = some s ∧ s.ownBlock = some k) w w' := by
  obtain ⟨a0, c0, hlv, -⟩ := slice_form h.row
  obtain ⟨NN, hNN⟩ : ∃ NN, NN = ss.length := ⟨_, rfl⟩
  rw [← hNN] at hlv hN
  have HH := Hid.mk (And.intro hn (And.intro hNN h.len))
  have H0 := Hid.mk h
  subst hlv
  clear h hn hNN
  have pick : ∀ i, i < NN → ∃ s n, ss[i]? = some s ∧ ns[i]? = some n ∧ n ≤ 1073741824 := fun i hi => by
    obtain ⟨h1, h2, h3⟩ := HH.out
    have hj : i < ns.length := by omega
    exact ⟨ss[i]'(by omega), ns[i], List.getElem?_eq_getElem (by omega), List.getElem?_eq_getElem hj, h1 _ (List.getElem_mem hj)⟩
  have HP := Hid.mk pick
  clear pick
  go_enter Try.func11, Try.ntmps11
  go_wp2
  go_loopw [3, 4] (fun u3 u4 wr => ∃ i : Nat, u3 = .int .i64 i ∧ i ≤ NN ∧ Hid (AM w wr (.slice a0 NN c0) ss ns i)) (fun u _ _ => NN - (intOf u).toNat)
  case atStart => exact ⟨0, rfl, Nat.zero_le _, H0⟩
  case round =>
    clear H0
    obtain ⟨i, rfl, hi, HQ⟩ := hrel
    by_cases hlt : i < NN
    · obtain ⟨s, n, hs, hns, hnb⟩ := HP.out i hlt
      obtain ⟨w1, hw1⟩ : ∃ w1, w1 = wr := ⟨_, rfl⟩
      subst hw1
      obtain ⟨X0, hX1, hX2⟩ := HQ.out.left i s n (Nat.le_refl _) hs hns
      obtain ⟨sa, sc, hsf, -⟩ := slice_form hX2
      rw [hX1] at hsf
      have hcell : ∀ W', Stay (fun b => s.ownBlock = some b) w1 W' → ∃ g, a0 = some ⟨g, 0, none⟩ ∧ W'.cell? ⟨g, i, none⟩ = some s := fun W' st => by
        have hr := row_kept HQ.out.row st (fun k hk e => El.two eH_ok (E := eH) HQ.out.row hX2 hk e)
        obtain ⟨g, cap, e, hc⟩ := sl_at hr i (by rw [← HH.out.2.1]; exact hlt)
        rw [← HH.out.2.1] at e
        cases e
        refine ⟨g, rfl, ?_⟩
        rw [hc, ← List.getElem?_eq_getElem, hs]
      have HC := Hid.mk hcell
      have HM := Hid.mk (show MK w1 s n i 0 w1 from ⟨X0, hX1, rfl, hX2, .refl _ _⟩)
      have HS := Hid.mk (And.intro hs hns)
      subst hsf
      have i1 : (i : Int) < (NN : Int) := by omega
      have i2 : 0 ≤ (i : Int) := by omega
      have hwi : IntKind.i64.wrap ((i : Int) + 1) = ((i + 1 : Nat) : Int) := by rw [IntKind.wrap_i64]; omega
      have hwm : IntKind.i64.wrap (-1 - (i : Int)) = -1 - (i : Int) := by rw [IntKind.wrap_i64]; omega
      clear hs hns hX1 hX2 hcell
      go_wp2
      go_loopw [4] (fun u4 wr => ∃ k : Nat, u4 = .int .i64 k ∧ k ≤ n ∧ Hid (MK w1 (.slice sa n sc) n i k wr)) (fun u _ => n - (intOf u).toNat)
      case atStart => exact ⟨0, rfl, Nat.zero_le _, HM⟩
      case round =>
        clear HM
        obtain ⟨k, rfl, hk, HK⟩ := hrel
        obtain ⟨gl, hgl, cl⟩ := HC.out wr (by obtain ⟨X, -, -, -, st⟩ := HK.out; exact st)
        subst hgl
        by_cases hkn : k < n
        · have hx : ∃ g cap v0 v1 v2, Value.slice sa n sc = .slice (some ⟨g, 0, none⟩) n cap ∧ wr.cell? ⟨g, k * 3, none⟩ = some v0 ∧ wr.cell? ⟨g, k * 3 + 1, none⟩ = some v1 ∧ wr.cell? ⟨g, k * 3 + 2, none⟩ = some v2 ∧ ∀ j, wr.frozen? ⟨g, j, none⟩ = false := by
            obtain ⟨X, x1, x2, x3, x4⟩ := HK.out
            obtain ⟨g, cap, e, p0, p1, p2, pf⟩ := ht_at x3 k (by omega)
            rw [x1] at e
            exact ⟨g, cap, _, _, _, e, p0, p1, p2, pf⟩
          obtain ⟨g, cap, v0, v1, v2, e, p0, p1, p2, pf⟩ := hx
          cases e
          have f0 := pf (k * 3)
          have f1 := pf (k * 3 + 1)
          have f2 := pf (k * 3 + 2)
          have k1 : (k : Int) < (n : Int) := by omega
          have k2 : 0 ≤ (k : Int) := by omega
          have hwk : IntKind.i64.wrap ((k : Int) + 1) = ((k + 1 : Nat) : Int) := by rw [IntKind.wrap_i64]; omega
          have hnext := HK.out.step hkn
          have HNX := Hid.mk hnext
          clear hnext pf
          go_wp2
          exact ⟨⟨k + 1, by push_cast; rfl, hkn, HNX⟩, by simp only [intOf]; omega⟩
        · have k1 : ¬ (k : Int) < (n : Int) := by omega
          have hfin : AM w wr (.slice (some ⟨gl, 0, none⟩) NN c0) ss ns (i + 1) := by
            obtain ⟨X, x1, x2, x3, x4⟩ := HK.out
            refine HQ.out.step HS.out.1 HS.out.2 x4 ?_
            have hXe : X = List.replicate n (mA i) := by
              have hkn2 : k = n := by omega
              rw [← hkn2, ← x2, hkn2, List.take_of_length_le (by omega)]
            rw [hXe] at x3
            exact x3
          have HF := Hid.mk hfin
          clear hfin
          go_wp2
          exact ⟨⟨i + 1, by push_cast; rfl, hlt, HF⟩, by simp only [intOf]; omega⟩
    · have i1 : ¬ (i : Int) < (NN : Int) := by omega
      obtain ⟨w1, hw1⟩ : ∃ w1, w1 = wr := ⟨_, rfl⟩
      subst hw1
      have Q0 := Hid.mk (show eH.AQ (Xf ns) Yf w1 w1 ss ns (.slice a0 NN c0) (.slice none 0 0) [] 0 from El.AQ.start (w0 := w1) HQ.out.len HQ.out.row HQ.out.apart (fun j s n hs hns => by
        rw [Xf_at hns]
        exact HQ.out.done j s n (by have h1 := (List.getElem?_eq_some_iff.1 hs).1; have := HH.out.2.1; omega) hs hns))
      have HST := Hid.mk HQ.out.st
      clear HQ
      go_wp2
      go_loopw [5, 6, 7, 8] (fun u5 u6 u7 u8 wr => ∃ (i : Nat) (ma : Option Addr) (mc : Nat) (ms : List Value), u5 = .slice ma i mc ∧ u6 = .int .i64 i ∧ i ≤ NN ∧ Hid (eH.AQ (Xf ns) Yf w1 wr ss ns (.slice a0 NN c0) (.slice ma i mc) ms i)) (fun _ u _ _ _ => NN - (intOf u).toNat)
      case atStart => exact ⟨0, none, 0, [], rfl, rfl, Nat.zero_le _, Q0⟩
      case round =>
        clear Q0
        obtain ⟨i, ma, mc, ms, rfl, rfl, hi, HQ⟩ := hrel
        by_cases hlt : i < NN
        · obtain ⟨s, n, hs, hns, hnb⟩ := HP.out i hlt
          obtain ⟨w2, hw2⟩ : ∃ w2, w2 = wr := ⟨_, rfl⟩
          subst hw2
          have hX2 := HQ.out.left i s n (Nat.le_refl _) hs hns
          rw [Xf_at hns] at hX2
          obtain ⟨sa, sc, hsf, -⟩ := slice_form hX2
          rw [List.length_replicate] at hsf
          obtain ⟨gl, cap, e, hc⟩ := sl_at HQ.out.lrow i (by rw [← HH.out.2.1]; exact hlt)
          rw [← HH.out.2.1] at e
          cases e
          have hcs : w2.cell? ⟨gl, i, none⟩ = some s := by rw [hc, ← List.getElem?_eq_getElem, hs]
          have hsB : ∀ b, s.ownBlock = some b → b < w2.heap.size := fun b hb => row_lt hX2 hb
          have HG := Hid.mk (show GW w2 s n i 0 s w2 from ⟨hX2, by simpa using hX2, .refl _ _, by
            rcases hX2.2 with ⟨h0, h1⟩ | ⟨g, cap, cur, h0, -⟩
            · right; intro b hb; rw [h0] at hb; cases hb
            · left; rw [List.length_replicate] at h0; exact ⟨g, cap, h0, h0⟩⟩)
          have HS := Hid.mk (And.intro hs (And.intro hns hsB))
          have i1 : (i : Int) < (NN : Int) := by omega
          have i2 : 0 ≤ (i : Int) := by omega
          have hwi : IntKind.i64.wrap ((i : Int) + 1) = ((i + 1 : Nat) : Int) := by rw [IntKind.wrap_i64]; omega
          have hwm : IntKind.i64.wrap (-101 - (i : Int)) = -101 - (i : Int) := by rw [IntKind.wrap_i64]; omega
          subst hsf
          clear hs hns hX2 hc hsB
          go_wp2
          go_loopw [7, 8] (fun u7 u8 wr => ∃ (t : Nat) (la : Option Addr) (lc : Nat), u7 = .slice la (n + t) lc ∧ u8 = .int .i64 t ∧ t ≤ 64 ∧ Hid (GW w2 (.slice sa n sc) n i t (.slice la (n + t) lc) wr)) (fun _ u _ => 64 - (intOf u).toNat)
          case atStart => exact ⟨0, sa, sc, rfl, rfl, Nat.zero_le _, HG⟩
          case round =>
            clear HG
            obtain ⟨t, la, lc, rfl, rfl, ht, HK⟩ := hrel
            by_cases htl : t < 64
            · obtain ⟨l', W', hap, hgw⟩ := HK.out.step HS.out.2.2 (by omega)
              have t1 : (t : Int) < 64 := by omega
              have hwt : IntKind.i64.wrap ((t : Int) + 1) = ((t + 1 : Nat) : Int) := by rw [IntKind.wrap_i64]; omega
              obtain ⟨l2a, l2c, hl2, -⟩ := slice_form hgw.2.1
              have hlen : (List.replicate n (mA i) ++ List.replicate (t + 1) (mB i)).length = n + (t + 1) := by simp
              rw [hlen] at hl2
              subst hl2
              have HA := Hid.mk hap
              have HN2 := Hid.mk hgw
              clear hap hgw hlen
              go_wp2_with (first
                | (at_builtin; refine wpList_append_eq rfl _ _ _ _ rfl _ _ _ _ rfl rfl HA.out ?_)
                | go_in)
              exact ⟨⟨t + 1, l2a, l2c, rfl, by push_cast; rfl, htl, HN2⟩, by simp only [intOf]; omega⟩
            · have t1 : ¬ (t : Int) < 64 := by omega
              have ht64 : t = 64 := by omega
              subst ht64
              obtain ⟨k1, k2, k3, k4⟩ := HK.out
              have hml := HQ.out.ml
              have hmr : wr.ownsRow 0 26 1 (.slice ma ms.length mc) ms.length ms := by
                have := row_kept HQ.out.mrow k3 (fun k hk e => El.two eH_ok (E := eH) HQ.out.mrow (HQ.out.left i _ n (Nat.le_refl _) HS.out.1 HS.out.2.1) hk e)
                rw [hml]
                rw [hml] at this
                exact this
              obtain ⟨a', c', W', hap, m3, st3, hnew⟩ := El.more eH_ok wr ms ma mc hmr (by omega) (.slice la (n + 64) lc) rfl
              rw [hml] at hap m3 hnew st3
              have hst := HQ.out.step eH_ok HS.out.1 HS.out.2.1 k3 (by rw [Xf_at HS.out.2.1]; exact k1) (by rw [Xf_at HS.out.2.1]; exact k2) (fun b hb => by
                rcases k4 with ⟨g, cap, f1, f2⟩ | f
                · left; rw [f1]; rw [f2] at hb; exact hb
                · exact .inr (f b hb)) m3 st3 hnew
              have HA := Hid.mk hap
              have HN2 := Hid.mk hst
              clear hap hst k1 k2 k3 k4 hmr m3 st3 hnew hml
              go_wp2_with (first
                | (at_builtin; refine wpList_append_eq rfl _ _ _ _ rfl _ _ _ _ rfl rfl HA.out ?_)
                | go_in)
              exact ⟨⟨i + 1, a', c', _, rfl, by push_cast; rfl, hlt, HN2⟩, by simp only [intOf]; omega⟩
        · have i1 : ¬ (i : Int) < (NN : Int) := by omega
          have hie : i = NN := by omega
          subst hie
          obtain ⟨w3, hw3⟩ : ∃ w3, w3 = wr := ⟨_, rfl⟩
          subst hw3
          have HFS := Hid.mk (HST.out.andThen HQ.out.st (fun k _ e => e))
          go_wp2
          go_loopw [9, 10, 11] (fun u9 u10 u11 wr => ∃ j : Nat, u9 = .int .i64 j ∧ j ≤ i ∧ Drew w3 wr) (fun u _ _ _ => i - (intOf u).toNat)
          case atStart => exact ⟨0, rfl, Nat.zero_le _, Drew.refl _⟩
          case round =>
            obtain ⟨j, rfl, hj, hd⟩ := hrel
            obtain ⟨nq, rfl⟩ := hd
            by_cases hjl : j < i
            · obtain ⟨s, n, hs, hns, hnb⟩ := HP.out j hjl
              have hjm : j < ms.length := by rw [HQ.out.ml]; exact hjl
              obtain ⟨d1, d2⟩ := HQ.out.done j s ms[j] n hs (List.getElem?_eq_getElem hjm) hns
              rw [Xf_at hns] at d1 d2
              obtain ⟨gl, cap, e, hc⟩ := sl_at HQ.out.lrow j (by rw [← HH.out.2.1]; exact hjl)
              rw [← HH.out.2.1] at e
              cases e
              have hcs : w3.cell? ⟨gl, j, none⟩ = some s := by rw [hc, ← List.getElem?_eq_getElem, hs]
              have hmrow := HQ.out.mrow
              obtain ⟨gm, capm, em, hcm⟩ := sl_at hmrow j hjm
              rw [HQ.out.ml] at em
              cases em
              obtain ⟨sa, sc, hsf, -⟩ := slice_form d1
              rw [List.length_replicate] at hsf
              obtain ⟨la, lc, hlf, -⟩ := slice_form d2
              have hl64 : (List.replicate n (mA j) ++ Yf j).length = n + 64 := by simp [Yf]
              rw [hl64] at hlf
              have hcm' : w3.cell? ⟨gm, j, none⟩ = some (.slice la (n + 64) lc) := by rw [hcm, hlf]
              subst hsf
              have HD := Hid.mk (And.intro d1 (show eH.Row w3 (.slice la (n + 64) lc) (List.replicate n (mA j) ++ Yf j) from by rw [← hlf]; exact d2))
              have j1 : (j : Int) < (i : Int) := by omega
              have j2 : 0 ≤ (j : Int) := by omega
              have hwj : IntKind.i64.wrap ((j : Int) + 1) = ((j + 1 : Nat) : Int) := by rw [IntKind.wrap_i64]; omega
              have hwa : IntKind.i64.wrap (-1 - (j : Int)) = -1 - (j : Int) := by rw [IntKind.wrap_i64]; omega
              have hwb : IntKind.i64.wrap (-101 - (j : Int)) = -101 - (j : Int) := by rw [IntKind.wrap_i64]; omega
              obtain ⟨n6, hn6⟩ : ∃ n6, n6 = n + 64 := ⟨_, rfl⟩
              rw [← hn6] at hcm' HD
              have HN6 := Hid.mk hn6
              clear d1 d2 hc hcm hlf hl64 hs hns hmrow hn6
              go_wp2
              go_loopw [11] (fun u11 wr => ∃ k : Nat, u11 = .int .i64 k ∧ k ≤ n6 ∧ Drew w3 wr) (fun u _ => n6 - (intOf u).toNat)
              case atStart => exact ⟨0, rfl, Nat.zero_le _, ⟨_, rfl⟩⟩
              case round =>
                obtain ⟨k, rfl, hk, hd⟩ := hrel
                obtain ⟨nq2, rfl⟩ := hd
                have hn6 := HN6.out
                by_cases hkl : k < n6
                · have k1 : (k : Int) < (n6 : Int) := by omega
                  have k2 : 0 ≤ (k : Int) := by omega
                  have hwk : IntKind.i64.wrap ((k : Int) + 1) = ((k + 1 : Nat) : Int) := by rw [IntKind.wrap_i64]; omega
                  obtain ⟨g2, cap2, e2, q0, -, -, -⟩ := ht_at HD.out.2 k (by simp [Yf]; omega)
                  have hl64 : (List.replicate n (mA j) ++ Yf j).length = n6 := by simp [Yf]; omega
                  rw [hl64] at e2
                  cases e2
                  by_cases hkn : k < n
                  · obtain ⟨g1, cap1, e1, p0, -, -, -⟩ := ht_at HD.out.1 k (by simpa using hkn)
                    rw [List.length_replicate] at e1
                    cases e1
                    have hq : (List.replicate n (mA j) ++ Yf j)[k]'(by rw [hl64]; exact hkl) = mA j := by rw [List.getElem_append_left (by simpa using hkn)]; simp
                    rw [hq] at q0
                    have hp : (List.replicate n (mA j))[k]'(by simpa using hkn) = mA j := by simp
                    rw [hp] at p0
                    simp only [mA] at p0 q0
                    have m1 : decide ((k : Int) < (n : Int)) = true := by simp; omega
                    have m2 : decide (k < n) = true := by simp; omega
                    have m3 : decide ((n : Int) ≤ (k : Int)) = false := by simp; omega
                    have m4 : decide (n ≤ k) = false := by simp; omega
                    have m5 : (k : Int) < (n : Int) := by omega
                    clear hn6 hq hp hl64
                    go_wp2
                    exact ⟨⟨k + 1, by push_cast; rfl, hkl, ⟨_, rfl⟩⟩, by simp only [intOf]; omega⟩
                  · have hq : (List.replicate n (mA j) ++ Yf j)[k]'(by rw [hl64]; exact hkl) = mB j := by
                      have hm : (List.replicate n (mA j) ++ Yf j)[k]? = some (mB j) := by
                        rw [List.getElem?_append_right (by rw [List.length_replicate]; omega)]
                        unfold Yf
                        rw [List.getElem?_replicate, if_pos (by rw [List.length_replicate]; omega)]
                      exact (List.getElem?_eq_some_iff.1 hm).2
                    rw [hq] at q0
                    simp only [mB] at q0
                    have m1 : decide ((k : Int) < (n : Int)) = false := by simp; omega
                    have m2 : decide (k < n) = false := by simp; omega
                    have m3 : decide ((n : Int) ≤ (k : Int)) = true := by simp; omega
                    have m4 : decide (n ≤ k) = true := by simp; omega
                    clear hn6 hq hl64
                    go_wp2
                    exact ⟨⟨k + 1, by push_cast; rfl, hkl, ⟨_, rfl⟩⟩, by simp only [intOf]; omega⟩
                · have k1 : ¬ (k : Int) < (n6 : Int) := by omega
                  clear hn6
                  go_wp2
                  exact ⟨⟨j + 1, by push_cast; rfl, hjl, ⟨_, rfl⟩⟩, by simp only [intOf]; omega⟩
            · have j1 : ¬ (j : Int) < (i : Int) := by omega
              go_wp2
              go_ret
              exact ⟨rfl, HFS.out.andThen (Stay.below (F := fun _ => False) (Drew.below (show Drew w3 (w3.drewN nq) from ⟨nq, rfl⟩) _)) (fun _ _ e => e.elim)⟩
end Go.Proofs.Ytjdknijjkjmafaa.Ap
set_option linter.unusedVariables false
set_option linter.unusedSimpArgs false
namespace Go.Proofs.Ytjdknijjkjmafaa.Ap
open Go.RowKit
theorem row_mono' {w : World} {B B' e sz m : Nat} {v : Value} {xs : List Value} (h : w.ownsRow B e sz v m xs) (hB : B' ≤ B) : w.ownsRow B' e sz v m xs := by
  refine ⟨h.1, ?_⟩
  rcases h.2 with h2 | ⟨g, cap, cur, h2, h3, h4⟩
  · exact .inl h2
  · exact .inr ⟨g, cap, cur, h2, Nat.le_trans hB h3, h4⟩
structure LG (W0 wr : World) (lv : Value) (ss : List Value) (ns : List Nat) : Prop where
  len : ns.length = ss.length
  row : wr.ownsRow W0.heap.size 26 1 lv ss.length ss
  each : ∀ (j : Nat) (s : Value) (n : Nat), ss[j]? = some s → ns[j]? = some n → ∃ X : List H3, X.length = n ∧ wr.ownsRow W0.heap.size 25 3 s X.length (X.flatMap htC)
  apart : ∀ (j l : Nat) (s u : Value) (b : Nat), ss[j]? = some s → ss[l]? = some u → s.ownBlock = some b → u.ownBlock = some b → j = l
theorem LG.am {W0 w : World} {lv : Value} {ss : List Value} {ns : List Nat} (h : LG W0 w lv ss ns) : AM w w lv ss ns 0 :=
  ⟨h.len, row_mono' h.row (Nat.zero_le _), h.apart, fun j s n hj => by omega, fun j s n _ hs hn => by
    obtain ⟨X, h1, h2⟩ := h.each j s n hs hn
    exact ⟨X, h1, row_mono' h2 (Nat.zero_le _)⟩, .refl _ _⟩
theorem LG.kept {W0 w w' : World} {lv : Value} {ss : List Value} {ns : List Nat} {F : Nat → Prop} (h : LG W0 w lv ss ns) (s : Stay F w w') (h1 : ∀ k, lv.ownBlock = some k → ¬ F k) (h2 : ∀ (j : Nat) (u : Value) k, ss[j]? = some u → u.ownBlock = some k → ¬ F k) : LG W0 w' lv ss ns :=
  ⟨h.len, row_kept h.row s h1, fun j u n hu hn => by
    obtain ⟨X, x1, x2⟩ := h.each j u n hu hn
    exact ⟨X, x1, row_kept x2 s (fun k hk => h2 j u k hu hk)⟩, h.apart⟩
/-- A list more. -/
theorem LG.more {W0 w : World} {a : Option Addr} {c : Nat} {ss : List Value} {ns : List Nat} {B : Nat} (g : LG W0 w (.slice a ss.length c) ss ns) (hl : ss.length ≤ 2097152) {l : Value} {X : List H3} (hB : W0.heap.size ≤ B) (hr : w.ownsRow B 25 3 l X.length (X.flatMap htC)) (hnew : ∀ (j : Nat) (u : Value) b, ss[j]? = some u → u.ownBlock = some b → b < B) (hW : W0.heap.size ≤ w.heap.size) :
    ∃ a' c' w', (Builtin.append_ #[31, 31] 31 #[.slice a ss.length c, .slice (some ⟨w.heap.size, 0, none⟩) 1 1]).run Try.prog (w.alloc (.cells #[l] 26)) = .ok (.slice a' (ss.length + 1) c') w' ∧ LG W0 w' (.slice a' (ss.length + 1) c') (ss ++ [l]) (ns ++ [X.length]) ∧ Stay (fun k => (Value.slice a ss.length c).ownBlock = some k) w w' := by
  obtain ⟨va, vc, hlf, -⟩ := slice_form hr
  obtain ⟨a', c', w', hap, m3, st, hloc⟩ := El.more eH_ok w ss a c (row_mono' g.row (Nat.zero_le _)) hl l (by rw [hlf]; rfl)
  have hls := slice_form m3
  have eachk : ∀ {u : Value} {Y : List H3}, w.ownsRow W0.heap.size 25 3 u Y.length (Y.flatMap htC) → w'.ownsRow W0.heap.size 25 3 u Y.length (Y.flatMap htC) := fun {u Y} hu => row_kept hu st (fun k hk e => by
    obtain ⟨c1, e1⟩ := row_block g.row e
    obtain ⟨c2, e2⟩ := row_block hu hk
    rw [e1] at e2; simp at e2)
  refine ⟨a', c', w', hap, ⟨by simp [g.len], ?_, fun j s n hs hn => ?_, fun j l' s u b hs hu hb hb' => ?_⟩, st⟩
  · have hm : w'.ownsRow 0 26 1 (.slice a' (ss.length + 1) c') (ss ++ [l]).length (ss ++ [l]) := m3
    refine ⟨hm.1, ?_⟩
    rcases hm.2 with h2 | ⟨g2, cap, cur, h2, h3, h4⟩
    · exact .inl h2
    · refine .inr ⟨g2, cap, cur, h2, ?_, h4⟩
      have hob : (Value.slice a' (ss.length + 1) c').ownBlock = some g2 := by rw [h2]; rfl
      rcases hloc g2 hob with e | e
      · exact (g.row.lt g2 e).1
      · omega
  · rcases Nat.lt_or_ge j ss.length with hlt | hge
    · rw [List.getElem?_append_left hlt] at hs
      rw [List.getElem?_append_left (by rw [g.len]; exact hlt)] at hn
      obtain ⟨Y, y1, y2⟩ := g.each j s n hs hn
      exact ⟨Y, y1, eachk y2⟩
    · have hj : j = ss.length := by have := (List.getElem?_eq_some_iff.1 hs).1; simp at this; omega
      subst hj
      rw [List.getElem?_append_right (Nat.le_refl _)] at hs
      rw [List.getElem?_append_right (by rw [g.len]; exact Nat.le_refl _)] at hn
      simp [g.len] at hs hn
      subst hs
      exact ⟨X, hn, eachk (row_mono' hr hB)⟩
  · have key : ∀ (j l' : Nat) (s u : Value), (ss ++ [l])[j]? = some s → (ss ++ [l])[l']? = some u → s.ownBlock = some b → u.ownBlock = some b → j ≤ l' → j = l' := fun j l' s u hs hu hb hb' hle => by
      rcases Nat.lt_or_ge l' ss.length with hlt | hge
      · rw [List.getElem?_append_left hlt] at hu
        rw [List.getElem?_append_left (by omega)] at hs
        exact g.apart j l' s u b hs hu hb hb'
      · have hj : l' = ss.length := by have := (List.getElem?_eq_some_iff.1 hu).1; simp at this; omega
        subst hj
        rcases Nat.lt_or_ge j ss.length with hlt | hge2
        · rw [List.getElem?_append_left hlt] at hs
          rw [List.getElem?_append_right (Nat.le_refl _)] at hu
          simp at hu
          subst hu
          have h1 := hnew j s b hs hb
          have h2 := (hr.lt b hb').1
          omega
        · omega
    rcases Nat.le_total j l' with h | h
    · exact key j l' s u hs hu hb hb' h
    · exact (key l' j u s hu hs hb' hb h).symm
def toH (h : Ht) : H3 := (h.d, h.i, h.c)
theorem flat_toH (L : List Ht) : (L.map toH).flatMap htC = L.flatMap htL := by
  induction L with
  | nil => rfl
  | cons x t ih => rw [List.map_cons, List.flatMap_cons, List.flatMap_cons, ih]; rfl
/-- A row of hits, from a block on. -/
theorem row_from {w : World} {v : Value} {L : List Ht} {B : Nat} (h : HRow w v L) (hB : ∀ k, v.ownBlock = some k → B ≤ k) : w.ownsRow B 25 3 v (L.map toH).length ((L.map toH).flatMap htC) := by
  rw [flat_toH, List.length_map]
  refine ⟨h.1, ?_⟩
  rcases h.2 with h2 | ⟨g, cap, cur, h2, h3, h4⟩
  · exact .inl h2
  · exact .inr ⟨g, cap, cur, h2, hB g (by rw [h2]; rfl), h4⟩
theorem HRow.hsat {w : World} {v : Value} {L : List Ht} (h : HRow w v L) : ∃ a c, v = .slice a L.length c ∧ HsAt w a L := by
  obtain ⟨a, c, e, -⟩ := slice_form h
  refine ⟨a, c, e, ?_⟩
  by_cases h0 : L = []
  · exact .inl h0
  · have hl : 0 < L.length := List.length_pos_iff.2 h0
    obtain ⟨g, cap, e2, -⟩ := h.cells 0 hl
    rw [e] at e2
    injection e2 with e3 e4 e5
    refine .inr ⟨g, 0, e3, row_lt h (by rw [e, e3]; rfl), fun i hi => ?_⟩
    obtain ⟨g', cap', e6, c0, c1, c2⟩ := h.cells i hi
    rw [e] at e6
    injection e6 with e7 e8 e9
    rw [e3] at e7
    injection e7 with e7
    injection e7 with e7
    subst e7
    rw [Nat.zero_add]
    exact ⟨c0, c1, c2⟩
theorem told_len (b : ByteArray) : (toldA b).2.1.2.2.2.length ≤ 65536 := by
  by_cases h : (toldA b).2.2 = 0
  · exact (tell_again b h).2.2.2.1
  · have h2 := h
    unfold toldA at h2 ⊢
    split
    · simp
    · split
      · simp
      · rename_i k1 k2
        rw [if_neg k1, if_neg k2] at h2
        exact absurd rfl h2
end Go.Proofs.Ytjdknijjkjmafaa.Ap
set_option linter.unusedVariables false
set_option linter.unusedSimpArgs false
namespace Go.Proofs.Ytjdknijjkjmafaa.Ap
open Go.RowKit Go.Proofs.SealMath
/-- The five texts. -/
def txF (b T : ByteArray) (i : Nat) : ByteArray := if i = 2 ∨ i = 3 then T else b
/-- What stands from text to text. -/
structure TL (w wr : World) (tb : Nat) (b T : ByteArray) (lv : Value) (ss : List Value) (ns : List Nat) : Prop where
  tx : HC wr tb #[.string b, .string b, .string T, .string T, .string b] 9
  lg : LG w wr lv ss ns
  bl : Below w.heap.size w wr
  sm : ∀ n ∈ ns, n ≤ 65536
theorem TL.cell {w wr : World} {tb : Nat} {b T : ByteArray} {lv : Value} {ss : List Value} {ns : List Nat} (h : TL w wr tb b T lv ss ns) (i : Nat) (hi : i < 5) : wr.cell? ⟨tb, i, none⟩ = some (.string (txF b T i)) := by
  have h5 : i = 0 ∨ i = 1 ∨ i = 2 ∨ i = 3 ∨ i = 4 := by omega
  rcases h5 with rfl | rfl | rfl | rfl | rfl <;> exact HC.cell h.tx rfl
theorem TL.below {w wr wy : World} {tb : Nat} {b T : ByteArray} {lv : Value} {ss : List Value} {ns : List Nat} (h : TL w wr tb b T lv ss ns) (s : Below wr.heap.size wr wy) : TL w wy tb b T lv ss ns :=
  ⟨h.tx.below s, h.lg.kept (F := fun _ => False) (.below s) (fun _ _ h => h) (fun _ _ _ _ _ h => h), ⟨s.os.trans h.bl.os, s.tape.trans h.bl.tape, s.output.trans h.bl.output, Nat.le_trans h.bl.size s.size, fun i hi => (s.block i (Nat.lt_of_lt_of_le hi h.bl.size)).trans (h.bl.block i hi)⟩, h.sm⟩
/-- A list more. -/
theorem TL.more {w wr wy : World} {tb : Nat} {b T : ByteArray} {a : Option Addr} {c : Nat} {ss : List Value} {ns : List Nat} {v : Value} {L : List Ht} (h : TL w wr tb b T (.slice a ss.length c) ss ns) (s : Below wr.heap.size wr wy) (hl : ss.length ≤ 4) (hr : HRow wy v L) (hown : ∀ k, v.ownBlock = some k → wr.heap.size ≤ k) (hL : L.length ≤ 65536) :
    ∃ a' c' w', (Builtin.append_ #[31, 31] 31 #[.slice a ss.length c, .slice (some ⟨wy.heap.size, 0, none⟩) 1 1]).run Try.prog (wy.alloc (.cells #[v] 26)) = .ok (.slice a' (ss.length + 1) c') w' ∧ TL w w' tb b T (.slice a' (ss.length + 1) c') (ss ++ [v]) (ns ++ [L.length]) := by
  have hy := h.below s
  obtain ⟨a', c', w', hap, hg, st⟩ := hy.lg.more (B := wr.heap.size) (by omega) h.bl.size (row_from hr hown) (fun j u k hu hk => by
    have hj : j < ns.length := by rw [h.lg.len]; exact (List.getElem?_eq_some_iff.1 hu).1
    obtain ⟨X, x1, x2⟩ := h.lg.each j u _ hu (List.getElem?_eq_getElem hj)
    exact row_lt x2 hk) hy.bl.size
  rw [List.length_map] at hg
  refine ⟨a', c', w', hap, hy.tx.stay st (fun e => ?_), hg, hy.bl.trans (st.toBelow (fun k hk e => ?_) hy.bl.size), fun n hn => ?_⟩
  · obtain ⟨cur, hc⟩ := row_block hy.lg.row e
    have := hy.tx
    rw [HC, hc] at this
    injection this with this; injection this with _ this; revert this; decide
  · have := (hy.lg.row.lt k e).1; omega
  · rcases List.mem_append.1 hn with q | q
    · exact h.sm n q
    · rw [List.mem_singleton.1 q]; exact hL
def othL : List Ht := [⟨2, 7, ⟨#[120]⟩⟩, ⟨3, 1, ⟨#[121]⟩⟩]
/-- The other text. -/
def othT : ByteArray := ⟨(tellA 5 ⟨0, 0, ⟨#[]⟩⟩ othL).1.toArray⟩
theorem oth_size : othT.size < 4611686018427387904 := by
  have : (tellA 5 ⟨0, 0, ⟨#[]⟩⟩ othL).1.length ≤ 1000 := by decide +kernel
  show (tellA 5 ⟨0, 0, ⟨#[]⟩⟩ othL).1.toArray.size < _
  rw [List.size_toArray]; omega
theorem chain2 {a b c : World} (h : Below a.heap.size a b) (k : Below b.heap.size b c) : Below a.heap.size a c := ⟨k.os.trans h.os, k.tape.trans h.tape, k.output.trans h.output, Nat.le_trans h.size k.size, fun i hi => (k.block i (Nat.lt_of_lt_of_le hi h.size)).trans (h.block i hi)⟩
/-- Both answers to one text, beside each other. -/
theorem both_same {w wA wC wD : World} {A : Nat × (Nat × Nat × List UInt8 × List Ht) × Int} {v u : Value} (h1 : HRow wA v A.2.1.2.2.2) (h2 : HRow wC u A.2.1.2.2.2) (b1 : Below wA.heap.size wA wD) (b2 : Below wC.heap.size wC wD) (hl : A.2.1.2.2.2.length ≤ 65536) :
    Calls Try.prog 10 #[.agg #[.int .i64 A.2.1.1, .int .i64 A.2.1.2.1, Tx A.2.1.2.2.1, v], .agg #[.int .i64 A.2.1.1, .int .i64 A.2.1.2.1, Tx A.2.1.2.2.1, u]] wD fun e w' => e = .returned (.bool true) ∧ Below wD.heap.size wD w' := by
  obtain ⟨a, c, rfl, k1⟩ := HRow.hsat h1
  obtain ⟨a', c', rfl, k2⟩ := HRow.hsat h2
  exact same_any ⟨A.2.1.1, A.2.1.2.1, ⟨A.2.1.2.2.1.toArray⟩⟩ A.2.1.2.2.2 a a' c c' wD (k1.below b1) (k2.below b2) hl
set_option maxHeartbeats 8000000 in
set_option maxRecDepth 100000 in
theorem law_told (b : ByteArray) (w : World) (hb : b.size < 4611686018427387904) :
    Calls Try.prog 3 #[.string b] w fun e w' => e = .returned (.bool true) ∧ Below w.heap.size w w' := by
  have HB := Hid.mk hb
  clear hb
  have bA : Below w.heap.size w (w.alloc (.cells #[.int .i64 2, .int .i64 7, .string ⟨#[120]⟩, .int .i64 3, .int .i64 1, .string ⟨#[121]⟩] 25)) := (Below.refl _ w).alloc (Nat.le_refl _) _
  have hH : HsAt (w.alloc (.cells #[.int .i64 2, .int .i64 7, .string ⟨#[120]⟩, .int .i64 3, .int .i64 1, .string ⟨#[121]⟩] 25)) (some ⟨w.heap.size, 0, none⟩) othL := by
    have hc := HC.new w #[.int .i64 2, .int .i64 7, .string ⟨#[120]⟩, .int .i64 3, .int .i64 1, .string ⟨#[121]⟩] 25
    refine .inr ⟨w.heap.size, 0, rfl, by simp, fun i hi => ?_⟩
    have h2 : i = 0 ∨ i = 1 := by have : i < 2 := hi; omega
    rcases h2 with rfl | rfl <;> exact ⟨HC.cell hc rfl, HC.cell hc rfl, HC.cell hc rfl⟩
  have hT := rtell_any 5 ⟨0, 0, ⟨#[]⟩⟩ othL (some ⟨w.heap.size, 0, none⟩) 2 (by decide) (fun h hh => by simp [othL] at hh; rcases hh with rfl | rfl <;> decide) (by decide) _ hH
  have hT : Calls Try.prog 7 #[.int .i64 5, .agg #[.int .i64 0, .int .i64 0, .string ⟨#[]⟩, .slice (some ⟨w.heap.size, 0, none⟩) 2 2]] (w.alloc (.cells #[.int .i64 2, .int .i64 7, .string ⟨#[120]⟩, .int .i64 3, .int .i64 1, .string ⟨#[121]⟩] 25)) fun e w' => e = .returned (.tuple #[.string othT, .int .i64 (tellA 5 ⟨0, 0, ⟨#[]⟩⟩ othL).2]) ∧ Below (w.alloc (.cells #[.int .i64 2, .int .i64 7, .string ⟨#[120]⟩, .int .i64 3, .int .i64 1, .string ⟨#[121]⟩] 25)).heap.size (w.alloc (.cells #[.int .i64 2, .int .i64 7, .string ⟨#[120]⟩, .int .i64 3, .int .i64 1, .string ⟨#[121]⟩] 25)) w' := hT
  obtain ⟨T, hTT⟩ : ∃ T, T = othT := ⟨_, rfl⟩
  obtain ⟨tc, htc⟩ : ∃ tc, tc = (tellA 5 ⟨0, 0, ⟨#[]⟩⟩ othL).2 := ⟨_, rfl⟩
  rw [← hTT, ← htc] at hT
  have HT : Hid (T.size < 4611686018427387904) := Hid.mk (by rw [hTT]; exact oth_size)
  have HA := Hid.mk bA
  clear hTT htc hH bA
  go_enter Try.func3, Try.ntmps3
  go_upto_region 3 with (go_at_call 7; refine hT.mono ?_; clear hT; rintro e w1 ⟨rfl, b1⟩; have H1 := Hid.mk (chain2 HA.out b1); clear b1)
  obtain ⟨w2, hw2⟩ : ∃ w2, w2 = w1.alloc (.cells #[.string b, .string b, .string T, .string T, .string b] 9) := ⟨_, rfl⟩
  rw [← hw2]
  obtain ⟨tb, htb⟩ : ∃ tb, tb = w1.heap.size := ⟨_, rfl⟩
  rw [← htb]
  have H0 : Hid (TL w w2 tb b T (.slice none 0 0) [] []) := Hid.mk (by
    have bb : Below w.heap.size w w2 := by rw [hw2]; exact H1.out.alloc H1.out.size _
    refine ⟨by rw [hw2, htb]; exact HC.new w1 _ _, ⟨rfl, World.ownsRow_nil _ _ _ _, (fun j s n hs => by simp at hs), fun j l s u k hs => by simp at hs⟩, bb, fun n hn => by simp at hn⟩)
  clear hw2 htb H1 HA
  go_wp2
  go_loopw [6, 7] (fun o u wr => ∃ (i : Nat) (a : Option Addr) (c : Nat) (ss : List Value) (ns : List Nat), o = .slice a i c ∧ u = .int .i64 i ∧ i ≤ 5 ∧ Hid (ss.length = i ∧ TL w wr tb b T (.slice a i c) ss ns)) (fun _ u _ => 5 - (intOf u).toNat)
  case atStart => exact ⟨0, none, 0, [], [], rfl, rfl, Nat.zero_le _, rfl, H0.out⟩
  case round =>
    obtain ⟨i, a, c, ss, ns, rfl, rfl, hi5, HI⟩ := hrel
    clear H0
    by_cases hlt : i < 5
    · have hlt' : (i : Int) < 5 := by omega
      have k0 := HI.out.2.cell i hlt
      obtain ⟨tx, htx⟩ : ∃ tx, tx = txF b T i := ⟨_, rfl⟩
      have htb : tx.size < 4611686018427387904 := by
        rw [htx]; unfold txF
        split
        · exact HT.out
        · exact HB.out
      rw [← htx] at k0
      have hP := told_any tx wr htb
      have hlen := told_len tx
      have wi : IntKind.i64.wrap ((i : Int) + 1) = ((i + 1 : Nat) : Int) := i64_in _ (by omega) (by omega)
      have HX := Hid.mk (And.intro htb hlen)
      clear htx htb hlen
      obtain ⟨A, hA⟩ : ∃ A, A = toldA tx := ⟨_, rfl⟩
      rw [← hA] at hP
      have HAA := Hid.mk hA
      clear hA
      go_upto_region 8 with (go_at_call 8; refine hP.mono ?_; clear hP; rintro e x1 ⟨v, rfl, hr1, ho1, b1⟩; obtain ⟨va, vc, rfl, hs1⟩ := HRow.hsat hr1; have HR1 := Hid.mk (And.intro hr1 (And.intro ho1 b1)); clear hr1 ho1 b1 hs1)
      obtain ⟨xA, hxA⟩ : ∃ xA, xA = x1.alloc (.cells #[.int .i64 A.2.1.1, .int .i64 A.2.1.2.1, Tx A.2.1.2.2.1, .slice va A.2.1.2.2.2.length vc] 29) := ⟨_, rfl⟩
      rw [← hxA]
      have bA : Below x1.heap.size x1 xA := by rw [hxA]; exact (Below.refl _ x1).alloc (Nat.le_refl _) _
      have cA : HC xA x1.heap.size #[.int .i64 A.2.1.1, .int .i64 A.2.1.2.1, Tx A.2.1.2.2.1, .slice va A.2.1.2.2.2.length vc] 29 := by rw [hxA]; exact HC.new x1 _ _
      obtain ⟨p9, hp9⟩ : ∃ p9, p9 = x1.heap.size := ⟨_, rfl⟩
      rw [← hp9] at cA ⊢
      have hD := dtold_any tx xA HX.out.1
      rw [← HAA.out] at hD
      have kA := cell_below (chain2 HR1.out.2.2 bA) k0
      have HA2 := Hid.mk (And.intro bA cA)
      clear hxA bA cA hp9 k0
      go_upto_region 9 with (go_at_call 9; refine hD.mono ?_; clear hD; rintro e x2 ⟨u, rfl, hr2, ho2, b2⟩; obtain ⟨ua, uc, rfl, hs2⟩ := HRow.hsat hr2; have HR2 := Hid.mk (And.intro hr2 (And.intro ho2 b2)); clear hr2 ho2 b2 hs2)
      obtain ⟨xC, hxC⟩ : ∃ xC, xC = x2.alloc (.cells #[.int .i64 A.2.1.1, .int .i64 A.2.1.2.1, Tx A.2.1.2.2.1, .slice ua A.2.1.2.2.2.length uc] 29) := ⟨_, rfl⟩
      rw [← hxC]
      have bC : Below x2.heap.size x2 xC := by rw [hxC]; exact (Below.refl _ x2).alloc (Nat.le_refl _) _
      have cC : HC xC x2.heap.size #[.int .i64 A.2.1.1, .int .i64 A.2.1.2.1, Tx A.2.1.2.2.1, .slice ua A.2.1.2.2.2.length uc] 29 := by rw [hxC]; exact HC.new x2 _ _
      obtain ⟨p12, hp12⟩ : ∃ p12, p12 = x2.heap.size := ⟨_, rfl⟩
      rw [← hp12] at cC ⊢
      have bAC := chain2 HR2.out.2.2 bC
      have cA2 := HA2.out.2.below bAC
      have hS := both_same (w := w) (A := A) HR1.out.1 HR2.out.1 (chain2 HA2.out.1 bAC) bC (by rw [HAA.out]; exact HX.out.2)
      obtain ⟨TT, hTT⟩ : ∃ TT : ByteArray, TT = ⟨A.2.1.2.2.1.toArray⟩ := ⟨_, rfl⟩
      have q0 : xC.cell? ⟨p9, 0, none⟩ = some (.int .i64 A.2.1.1) := HC.cell cA2 rfl
      have q1 : xC.cell? ⟨p9, 1, none⟩ = some (.int .i64 A.2.1.2.1) := HC.cell cA2 rfl
      have q2 : xC.cell? ⟨p9, 2, none⟩ = some (Tx A.2.1.2.2.1) := HC.cell cA2 rfl
      have q3 : xC.cell? ⟨p9, 3, none⟩ = some (.slice va A.2.1.2.2.2.length vc) := HC.cell cA2 rfl
      have t0 : xC.cell? ⟨p12, 0, none⟩ = some (.int .i64 A.2.1.1) := HC.cell cC rfl
      have t1 : xC.cell? ⟨p12, 1, none⟩ = some (.int .i64 A.2.1.2.1) := HC.cell cC rfl
      have t2 : xC.cell? ⟨p12, 2, none⟩ = some (Tx A.2.1.2.2.1) := HC.cell cC rfl
      have t3 : xC.cell? ⟨p12, 3, none⟩ = some (.slice ua A.2.1.2.2.2.length uc) := HC.cell cC rfl
      have HC2 := Hid.mk (And.intro bAC cA2)
      clear hxC bC cC hp12 bAC cA2 hTT kA
      go_upto_region 12 with (go_at_call 10; refine hS.mono ?_; clear hS; rintro e x3 ⟨rfl, b3⟩; have H3 := Hid.mk b3; clear b3)
      have bz : Below wr.heap.size wr x3 := chain2 (chain2 (chain2 HR1.out.2.2 HA2.out.1) HC2.out.1) H3.out
      have hr3 : HRow x3 (.slice va A.2.1.2.2.2.length vc) A.2.1.2.2.2 := HR1.out.1.stay (F := fun _ => False) (.below (chain2 (chain2 HA2.out.1 HC2.out.1) H3.out)) (fun _ _ h => h)
      have hTL := HI.out.2
      rw [← HI.out.1] at hTL
      obtain ⟨a', c', x4, hap, hN⟩ := hTL.more bz (by have := HI.out.1; omega) hr3 HR1.out.2.1 (by rw [HAA.out]; exact HX.out.2)
      rw [HI.out.1] at hap hN
      have y3 := cell_below H3.out q3
      have HN : Hid ((ss ++ [Value.slice va A.2.1.2.2.2.length vc]).length = i + 1 ∧ TL w x4 tb b T (.slice a' (i + 1) c') (ss ++ [Value.slice va A.2.1.2.2.2.length vc]) (ns ++ [A.2.1.2.2.2.length])) := ⟨by simp [HI.out.1], hN⟩
      clear hN hTL hr3 bz q0 q1 q2 q3 t0 t1 t2 t3
      go_wp2_with (first | (at_builtin; refine wpList_append_eq rfl _ _ 31 31 rfl _ _ _ _ rfl rfl hap ?_; clear hap) | fail)
      go_roundw
      case rel => exact ⟨i + 1, _, _, _, _, rfl, by go_num, by omega, HN⟩
      case measure => simp [intOf]; omega
    · have hlt' : ¬ (i : Int) < 5 := by omega
      have hie : i = 5 := by omega
      subst hie
      have hAp := apart_any _ ss ns wr HI.out.2.lg.am (by rw [HI.out.1]; decide) (fun n hn => Nat.le_trans (HI.out.2.sm n hn) (by decide))
      have hP := fun W => told_any b W HB.out
      have hD := fun W => dtold_any b W HB.out
      have hlen := told_len b
      obtain ⟨A, hA⟩ : ∃ A, A = toldA b := ⟨_, rfl⟩
      rw [← hA] at hlen
      simp only [← hA] at hP hD
      have HLN := Hid.mk hlen
      have HW := Hid.mk HI.out.2
      clear hlt hA hlen HI HT HB
      go_upto_region 14 with (go_at_call 11; refine hAp.mono ?_; clear hAp; rintro e x0 ⟨rfl, st0⟩)
      have H0 : Hid (Below w.heap.size w x0) := HW.out.bl.trans (st0.toBelow (fun k hk e => by
        obtain ⟨j, s, hs, hk2⟩ := e
        have hj : j < ns.length := by rw [HW.out.lg.len]; exact (List.getElem?_eq_some_iff.1 hs).1
        obtain ⟨X, x1, x2⟩ := HW.out.lg.each j s _ hs (List.getElem?_eq_getElem hj)
        have := (x2.lt k hk2).1
        omega) HW.out.bl.size)
      clear st0 HW
      go_upto_region 15 with (go_at_call 8; refine (hP _).mono ?_; clear hP; rintro e x1 ⟨v, rfl, hr1, ho1, b1⟩; obtain ⟨va, vc, rfl, hs1⟩ := HRow.hsat hr1; have HR1 := Hid.mk (And.intro hr1 (And.intro ho1 b1)); clear hr1 ho1 b1 hs1)
      obtain ⟨xA, hxA⟩ : ∃ xA, xA = x1.alloc (.cells #[.int .i64 A.2.1.1, .int .i64 A.2.1.2.1, Tx A.2.1.2.2.1, .slice va A.2.1.2.2.2.length vc] 29) := ⟨_, rfl⟩
      rw [← hxA]
      have bA : Below x1.heap.size x1 xA := by rw [hxA]; exact (Below.refl _ x1).alloc (Nat.le_refl _) _
      have cA : HC xA x1.heap.size #[.int .i64 A.2.1.1, .int .i64 A.2.1.2.1, Tx A.2.1.2.2.1, .slice va A.2.1.2.2.2.length vc] 29 := by rw [hxA]; exact HC.new x1 _ _
      obtain ⟨p9, hp9⟩ : ∃ p9, p9 = x1.heap.size := ⟨_, rfl⟩
      rw [← hp9] at cA ⊢
      have HA2 := Hid.mk (And.intro bA cA)
      clear hxA bA cA hp9
      go_upto_region 16 with (go_at_call 9; refine (hD _).mono ?_; clear hD; rintro e x2 ⟨u, rfl, hr2, ho2, b2⟩; obtain ⟨ua, uc, rfl, hs2⟩ := HRow.hsat hr2; have HR2 := Hid.mk (And.intro hr2 (And.intro ho2 b2)); clear hr2 ho2 b2 hs2)
      obtain ⟨xC, hxC⟩ : ∃ xC, xC = x2.alloc (.cells #[.int .i64 A.2.1.1, .int .i64 A.2.1.2.1, Tx A.2.1.2.2.1, .slice ua A.2.1.2.2.2.length uc] 29) := ⟨_, rfl⟩
      rw [← hxC]
      have bC : Below x2.heap.size x2 xC := by rw [hxC]; exact (Below.refl _ x2).alloc (Nat.le_refl _) _
      have cC : HC xC x2.heap.size #[.int .i64 A.2.1.1, .int .i64 A.2.1.2.1, Tx A.2.1.2.2.1, .slice ua A.2.1.2.2.2.length uc] 29 := by rw [hxC]; exact HC.new x2 _ _
      obtain ⟨p12, hp12⟩ : ∃ p12, p12 = x2.heap.size := ⟨_, rfl⟩
      rw [← hp12] at cC ⊢
      have bAC := chain2 HR2.out.2.2 bC
      have cA2 := HA2.out.2.below bAC
      have hS := both_same (w := w) (A := A) HR1.out.1 HR2.out.1 (chain2 HA2.out.1 bAC) bC HLN.out
      have q0 : xC.cell? ⟨p9, 0, none⟩ = some (.int .i64 A.2.1.1) := HC.cell cA2 rfl
      have q1 : xC.cell? ⟨p9, 1, none⟩ = some (.int .i64 A.2.1.2.1) := HC.cell cA2 rfl
      have q2 : xC.cell? ⟨p9, 2, none⟩ = some (Tx A.2.1.2.2.1) := HC.cell cA2 rfl
      have q3 : xC.cell? ⟨p9, 3, none⟩ = some (.slice va A.2.1.2.2.2.length vc) := HC.cell cA2 rfl
      have t0 : xC.cell? ⟨p12, 0, none⟩ = some (.int .i64 A.2.1.1) := HC.cell cC rfl
      have t1 : xC.cell? ⟨p12, 1, none⟩ = some (.int .i64 A.2.1.2.1) := HC.cell cC rfl
      have t2 : xC.cell? ⟨p12, 2, none⟩ = some (Tx A.2.1.2.2.1) := HC.cell cC rfl
      have t3 : xC.cell? ⟨p12, 3, none⟩ = some (.slice ua A.2.1.2.2.2.length uc) := HC.cell cC rfl
      have HZ := Hid.mk (chain2 (chain2 (chain2 H0.out HR1.out.2.2) HA2.out.1) bAC)
      clear hxC bC cC hp12 bAC cA2
      go_wp2_with (first
        | (go_at_call 10; refine hS.mono ?_; clear hS; rintro e x3 ⟨rfl, b3⟩; have H3 := Hid.mk b3; clear b3)
        | fail)
      go_ret
      exact ⟨rfl, chain2 HZ.out H3.out⟩
end Go.Proofs.Ytjdknijjkjmafaa.Ap
set_option linter.unusedSimpArgs false
set_option linter.unusedVariables false
namespace Go.Proofs.Ytjdknijjkjmafaa
open Go.ChangeMaps (open_string shut_string)
open Go.ChangeShapes Go.WideShapes Go.ChangeAt Go.WideMaps Go.WideElems Go.RowKit Go.Proofs.SealMath
set_option maxRecDepth 100000 in
theorem told_lifted (os : Os) (started : os.Started) (H : Type) (enc : TypeId × Value → H) :
    ReturnsInHanded {} Try.checked os 3 .any (Rows.wireToldSpec.pre6 enc Try.prog Try.f3 Rows.wireToldRow.domain false)
      (Rows.wireToldSpec.post enc Try.prog Try.f3 false true false false) := by
  refine returnsInHanded_of_change_sized (C := Try.checked) own started (by kernel_rfl) Try.func3
    (ChangeSpec.witness6 (enc := enc) (C := Try.checked) false ⟨#[], #[.string ⟨#[]⟩], []⟩ 8 (by kernel_rfl) (by kernel_rfl) (by kernel_rfl) (by kernel_rfl)) ?_
  intro W base args ds gs before hval0 hW _ hsz0 _
  have hsz : (DataW.weightsEach Try.prog (Try.f3.params.toList ++ Rows.wireToldSpec.plain.varTypes Try.prog) (ds ++ gs)).all (· ≤ reachBytes) = true := hsz0
  clear hsz0
  have hval : ∀ (j : Nat) t v, Try.f3.params[j]? = some t → args[j]? = some v → Value.okWide Try.prog W .any base t v := hval0
  have hW' := hW
  obtain ⟨p, q, hA0, hV, rfl, hfz, hnd⟩ := hW
  have hA : DataW.TrodAll enc Try.prog W 0 (fun _ => true) true Try.f3.params.toList args.toList ds p := hA0
  rw [Try.params3] at hA hval hsz
  obtain ⟨v0, d0, rfl, rfl, h0⟩ := trodAll_one hA
  obtain ⟨rfl, rfl⟩ := trodVars_none hV
  obtain ⟨b, rfl, rfl, rfl, hb⟩ := open_string Try.underlying9 (hval 0 9 v0 rfl rfl) h0
  have sb : b.size ≤ 140737488351232 := by
    have := sized_string hsz (j := 0) (t := 9) rfl rfl
    simpa [reachBytes] using this
  clear hA0 hval0
  have e1 : Rows.wireToldSpec.fn H ([.lit (.string b.data.toList)] ++ []) = { results := [.lit (.bool true)], args := [.lit (.string b.data.toList)] } := by simp [Rows.wireToldSpec]
  have fin : ∀ (e : Ending) (W' : World), (e = .returned (.bool true) ∧ Below W.heap.size W W') → ∃ v, e = .returned v ∧ Rows.wireToldSpec.post enc Try.prog Try.f3 false true false false W #[.string b] v W' := by
    rintro e W' ⟨rfl, hbl⟩
    refine ⟨_, rfl, _, _, _, [], [], [], hW', ?_, ?_, ?_, hbl.frame _, fun h => by cases h⟩
    · rw [e1]; exact trodAll_mk1 (shut_bool Try.underlying4 true)
    · rw [e1]; exact trodAll_mk1 (shut_string Try.underlying9 hb)
    · rw [e1]; rfl
  exact (Ap.law_told b W (by omega)).mono fin

theorem told_row : Rows.WireToldSaid :=
  OpenClaim.holds_of_wide 3 Try.f3 rfl rfl rfl rfl rfl rfl rfl ⟨rfl, rfl, rfl, rfl, rfl⟩ rfl rfl rfl rfl rfl (by kernel_rfl) Try.func3 (by kernel_rfl)
    (of_decide_eq_true (by kernel_rfl)) (by unfold Func.isWrapper; rw [if_neg (of_decide_eq_false (by kernel_rfl))]; exact ⟨rfl, rfl⟩)
    (fun os started H enc _ => told_lifted os started H enc)
#print axioms told_row
end Go.Proofs.Ytjdknijjkjmafaa
