/-
  DERIVED. URow, as one text.
-/
import Derived.Test.YtojnlngpgbcimaaDoorTpAA
import Derived.Maps.AppendAt
set_option linter.unusedVariables false
set_option linter.unusedSimpArgs false
namespace Go.Proofs.YtojnlngpgbcimaaDoor.Rw
open Go.RowKit
/-- A kind of elements: its type, that of slices of it and of slices of these, its cells. -/
structure El (α : Type) where
  ty : TypeId
  sl : TypeId
  sz : Nat
  by' : Nat
  z : Value
  f : α → List Value
structure El.Ok {α : Type} (E : El α) (P : Program) : Prop where
  hf : ∀ x, (E.f x).length = E.sz
  one : ∀ x, ∀ u ∈ E.f x, u.oneCell' = true
  pos : 0 < E.sz
  zs : E.z.cells.size = E.sz
  by1 : E.by' ≤ 80
  info : (P.info? E.ty).map (fun i => (i.zero, i.size, i.bytes)) = some (some E.z, E.sz, E.by')
  und : P.underlying E.sl = some (.slice E.ty)
/-- A row of the call's own that holds these. -/
def El.Row {α : Type} (E : El α) (W : World) (v : Value) (X : List α) : Prop := W.ownsRow 0 E.ty E.sz v X.length (X.flatMap E.f)
theorem El.Ok.len {α : Type} {E : El α} {P : Program} (h : E.Ok P) (l : List α) : (l.flatMap E.f).length = l.length * E.sz := by
  induction l with
  | nil => simp
  | cons x l ih => rw [List.flatMap_cons, List.length_append, ih, h.hf, List.length_cons, Nat.succ_mul, Nat.add_comm]
theorem El.Ok.ones {α : Type} {E : El α} {P : Program} (h : E.Ok P) (l : List α) : ∀ u ∈ l.flatMap E.f, u.oneCell' = true := fun u hu => by
  obtain ⟨e, _, he⟩ := List.mem_flatMap.1 hu
  exact h.one e u he
theorem El.Row.below {α : Type} {E : El α} {w w' : World} {v : Value} {X : List α} (h : E.Row w v X) (b : Below w.heap.size w w') : E.Row w' v X := row_kept (F := fun _ => False) h (.below b) (fun _ _ h => h)
theorem El.Row.nil {α : Type} (E : El α) (W : World) : E.Row W (.slice none 0 0) [] := ⟨by simp, .inl ⟨rfl, rfl⟩⟩
theorem El.Row.form {α : Type} {E : El α} {W : World} {v : Value} {X : List α} (h : E.Row W v X) : ∃ a c, v = .slice a X.length c ∧ X.length ≤ c := slice_form h
theorem cells_new (W : World) (cs : List Value) (t : TypeId) (j : Nat) (u : Value) (hu : cs[j]? = some u) : (W.alloc (.cells cs.toArray t)).cell? ((⟨W.heap.size, 0, none⟩ : Addr).add j) = some u := by
  have e : (⟨W.heap.size, 0, none⟩ : Addr).add j = ⟨W.heap.size, j, none⟩ := by unfold Addr.add; split <;> simp_all
  rw [e, cell_of_row _ _ j _ t (0, 0) (heap_alloc_last W _)]
  simpa using hu
/-- append onto a slice of the call's own: it lies where it lay, or anew, and then all is kept. -/
theorem run_append_keep {P : Program} (w : World) (base : Nat) (t ty e : TypeId) (i : TypeInfo) (z : Value) (size bytes : Nat) (ht : P.underlying t = some (.slice e)) (hi : P.info? e = some i) (hz : i.zero = some z)
    (hsize : i.size = size) (hby : i.bytes = bytes) (hzs : z.cells.size = size) (hsz : 0 < size)
    (v : Value) (n : Nat) (xs : List Value) (hown : w.ownsRow base e size v n xs)
    (a : Addr) (m c : Nat) (news : List Value) (hl : news.length = m * size) (hnews : ∀ j u, news[j]? = some u → w.cell? (a.add j) = some u) (h1 : ∀ u ∈ news, u.oneCell' = true)
    (h63 : n + m ≤ maxLen) (hbytes : (n + m) * bytes ≤ 140737488355328) (hbase : base ≤ w.heap.size) :
    ∃ v' w', (Builtin.append_ #[t, t] ty #[v, .slice (some a) m c]).run P w = .ok v' w' ∧ w'.ownsRow base e size v' (n + m) (xs ++ news) ∧ w.grownBy w' v.ownBlock ∧
      ((∃ g cap, v = .slice (some ⟨g, 0, none⟩) n cap ∧ v' = .slice (some ⟨g, 0, none⟩) (n + m) cap) ∨ (v'.ownBlock = v.ownBlock ∧ v.ownBlock = none) ∨ (v'.ownBlock = some w.heap.size ∧ ∀ k, k < w.heap.size → w'.heap[k]? = w.heap[k]?)) := by
  obtain ⟨v', w', hr, h2, h3, h4, h5⟩ := run_append_own_at (P := P) w base t ty e i z size bytes ht hi hz hsize hby hzs hsz v n xs hown a m c news hl hnews h1 h63 hbytes hbase
  refine ⟨v', w', hr, h2, h3, ?_⟩
  subst hsize
  subst hby
  have hown' := hown
  rcases hown.2 with ⟨rfl, rfl⟩ | ⟨g, cap, cur, rfl, hbg, hg, hnc, hcm, hcs, htake⟩
  · rcases h5 with h5 | h5
    · exact .inr (.inl ⟨h5, rfl⟩)
    · exact .inr (.inr ⟨h5, fun k hk => h3.block k hk (by simp [Value.ownBlock])⟩)
  · by_cases hroom : n + m ≤ cap
    · have hfit : n * i.size + news.length ≤ cur.size := by rw [hl, hcs, ← Nat.add_mul]; exact Nat.mul_le_mul_right _ hroom
      have hr2 := run_append_room (P := P) w t ty e i ht hi g n cap cur hg a m c news hl hnews h1 hroom hfit
      rw [hr2] at hr
      cases hr
      exact .inl ⟨g, cap, rfl, rfl⟩
    · have holds : ∀ j u, xs[j]? = some u → w.cell? ((⟨g, 0, none⟩ : Addr).add j) = some u := hown'.cells (g := g) rfl
      have hr2 := run_append_grow (P := P) w t ty e i z ht hi hz ⟨g, 0, none⟩ n cap xs hown'.1 holds a m c news hl hnews (by omega) (by simp only [maxLen] at h63; omega) (growslice_fits (by omega) hbytes)
      rw [hr2] at hr
      cases hr
      exact .inr (.inr ⟨rfl, fun k hk => heap_alloc_old w.drew _ hk⟩)
/-- One element, written out in a new block, is put behind. -/
theorem El.app1 {α : Type} {E : El α} {P : Program} (ok : E.Ok P) (W : World) (X : List α) (v : Value) (h : E.Row W v X) (x : α) (hb : (X.length + 1) * E.by' ≤ 140737488355328) (hb2 : X.length < 4611686018427387904) :
    ∃ v' W', (Builtin.append_ #[E.sl, E.sl] E.sl #[v, .slice (some ⟨W.heap.size, 0, none⟩) 1 1]).run P (W.alloc (.cells (E.f x).toArray E.ty)) = .ok v' W' ∧ E.Row W' v' (X ++ [x]) ∧ Stay (fun k => v.ownBlock = some k) W W' ∧ (∀ k, v'.ownBlock = some k → v.ownBlock = some k ∨ W.heap.size ≤ k) := by
  obtain ⟨i0, hi, hz0, hz1, hz2⟩ := info_parts ok.info
  have hby := ok.by1
  have bA : Below W.heap.size W (W.alloc (.cells (E.f x).toArray E.ty)) := (Below.refl _ W).alloc (Nat.le_refl _) _
  obtain ⟨v', W', hap, ho, hg, -, hloc⟩ := run_append_own_at (P := P) (W.alloc (.cells (E.f x).toArray E.ty)) 0 E.sl E.sl E.ty i0 _ E.sz E.by' ok.und hi hz0 hz1 hz2 ok.zs ok.pos v X.length _ (El.Row.below h bA) ⟨W.heap.size, 0, none⟩ 1 1 (E.f x) (by rw [ok.hf, Nat.one_mul]) (fun j u hu => cells_new W (E.f x) E.ty j u hu) (ok.one x) (by unfold maxLen; omega) hb (Nat.zero_le _)
  refine ⟨v', W', hap, by show W'.ownsRow 0 E.ty E.sz v' (X ++ [x]).length _; rw [List.length_append, List.flatMap_append]; simpa using ho, (Stay.below bA).trans (.grown hg (fun k hk => hk)), fun k hk => ?_⟩
  rcases hloc with hl | hl
  · exact .inl (hl ▸ hk)
  · rw [hl] at hk; cases hk; exact .inr bA.size
/-- The beginning of a row. -/
theorem El.pre {α : Type} {E : El α} {P : Program} (ok : E.Ok P) {W : World} {g cap m n : Nat} {Y : List α} (h : E.Row W (.slice (some ⟨g, 0, none⟩) m cap) Y) (hm : m = Y.length) (hn : n ≤ m) : E.Row W (.slice (some ⟨g, 0, none⟩) n cap) (Y.take n) := by
  have hl : (Y.take n).length = n := by rw [List.length_take]; omega
  show W.ownsRow 0 E.ty E.sz _ (Y.take n).length _
  rw [hl]
  rcases h.2 with ⟨h0, _⟩ | ⟨g', c, cur, hv, k1, k2, k3, k4, k5, k6⟩
  · simp at h0
  · simp only [Value.slice.injEq, Option.some.injEq, Addr.mk.injEq] at hv
    obtain ⟨⟨rfl, -, -⟩, -, rfl⟩ := hv
    refine ⟨by rw [ok.len, hl], .inr ⟨g, cap, cur, rfl, k1, k2, by omega, k4, k5, ?_⟩⟩
    have e : (cur.toList.take (Y.length * E.sz)).take (n * E.sz) = cur.toList.take (n * E.sz) := by
      rw [List.take_take]; congr 1
      exact Nat.min_eq_left (Nat.mul_le_mul_right _ (by omega))
    rw [← e, k6]
    conv => lhs; rw [← List.take_append_drop n Y, List.flatMap_append]
    rw [List.take_left' (by rw [ok.len, hl])]
/-- One mark is put behind; the list that it grew from holds what it held. -/
theorem El.grow {α : Type} {E : El α} {P : Program} (ok : E.Ok P) (W : World) (n t : Nat) (s l : Value) (h : α) (B : Nat) (hB : B ≤ W.heap.size) (hs : E.Row W s (List.replicate n h)) (hl : E.Row W l (List.replicate (n + t) h))
    (hrel : (∃ g cap, s = .slice (some ⟨g, 0, none⟩) n cap ∧ l = .slice (some ⟨g, 0, none⟩) (n + t) cap) ∨ ∀ b, l.ownBlock = some b → B ≤ b) (hsB : ∀ b, s.ownBlock = some b → b < B) (hsz : n + t ≤ 1099511627776) :
    ∃ l' W', (Builtin.append_ #[E.sl, E.sl] E.sl #[l, .slice (some ⟨W.heap.size, 0, none⟩) 1 1]).run P (W.alloc (.cells (E.f h).toArray E.ty)) = .ok l' W' ∧ E.Row W' l' (List.replicate (n + (t + 1)) h) ∧ E.Row W' s (List.replicate n h) ∧
      ((∃ g cap, s = .slice (some ⟨g, 0, none⟩) n cap ∧ l' = .slice (some ⟨g, 0, none⟩) (n + (t + 1)) cap) ∨ ∀ b, l'.ownBlock = some b → B ≤ b) ∧ Stay (fun k => s.ownBlock = some k ∨ l.ownBlock = some k) W W' := by
  obtain ⟨i0, hi, hz0, hz1, hz2⟩ := info_parts ok.info
  have hby := ok.by1
  have bA : Below W.heap.size W (W.alloc (.cells (E.f h).toArray E.ty)) := (Below.refl _ W).alloc (Nat.le_refl _) _
  have hlA := El.Row.below hl bA
  have hll : (List.replicate (n + t) h).length = n + t := by simp
  have hlA' : (W.alloc (.cells (E.f h).toArray E.ty)).ownsRow 0 E.ty E.sz l (n + t) ((List.replicate (n + t) h).flatMap E.f) := by have := hlA; unfold El.Row at this; rw [hll] at this; exact this
  obtain ⟨l', W', hap, ho, hg, hk⟩ := run_append_keep (P := P) (W.alloc (.cells (E.f h).toArray E.ty)) 0 E.sl E.sl E.ty i0 _ E.sz E.by' ok.und hi hz0 hz1 hz2 ok.zs ok.pos l (n + t) _ hlA' ⟨W.heap.size, 0, none⟩ 1 1 (E.f h) (by rw [ok.hf, Nat.one_mul]) (fun j u hu => cells_new W (E.f h) E.ty j u hu) (ok.one h) (by unfold maxLen; omega) (by
    have : (n + t + 1) * E.by' ≤ (n + t + 1) * 80 := Nat.mul_le_mul_left _ hby
    omega) (Nat.zero_le _)
  have hrep : (List.replicate (n + t) h).flatMap E.f ++ E.f h = (List.replicate (n + (t + 1)) h).flatMap E.f := by
    rw [show n + (t + 1) = (n + t) + 1 by omega, List.replicate_succ', List.flatMap_append]; simp
  have hl' : E.Row W' l' (List.replicate (n + (t + 1)) h) := by
    show W'.ownsRow 0 E.ty E.sz l' _ _
    rw [List.length_replicate, ← hrep, ← Nat.add_assoc]; exact ho
  have st : Stay (fun k => l.ownBlock = some k) (W.alloc (.cells (E.f h).toArray E.ty)) W' := .grown hg (fun k hk => hk)
  have hsA := El.Row.below hs bA
  have sW : Stay (fun k => s.ownBlock = some k ∨ l.ownBlock = some k) W W' := (Stay.below bA).andThen (st.mono (fun k _ e => (show s.ownBlock = some k ∨ l.ownBlock = some k from .inr e))) (fun k _ e => e)
  refine ⟨l', W', hap, hl', ?_, ?_, sW⟩
  · rcases hk with ⟨g, cap, e1, e2⟩ | ⟨e1, e2⟩ | ⟨e1, e2⟩
    · rcases hrel with ⟨g', cap', f1, f2⟩ | f
      · rw [e1] at f2
        simp only [Value.slice.injEq, Option.some.injEq, Addr.mk.injEq] at f2
        obtain ⟨⟨rfl, -, -⟩, -, rfl⟩ := f2
        have := El.pre ok (n := n) (by rw [e2] at hl'; exact hl') (by rw [List.length_replicate, Nat.add_assoc]) (by omega)
        rw [f1]
        have e3 : (List.replicate (n + (t + 1)) h).take n = List.replicate n h := by rw [List.take_replicate, Nat.min_eq_left (by omega)]
        rw [e3] at this
        exact this
      · exact row_kept hsA st (fun k hk e => by have := f k e; have := hsB k hk; omega)
    · exact row_kept hsA st (fun k hk e => by rw [e2] at e; cases e)
    · refine row_kept (F := fun _ => False) hsA ⟨hg.os, hg.tape, hg.output, hg.size, fun k hk _ => e2 k hk⟩ (fun _ _ h => h)
  · rcases hk with ⟨g, cap, e1, e2⟩ | ⟨e1, e2⟩ | ⟨e1, e2⟩
    · rcases hrel with ⟨g', cap', f1, f2⟩ | f
      · rw [e1] at f2
        simp only [Value.slice.injEq, Option.some.injEq, Addr.mk.injEq] at f2
        obtain ⟨⟨rfl, -, -⟩, -, rfl⟩ := f2
        exact .inl ⟨g, cap, f1, by rw [e2, Nat.add_assoc]⟩
      · right; intro b hb
        refine f b ?_
        rw [e2] at hb
        rw [e1]; exact hb
    · right; intro b hb
      rw [e1, e2] at hb; cases hb
    · right; intro b hb
      rw [e1] at hb; cases hb
      exact Nat.le_trans hB bA.size
theorem cell_lat {W W' : World} {p : Addr} {v : Value} (hb : Below W.heap.size W W') (h : W.cell? p = some v) : W'.cell? p = some v := (hb.cell (World.block_lt_of_cell? W p h)).trans h
theorem below_d {w w' : World} (b : Below w.drew.heap.size w.drew w') : Below w.heap.size w w' := ⟨b.os, b.tape, b.output, b.size, b.block⟩
theorem b_drew (W : World) : Below W.heap.size W W.drew := (Below.refl _ W).drew
theorem wpList_append_eq {P : Program} {w : World} {ops : Array Oper} {rest : List Oper} {o : Oper} {a : Act} {Q : Exit → Act → World → Prop} (hgd : o.guard = none) (s x : Operand) (t u : TypeId)
    (ho : o.op = .call { callee := .builtin .append, args := #[s, x], argTypes := #[t, u] }) (v xv v' : Value) (w' : World) (hs : a.eval s = v) (hx : a.eval x = xv) (hr : (Builtin.append_ #[t, u] o.type #[v, xv]).run P w = .ok v' w')
    (h : wpList P ops Q rest (a.put o.dst v') w') : wpList P ops Q (o :: rest) a w := by
  refine wpList_plain hgd fun K hK => ?_
  unfold Oper.wp execOp
  simp only [ho, resolve, invoke, builtin, Sem.run_bind, Sem.run_pure, Result.andThen_ok, List.map_toArray, List.map_cons, List.map_nil, hs, hx, hr]
  exact hK _ _ h
theorem flat_at {T : Type} (f : T → List Value) (sz : Nat) (hf : ∀ x, (f x).length = sz) : ∀ (l : List T) (i j : Nat) (hi : i < l.length), j < sz → (l.flatMap f)[i * sz + j]? = (f l[i])[j]?
  | x :: l, 0, j, hi, hj => by rw [List.flatMap_cons, Nat.zero_mul, Nat.zero_add, List.getElem?_append_left (by rw [hf]; exact hj)]; rfl
  | x :: l, i + 1, j, hi, hj => by
    have := flat_at f sz hf l i j (by simpa using hi) hj
    rw [List.flatMap_cons, List.getElem?_append_right (by rw [hf, Nat.succ_mul]; omega), hf]
    rw [show (i + 1) * sz + j - sz = i * sz + j from by rw [Nat.succ_mul]; omega, this]; rfl
/-- A row's cells. -/
theorem El.cells {α : Type} {E : El α} {P : Program} (ok : E.Ok P) {W : World} {v : Value} {X : List α} (h : E.Row W v X) (i : Nat) (hi : i < X.length) : ∃ g cap, v = .slice (some ⟨g, 0, none⟩) X.length cap ∧ (∀ j u, (E.f X[i])[j]? = some u → W.cell? ⟨g, i * E.sz + j, none⟩ = some u) ∧ ∀ j, W.frozen? ⟨g, j, none⟩ = false := by
  rcases h.2 with ⟨h0, hz⟩ | ⟨g, cap, cur, hv, k1, k2, k3, k4, k5, k6⟩
  · omega
  · refine ⟨g, cap, hv, fun j u hu => ?_, fun j => frozen_of_row _ _ _ _ _ k2⟩
    have hj : j < E.sz := by rw [← ok.hf X[i]]; exact (List.getElem?_eq_some_iff.1 hu).1
    have hlt : i * E.sz + j < X.length * E.sz := by
      have : (i + 1) * E.sz ≤ X.length * E.sz := Nat.mul_le_mul_right _ hi
      rw [Nat.succ_mul] at this; omega
    have := World.ownsRow.cellAt (by rw [hv] at h; exact h) (i * E.sz + j) hlt
    rw [this, flat_at E.f E.sz ok.hf X i j hi hj, hu]
/-- Elements that lie somewhere. -/
structure El.At {α : Type} (E : El α) (w : World) (la : Option Addr) (l : List α) : Prop where
  at' : l ≠ [] → ∃ g off, la = some ⟨g, off, none⟩ ∧ ∀ j x, (l.flatMap E.f)[j]? = some x → w.cell? ⟨g, off + j, none⟩ = some x
theorem El.At.below {α : Type} {E : El α} {w w' : World} {la : Option Addr} {l : List α} (h : E.At w la l) (b : Below w.heap.size w w') : E.At w' la l := ⟨fun hn => by
  obtain ⟨g, off, e, hr⟩ := h.at' hn
  exact ⟨g, off, e, fun j x hx => cell_lat b (hr j x hx)⟩⟩
theorem El.Row.lat {α : Type} {E : El α} {W : World} {v : Value} {X : List α} (h : E.Row W v X) : ∃ a c, v = .slice a X.length c ∧ E.At W a X := by
  rcases h.2 with ⟨rfl, h0⟩ | ⟨g, cap, cur, rfl, h1, h2, h3, h4⟩
  · exact ⟨none, 0, by rw [h0], ⟨fun hn => absurd (List.eq_nil_of_length_eq_zero h0) hn⟩⟩
  · exact ⟨_, cap, rfl, ⟨fun _ => ⟨g, 0, rfl, fun j x hx => by
      have := World.ownsRow.cells h (g := g) rfl j x hx
      have e1 : (⟨g, 0, none⟩ : Addr).add j = ⟨g, 0 + j, none⟩ := by unfold Addr.add; split <;> simp_all
      rw [e1] at this; exact this⟩⟩⟩
/-- Cells are written one behind the other. -/
def putL (W : World) (g o : Nat) : List Value → World
  | [] => W
  | u :: us => putL (W.setCell ⟨g, o, none⟩ u) g (o + 1) us
def setL (xs : List Value) (o : Nat) : List Value → List Value
  | [] => xs
  | u :: us => setL (xs.set o u) (o + 1) us
theorem setL_mid : ∀ (us A B C : List Value), B.length = us.length → setL (A ++ (B ++ C)) A.length us = A ++ (us ++ C)
  | [], A, B, C, h => by
    have : B = [] := List.eq_nil_of_length_eq_zero (by simpa using h)
    subst this; rfl
  | u :: us, A, [], C, h => by simp at h
  | u :: us, A, b :: B, C, h => by
    have ih := setL_mid us (A ++ [u]) B C (by simpa using h)
    show setL ((A ++ (b :: B ++ C)).set A.length u) (A.length + 1) us = _
    have e : (A ++ (b :: B ++ C)).set A.length u = (A ++ [u]) ++ (B ++ C) := by
      rw [List.set_append_right _ _ (Nat.le_refl _), Nat.sub_self]; simp
    rw [e, show A.length + 1 = (A ++ [u]).length by simp, ih]; simp
theorem El.Ok.setL {α : Type} {E : El α} {P : Program} (ok : E.Ok P) (X : List α) (i : Nat) (hi : i < X.length) (x : α) : Go.Proofs.YtojnlngpgbcimaaDoor.Rw.setL (X.flatMap E.f) (i * E.sz) (E.f x) = (X.set i x).flatMap E.f := by
  have e1 : X = X.take i ++ (X[i] :: X.drop (i + 1)) := by rw [List.getElem_cons_drop, List.take_append_drop]
  have e2 : X.set i x = X.take i ++ (x :: X.drop (i + 1)) := by rw [List.set_eq_take_append_cons_drop, if_pos hi]
  have hl : ((X.take i).flatMap E.f).length = i * E.sz := by rw [ok.len, List.length_take, Nat.min_eq_left (Nat.le_of_lt hi)]
  rw [e2, List.flatMap_append, List.flatMap_cons]
  conv => lhs; rw [e1, List.flatMap_append, List.flatMap_cons]
  rw [← hl]
  exact setL_mid _ _ _ _ (by rw [ok.hf, ok.hf])
theorem own_putL {P : Nat → Prop} {e sz : Nat} {g n cap : Nat} : ∀ (us : List Value) (W : World) (o : Nat) (xs : List Value), W.ownsRow 0 e sz (.slice (some ⟨g, 0, none⟩) n cap) n xs → (putL W g o us).ownsRow 0 e sz (.slice (some ⟨g, 0, none⟩) n cap) n (setL xs o us)
  | [], _, _, _, h => h
  | _ :: us, _, _, _, h => own_putL (P := P) us _ _ _ (World.ownsRow.stored h _ _).1
/-- An element is written over. -/
theorem El.set {α : Type} {E : El α} {P : Program} (ok : E.Ok P) {W : World} {g cap n : Nat} {X : List α} (h : E.Row W (.slice (some ⟨g, 0, none⟩) n cap) X) (hn : n = X.length) (i : Nat) (hi : i < X.length) (x : α) : E.Row (putL W g (i * E.sz) (E.f x)) (.slice (some ⟨g, 0, none⟩) n cap) (X.set i x) := by
  subst hn
  show (putL W g (i * E.sz) (E.f x)).ownsRow 0 E.ty E.sz _ (X.set i x).length _
  rw [List.length_set, ← ok.setL X i hi x]
  exact own_putL (P := fun _ => True) _ _ _ _ h
theorem putL_stay : ∀ (us : List Value) (W : World) (g o : Nat), Stay (fun k => k = g) W (putL W g o us)
  | [], W, g, o => .refl _ _
  | u :: us, W, g, o => (Stay.setCell (F := fun k => k = g) (p := ⟨g, o, none⟩) (Stay.refl _ W) (fun _ => rfl) u).andThen (putL_stay us (W.setCell ⟨g, o, none⟩ u) g (o + 1)) (fun _ _ e => e)
/-- A row that make made. -/
theorem El.made {α : Type} {E : El α} {P : Program} (ok : E.Ok P) (W : World) (x : α) (hx : E.z.cells = (E.f x).toArray) (n : Nat) (hn : n ≤ 4611686018427387904) : E.Row (W.alloc (.cells (madeCells E.z.cells (n * E.sz)) E.ty)) (.slice (some ⟨W.heap.size, 0, none⟩) n n) (List.replicate n x) := by
  have e : (madeCells E.z.cells (n * E.sz)).toList = (List.replicate n x).flatMap E.f := by
    have hz := ok.zs
    have hp := ok.pos
    apply List.ext_getElem?
    intro k
    have hL : ((List.replicate n x).flatMap E.f).length = n * E.sz := by rw [ok.len]; simp
    have hM : (madeCells E.z.cells (n * E.sz)).toList.length = n * E.sz := by rw [Array.length_toList, size_madeCells]
    rcases Nat.lt_or_ge k (n * E.sz) with hk | hk
    · have hq : k / E.sz < n := by rw [Nat.div_lt_iff_lt_mul hp]; exact hk
      have hr : k % E.sz < E.sz := Nat.mod_lt _ hp
      have hkk : k = k / E.sz * E.sz + k % E.sz := by rw [Nat.mul_comm]; exact (Nat.div_add_mod k E.sz).symm
      have h1 := flat_at E.f E.sz ok.hf (List.replicate n x) (k / E.sz) (k % E.sz) (by simpa using hq) hr
      rw [← hkk] at h1
      rw [h1, List.getElem_replicate]
      have hk' : k < (madeCells E.z.cells (n * E.sz)).size := by rw [size_madeCells]; exact hk
      rw [Array.getElem?_toList, Array.getElem?_eq_getElem hk']
      simp only [madeCells, Array.getElem_ofFn]
      have hlf : (E.f x).length = E.sz := ok.hf x
      simp only [hx, List.size_toArray, hlf]
      rw [List.getElem?_eq_getElem (by rw [hlf]; exact hr)]
      simp [Array.getElem!_eq_getD, Array.getD, hlf, hr]
    · rw [List.getElem?_eq_none (by omega), List.getElem?_eq_none (by omega)]
  refine ⟨by rw [ok.len], .inr ⟨W.heap.size, n, madeCells E.z.cells (n * E.sz), by simp, Nat.zero_le _, heap_alloc_last W _, by simp, by unfold maxLen; omega, by rw [size_madeCells], ?_⟩⟩
  rw [e, List.length_replicate, List.take_of_length_le]
  rw [ok.len]; simp
end Go.Proofs.YtojnlngpgbcimaaDoor.Rw
