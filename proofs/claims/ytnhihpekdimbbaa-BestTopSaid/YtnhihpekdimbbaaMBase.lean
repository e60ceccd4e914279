/-
  DERIVED. Hits: their cells, lists of them.
-/
import Derived.Test.YtnhihpekdimbbaaSBA
import Derived.Test.YtnhihpekdimbbaaBStay
import Derived.Lib.Bytealg
import Derived.Deep.RegionHeld
import Derived.Laws.OwnMore
set_option linter.unusedVariables false
set_option linter.unusedSimpArgs false
namespace Go.Proofs.Ytnhihpekdimbbaa
open Go.RowKit
/-- A hit. -/
structure Ht where
  d : Int
  i : Int
  c : ByteArray
def e0 : Ht := ⟨0, 0, ⟨#[]⟩⟩
/-- Are two hits one? -/
def Ht.dec (a b : Ht) : Decidable (a = b) := if h : a.d = b.d ∧ a.i = b.i ∧ a.c = b.c then .isTrue (by obtain ⟨h1, h2, h3⟩ := h; cases a; cases b; simp only at h1 h2 h3; rw [h1, h2, h3]) else .isFalse (fun e => h (by subst e; exact ⟨rfl, rfl, rfl⟩))
def hC (e : Ht) : List Value := [.int .i64 e.d, .int .i64 e.i, .string e.c]
theorem ba_ext {X Y : ByteArray} (h : X.data.toList = Y.data.toList) : X = Y := ByteArray.ext (Array.toList_inj.1 h)
theorem bytesLess_cmp : ∀ a b : List UInt8, Op.bytesLess a b = decide (Lib.compareBytes a b < 0)
  | [], [] => rfl
  | [], _ :: _ => rfl
  | _ :: _, [] => rfl
  | a :: x, b :: y => by
    unfold Op.bytesLess Lib.compareBytes
    by_cases h1 : a < b
    · simp [h1]
    · by_cases h2 : b < a
      · have : ¬ a = b := fun e => by subst e; exact h1 h2
        simp [h1, h2, this]
      · have : a = b := UInt8.le_antisymm (UInt8.not_lt.1 h2) (UInt8.not_lt.1 h1)
        subst this
        simp [h1, bytesLess_cmp x y]
theorem cmp_zero : ∀ a b : List UInt8, Lib.compareBytes a b = 0 ↔ a = b
  | [], [] => by simp [Lib.compareBytes]
  | [], _ :: _ => by simp [Lib.compareBytes]
  | _ :: _, [] => by simp [Lib.compareBytes]
  | a :: x, b :: y => by
    unfold Lib.compareBytes
    by_cases h1 : a < b
    · have : ¬ a = b := fun e => by subst e; exact absurd h1 (UInt8.lt_irrefl _)
      simp [h1, this]
    · by_cases h2 : b < a
      · have : ¬ a = b := fun e => by subst e; exact h1 h2
        simp [h1, h2, this]
      · have : a = b := UInt8.le_antisymm (UInt8.not_lt.1 h2) (UInt8.not_lt.1 h1)
        subst this
        simp [h1, cmp_zero x y]
theorem cmpB_rev : ∀ a b : List UInt8, Lib.compareBytes b a = - Lib.compareBytes a b
  | [], [] => by simp [Lib.compareBytes]
  | [], _ :: _ => by simp [Lib.compareBytes]
  | _ :: _, [] => by simp [Lib.compareBytes]
  | a :: x, b :: y => by
    unfold Lib.compareBytes
    by_cases h1 : a < b
    · have : ¬ b < a := UInt8.not_lt.2 (UInt8.le_of_lt h1)
      simp [h1, this]
    · by_cases h2 : b < a
      · simp [h1, h2]
      · simp [h1, h2, cmpB_rev x y]
theorem cmpB_one : ∀ a b : List UInt8, Lib.compareBytes a b = -1 ∨ Lib.compareBytes a b = 0 ∨ Lib.compareBytes a b = 1
  | [], [] => by simp [Lib.compareBytes]
  | [], _ :: _ => by simp [Lib.compareBytes]
  | _ :: _, [] => by simp [Lib.compareBytes]
  | a :: x, b :: y => by
    unfold Lib.compareBytes
    by_cases h1 : a < b
    · simp [h1]
    · by_cases h2 : b < a
      · simp [h1, h2]
      · simp [h1, h2, cmpB_one x y]
theorem below_d {w w' : World} (b : Below w.drew.heap.size w.drew w') : Below w.heap.size w w' := ⟨b.os, b.tape, b.output, b.size, b.block⟩
theorem cell_lat {W W' : World} {p : Addr} {v : Value} (hb : Below W.heap.size W W') (h : W.cell? p = some v) : W'.cell? p = some v := (hb.cell (World.block_lt_of_cell? W p h)).trans h
theorem b_drew (W : World) : Below W.heap.size W W.drew := (Below.refl _ W).drew
/-- A struct's cells lie in a block. -/
def SAt (w : World) (g : Nat) (l : List Value) : Prop := ∀ j v, l[j]? = some v → w.cell? ⟨g, j, none⟩ = some v
theorem SAt.new (w : World) (l : List Value) (t : TypeId) : SAt (w.alloc (.cells l.toArray t)) w.heap.size l := fun j v hv => by
  rw [cell_of_row _ _ j _ t (0, 0) (heap_alloc_last w _)]
  simpa using hv
theorem SAt.below {w w' : World} {g B : Nat} {l : List Value} (h : SAt w g l) (b : Below B w w') (hg : g < B) : SAt w' g l := fun j v hv => (b.cell (p := ⟨g, j, none⟩) hg).trans (h j v hv)
theorem SAt.alloc {w : World} {g : Nat} {l : List Value} (h : SAt w g l) (o : Obj) : SAt (w.alloc o) g l := fun j v hv => cell_lat ((Below.refl _ w).alloc (Nat.le_refl _) o) (h j v hv)
/-- The cells of a list lie from here on. -/
def RowAt (w : World) (g off : Nat) (cs : List Value) : Prop := ∀ j x, cs[j]? = some x → w.cell? ⟨g, off + j, none⟩ = some x
theorem flat_at {T : Type} (f : T → List Value) (sz : Nat) (hf : ∀ x, (f x).length = sz) : ∀ (l : List T) (i j : Nat) (hi : i < l.length), j < sz → (l.flatMap f)[i * sz + j]? = (f l[i])[j]?
  | x :: l, 0, j, hi, hj => by rw [List.flatMap_cons, Nat.zero_mul, Nat.zero_add, List.getElem?_append_left (by rw [hf]; exact hj)]; rfl
  | x :: l, i + 1, j, hi, hj => by
    have := flat_at f sz hf l i j (by simpa using hi) hj
    rw [List.flatMap_cons, List.getElem?_append_right (by rw [hf, Nat.succ_mul]; omega), hf]
    rw [show (i + 1) * sz + j - sz = i * sz + j from by rw [Nat.succ_mul]; omega, this]; rfl
theorem enC_len (e : Ht) : (hC e).length = 3 := rfl
theorem row_en {w : World} {g off : Nat} {l : List Ht} (h : RowAt w g off (l.flatMap hC)) {A : World} (hA : A.heap[g]? = w.heap[g]?) (i : Nat) (hi : i < l.length) :
    A.cell? ⟨g, off + i * 3, none⟩ = some (.int .i64 l[i].d) ∧ A.cell? ⟨g, off + i * 3 + 1, none⟩ = some (.int .i64 l[i].i) ∧ A.cell? ⟨g, off + i * 3 + 2, none⟩ = some (.string l[i].c) := by
  have hc : ∀ o, A.cell? ⟨g, o, none⟩ = w.cell? ⟨g, o, none⟩ := fun o => by simp [World.cell?, hA]
  have hj : ∀ j v, j < 3 → (hC l[i])[j]? = some v → A.cell? ⟨g, off + i * 3 + j, none⟩ = some v := fun j v hj hv => by
    rw [hc, Nat.add_assoc]
    exact h _ _ (by rw [flat_at hC 3 enC_len l i j hi hj]; exact hv)
  exact ⟨hj 0 _ (by omega) rfl, hj 1 _ (by omega) rfl, hj 2 _ (by omega) rfl⟩
/-- A list of entries, as a slice that may lie anywhere. -/
structure LAt (w : World) (la : Option Addr) (l : List Ht) : Prop where
  at' : l ≠ [] → ∃ g off, la = some ⟨g, off, none⟩ ∧ RowAt w g off (l.flatMap hC)
theorem LAt.below {w w' : World} {la : Option Addr} {l : List Ht} (h : LAt w la l) (b : Below w.heap.size w w') : LAt w' la l := ⟨fun hn => by
  obtain ⟨g, off, e, hr⟩ := h.at' hn
  exact ⟨g, off, e, fun j x hx => cell_lat b (hr j x hx)⟩⟩
theorem LAt.lt {w : World} {la : Option Addr} {l : List Ht} (h : LAt w la l) {g off : Nat} (e : la = some ⟨g, off, none⟩) (hn : l ≠ []) : g < w.heap.size := by
  obtain ⟨g', off', e', hr⟩ := h.at' hn
  rw [e] at e'; cases e'
  cases l with
  | nil => exact absurd rfl hn
  | cons x l => exact World.block_lt_of_cell? w _ (hr 0 (.int .i64 x.d) rfl)
theorem infoHt : (Try.prog.info? 31).map (fun i => (i.zero, i.size, i.bytes)) = some (some (.agg #[.int .i64 0, .int .i64 0, .string ⟨#[]⟩]), 3, 32) := by kernel_rfl
theorem flat_len3 (l : List Ht) : (l.flatMap hC).length = l.length * 3 := by
  induction l with
  | nil => rfl
  | cons x l ih => rw [List.flatMap_cons, List.length_append, ih, enC_len, List.length_cons]; omega
theorem one3 (l : List Ht) : ∀ u ∈ l.flatMap hC, u.oneCell' = true := fun u hu => by
  obtain ⟨e, _, he⟩ := List.mem_flatMap.1 hu
  simp [hC] at he
  rcases he with rfl | rfl | rfl <;> rfl
theorem new_cells (W : World) (cs : List Value) (t : TypeId) (j : Nat) (u : Value) (hu : cs[j]? = some u) : (W.alloc (.cells cs.toArray t)).cell? ((⟨W.heap.size, 0, none⟩ : Addr).add j) = some u := by
  have e : (⟨W.heap.size, 0, none⟩ : Addr).add j = ⟨W.heap.size, j, none⟩ := by unfold Addr.add; split <;> simp_all
  rw [e, cell_of_row _ _ j _ t (0, 0) (heap_alloc_last W _)]
  simpa using hu
/-- Entries that lie somewhere are put behind entries of the call's own. -/
theorem ent_app (W : World) (l m : List Ht) (v : Value) (h : W.ownsRow 0 31 3 v l.length (l.flatMap hC)) (a : Option Addr) (c : Nat) (hm : m ≠ [] → ∃ g off, a = some ⟨g, off, none⟩ ∧ RowAt W g off (m.flatMap hC)) (hb : (l.length + m.length) * 32 ≤ 140737488355328) :
    ∃ v' w', (Builtin.append_ #[22, 22] 22 #[v, .slice a m.length c]).run Try.prog W = .ok v' w' ∧ w'.ownsRow 0 31 3 v' (l ++ m).length ((l ++ m).flatMap hC) ∧ Stay (fun k => v.ownBlock = some k) W w' ∧ (∀ k, v'.ownBlock = some k → v.ownBlock = some k ∨ W.heap.size ≤ k) := by
  obtain ⟨i0, hi, hz0, hz1, hz2⟩ := info_parts infoHt
  by_cases h0 : m = []
  · subst h0
    obtain ⟨a0, c0, hv, hc0⟩ := slice_form h
    refine ⟨v, W, ?_, by simpa using h, .refl _ _, fun k hk => .inl hk⟩
    subst hv
    have hf : (Builtin.firstCells 3 0 (.slice a 0 c)).run Try.prog W = .ok #[] W := by cases a <;> simp [Builtin.firstCells, loadCells, loadCellsFrom]
    simp [Builtin.append_, run_underlying Try.underlying22, sizeOf, typeInfo, hi, hz1, Builtin.lenOf, hf, hc0]
    cases a0 <;> simp [storeCells]
  · obtain ⟨g, off, rfl, hr⟩ := hm h0
    obtain ⟨v', w', hrun, ho, hg, _, hloc⟩ := run_append_own_at (P := Try.prog) W 0 22 22 31 i0 _ 3 32 Try.underlying22 hi hz0 hz1 hz2 rfl (by decide) v l.length _ h ⟨g, off, none⟩ m.length c (m.flatMap hC) (flat_len3 m) (fun j u hu => by
      have e1 : (⟨g, off, none⟩ : Addr).add j = ⟨g, off + j, none⟩ := by unfold Addr.add; split <;> simp_all
      rw [e1]; exact hr j u hu) (one3 m) (by unfold maxLen; omega) (by omega) (Nat.zero_le _)
    refine ⟨v', w', hrun, by rw [List.length_append, List.flatMap_append]; exact ho, .grown hg (fun k hk => hk), fun k hk => ?_⟩
    rcases hloc with hl | hl
    · exact .inl (hl ▸ hk)
    · rw [hl] at hk; cases hk; exact .inr (Nat.le_refl _)
/-- One entry, written out in a new block, is put behind. -/
theorem ent_app1 (W : World) (l : List Ht) (v : Value) (h : W.ownsRow 0 31 3 v l.length (l.flatMap hC)) (x : Ht) (hb : (l.length + 1) * 32 ≤ 140737488355328) :
    ∃ v' w', (Builtin.append_ #[22, 22] 22 #[v, .slice (some ⟨W.heap.size, 0, none⟩) 1 1]).run Try.prog (W.alloc (.cells (hC x).toArray 31)) = .ok v' w' ∧ w'.ownsRow 0 31 3 v' (l ++ [x]).length ((l ++ [x]).flatMap hC) ∧ Stay (fun k => v.ownBlock = some k) W w' ∧ (∀ k, v'.ownBlock = some k → v.ownBlock = some k ∨ W.heap.size ≤ k) := by
  obtain ⟨v', w', hr, ho, s, hloc⟩ := ent_app (W.alloc (.cells (hC x).toArray 31)) l [x] v (h.alloc _) (some ⟨W.heap.size, 0, none⟩) 1 (fun _ => ⟨W.heap.size, 0, rfl, fun j u hu => by
    have h1 := new_cells W (hC x) 31 j u (by simpa using hu)
    have e1 : (⟨W.heap.size, 0, none⟩ : Addr).add j = ⟨W.heap.size, 0 + j, none⟩ := by unfold Addr.add; split <;> simp_all
    rw [e1] at h1; exact h1⟩) (by simpa using hb)
  exact ⟨v', w', hr, ho, ((Stay.refl _ W).alloc _).trans s, fun k hk => (hloc k hk).imp id (fun h => by simp at h; omega)⟩
theorem flat_set3 : ∀ (X : List Ht) (i : Nat) (e : Ht), i < X.length → ((((X.flatMap hC).set (i * 3) (.int .i64 e.d)).set (i * 3 + 1) (.int .i64 e.i)).set (i * 3 + 2) (.string e.c)) = (X.set i e).flatMap hC
  | [], _, _, h => by simp at h
  | x :: X, 0, e, _ => by simp [hC]
  | x :: X, i + 1, e, h => by
    have ih := flat_set3 X i e (by simpa using h)
    have hh : ∀ (L : List Value) (j : Nat) (u : Value), (hC x ++ L).set ((i + 1) * 3 + j) u = hC x ++ L.set (i * 3 + j) u := fun L j u => by
      rw [List.set_append_right _ _ (by rw [enC_len]; omega), enC_len]
      congr 2; omega
    have h0 := fun L u => hh L 0 u
    simp only [Nat.add_zero] at h0
    rw [List.flatMap_cons, h0, hh, hh, ih, List.set_cons_succ, List.flatMap_cons]
/-- A row of entries of the call's own, all of its block. -/
def Full (W : World) (g : Nat) (X : List Ht) : Prop := W.ownsRow 0 31 3 (.slice (some ⟨g, 0, none⟩) X.length X.length) X.length (X.flatMap hC)
theorem Full.row {W : World} {g : Nat} {X : List Ht} (h : Full W g X) : RowAt W g 0 (X.flatMap hC) := fun j x hx => by
  have hj : j < X.length * 3 := by rw [← flat_len3]; exact (List.getElem?_eq_some_iff.1 hx).1
  have := World.ownsRow.cellAt h j hj
  rw [Nat.zero_add, this, hx]
theorem Full.cells {W : World} {g : Nat} {X : List Ht} (h : Full W g X) (i : Nat) (hi : i < X.length) :
    W.cell? ⟨g, i * 3, none⟩ = some (.int .i64 X[i].d) ∧ W.cell? ⟨g, i * 3 + 1, none⟩ = some (.int .i64 X[i].i) ∧ W.cell? ⟨g, i * 3 + 2, none⟩ = some (.string X[i].c) := by
  have := row_en h.row rfl i hi
  simpa only [Nat.zero_add] using this
theorem Full.free {W : World} {g : Nat} {X : List Ht} (h : Full W g X) (j : Nat) : W.frozen? ⟨g, j, none⟩ = false := World.ownsRow.frozenAt h j
theorem Full.lt {W : World} {g : Nat} {X : List Ht} (h : Full W g X) : g < W.heap.size := row_lt h rfl
theorem Full.kept {F : Nat → Prop} {W W' : World} {g : Nat} {X : List Ht} (h : Full W g X) (s : Stay F W W') (hn : ¬ F g) : Full W' g X := row_kept h s (fun k hk => by cases hk; exact hn)
theorem Full.lat {W : World} {g : Nat} {X Y : List Ht} {n : Nat} (h : Full W g X) (e : X.take n = Y) : LAt W (some ⟨g, 0, none⟩) Y := ⟨fun _ => ⟨g, 0, rfl, fun j x hx => h.row j x (by
  subst e
  rw [← List.take_append_drop n X, List.flatMap_append, List.getElem?_append_left (List.getElem?_eq_some_iff.1 hx).1]
  exact hx)⟩⟩
theorem own_lat {W : World} {B : Nat} {v : Value} {l : List Ht} (h : W.ownsRow B 31 3 v l.length (l.flatMap hC)) : ∃ a c, v = .slice a l.length c ∧ l.length ≤ c ∧ LAt W a l := by
  rcases h.2 with ⟨rfl, h0⟩ | ⟨g, cap, cur, rfl, h1, h2, h3, h4⟩
  · exact ⟨none, 0, by rw [h0], by rw [h0]; exact Nat.le_refl _, ⟨fun hn => absurd (List.eq_nil_of_length_eq_zero h0) hn⟩⟩
  · exact ⟨_, cap, rfl, h3, ⟨fun _ => ⟨g, 0, rfl, fun j x hx => by
      have := World.ownsRow.cells h (g := g) rfl j x hx
      have e1 : (⟨g, 0, none⟩ : Addr).add j = ⟨g, 0 + j, none⟩ := by unfold Addr.add; split <;> simp_all
      rw [e1] at this; exact this⟩⟩⟩
end Go.Proofs.Ytnhihpekdimbbaa
