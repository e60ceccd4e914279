/-
  DERIVED. A row of cells by its block: what it holds, what keeps it; 'make' within a fence.
-/
import Derived.Test.YtmdmjjobhkpojaaParts
namespace Go.Proofs.Ytmdmjjobhkpojaa
open Go.RowKit Go.Shelf Go.Proofs.BitMath
/-- Block g is a row of these cells, none of them frozen. -/
def RowIs (W : World) (g : Nat) (e : TypeId) (cs : List Value) : Prop := W.heap[g]? = some (.cells cs.toArray e (0, 0))
theorem RowIs.lt {W : World} {g : Nat} {e : TypeId} {cs : List Value} (h : RowIs W g e cs) : g < W.heap.size := (Array.getElem?_eq_some_iff.1 h).1
theorem RowIs.cell {W : World} {g : Nat} {e : TypeId} {cs : List Value} (h : RowIs W g e cs) (j : Nat) : W.cell? ⟨g, j, none⟩ = cs[j]? := by
  rw [cell_of_row W g j cs.toArray e (0, 0) h]; simp
theorem RowIs.frozen {W : World} {g : Nat} {e : TypeId} {cs : List Value} (h : RowIs W g e cs) (j : Nat) : W.frozen? ⟨g, j, none⟩ = false := frozen_of_row W g j cs.toArray e h
theorem RowIs.set {W : World} {g : Nat} {e : TypeId} {cs : List Value} (h : RowIs W g e cs) (j : Nat) (v : Value) : RowIs (W.setCell ⟨g, j, none⟩ v) g e (cs.set j v) := by
  have := heap_setCell_same W g j cs.toArray e v h
  unfold RowIs; rw [this]; simp
theorem RowIs.other {W : World} {g : Nat} {e : TypeId} {cs : List Value} (h : RowIs W g e cs) {a : Addr} (ha : a.block ≠ g) (v : Value) : RowIs (W.setCell a v) g e cs :=
  (heap_setCell_other W a g v (fun e => ha e.symm)).trans h
theorem RowIs.kept {W W' : World} {g : Nat} {e : TypeId} {cs : List Value} {row : Option Nat} (h : RowIs W g e cs) (hg : W.grownBy W' row) (hne : some g ≠ row) : RowIs W' g e cs := (hg.block g h.lt hne).trans h
theorem RowIs.alloc {W : World} {g : Nat} {e : TypeId} {cs : List Value} (h : RowIs W g e cs) (o : Obj) : RowIs (W.alloc o) g e cs := h.kept (World.grownBy_alloc W o none) (fun e => by cases e)
theorem RowIs.below {W W' : World} {g B : Nat} {e : TypeId} {cs : List Value} (h : RowIs W g e cs) (hb : Below B W W') (hg : g < B) : RowIs W' g e cs := (hb.block g hg).trans h
theorem RowIs.own {β : Type} (B g : Nat) (e : TypeId) (f : β → List Value) : OwnFrom B (fun s W => RowIs W g e (f s)) := fun _ _ _ row hs hg hr =>
  hs.kept hg (fun he => by obtain ⟨_, o, ho, hc⟩ := hr g he.symm; rw [hs] at ho; cases ho; cases hc)
theorem RowIs.keepC {W W' : World} {n g : Nat} {e : TypeId} {cs : List Value} (h : RowIs W g e cs) (hk : KeepC n W W') (hn : n ≤ g) : RowIs W' g e cs := hk g _ hn h rfl
theorem rowIs_new (W : World) (e : TypeId) (cs : List Value) : RowIs (W.alloc (.cells cs.toArray e)) W.heap.size e cs := World.alloc_heap_new W _
theorem grown_set (W : World) (a : Addr) (v : Value) : W.grownBy (W.setCell a v) (some a.block) :=
  ⟨rfl, rfl, rfl, by simp, fun k _ hk => heap_setCell_other W a k v (fun e => hk (by rw [e]))⟩
theorem KeepC.set {n : Nat} {W : World} {a : Addr} (h : a.block < n) (v : Value) : KeepC n W (W.setCell a v) := KeepC.grown (grown_set W a v) (fun k e => by cases e; exact h)
theorem boxed_set {W : World} {B : Nat} {t : TypeId} {u : Value} (h : Boxed W B t u) {a : Addr} (ha : a.block ≠ B) (v : Value) : Boxed (W.setCell a v) B t u := h.kept (grown_set W a v) (fun e => ha (by cases e; rfl))
/-- What 'make' has laid. -/
theorem rowIs_own {W : World} {base g n size : Nat} {e : TypeId} {xs : List Value} (h : W.ownsRow base e size (.slice (some ⟨g, 0, none⟩) n n) n xs) : RowIs W g e xs := by
  rcases h.2 with ⟨h', _⟩ | ⟨g', cap', cur, h', _, hg, _, _, hs, ht⟩
  · cases h'
  · cases h'
    unfold RowIs
    rw [hg, ← ht, List.take_of_length_le (by rw [Array.length_toList, hs]; exact Nat.le_refl _)]
theorem wpListIn_make_full {F : Fence} {n : Nat} {P : Program} (w : World) {ops : Array Oper} {rest : List Oper} {o : Oper} {a : Act} {Q : Exit → Act → World → Prop}
    (hg : o.guard = none) (l c : Operand) (t : TypeId) (hop : o.op = Op.makeSlice t l c)
    (e : TypeId) (i : TypeInfo) (z : Value) (size : Nat) (h1 : P.underlying t = some (.slice e)) (h2 : P.info? e = some i) (h3 : i.zero = some z) (h4 : i.size = size)
    (kl kc : IntKind) (L C : Int) (m : Nat) (hl : a.eval l = .int kl L) (hc : a.eval c = .int kc C) (hL : L = (m : Int)) (hC : C = (m : Int)) (b2 : i.bytes * m ≤ 281474976710656) (b3 : m ≤ maxLen)
    (hK : ∀ w', RowIs w' w.heap.size e (madeCells z.cells (m * size)).toList → w.grownBy w' none → wpListIn F n P ops Q rest (a.put o.dst (.slice (some ⟨w.heap.size, 0, none⟩) m m)) w') :
    wpListIn F n P ops Q (o :: rest) a w := by
  refine wpListIn_plain hg fun K hK' => ?_
  obtain ⟨w', hrun, r1, r2⟩ := run_make_full (P := P) w 0 t e i z size h1 h2 h3 h4 kl kc m b2 b3 (Nat.zero_le _)
  subst hL
  subst hC
  unfold Oper.wpIn
  refine ⟨?_, ?_⟩
  · simp [Oper.about, hop]
  · rw [Oper.semAt_plain F _ _ (by rw [hop]; intro c hc'; cases hc')]
    simp [execOp, hop, hl, hc, hrun, Result.andThen]
    exact hK' _ _ (hK w' (rowIs_own r1) r2)
end Go.Proofs.Ytmdmjjobhkpojaa
