/-
  DERIVED. The document's own Decode.
-/
import Derived.Test.YtejpakejfikkmaaDoorCSev2
import Derived.Test.YtejpakejfikkmaaDoorCRef3
import Derived.Test.YtejpakejfikkmaaDoorSParseC
import Derived.Deep.RegionHeldLaw
set_option linter.unusedVariables false
set_option linter.unusedSimpArgs false
namespace Go.Proofs.YtejpakejfikkmaaDoor
open Go.RowKit Go.Proofs.SealMath
theorem step_app {P : Program} {ops : Array Oper} {o : Oper} {a : Act} {w : World} {K : Act → World → Prop} {Q : Exit → Act → World → Prop} {E : Prop}
    (hg : o.guard = none) (s x : Operand) (t u : TypeId) (hop : o.op = Op.call { callee := Callee.builtin Builtin.append, args := #[s, x], argTypes := #[t, u] })
    (v xv v' : Value) (w' : World) (hs : a.eval s = v) (hx : a.eval x = xv) (hrun : (Builtin.append_ #[t, u] o.type #[v, xv]).run P w = .ok v' w') (hK : K (a.put o.dst v') w') :
    if Region.wanted o (yielded ops a.tmps) = true then Oper.wp P o a w K Q else E := by
  have hw : Region.wanted o (yielded ops a.tmps) = true := by simp [Region.wanted, hg]
  rw [if_pos hw]
  unfold Oper.wp
  simp [execOp, hop, resolve, invoke, builtin, hs, hx, hrun, Result.andThen]
  exact hK
theorem nat_cell {W : World} {a : Option Addr} {c n : Nat} {l : List Nat} (h : W.ownsRow 0 3 1 (.slice a n c) l.length (l.map natV)) (hn : n = l.length) {j x : Nat} (hx : l[j]? = some x) : ∃ g, a = some ⟨g, 0, none⟩ ∧ W.cell? ⟨g, j, none⟩ = some (.int .i64 (x : Int)) ∧ n ≤ c := by
  have hj := (List.getElem?_eq_some_iff.1 hx).1
  rcases h.2 with ⟨e, e2⟩ | ⟨g, cap, cur, e, h1, h2, h3, h4⟩
  · omega
  · have e' := e
    simp only [Value.slice.injEq] at e'
    obtain ⟨rfl, -, rfl⟩ := e'
    refine ⟨g, rfl, ?_, by omega⟩
    subst hn
    have := World.ownsRow.cellAt h j (by omega)
    rw [this, List.getElem?_map, hx]
    rfl
/-- The box and its runs, while they are read. -/
structure DB (w V W : World) (B g : Nat) (zs : List Int) (la : Option Addr) (i c : Nat) (pre : List Ru) : Prop where
  mb : MB W g zs (.slice la i c)
  ow : W.ownsRow 0 36 4 (.slice la i c) i (pre.flatMap ruC)
  own : ∀ k, (Value.slice la i c).ownBlock = some k → B ≤ k
  zr : Zr W w.heap.size
  bw : Below w.heap.size w W
  gB : g < B
  wg : w.heap.size < g
  BW : B ≤ W.heap.size
  len : pre.length = i
  bv : Below V.heap.size V W
  vg : V.heap.size ≤ g
theorem DB.lat {w V W W' : World} {B g : Nat} {zs : List Int} {la : Option Addr} {i c : Nat} {pre : List Ru} (h : DB w V W B g zs la i c pre) (b : Below W.heap.size W W') : DB w V W' B g zs la i c pre :=
  ⟨h.mb.kept (F := fun _ => False) (.below b) (fun h => h), row_kept (F := fun _ => False) h.ow (.below b) (fun _ _ h => h), h.own, (b.block _ (Array.getElem?_eq_some_iff.1 h.zr).1).trans h.zr, h.bw.trans (b.mono h.bw.size), h.gB, h.wg, Nat.le_trans h.BW b.size, h.len, h.bv.trans (b.mono h.bv.size), h.vg⟩
theorem DB.step {w V W : World} {B g : Nat} {z0 z1 z2 z3 z4 z5 : Int} {la : Option Addr} {i c : Nat} {pre : List Ru} (h : DB w V W B g [z0, z1, z2, z3, z4, z5] la i c pre) (run : Ru) (hi : i ≤ 100) :
    ∃ (la' : Option Addr) (c' : Nat) (w6 : World), (Builtin.append_ #[24, 24] 24 #[.slice la i c, .slice (some ⟨W.heap.size, 0, none⟩) 1 1]).run Tryd.prog (W.alloc (.cells (ruC run).toArray 36)) = .ok (.slice la' (i + 1) c') w6 ∧ w6.cell? ⟨g, 6, none⟩ = some (.slice la i c) ∧ w6.frozen? ⟨g, 6, none⟩ = false ∧ Below V.heap.size V w6 ∧
      DB w V (w6.setCell ⟨g, 6, none⟩ (.slice la' (i + 1) c')) B g [z0, z1, z2, z3, z4, z5] la' (i + 1) c' (pre ++ [run]) := by
  obtain ⟨w5, hw5⟩ : ∃ w5, w5 = W.alloc (.cells (ruC run).toArray 36) := ⟨_, rfl⟩
  have b5 : Below W.heap.size W w5 := by rw [hw5]; exact (Below.refl _ W).alloc (Nat.le_refl _) _
  have RI : RowAt w5 W.heap.size 0 (([run] : List Ru).flatMap ruC) := fun j x hx => by
    rw [hw5, Nat.zero_add]; exact SAt.new W (ruC run) _ j x (by simpa using hx)
  have h5 := h.lat b5
  have ow5 := h5.ow
  rw [← h.len] at ow5
  obtain ⟨v', w6, hr, ow6, st6, loc6⟩ := ru_app w5 pre [run] _ ow5 (some ⟨W.heap.size, 0, none⟩) 1 (fun _ => ⟨_, _, rfl, RI⟩) (by have := h.len; simp; omega)
  obtain ⟨la', c', rfl, -⟩ := slice_form ow6
  have hl : (pre ++ [run]).length = i + 1 := by rw [List.length_append, h.len]; rfl
  rw [hl] at hr ow6 loc6
  rw [h.len, show ([run] : List Ru).length = 1 from rfl] at hr
  rw [h.len] at st6 loc6
  have n1 : ¬ ((Value.slice la i c).ownBlock = some g) := fun e => by have := h.own _ e; have := h.gB; omega
  have n0 : ¬ ((Value.slice la i c).ownBlock = some w.heap.size) := fun e => by have := h.own _ e; have := h.gB; have := h.wg; omega
  have mb6 : MB w6 g [z0, z1, z2, z3, z4, z5] (.slice la i c) := h5.mb.kept st6 n1
  have zr6 : Zr w6 w.heap.size := (st6.block _ (Array.getElem?_eq_some_iff.1 h5.zr).1 n0).trans h5.zr
  have x6 : Below w.heap.size w w6 := h5.bw.trans (st6.toBelow (B := w.heap.size) (fun k hk e => by have := h.own _ e; have := h.gB; have := h.wg; omega) h5.bw.size)
  have v6 : Below V.heap.size V w6 := h5.bv.trans (st6.toBelow (B := V.heap.size) (fun k hk e => by have := h.own _ e; have := h.gB; have := h.vg; omega) h5.bv.size)
  have own' : ∀ k, (Value.slice la' (i + 1) c').ownBlock = some k → B ≤ k := fun k hk => by
    rcases loc6 k hk with e | e
    · exact h.own k e
    · exact Nat.le_trans h5.BW e
  have st7 : Stay (fun k => k = g) w6 (w6.setCell ⟨g, 6, none⟩ (.slice la' (i + 1) c')) := (Stay.refl (fun k => k = g) w6).setCell (fun _ => rfl) _
  rw [← hw5]
  refine ⟨la', c', w6, hr, mb6.cell6 rfl, mb6.free 6, v6, ⟨?_, row_kept ow6 st7 (fun k hk e => by (have e' : k = g := e; have := own' k hk; have := h.gB; omega)), own', (st7.block _ (Array.getElem?_eq_some_iff.1 zr6).1 (by (show ¬ (w.heap.size = g)); have := h.wg; omega)).trans zr6, x6.trans (st7.toBelow (B := w.heap.size) (fun k hk e => by (have e' : k = g := e; have := h.wg; omega)) x6.size), h.gB, h.wg, Nat.le_trans h5.BW (Nat.le_trans st6.size st7.size), hl, v6.trans (st7.toBelow (B := V.heap.size) (fun k hk e => by (have e' : k = g := e; have := h.vg; omega)) v6.size), h.vg⟩⟩
  have h6 : w6.heap[g]? = some (.cells #[.int .i64 z0, .int .i64 z1, .int .i64 z2, .int .i64 z3, .int .i64 z4, .int .i64 z5, .slice la i c] 26 (0, 0)) := mb6
  show (w6.setCell _ _).heap[g]? = _
  rw [heap_setCell_same w6 g 6 _ _ _ h6]
  rfl
/-- The run that stands from j on. -/
theorem grp_succ : ∀ (k : Nat) (l : List Nat), grp (k + 1) l = grp k l ++ [ruOf ((l.drop (4 * k)).take 4)]
  | 0, l => by simp [grp]
  | k + 1, l => by
    rw [grp, grp_succ k (l.drop 4), grp]
    simp only [List.cons_append, List.drop_drop]
    rw [show 4 + 4 * k = 4 * (k + 1) by omega]
theorem ruOf_at {l : List Nat} {j x0 x1 x2 x3 : Nat} (h0 : l[j]? = some x0) (h1 : l[j + 1]? = some x1) (h2 : l[j + 2]? = some x2) (h3 : l[j + 3]? = some x3) : ruOf ((l.drop j).take 4) = ⟨x0, x1, x2, x3⟩ := by
  unfold ruOf
  simp only [List.getD_eq_getElem?_getD, List.getElem?_take, List.getElem?_drop]
  simp [h0, h1, h2, h3]
end Go.Proofs.YtejpakejfikkmaaDoor
