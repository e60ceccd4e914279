/-
  DERIVED. A search: between what is taken and what then waits.
-/
import Derived.Test.YtnnbcdfpbdmgdaaDoorTSea1
set_option linter.unusedVariables false
set_option linter.unusedSimpArgs false
namespace Go.Proofs.YtnnbcdfpbdmgdaaDoor
open Go.RowKit Go.Maps Go.Sort Go.Proofs.BitMath Go.Proofs.TreeMath
/-- The list of those that wait is what a look at a node asks for. -/
theorem kids_kids' {α : Type} {d : α → α → Nat} {T : List (Nd α)} (h : WF d T) {q : α} {dq : Nat → Nat} {w b u : Nat} {n : Nd α} (hq : dq u = d n.code q) (hw : ∀ (j : Nat) (m : Nd α), T[j]? = some m → m.over ≠ none → m.dist ≤ w) : TreeMath.Kids d T q b u n (kids T dq b u 0 w) := by
  refine ⟨fun t ht => ?_, fun j m hm ho hmay => ?_, kids_nodup T dq b u 0 w⟩
  · obtain ⟨e, -, -, h3, h4, -⟩ := kids_mem.1 ht
    obtain ⟨m, a1, a2, a3⟩ := child_some h3
    exact ⟨m, a1, a2, by rw [a3, h4], by rw [h4]; exact hq⟩
  · have h0 : 0 < j := by have := h.lt hm ho; omega
    have hp := h.pos j m hm h0
    have hc : child T u m.dist = some j := by
      cases hcc : child T u m.dist with
      | none => exact absurd ⟨ho, rfl⟩ (child_none hcc hm)
      | some c =>
        obtain ⟨x, c1, c2, c3⟩ := child_some hcc
        rw [h.one c j x m u c1 hm c2 ho c3]
    exact kids_mem.2 ⟨m.dist, hp, by have := hw j m hm (by rw [ho]; simp); omega, hc, by rw [← hq], hmay⟩
structure S2 {n : Nat} (B : Nat) (W w : World) (t wd g cb bf k b0 : Nat) (q : Cd n) (T : List (Nd (Cd n))) (bs : List Nat) (ms : List (Option Nat)) (x : Num) (nv : Nat) (M : List (Cd n)) (L : List St) (wv : Value) (cnt : Nat) (vs : List Value) (sb b e p : Nat) : Prop where
  tr : TR w t wd T bs ms { x with looked := lkN x.looked nv }
  fb : FB B w g cb k (bdM k b0 q M) cnt (RL q M b0 (bdM k b0 q M)) vs
  row : w.ownsRow B 91 3 wv L.length (L.flatMap (stV bs))
  box : w.heap[bf]? = some (.cells #[.pointer (some ⟨g, 0, none⟩)] 77 (0, 0))
  sbx : w.heap[sb]? = some (.cells #[.pointer (some ⟨b, 0, none⟩), .int .i64 (e : Nat), .int .i64 (p : Nat)] 91 (0, 0))
  sne : wv.ownBlock ≠ some sb
  low : B ≤ bf ∧ B ≤ sb
  st : Stay (fun j => j = t ∨ B ≤ j) W w
theorem S2.drewN {n : Nat} {B : Nat} {W w w' : World} {t wd g cb bf k b0 : Nat} {q : Cd n} {T : List (Nd (Cd n))} {bs : List Nat} {ms : List (Option Nat)} {x : Num} {nv : Nat} {M : List (Cd n)} {L : List St} {wv : Value} {cnt : Nat} {vs : List Value} {sb b e p : Nat} (h : S2 B W w t wd g cb bf k b0 q T bs ms x nv M L wv cnt vs sb b e p) (d : Below w.heap.size w w') : S2 B W w' t wd g cb bf k b0 q T bs ms x nv M L wv cnt vs sb b e p :=
  ⟨h.tr.below d, (h.fb.fx.kept (F := fun _ => False) (.below d) (fun _ _ hh => hh)).fb h.fb.cnt, row_kept (F := fun _ => False) h.row (.below d) (fun _ _ hh => hh), (d.block bf (Array.getElem?_eq_some_iff.1 h.box).1).trans h.box, (d.block sb (Array.getElem?_eq_some_iff.1 h.sbx).1).trans h.sbx, h.sne, h.low, h.st.andThen (Stay.below (F := fun _ => False) d) (fun _ _ hh => hh.elim)⟩
theorem S2.c3 {n : Nat} {B : Nat} {W w : World} {t wd g cb bf k b0 : Nat} {q : Cd n} {T : List (Nd (Cd n))} {bs : List Nat} {ms : List (Option Nat)} {x : Num} {nv : Nat} {M : List (Cd n)} {L : List St} {wv : Value} {cnt : Nat} {vs : List Value} {sb b e p : Nat} (h : S2 B W w t wd g cb bf k b0 q T bs ms x nv M L wv cnt vs sb b e p) : w.cell? ⟨bf, 0, none⟩ = some (.pointer (some ⟨g, 0, none⟩)) ∧ w.cell? ⟨sb, 0, none⟩ = some (.pointer (some ⟨b, 0, none⟩)) := ⟨by simp [World.cell?, h.box], by simp [World.cell?, h.sbx]⟩
/-- A step is taken. -/
theorem SS.take {n : Nat} {B : Nat} {W wz w2 : World} {t wd g cb bf k b0 : Nat} {q : Cd n} {T : List (Nd (Cd n))} {bs : List Nat} {ms : List (Option Nat)} {x : Num} {L0 : List St} {V : List Nat} {L L' : List St} {wv wv' : Value} {cnt : Nat} {vs : List Value} {b e p : Nat} (h : SS B W wz t wd g cb bf k b0 q T bs ms x L0 V L wv cnt vs) (hr : wz.ownsRow B 91 3 wv' L'.length (L'.flatMap (stV bs))) (htb : ∀ j, TFoot t bs ms j → j < B) (hB : B ≤ wz.heap.size) (hbf : B ≤ bf)
    (b2 : Below (wz.alloc (.cells #[.pointer (some ⟨b, 0, none⟩), .int .i64 (e : Nat), .int .i64 (p : Nat)] 91)).heap.size (wz.alloc (.cells #[.pointer (some ⟨b, 0, none⟩), .int .i64 (e : Nat), .int .i64 (p : Nat)] 91)) w2) :
    S2 B W (w2.setCell ⟨t, 5, none⟩ (.int .i64 (lkN x.looked (V.length + 1)))) t wd g cb bf k b0 q T bs ms x (V.length + 1) (lvc T V) L' wv' cnt vs wz.heap.size b e p := by
  have b1 : Below wz.heap.size wz (wz.alloc (.cells #[.pointer (some ⟨b, 0, none⟩), .int .i64 (e : Nat), .int .i64 (p : Nat)] 91)) := (Below.refl _ wz).alloc (Nat.le_refl _) _
  have b12 := chain b1 b2 (Nat.le_refl _)
  have htB := htb t (.inl rfl)
  have st : Stay (fun j => j = t) w2 (w2.setCell ⟨t, 5, none⟩ (.int .i64 (lkN x.looked (V.length + 1)))) := Stay.setCell (F := fun j => j = t) (p := ⟨t, 5, none⟩) (Stay.refl _ w2) (fun _ => rfl) _
  have hbx2 := (b12.block bf (Array.getElem?_eq_some_iff.1 h.box).1).trans h.box
  have hsb2 : w2.heap[wz.heap.size]? = some (.cells #[.pointer (some ⟨b, 0, none⟩), .int .i64 (e : Nat), .int .i64 (p : Nat)] 91 (0, 0)) := (b2.block wz.heap.size (by simp)).trans Array.getElem?_push_size
  have fx2 := h.fb.fx.kept (F := fun _ => False) (.below b12) (fun _ _ hh => hh)
  have hr2 := row_kept (F := fun _ => False) hr (.below b12) (fun _ _ hh => hh)
  refine ⟨(h.tr.below b12).look1 _ (lkN_wf _ _), (fx2.kept st (fun j hj e => ?_)).fb h.fb.cnt, row_kept hr2 st (fun j hj e => ?_), (st.block bf (Array.getElem?_eq_some_iff.1 hbx2).1 (by omega)).trans hbx2, (st.block _ (Array.getElem?_eq_some_iff.1 hsb2).1 (by omega)).trans hsb2, fun e => ?_, ⟨hbf, hB⟩, (h.st.andThen (Stay.below (F := fun _ => False) b12) (fun _ _ hh => hh.elim)).andThen st (fun j _ e => .inl e)⟩
  · obtain ⟨cs, ty, -, -, h3⟩ := fx2.kind hj
    omega
  · have := (hr2.lt j hj).1
    omega
  · have := row_lt hr e
    omega
/-- A code was put to what is found. -/
theorem S2.add {n : Nat} {B : Nat} {W w w5 : World} {t wd g cb bf k b0 : Nat} {q : Cd n} {T : List (Nd (Cd n))} {bs : List Nat} {ms : List (Option Nat)} {x : Num} {nv : Nat} {M M' : List (Cd n)} {L : List St} {wv : Value} {cnt cnt' : Nat} {vs vs' : List Value} {sb b e p : Nat} (h : S2 B W w t wd g cb bf k b0 q T bs ms x nv M L wv cnt vs sb b e p) (htb : ∀ j, TFoot t bs ms j → j < B) (hf : FB B w5 g cb k (bdM k b0 q M') cnt' (RL q M' b0 (bdM k b0 q M')) vs') (s : Stay (FF g cb vs) w w5) : S2 B W w5 t wd g cb bf k b0 q T bs ms x nv M' L wv cnt' vs' sb b e p := by
  have hk : ∀ {j : Nat}, FF g cb vs j → ∃ cs ty, w.heap[j]? = some (.cells cs ty (0, 0)) ∧ (ty = 94 ∨ ty = 45 ∨ ty = 9) ∧ B ≤ j := fun {j} hj => h.fb.fx.kind hj
  refine ⟨h.tr.kept s (fun j hj e => ?_), hf, row_kept h.row s (fun j hj e => ?_), (s.block bf (Array.getElem?_eq_some_iff.1 h.box).1 (fun e => ?_)).trans h.box, (s.block sb (Array.getElem?_eq_some_iff.1 h.sbx).1 (fun e => ?_)).trans h.sbx, h.sne, h.low, h.st.andThen s (fun j hj e => ?_)⟩
  · obtain ⟨cs, ty, -, -, h3⟩ := hk e
    have := htb j hj
    omega
  · obtain ⟨cs, ty, h1, h2, -⟩ := hk e
    obtain ⟨cur, e2⟩ := row_block h.row hj
    rw [h1] at e2
    rcases h2 with rfl | rfl | rfl <;> simp at e2
  · obtain ⟨cs, ty, h1, h2, -⟩ := hk e
    rw [h.box] at h1
    rcases h2 with rfl | rfl | rfl <;> simp at h1
  · obtain ⟨cs, ty, h1, h2, -⟩ := hk e
    rw [h.sbx] at h1
    rcases h2 with rfl | rfl | rfl <;> simp at h1
  · obtain ⟨cs, ty, h1, h2, h3⟩ := hk e
    exact .inr h3
/-- The children wait. -/
theorem S2.look {n : Nat} {B : Nat} {W wz w w6 : World} {t wd g cb bf k b0 : Nat} {q : Cd n} {T : List (Nd (Cd n))} {bs : List Nat} {ms : List (Option Nat)} {x : Num} {L0 : List St} {V : List Nat} {L : List St} {s : St} {wv0 wv v6 : Value} {cnt0 cnt : Nat} {vs0 vs : List Value} {sb b : Nat} (h0 : SS B W wz t wd g cb bf k b0 q T bs ms x L0 V (L ++ [s]) wv0 cnt0 vs0) (hm : may (bdV T k b0 q V) s) (hk1 : 1 ≤ k) (h : S2 B W w t wd g cb bf k b0 q T bs ms x (V.length + 1) (lvc T (V ++ [s.node])) L wv cnt vs sb b s.edge s.par) (htb : ∀ j, TFoot t bs ms j → j < B)
    (hr : w6.ownsRow B 91 3 v6 (L ++ kids T (dqf T q) (bdV T k b0 q (V ++ [s.node])) s.node 0 wd).length ((L ++ kids T (dqf T q) (bdV T k b0 q (V ++ [s.node])) s.node 0 wd).flatMap (stV bs))) (st : Stay (fun j => wv.ownBlock = some j) w w6) :
    SS B W w6 t wd g cb bf k b0 q T bs ms x L0 (V ++ [s.node]) (L ++ kids T (dqf T q) (bdV T k b0 q (V ++ [s.node])) s.node 0 wd) v6 cnt vs := by
  have hrow : ∀ {j : Nat}, wv.ownBlock = some j → (∃ cur, w.heap[j]? = some (.cells cur 91 (0, 0))) ∧ B ≤ j := fun {j} hj => ⟨row_block h.row hj, (h.row.lt j hj).1⟩
  have hlt := (h0.si.ok s (by simp)).lt
  have hnd : T[s.node]? = some T[s.node] := List.getElem?_eq_getElem hlt
  have hw : ∀ (j : Nat) (m : Nd (Cd n)), T[j]? = some m → m.over ≠ none → m.dist ≤ wd := fun j m hj ho => by
    cases ho2 : m.over with
    | none => exact absurd ho2 ho
    | some u => have := dist_le h.tr.wf hj ho2; have := h.tr.eight; omega
  refine ⟨?_, ?_, hr, ?_, ?_, h0.run.trans (.look hm (.refl _ _)), h.st.andThen st (fun j _ e => .inr (hrow e).2)⟩
  · rw [List.length_append, List.length_singleton]
    exact h.tr.kept st (fun j hj e => by have := htb j hj; have := (hrow e).2; omega)
  · exact (h.fb.fx.kept st (fun j hj e => by
      obtain ⟨cs, ty, h1, h2, -⟩ := h.fb.fx.kind hj
      obtain ⟨⟨cur, e2⟩, -⟩ := hrow e
      rw [h1] at e2
      rcases h2 with rfl | rfl | rfl <;> simp at e2)).fb h.fb.cnt
  · refine (st.block bf (Array.getElem?_eq_some_iff.1 h.box).1 (fun e => ?_)).trans h.box
    obtain ⟨⟨cur, e2⟩, -⟩ := hrow e
    rw [h.box] at e2
    simp at e2
  · exact h0.si.visit dC_comm dC_tri h.tr.wf (bdV_snoc hk1 b0 q) hnd (kids_kids' h.tr.wf (dqf_eq hnd) hw)
end Go.Proofs.YtnnbcdfpbdmgdaaDoor
