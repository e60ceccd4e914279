/-
  DERIVED. BestFirst: what stands while it goes on.
-/
import Derived.Test.YtecddamjolekmaaFKept
set_option linter.unusedVariables false
set_option linter.unusedSimpArgs false
namespace Go.Proofs.Ytecddamjolekmaa
open Go.RowKit
/-- What the j-th answer must be. -/
def wantL (k : Int) (R : List (List Ht)) (j : Nat) : List Ht := if j = 2 ∨ j = 3 then fsL k (mvL R) else fsL k R
theorem wantL_len (k : Int) (R : List (List Ht)) (j : Nat) : (wantL k R j).length ≤ 4096 := by unfold wantL; split <;> exact fsL_len _ _
/-- One hit is written over. -/
theorem TB.set {B : Nat} {W : World} {ov : Value} {ss : List Value} {Q : List (List Ht)} {t : Nat} (h : TB B W ov ss Q t) {x y b bc : Nat} {q : List Ht} (hq : Q[x]? = some q) (hy : y < q.length) (hs : ss[x]? = some (.slice (some ⟨b, 0, none⟩) q.length bc)) (e : Ht) : TB B (put3 W b y e) ov ss (Q.set x (q.set y e)) t := by
  have hx : x < Q.length := (List.getElem?_eq_some_iff.1 hq).1
  have st : Stay (fun k => k = b) W (put3 W b y e) := put3_stay (Stay.refl _ W) rfl
  have hov : ov.ownBlock ≠ some b := (h.blk hs rfl).2.2
  refine ⟨by rw [List.length_set]; exact h.len, row_kept h.row st (fun k hk e => hov (e ▸ hk)), fun i r hr => ?_, fun j h1 h2 => ?_, h.onew, h.bnew, h.apart⟩
  · by_cases hi : i = x
    · subst hi
      rw [List.getElem?_set_self hx] at hr
      cases hr
      obtain ⟨b', c', e1, e2⟩ := h.each i q hq
      rw [hs] at e1
      simp only [Option.some.injEq, Value.slice.injEq, Addr.mk.injEq] at e1
      obtain ⟨⟨rfl, -, -⟩, -, rfl⟩ := e1
      refine ⟨b, bc, by rw [List.length_set]; exact hs, ?_⟩
      have h9 := set3 e2 (by simp) y (by simp; omega) e
      rw [List.set_append_left _ _ hy] at h9
      rw [List.length_set]; exact h9
    · rw [List.getElem?_set_ne (fun e => hi e.symm)] at hr
      obtain ⟨b', c', e1, e2⟩ := h.each i r hr
      exact ⟨b', c', e1, row_kept e2 st (fun k hk e => hi (h.apart i x _ _ b e1 hs (by rw [← e]; exact hk) rfl))⟩
  · rw [List.length_set] at h1 h2
    obtain ⟨b', c', e1, e2⟩ := h.tail j h1 h2
    exact ⟨b', c', e1, row_kept e2 st (fun k hk e => by have := h.apart j x _ _ b e1 hs (by rw [← e]; exact hk) rfl; omega)⟩
/-- The whole state. -/
structure FS (w w1 : World) (E : Nat) (k : Int) (R : List (List Ht)) (g c : Nat) (ss : List Value) (ao : Option Addr) (co : Nat) (sm : List Value) (vb vc : Value) (W : World) (Q : List (List Ht)) (gv : Value) (gs : List Value) : Prop where
  tb : TB w.heap.size W (.slice (some ⟨g, 0, none⟩) (R.length + 64) c) ss Q 64
  old : ∀ (i : Nat) (s : Value) (b : Nat), ss[i]? = some s → s.ownBlock = some b → b < w1.heap.size
  ml : ML w1.heap.size W (.slice ao R.length co) sm (mvL R)
  bl : HRow W vb (fsL k R)
  bn : ∀ b, vb.ownBlock = some b → w1.heap.size ≤ b
  cl : HRow W vc (fsL k (mvL R))
  cn : ∀ b, vc.ownBlock = some b → w1.heap.size ≤ b
  below : Below w.heap.size w W
  size : w1.heap.size ≤ W.heap.size
  esize : E ≤ W.heap.size
  le2 : w1.heap.size ≤ E
  mo : ∀ b, (Value.slice ao R.length co).ownBlock = some b → b < E
  le : w.heap.size ≤ w1.heap.size
  gold : g < w1.heap.size
  grow : W.ownsRow 0 24 1 gv gs.length gs
  gnew : ∀ b, gv.ownBlock = some b → E ≤ b
  geach : ∀ (j : Nat) (s : Value), gs[j]? = some s → HRow W s (wantL k R j)
  gbn : ∀ (j : Nat) (s : Value) (b : Nat), gs[j]? = some s → s.ownBlock = some b → w1.heap.size ≤ b
  gap : ∀ (i j : Nat) (s u : Value) (b : Nat), gs[i]? = some s → gs[j]? = some u → s.ownBlock = some b → u.ownBlock = some b → i = j
theorem FS.lat {w w1 : World} {E : Nat} {k : Int} {R : List (List Ht)} {g c : Nat} {ss : List Value} {ao : Option Addr} {co : Nat} {sm : List Value} {vb vc : Value} {W W' : World} {Q : List (List Ht)} {gv : Value} {gs : List Value} (h : FS w w1 E k R g c ss ao co sm vb vc W Q gv gs) (b : Below W.heap.size W W') : FS w w1 E k R g c ss ao co sm vb vc W' Q gv gs :=
  ⟨h.tb.lat b, h.old, h.ml.lat b, HRow.below h.bl b, h.bn, HRow.below h.cl b, h.cn, h.below.trans (b.mono (Nat.le_trans h.le h.size)), Nat.le_trans h.size b.size, Nat.le_trans h.esize b.size, h.le2, h.mo, h.le, h.gold, row_kept (F := fun _ => False) h.grow (.below b) (fun _ _ h => h), h.gnew, fun j s hs => HRow.below (h.geach j s hs) b, h.gbn, h.gap⟩
theorem FS.set {w w1 : World} {E : Nat} {k : Int} {R : List (List Ht)} {g c : Nat} {ss : List Value} {ao : Option Addr} {co : Nat} {sm : List Value} {vb vc : Value} {W : World} {Q : List (List Ht)} {gv : Value} {gs : List Value} (h : FS w w1 E k R g c ss ao co sm vb vc W Q gv gs) {x y b bc : Nat} {q : List Ht} (hq : Q[x]? = some q) (hy : y < q.length) (hs : ss[x]? = some (.slice (some ⟨b, 0, none⟩) q.length bc)) (e : Ht) : FS w w1 E k R g c ss ao co sm vb vc (put3 W b y e) (Q.set x (q.set y e)) gv gs := by
  have hb : b < w1.heap.size := h.old x _ b hs rfl
  have hbn : w.heap.size ≤ b := h.tb.bnew x _ b hs rfl
  have st : Stay (fun k => k = b) W (put3 W b y e) := put3_stay (Stay.refl _ W) rfl
  have hs' : W.heap.size ≤ (put3 W b y e).heap.size := st.size
  have hk : ∀ {v : Value} {X : List Ht}, HRow W v X → (∀ z, v.ownBlock = some z → w1.heap.size ≤ z) → HRow (put3 W b y e) v X := fun {v X} hv hn => row_kept hv st (fun z hz e => by have := hn z hz; omega)
  exact ⟨h.tb.set hq hy hs e, h.old, h.ml.stay st (fun z hz _ e => by omega), hk h.bl h.bn, h.bn, hk h.cl h.cn, h.cn, h.below.trans (st.toBelow (fun z hz e => by omega) h.below.size), Nat.le_trans h.size hs', Nat.le_trans h.esize hs', h.le2, h.mo, h.le, h.gold,
    row_kept h.grow st (fun z hz e => by have := h.gnew z hz; have := h.le2; omega), h.gnew, fun j s hs => hk (h.geach j s hs) (fun z hz => h.gbn j s z hs hz), h.gbn, h.gap⟩
theorem FS.push {w w1 : World} {E : Nat} {k : Int} {R : List (List Ht)} {g c : Nat} {ss : List Value} {ao : Option Addr} {co : Nat} {sm : List Value} {vb vc : Value} {W0 W : World} {Q : List (List Ht)} {ga : Option Addr} {gc i : Nat} {gs : List Value} (h0 : FS w w1 E k R g c ss ao co sm vb vc W0 Q (.slice ga i gc) gs) (h : FS w w1 E k R g c ss ao co sm vb vc W Q (.slice ga i gc) gs) {v : Value} (hv : HRow W v (wantL k R i)) (hn : ∀ b, v.ownBlock = some b → W0.heap.size ≤ b) (h1c : v.oneCell' = true) (hl : i ≤ 5) :
    ∃ a' c' W', (Builtin.append_ #[22, 22] 22 #[.slice ga i gc, .slice (some ⟨W.heap.size, 0, none⟩) 1 1]).run Try.prog (W.alloc (.cells #[v] 24)) = .ok (.slice a' (i + 1) c') W' ∧ FS w w1 E k R g c ss ao co sm vb vc W' Q (.slice a' (i + 1) c') (gs ++ [v]) := by
  have hi : i = gs.length := by
    obtain ⟨a', c', e', -⟩ := slice_form h.grow
    simp only [Value.slice.injEq] at e'
    exact e'.2.1
  subst hi
  obtain ⟨a', c', W', hap, ho, st, hloc⟩ := more_app W gs ga gc h.grow (by omega) v h1c
  have hk : ∀ {v : Value} {Y : List Ht}, HRow W v Y → HRow W' v Y := fun {v Y} hv => row_kept hv st (fun k hk e => DL.apart h.grow hv e hk)
  have hb1 : Below w1.heap.size W W' := st.toBelow (fun z hz e => by have := h.gnew z e; have := h.le2; omega) h.size
  have hv0 : ∀ (j : Nat) (s : Value) (b : Nat), gs[j]? = some s → s.ownBlock = some b → v.ownBlock ≠ some b := fun j s b hs hb e => by
    have h1 := row_lt (h0.geach j s hs) hb
    have := hn b e
    omega
  refine ⟨a', c', W', hap, ⟨h.tb.stay st (fun b hb e => by
    have h1 := h.gnew b e
    have h2 := h.gold
    have h3 : g = b := by simpa [Value.ownBlock] using hb
    have h4 := h.le2
    omega) (fun j s b hs hb e => by
    have h1 := h.gnew b e
    have h2 := h.old j s b hs hb
    have h3 := h.le2
    omega), h.old, ?_, hk h.bl, h.bn, hk h.cl, h.cn, h.below.trans (hb1.mono h.le), Nat.le_trans h.size hb1.size, Nat.le_trans h.esize hb1.size, h.le2, h.mo, h.le, h.gold, ho, fun b hb => ?_, fun j s hs => ?_, fun j s b hs hb => ?_, fun j l s u b hs hu hb hub => ?_⟩⟩
  · refine ⟨h.ml.len, row_kept h.ml.row st (fun z hz e => ?_), fun j r s hr hs => hk (h.ml.each j r s hr hs), h.ml.new, h.ml.lnew⟩
    have h1 := h.gnew z e
    have h2 := h.mo z hz
    omega
  · rcases hloc b hb with e | e
    · exact h.gnew b e
    · exact Nat.le_trans h.esize e
  · rcases get_snoc hs with ⟨-, h1⟩ | ⟨h1, rfl⟩
    · exact hk (h.geach j s h1)
    · rw [h1]; exact hk hv
  · rcases get_snoc hs with ⟨-, h1⟩ | ⟨-, rfl⟩
    · exact h.gbn j s b h1 hb
    · exact Nat.le_trans h0.size (hn b hb)
  · rcases get_snoc hs with ⟨-, h1⟩ | ⟨h1, rfl⟩ <;> rcases get_snoc hu with ⟨-, h2⟩ | ⟨h2, rfl⟩
    · exact h.gap j l s u b h1 h2 hb hub
    · exact absurd hub (hv0 j s b h1 hb)
    · exact absurd hb (hv0 l u b h2 hub)
    · omega
/-- How far the lists are written over. -/
structure Sh (Q Nw : List (List Ht)) (x y : Nat) : Prop where
  len : Q.length = Nw.length
  lens : ∀ (i : Nat) (q r : List Ht), Q[i]? = some q → Nw[i]? = some r → q.length = r.length
  done : ∀ i, i < x → Q[i]? = Nw[i]?
  part : ∀ (q r : List Ht), Q[x]? = some q → Nw[x]? = some r → q.take y = r.take y
theorem Sh.start {Q Nw : List (List Ht)} (h1 : Q.length = Nw.length) (h2 : ∀ (i : Nat) (q r : List Ht), Q[i]? = some q → Nw[i]? = some r → q.length = r.length) : Sh Q Nw 0 0 := ⟨h1, h2, fun i hi => by omega, fun q r _ _ => by simp⟩
theorem Sh.next {Q Nw : List (List Ht)} {x y : Nat} (h : Sh Q Nw x y) (hy : ∀ q, Q[x]? = some q → q.length ≤ y) : Sh Q Nw (x + 1) 0 := ⟨h.len, h.lens, fun i hi => by
  rcases Nat.lt_or_ge i x with h1 | h1
  · exact h.done i h1
  · obtain rfl : i = x := by omega
    rcases Nat.lt_or_ge i Q.length with h2 | h2
    · have e1 : Q[i]? = some Q[i] := List.getElem?_eq_getElem h2
      have e2 : Nw[i]? = some (Nw[i]'(by rw [← h.len]; exact h2)) := List.getElem?_eq_getElem _
      have e3 := h.part _ _ e1 e2
      have e4 := h.lens i _ _ e1 e2
      have e5 := hy _ e1
      rw [List.take_of_length_le e5, List.take_of_length_le (by omega)] at e3
      rw [e1, e2, e3]
    · rw [List.getElem?_eq_none h2, List.getElem?_eq_none (by rw [← h.len]; exact h2)], fun q r _ _ => by simp⟩
theorem Sh.set {Q Nw : List (List Ht)} {x y : Nat} (h : Sh Q Nw x y) {q r : List Ht} (hq : Q[x]? = some q) (hr : Nw[x]? = some r) (hy : y < r.length) : Sh (Q.set x (q.set y r[y])) Nw x (y + 1) := by
  have hx : x < Q.length := (List.getElem?_eq_some_iff.1 hq).1
  have hl := h.lens x q r hq hr
  refine ⟨by rw [List.length_set]; exact h.len, fun i q' r' hq' hr' => ?_, fun i hi => ?_, fun q' r' hq' hr' => ?_⟩
  · by_cases hi : i = x
    · subst hi
      rw [List.getElem?_set_self hx] at hq'
      cases hq'
      rw [hr] at hr'; cases hr'
      rw [List.length_set]; exact hl
    · rw [List.getElem?_set_ne (fun e => hi e.symm)] at hq'
      exact h.lens i q' r' hq' hr'
  · rw [List.getElem?_set_ne (by omega)]; exact h.done i hi
  · rw [List.getElem?_set_self hx] at hq'
    cases hq'
    rw [hr] at hr'; cases hr'
    rw [List.take_succ_eq_append_getElem (by rw [List.length_set]; omega), List.take_succ_eq_append_getElem hy, List.take_set_of_le (Nat.le_refl _), List.getElem_set_self, h.part q r hq hr]
theorem Sh.all {Q Nw : List (List Ht)} {x y : Nat} (h : Sh Q Nw x y) (hx : Nw.length ≤ x) : Q = Nw := List.ext_getElem? (fun i => by
  rcases Nat.lt_or_ge i x with h1 | h1
  · exact h.done i h1
  · rw [List.getElem?_eq_none (by rw [h.len]; omega), List.getElem?_eq_none (by omega)])
end Go.Proofs.Ytecddamjolekmaa
