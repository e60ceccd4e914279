/-
  DERIVED. MergeLists: what stands while it goes on.
-/
import Derived.Test.YtbkbnhdeleoibaaLWritten
import Derived.Test.YtbkbnhdeleoibaaLApart
import Derived.Test.YtbkbnhdeleoibaaLRef
set_option linter.unusedVariables false
set_option linter.unusedSimpArgs false
namespace Go.Proofs.Ytbkbnhdeleoibaa
open Go.RowKit
/-- What the j-th answer must be. -/
def wantL (Bl Cl : List En) (j : Nat) : List En := if j = 2 ∨ j = 3 then Cl else Bl
/-- The whole state. -/
structure FS (w w1 : World) (E : Nat) (Bl Cl : List En) (R : List (List En)) (g c : Nat) (ss : List Value) (ao : Option Addr) (co : Nat) (sm : List Value) (vb vc : Value) (W : World) (Q : List (List En)) (gv : Value) (gs : List Value) : Prop where
  tb : TB w.heap.size W (.slice (some ⟨g, 0, none⟩) (R.length + 64) c) ss Q 64
  old : ∀ (i : Nat) (s : Value) (b : Nat), ss[i]? = some s → s.ownBlock = some b → b < w1.heap.size
  ml : ML w1.heap.size W (.slice ao R.length co) sm (mvL R)
  bl : HRow W vb Bl
  bn : ∀ b, vb.ownBlock = some b → w1.heap.size ≤ b
  cl : HRow W vc Cl
  cn : ∀ b, vc.ownBlock = some b → w1.heap.size ≤ b
  below : Below w.heap.size w W
  size : w1.heap.size ≤ W.heap.size
  esize : E ≤ W.heap.size
  le2 : w1.heap.size ≤ E
  mo : ∀ b, (Value.slice ao R.length co).ownBlock = some b → b < E
  le : w.heap.size ≤ w1.heap.size
  gold : g < w1.heap.size
  grow : W.ownsRow 0 24 1 gv gs.length gs
  gnew : ∀ b, gv.ownBlock = some b → E ≤ b
  geach : ∀ (j : Nat) (s : Value), gs[j]? = some s → HRow W s (wantL Bl Cl j)
  gbn : ∀ (j : Nat) (s : Value) (b : Nat), gs[j]? = some s → s.ownBlock = some b → w1.heap.size ≤ b
  gap : ∀ (i j : Nat) (s u : Value) (b : Nat), gs[i]? = some s → gs[j]? = some u → s.ownBlock = some b → u.ownBlock = some b → i = j
theorem FS.lat {w w1 : World} {E : Nat} {Bl Cl : List En} {R : List (List En)} {g c : Nat} {ss : List Value} {ao : Option Addr} {co : Nat} {sm : List Value} {vb vc : Value} {W W' : World} {Q : List (List En)} {gv : Value} {gs : List Value} (h : FS w w1 E Bl Cl R g c ss ao co sm vb vc W Q gv gs) (b : Below W.heap.size W W') : FS w w1 E Bl Cl R g c ss ao co sm vb vc W' Q gv gs :=
  ⟨h.tb.lat b, h.old, h.ml.lat b, HRow.below h.bl b, h.bn, HRow.below h.cl b, h.cn, h.below.trans (b.mono (Nat.le_trans h.le h.size)), Nat.le_trans h.size b.size, Nat.le_trans h.esize b.size, h.le2, h.mo, h.le, h.gold, row_kept (F := fun _ => False) h.grow (.below b) (fun _ _ h => h), h.gnew, fun j s hs => HRow.below (h.geach j s hs) b, h.gbn, h.gap⟩
theorem FS.push {w w1 : World} {E : Nat} {Bl Cl : List En} {R : List (List En)} {g c : Nat} {ss : List Value} {ao : Option Addr} {co : Nat} {sm : List Value} {vb vc : Value} {W0 W : World} {Q : List (List En)} {ga : Option Addr} {gc i : Nat} {gs : List Value} (h0 : FS w w1 E Bl Cl R g c ss ao co sm vb vc W0 Q (.slice ga i gc) gs) (h : FS w w1 E Bl Cl R g c ss ao co sm vb vc W Q (.slice ga i gc) gs) {v : Value} (hv : HRow W v (wantL Bl Cl i)) (hn : ∀ b, v.ownBlock = some b → W0.heap.size ≤ b) (h1c : v.oneCell' = true) (hl : i ≤ 5) :
    ∃ a' c' W', (Builtin.append_ #[22, 22] 22 #[.slice ga i gc, .slice (some ⟨W.heap.size, 0, none⟩) 1 1]).run Try.prog (W.alloc (.cells #[v] 24)) = .ok (.slice a' (i + 1) c') W' ∧ FS w w1 E Bl Cl R g c ss ao co sm vb vc W' Q (.slice a' (i + 1) c') (gs ++ [v]) := by
  have hi : i = gs.length := by
    obtain ⟨a', c', e', -⟩ := slice_form h.grow
    simp only [Value.slice.injEq] at e'
    exact e'.2.1
  subst hi
  obtain ⟨a', c', W', hap, ho, st, hloc⟩ := more_app W gs ga gc h.grow (by omega) v h1c
  have hk : ∀ {v : Value} {Y : List En}, HRow W v Y → HRow W' v Y := fun {v Y} hv => row_kept hv st (fun k hk e => rows_apart h.grow hv e hk)
  have hb1 : Below w1.heap.size W W' := st.toBelow (fun z hz e => by have := h.gnew z e; have := h.le2; omega) h.size
  have hv0 : ∀ (j : Nat) (s : Value) (b : Nat), gs[j]? = some s → s.ownBlock = some b → v.ownBlock ≠ some b := fun j s b hs hb e => by
    have h1 := row_lt (h0.geach j s hs) hb
    have := hn b e
    omega
  refine ⟨a', c', W', hap, ⟨h.tb.stay st (fun b hb e => by
    have h1 := h.gnew b e
    have h2 := h.gold
    have h3 : g = b := by simpa [Value.ownBlock] using hb
    have h4 := h.le2
    omega) (fun j s b hs hb e => by
    have h1 := h.gnew b e
    have h2 := h.old j s b hs hb
    have h3 := h.le2
    omega), h.old, ?_, hk h.bl, h.bn, hk h.cl, h.cn, h.below.trans (hb1.mono h.le), Nat.le_trans h.size hb1.size, Nat.le_trans h.esize hb1.size, h.le2, h.mo, h.le, h.gold, ho, fun b hb => ?_, fun j s hs => ?_, fun j s b hs hb => ?_, fun j l s u b hs hu hb hub => ?_⟩⟩
  · refine ⟨h.ml.len, row_kept h.ml.row st (fun z hz e => ?_), fun j r s hr hs => hk (h.ml.each j r s hr hs), h.ml.new, h.ml.lnew⟩
    have h1 := h.gnew z e
    have h2 := h.mo z hz
    omega
  · rcases hloc b hb with e | e
    · exact h.gnew b e
    · exact Nat.le_trans h.esize e
  · rcases get_snoc hs with ⟨-, h1⟩ | ⟨h1, rfl⟩
    · exact hk (h.geach j s h1)
    · rw [h1]; exact hk hv
  · rcases get_snoc hs with ⟨-, h1⟩ | ⟨-, rfl⟩
    · exact h.gbn j s b h1 hb
    · exact Nat.le_trans h0.size (hn b hb)
  · rcases get_snoc hs with ⟨-, h1⟩ | ⟨h1, rfl⟩ <;> rcases get_snoc hu with ⟨-, h2⟩ | ⟨h2, rfl⟩
    · exact h.gap j l s u b h1 h2 hb hub
    · exact absurd hub (hv0 j s b h1 hb)
    · exact absurd hb (hv0 l u b h2 hub)
    · omega
theorem FS.wrote {w w1 : World} {E : Nat} {Bl Cl : List En} {R : List (List En)} {g c : Nat} {ss : List Value} {ao : Option Addr} {co : Nat} {sm : List Value} {vb vc : Value} {W W' : World} {Q Nw : List (List En)} {gv : Value} {gs : List Value} (h : FS w w1 E Bl Cl R g c ss ao co sm vb vc W Q gv gs) (hT : TB w.heap.size W' (.slice (some ⟨g, 0, none⟩) (R.length + 64) c) ss Nw 64) (st : Stay (InS ss) W W') : FS w w1 E Bl Cl R g c ss ao co sm vb vc W' Nw gv gs := by
  have hb : ∀ z, InS ss z → z < w1.heap.size ∧ w.heap.size ≤ z := fun z ⟨j, s, h1, h2⟩ => ⟨h.old j s z h1 h2, h.tb.bnew j s z h1 h2⟩
  have hs' := st.size
  have hk : ∀ {v : Value} {X : List En}, HRow W v X → (∀ z, v.ownBlock = some z → w1.heap.size ≤ z) → HRow W' v X := fun {v X} hv hn => row_kept hv st (fun z hz e => by have h1 := hn z hz; have h2 := (hb z e).1; omega)
  exact ⟨hT, h.old, h.ml.stay st (fun z hz _ e => by have h2 := (hb z e).1; omega), hk h.bl h.bn, h.bn, hk h.cl h.cn, h.cn, h.below.trans (st.toBelow (fun z hz e => by have h2 := (hb z e).2; omega) h.below.size), Nat.le_trans h.size hs', Nat.le_trans h.esize hs', h.le2, h.mo, h.le, h.gold,
    row_kept h.grow st (fun z hz e => by have h1 := h.gnew z hz; have h3 := h.le2; have h2 := (hb z e).1; omega), h.gnew, fun j s hs => hk (h.geach j s hs) (fun z hz => h.gbn j s z hs hz), h.gbn, h.gap⟩
theorem mvL_flat (R : List (List En)) : (mvL R).flatten.length = R.flatten.length := by
  induction R with
  | nil => rfl
  | cons r R ih =>
    have h : mvL (r :: R) = mvR r :: mvL R := rfl
    rw [h, List.flatten_cons, List.flatten_cons, List.length_append, List.length_append, ih, mvR_len]
theorem mvL_mem {R : List (List En)} {q : List En} (h : q ∈ mvL R) : ∃ r ∈ R, q = mvR r := by
  obtain ⟨r, h1, h2⟩ := List.mem_map.1 h
  exact ⟨r, h1, h2.symm⟩
theorem mvR_code {r : List En} {x : En} (h : x ∈ mvR r) : ∃ y ∈ r, x.c = y.c := by
  cases r with
  | nil => cases h
  | cons y r =>
    rcases List.mem_cons.1 h with e | e
    · exact ⟨y, by simp, by rw [e]; rfl⟩
    · exact ⟨x, List.mem_cons_of_mem _ e, rfl⟩
theorem mvL_shape {R : List (List En)} {i : Nat} {q r : List En} (hq : (mvL R)[i]? = some q) (hr : R[i]? = some r) : q.length = r.length := by
  rw [mvL_at hr] at hq; cases hq; exact mvR_len r
/-- The lists as they lie. -/
theorem TB.ll {B : Nat} {W : World} {g c m : Nat} {ss : List Value} {Q : List (List En)} {t : Nat} (h : TB B W (.slice (some ⟨g, 0, none⟩) m c) ss Q t) (hl : ∀ r ∈ Q, r.length ≤ 1048576) : LL W (some ⟨g, 0, none⟩) Q := ⟨fun i r hr => by
  obtain ⟨b, bc, s1, s2⟩ := h.each i r hr
  have hrow2 := row_pre (n := r.length) s2 (by simp) (by omega)
  rw [List.take_left' rfl] at hrow2
  obtain ⟨-, h8, h9⟩ := HRow.cap hrow2
  have hb := hl r (List.mem_of_getElem? hr)
  exact ⟨g, 0, some ⟨b, 0, none⟩, bc, rfl, by rw [Nat.zero_add]; exact h.cellAt s1, h8, h9, by omega⟩⟩
/-- What the program's Merge answers, where the document's answer is known. -/
theorem pm_one {R : List (List En)} {bottom : Bool} {Bl : List En} {fb : Int} (hB : MgR R bottom Bl fb) (hc : ∀ r ∈ R, ∀ e ∈ r, e.c.size ≤ 281474976710656) (hN : R.flatten.length ≤ 1048576) (la : Option Addr) (lc : Nat) (w : World) (h : LL w la R) :
    Calls Try.prog 8 #[.slice la R.length lc, .bool bottom] w fun r w' => ∃ aa cA, r = .returned (.tuple #[.slice aa Bl.length cA, .int .i64 fb]) ∧ HRow w' (.slice aa Bl.length cA) Bl ∧ (∀ b, (Value.slice aa Bl.length cA).ownBlock = some b → w.heap.size ≤ b) ∧ Below w.heap.size w w' := by
  refine (pmerge_any R la lc bottom w h hc hN).mono ?_
  rintro r w' ⟨b, out, a, n, c, e, hm, rfl, ho, hn⟩
  obtain ⟨rfl, rfl⟩ := hm.one hB
  obtain ⟨rfl, -, -⟩ := HRow.cap ho
  exact ⟨a, c, rfl, ho, hn, b⟩
def RBL (w w1 : World) (E : Nat) (Bl Cl : List En) (R : List (List En)) (g c : Nat) (ss : List Value) (ao : Option Addr) (co : Nat) (sm : List Value) (vb vc : Value) (ug u : Value) (wr : World) : Prop :=
  ∃ (i : Nat) (ga : Option Addr) (gc : Nat) (gs : List Value) (Q : List (List En)), ug = .slice ga i gc ∧ u = .int .i64 i ∧ i ≤ 5 ∧ Hid (FS w w1 E Bl Cl R g c ss ao co sm vb vc wr Q (.slice ga i gc) gs ∧ Q.length = R.length ∧ (∀ (j : Nat) (q r : List En), Q[j]? = some q → R[j]? = some r → q.length = r.length) ∧ (i = 5 → Q = R))
end Go.Proofs.Ytbkbnhdeleoibaa
