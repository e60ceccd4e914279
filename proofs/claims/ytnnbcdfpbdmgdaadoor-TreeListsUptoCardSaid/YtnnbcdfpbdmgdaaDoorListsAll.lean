/-
  DERIVED. TMath7, TRef7, TRef8, TRef9, TRefN, TTold, TSame, TExact0, TExact, TBit, TBitW, TApart0, TApart, TApartW, TLists0, TLists1, TLists, TOpen, ListsRow, as one text.
-/
import Derived.Test.YtnnbcdfpbdmgdaaDoorTMath6
import Derived.Test.YtnnbcdfpbdmgdaaDoorRefP
import Derived.Test.YtnnbcdfpbdmgdaaDoorTDo
import Derived.Test.YtnnbcdfpbdmgdaaDoorScanHelp
import Derived.Test.YtnnbcdfpbdmgdaaDoorTWork0
import Derived.Test.YtnnbcdfpbdmgdaaDoorTWork
import Derived.Test.YtnnbcdfpbdmgdaaDoorTBegun
import Derived.Test.YtnnbcdfpbdmgdaaDoorTTree
import Derived.Maps.AppendAt
import Derived.Test.YtnnbcdfpbdmgdaaDoorCards
import Derived.Test.YtnnbcdfpbdmgdaaDoorTie
import Derived.ProofKit
import Derived.LaidMore
import Derived.SizedLaws
import Derived.OpenShut
import Derived.Lib.LaidTab
import Derived.Stop.Joined
import Derived.SevenTiedAt
import Derived.Deep.Slices
import Derived.WideShapes
import Derived.ChangeShapes
import Derived.ChangeSlices
import Derived.Deep.DeepHandedRow
import Derived.JoinedCond
import Derived.ChangeMaps5
set_option linter.unusedVariables false
namespace Go.Proofs.TreeMath
variable {α : Type}
theorem Run.inv {T : List (Nd α)} {dq : Nat → Nat} {bd : List Nat → Nat} {w : Nat} {M L' : List St} {V V' : List Nat} (r : Run T dq bd w M V L' V') :
    (M = L' ∧ V = V') ∨ (∃ L s, M = L ++ [s] ∧ ¬ may (bd V) s ∧ Run T dq bd w L V L' V') ∨ (∃ L s, M = L ++ [s] ∧ may (bd V) s ∧ Run T dq bd w (L ++ kids T dq (bd (V ++ [s.node])) s.node 0 w) (V ++ [s.node]) L' V') := by
  induction r using Run.ind with
  | refl => exact .inl ⟨rfl, rfl⟩
  | skip h r _ => exact .inr (.inl ⟨_, _, rfl, h, r⟩)
  | look h r _ => exact .inr (.inr ⟨_, _, rfl, h, r⟩)
theorem snoc_inj {β : Type} {L M : List β} {s t : β} (h : L ++ [s] = M ++ [t]) : L = M ∧ s = t := by
  have := List.append_inj' h rfl
  exact ⟨this.1, by simpa using this.2⟩
theorem Run.det {T : List (Nd α)} {dq : Nat → Nat} {bd : List Nat → Nat} {w : Nat} {L L' : List St} {V V1 V2 : List Nat} (a : Run T dq bd w L V L' V1) (hL : L' = []) (b : Run T dq bd w L V [] V2) : V1 = V2 := by
  induction a using Run.ind with
  | refl L V =>
    subst hL
    rcases b.inv with ⟨-, h⟩ | ⟨L, s, h, -⟩ | ⟨L, s, h, -⟩
    · exact h
    · simp at h
    · simp at h
  | @skip L0 L1 V0 V1 s h r ih =>
    rcases b.inv with ⟨h2, -⟩ | ⟨L, s', h2, h3, b'⟩ | ⟨L, s', h2, h3, b'⟩
    · simp at h2
    · obtain ⟨rfl, rfl⟩ := snoc_inj h2
      exact ih hL b'
    · obtain ⟨rfl, rfl⟩ := snoc_inj h2
      exact absurd h3 h
  | @look L0 L1 V0 V1 s h r ih =>
    rcases b.inv with ⟨h2, -⟩ | ⟨L, s', h2, h3, b'⟩ | ⟨L, s', h2, h3, b'⟩
    · simp at h2
    · obtain ⟨rfl, rfl⟩ := snoc_inj h2
      exact absurd h h3
    · obtain ⟨rfl, rfl⟩ := snoc_inj h2
      exact ih hL b'
/-- One child more. -/
def step1 (T : List (Nd α)) (dq : Nat → Nat) (bd : List Nat → Nat) (p : List Nat → Nat → List Nat) (i e : Nat) (V : List Nat) : List Nat := match child T i e with
  | none => V
  | some c => if may (bd V) ⟨c, e, dq i⟩ then p V c else V
theorem gone_step (T : List (Nd α)) (dq : Nat → Nat) (bd : List Nat → Nat) (p : List Nat → Nat → List Nat) (i : Nat) : ∀ (k n : Nat) (V : List Nat), gone T dq bd p i (k + 1) n V = step1 T dq bd p i (n + k + 1) (gone T dq bd p i k n V)
  | 0, n, V => rfl
  | k + 1, n, V => by
    rw [gone, gone_step T dq bd p i k (n + 1)]
    rw [gone]
    rw [show n + 1 + k + 1 = n + (k + 1) + 1 by omega]
theorem gone_skip {T : List (Nd α)} {dq : Nat → Nat} {bd : List Nat → Nat} {p : List Nat → Nat → List Nat} {i : Nat} {V : List Nat} : ∀ (k : Nat), (∀ e c, 0 < e → e ≤ k → child T i e = some c → ¬ may (bd V) ⟨c, e, dq i⟩) → gone T dq bd p i k 0 V = V
  | 0, _ => rfl
  | k + 1, h => by
    rw [gone_step, gone_skip k (fun e c h1 h2 => h e c h1 (by omega))]
    unfold step1
    cases hc : child T i (0 + k + 1) with
    | none => rfl
    | some c =>
      simp only
      rw [if_neg (h _ c (by omega) (by omega) hc)]
theorem gone_end {T : List (Nd α)} {dq : Nat → Nat} {bd : List Nat → Nat} {p : List Nat → Nat → List Nat} {i : Nat} {V : List Nat} {m : Nat} : ∀ (k : Nat), (∀ e c, m < e → e ≤ m + k → child T i e = some c → ¬ may (bd (gone T dq bd p i m 0 V)) ⟨c, e, dq i⟩) → gone T dq bd p i (m + k) 0 V = gone T dq bd p i m 0 V
  | 0, _ => rfl
  | k + 1, h => by
    rw [← Nat.add_assoc, gone_step, gone_end k (fun e c h1 h2 => h e c h1 (by omega))]
    unfold step1
    cases hc : child T i (0 + (m + k) + 1) with
    | none => rfl
    | some c =>
      simp only
      rw [if_neg (h _ c (by omega) (by omega) hc)]
/-- What a search from the root looks at. -/
theorem run_all {d : α → α → Nat} {T : List (Nd α)} (h : WF d T) {dq : Nat → Nat} {bd : List Nat → Nat} (hbd : ∀ V v, bd (V ++ [v]) ≤ bd V) {w : Nat} (hT : 0 < T.length) {V : List Nat} (r : Run T dq bd w [⟨0, 0, 0⟩] [] [] V) : V = pre T dq bd w T.length [] 0 := by
  have r2 := run_pre h (dq := dq) hbd (w := w) T.length ⟨0, 0, 0⟩ [] [] (by simp) hT ⟨Nat.zero_le _, Nat.zero_le _⟩
  exact Run.det r rfl r2
/-- More fuel changes nothing. -/
theorem gone_congr {T : List (Nd α)} {dq : Nat → Nat} {bd : List Nat → Nat} {p p' : List Nat → Nat → List Nat} {i : Nat} (h : ∀ e c V, child T i e = some c → p V c = p' V c) : ∀ (k n : Nat) (V : List Nat), gone T dq bd p i k n V = gone T dq bd p' i k n V
  | 0, n, V => rfl
  | k + 1, n, V => by
    rw [gone_step, gone_step, gone_congr h k n V]
    unfold step1
    cases hc : child T i (n + k + 1) with
    | none => rfl
    | some c => simp only; rw [h _ c _ hc]
theorem pre_fuel {d : α → α → Nat} {T : List (Nd α)} (h : WF d T) {dq : Nat → Nat} {bd : List Nat → Nat} {w : Nat} : ∀ (f g : Nat) (V : List Nat) (i : Nat), i < T.length → T.length - i ≤ f → T.length - i ≤ g → pre T dq bd w f V i = pre T dq bd w g V i
  | 0, g, V, i, hi, h1, _ => by omega
  | f + 1, 0, V, i, hi, _, h2 => by omega
  | f + 1, g + 1, V, i, hi, h1, h2 => by
    rw [pre, pre]
    refine gone_congr (fun e c V hc => ?_) w 0 _
    obtain ⟨k1, k2⟩ := h.child_lt hc
    exact pre_fuel h f g V c k2 (by omega) (by omega)
end Go.Proofs.TreeMath
set_option linter.unusedVariables false
set_option linter.unusedSimpArgs false
namespace Go.Proofs.YtnnbcdfpbdmgdaaDoor
open Go.RowKit Go.Maps Go.Sort Go.Proofs.BitMath Go.Proofs.TreeMath
theorem gone_pre {α : Type} {T : List (Nd α)} {dq : Nat → Nat} {bd : List Nat → Nat} {p : List Nat → Nat → List Nat} (hp : ∀ V i, ∃ X, p V i = V ++ X) (i : Nat) (V : List Nat) (m : Nat) : ∀ k, ∃ X, gone T dq bd p i (m + k) 0 V = gone T dq bd p i m 0 V ++ X
  | 0 => ⟨[], by simp⟩
  | k + 1 => by
    obtain ⟨X, hX⟩ := gone_pre hp i V m k
    rw [← Nat.add_assoc, gone_step, hX]
    unfold step1
    cases hc : child T i (0 + (m + k) + 1) with
    | none => exact ⟨X, rfl⟩
    | some c =>
      simp only
      split
      · obtain ⟨Y, hY⟩ := hp (gone T dq bd p i m 0 V ++ X) c
        exact ⟨X ++ Y, by rw [hY, List.append_assoc]⟩
      · exact ⟨X, rfl⟩
/-- Nodes of the tree, none twice. -/
def Fin' {α : Type} (T : List (Nd α)) (V : List Nat) : Prop := V.Nodup ∧ ∀ v ∈ V, v < T.length
theorem Fin'.pre {α : Type} {T : List (Nd α)} {V X : List Nat} (h : Fin' T (V ++ X)) : Fin' T V := ⟨(List.nodup_append.1 h.1).1, fun v hv => h.2 v (List.mem_append_left _ hv)⟩
theorem Fin'.len {α : Type} {T : List (Nd α)} {V : List Nat} (h : Fin' T V) : V.length ≤ T.length := nodup_lt _ V h.1 h.2
theorem Fin'.out {α : Type} {T : List (Nd α)} {V X : List Nat} {i : Nat} (h : Fin' T (V ++ [i] ++ X)) : i ∉ V := fun hi => by
  have := List.nodup_append.1 (h.pre).1
  exact this.2.2 i hi i (by simp) rfl
theorem bd_const {n : Nat} {T : List (Nd (Cd n))} {V : List Nat} (h : Fin' T V) (hT : T.length ≤ 1099511627776) (r : Nat) (q : Cd n) : bdV T 9223372036854775807 r q V = r := by
  unfold bdV
  have h1 := h.len
  have h2 := lvc_len T V
  exact bdM_all r q _ (by omega)
theorem lvc_out {n : Nat} {T : List (Nd (Cd n))} (wf : WF dC T) {V : List Nat} {i : Nat} {nd : Nd (Cd n)} (hi : T[i]? = some nd) (h : i ∉ V) : nd.code ∉ lvc T V := fun hm => by
  obtain ⟨v, hv, m, h1, -, h3⟩ := mem_lvc.1 hm
  exact h (wf.codes v i m nd h1 hi h3 ▸ hv)
theorem setC_at' {w : World} {b i : Nat} {cs : Array Value} {t : TypeId} {fr : Nat × Nat} (h : w.heap[b]? = some (.cells cs t fr)) (v : Value) : (w.setCell ⟨b, i, none⟩ v).heap[b]? = some (.cells (cs.setIfInBounds i v) t fr) := by
  have hb := (Array.getElem?_eq_some_iff.1 h).1
  show (w.heap.modify b _)[b]? = _
  rw [Array.getElem?_modify, if_pos rfl, h]
  rfl
def optP (p : List Nat → Nat → List Nat) (V : List Nat) (o : Option Nat) : List Nat := match o with | none => V | some c => p V c
/-- While the document's tree is searched. -/
structure SW {n : Nat} (B0 : Nat) (W0 wr : World) (t wd : Nat) (T : List (Nd (Cd n))) (v : Value) (q : Cd n) (r : Nat) (sn : Int) (fv : Value) (V : List Nat) (L : List (Nat × Cd n)) : Prop where
  rt : RT B0 wr t wd T v (lkN sn V.length)
  row : wr.ownsRow W0.heap.size 36 3 fv L.length (L.flatMap hV)
  sc : ScL q r (lvc T V) L
  st : Stay (fun k => k = t ∨ W0.heap.size ≤ k) W0 wr
  foot : ∀ k, k = t ∨ v.ownBlock = some k → k < W0.heap.size
theorem SW.drew {n : Nat} {B0 : Nat} {W0 wr w' : World} {t wd : Nat} {T : List (Nd (Cd n))} {v : Value} {q : Cd n} {r : Nat} {sn : Int} {fv : Value} {V : List Nat} {L : List (Nat × Cd n)} (h : SW B0 W0 wr t wd T v q r sn fv V L) (d : Drew wr w') : SW B0 W0 w' t wd T v q r sn fv V L :=
  ⟨h.rt.below (d.below _), row_kept (F := fun _ => False) h.row (.below (d.below _)) (fun _ _ h => h), h.sc, h.st.andThen (Stay.below (F := fun _ => False) (d.below _)) (fun _ _ e => e.elim), h.foot⟩
/-- A node is looked at: the number goes up. -/
theorem SW.seen {n : Nat} {B0 : Nat} {W0 wr : World} {t wd : Nat} {T : List (Nd (Cd n))} {v : Value} {q : Cd n} {r : Nat} {sn : Int} {fv : Value} {V : List Nat} {L : List (Nat × Cd n)} (h : SW B0 W0 wr t wd T v q r sn fv V L) {i : Nat} :
    RT B0 (wr.setCell ⟨t, 2, none⟩ (.int .i64 (lkN sn (V.length + 1)))) t wd T v (lkN sn (V ++ [i]).length) ∧ (wr.setCell ⟨t, 2, none⟩ (.int .i64 (lkN sn (V.length + 1)))).ownsRow W0.heap.size 36 3 fv L.length (L.flatMap hV) ∧ Stay (fun k => k = t ∨ W0.heap.size ≤ k) W0 (wr.setCell ⟨t, 2, none⟩ (.int .i64 (lkN sn (V.length + 1)))) := by
  have hst : Stay (fun k => k = t) wr (wr.setCell ⟨t, 2, none⟩ (.int .i64 (lkN sn (V.length + 1)))) := Stay.setCell (F := fun k => k = t) (Stay.refl _ wr) (fun _ => rfl) _
  have htW := h.foot t (.inl rfl)
  refine ⟨?_, row_kept h.row hst (fun k hk e => ?_), h.st.andThen hst (fun k _ e => .inl e)⟩
  · rw [List.length_append, List.length_singleton]
    refine { h.rt with tree := setC_at' h.rt.tree _, row := row_kept h.rt.row hst (fun k hk e => h.rt.nb hk e), lk := lkN_wf _ _ }
  · have := (h.row.lt k hk).1
    omega
/-- A hit is put there. -/
theorem SW.put {n : Nat} {B0 : Nat} {W0 w w' : World} {t wd : Nat} {T : List (Nd (Cd n))} {v : Value} {q : Cd n} {r : Nat} {sn : Int} {fv' : Value} {V : List Nat} {L' : List (Nat × Cd n)} (rt : RT B0 w t wd T v (lkN sn V.length)) (st : Stay (fun k => k = t ∨ W0.heap.size ≤ k) W0 w) (foot : ∀ k, k = t ∨ v.ownBlock = some k → k < W0.heap.size) (b : Below W0.heap.size w w') (hr : w'.ownsRow W0.heap.size 36 3 fv' L'.length (L'.flatMap hV)) (hs : ScL q r (lvc T V) L') : SW B0 W0 w' t wd T v q r sn fv' V L' := by
  have hst : Stay (fun k => W0.heap.size ≤ k) w w' := ⟨b.os, b.tape, b.output, b.size, fun i hi hn => b.block i (by omega)⟩
  exact ⟨rt.kept hst (fun k hk e => by have := foot k hk; omega), hr, hs, st.andThen hst (fun k _ e => .inr e), foot⟩
/-- What within leaves. -/
def WinO {n : Nat} (B0 : Nat) (W0 : World) (t wd : Nat) (T : List (Nd (Cd n))) (v : Value) (q : Cd n) (r : Nat) (sn : Int) (V : List Nat) (e : Ending) (w' : World) : Prop := ∃ fv L, e = .returned fv ∧ SW B0 W0 w' t wd T v q r sn fv V L
set_option maxHeartbeats 4000000 in
set_option maxRecDepth 100000 in
theorem within_rec {n B0 t wd : Nat} {T : List (Nd (Cd n))} {v : Value} (q : Cd n) (r : Nat) (sn : Int) (W0 : World) (hr : r ≤ wd) (f : Nat)
    (ih : ∀ (i : Nat) (V : List Nat) (L : List (Nat × Cd n)) (fv : Value) (w : World), T.length - i ≤ f → i < T.length → SW B0 W0 w t wd T v q r sn fv V L → Fin' T (pre T (dqf T q) (bdV T 9223372036854775807 r q) wd f V i) → Calls Tryd.prog 63 #[.pointer (some ⟨t, 0, none⟩), .int .i64 i, .string q.1, .int .i64 r, fv] w (WinO B0 W0 t wd T v q r sn (pre T (dqf T q) (bdV T 9223372036854775807 r q) wd f V i)))
    (i : Nat) (V : List Nat) (L : List (Nat × Cd n)) (fv : Value) (w : World) (hf : T.length - i ≤ f + 1) (hi : i < T.length) (h : SW B0 W0 w t wd T v q r sn fv V L) (hF : Fin' T (pre T (dqf T q) (bdV T 9223372036854775807 r q) wd (f + 1) V i)) :
    Calls Tryd.prog 63 #[.pointer (some ⟨t, 0, none⟩), .int .i64 i, .string q.1, .int .i64 r, fv] w (WinO B0 W0 t wd T v q r sn (pre T (dqf T q) (bdV T 9223372036854775807 r q) wd (f + 1) V i)) := by
  obtain ⟨bd, hbd⟩ : ∃ bd, bd = bdV T 9223372036854775807 r q := ⟨_, rfl⟩
  obtain ⟨p, hp⟩ : ∃ p, p = pre T (dqf T q) bd wd f := ⟨_, rfl⟩
  have hpa : ∀ V i, ∃ X, p V i = V ++ X := by rw [hp]; exact pre_app T (dqf T q) bd wd f
  rw [← hbd] at hF ih ⊢
  rw [← hp] at ih
  rw [show pre T (dqf T q) bd wd (f + 1) V i = gone T (dqf T q) bd p i wd 0 (V ++ [i]) from by rw [hp]; rfl] at hF ⊢
  have hF0 : Fin' T (V ++ [i]) := by
    obtain ⟨X, hX⟩ := gone_app (T := T) (dq := dqf T q) (bd := bd) hpa i wd 0 (V ++ [i])
    rw [hX] at hF
    exact hF.pre
  have hiV : i ∉ V := Fin'.out (X := []) (by simpa using hF0)
  have hsm := h.rt.small
  have hn8 : wd = 8 * n := h.rt.eight
  have hw1024 : wd ≤ 1024 := by have := isW_bd h.rt.wid; omega
  have hw64 : 64 ≤ wd := by have := isW_bd h.rt.wid; omega
  obtain ⟨nd, hnd⟩ : ∃ nd, nd = T[i] := ⟨_, rfl⟩
  have hTi : T[i]? = some nd := by rw [List.getElem?_eq_getElem hi, hnd]
  obtain ⟨g, cp, hv, c0, c1, -, -, -, -, -⟩ := h.rt.at_ i hi
  rw [← hnd] at c0 c1
  obtain ⟨t0, t1, t2, tf⟩ := h.rt.cell
  have tf2 := tf 2
  have hgt : g ≠ t := h.rt.nb (by rw [hv]; rfl)
  obtain ⟨s0, hs0⟩ : ∃ s0, s0 = lkN sn V.length := ⟨_, rfl⟩
  obtain ⟨s1, hs1⟩ : ∃ s1, s1 = lkN sn (V.length + 1) := ⟨_, rfl⟩
  have hlk : IntKind.i64.wrap (s0 + 1) = s1 := by rw [hs0, hs1, lkN_succ]
  rw [← hs0] at t2
  obtain ⟨ln, hln⟩ : ∃ ln, ln = T.length := ⟨_, rfl⟩
  obtain ⟨d, hd⟩ : ∃ d, d = dC nd.code q := ⟨_, rfl⟩
  have hd8 : d ≤ wd := by rw [hd, hn8]; exact dC_le _ _
  obtain ⟨hA1, hA2, hA3⟩ := h.seen (i := i)
  rw [← hs1] at hA1 hA2 hA3
  obtain ⟨w1, hw1⟩ : ∃ w1, w1 = w.setCell ⟨t, 2, none⟩ (.int .i64 s1) := ⟨_, rfl⟩
  rw [← hw1] at hA1 hA2 hA3
  have hfar := far_any nd.code q w1 (by omega)
  rw [← hd] at hfar
  have i1 : (i : Int) < (ln : Int) := by omega
  have i2 : 0 ≤ (i : Int) := by omega
  have hx : nd.code ∉ lvc T V := lvc_out h.rt.wf hTi hiV
  have hdq : dqf T q i = d := by rw [dqf_eq hTi, hd]
  have HH := Hid.mk (And.intro h (And.intro hA1 (And.intro hA2 (And.intro hA3 (And.intro hTi (And.intro hd (And.intro hx (And.intro hF (And.intro hF0 (And.intro hpa (And.intro hdq (And.intro hbd (And.intro hln hv)))))))))))))
  have HBC := Hid.mk (show ∀ V', Fin' T V' → bd V' = r from fun V' hV => by rw [hbd]; exact bd_const hV hsm r q)
  have HI := Hid.mk ih
  have HFL := Hid.mk hf
  have HCC := Hid.mk (show ∀ (w' : World) (s : Int), RT B0 w' t wd T v s → w'.cell? ⟨t, 0, none⟩ = some (.int .i64 wd) ∧ w'.cell? ⟨t, 1, none⟩ = some (.slice (some ⟨g, 0, none⟩) ln cp) ∧ w'.cell? ⟨g, i * 4, none⟩ = some (.string nd.code.1) ∧ w'.cell? ⟨g, i * 4 + 1, none⟩ = some (.bool nd.live) from fun w' s hw => by
    obtain ⟨x0, x1, -, -⟩ := hw.cell
    obtain ⟨g', cp', e', y0, y1, -⟩ := hw.at_ i hi
    rw [hv] at e'
    cases e'
    rw [← hnd] at y0 y1
    exact ⟨x0, by rw [x1, hv, hln], y0, y1⟩)
  rw [hv] at t1
  rw [← hln] at t1
  have hlb : ln ≤ 1099511627776 := by omega
  obtain ⟨cd, hcd⟩ : ∃ cd, cd = nd.code := ⟨_, rfl⟩
  obtain ⟨lv, hlv⟩ : ∃ lv, lv = nd.live := ⟨_, rfl⟩
  have HC := Hid.mk (And.intro hcd hlv)
  rw [← hcd] at c0 hfar HCC
  rw [← hlv] at c1 HCC
  obtain ⟨fa, fl, fc, hfv⟩ : ∃ fa fl fc, fv = .slice fa fl fc := by
    obtain ⟨a', c', e', -⟩ := slice_form h.row
    exact ⟨_, _, _, e'⟩
  subst hfv
  clear h hA1 hA2 hA3 hTi hd hx hF hF0 hpa hdq hbd hp hln hv hnd hiV ih hs0 hs1 hsm hn8 hcd hlv hf tf hi
  go_enter Tryd.func63, Tryd.ntmps63
  go_wp2_with fail
  rw [← hw1]
  refine hfar.mono ?_
  rintro e w2 ⟨rfl, hw2⟩
  subst hw2
  have HW := Hid.mk hw1
  clear hw1 hfar c0 c1 t0 t1 t2 tf2
  obtain ⟨t0, t1, c0, c1⟩ := HCC.out w2 _ HH.out.2.1
  have hl0 : (lvc T V).length ≤ ln := by
    have h1 := lvc_len T V
    obtain ⟨-, -, -, -, -, -, -, -, f0, -, -, -, f4, -⟩ := HH.out
    have h2 : V.length ≤ T.length := (Fin'.pre f0).len
    omega
  have hLl : L.length ≤ ln := Nat.le_trans HH.out.1.sc.len hl0
  cases lv with
  | true =>
    by_cases hdr : d ≤ r
    · have dr1 : ((d : Nat) : Int) ≤ ((r : Nat) : Int) := by omega
      have hput := put_any (r := r) (A := lvc T V) (L := L) (v := .slice fa fl fc) cd d w2 (by rw [HC.out.1]; exact HH.out.2.2.2.2.2.1) HH.out.2.2.1 HH.out.1.sc (by rw [HC.out.1]; exact HH.out.2.2.2.2.2.2.1) hdr HH.out.2.2.2.1.size (by omega)
      go_wp2_with (first
        | (go_at_call 72; refine hput.mono ?_; rintro e3 w3 ⟨fv3, L3, rfl, b3, r3, s3⟩)
        | fail)
      have HS := Hid.mk (show SW B0 W0 w3 t wd T v q r sn fv3 (V ++ [i]) L3 from SW.put HH.out.2.1 HH.out.2.2.2.1 HH.out.1.foot b3 r3 (by
        rw [lvc_yes HH.out.2.2.2.2.1 HC.out.2.symm, ← HC.out.1]; exact s3))
      obtain ⟨z0, z1, z2, z3⟩ := HCC.out w3 _ HS.out.rt
      obtain ⟨fa3, fl3, fc3, hfv3⟩ : ∃ fa fl fc, fv3 = .slice fa fl fc := by
        obtain ⟨a', c', e', -⟩ := slice_form r3
        exact ⟨_, _, _, e'⟩
      subst hfv3
      clear b3 r3 s3 hput t0 t1 c0 c1 dr1
      obtain ⟨E0, hE0⟩ : ∃ E0 : Nat, (E0 : Int) = max 1 ((d : Int) - (r : Int)) := ⟨(max 1 ((d : Int) - (r : Int))).toNat, by omega⟩
      have hE1 : 1 ≤ E0 := by omega
      have hE2 : E0 ≤ wd := by omega
      have wdr : IntKind.i64.wrap ((d : Int) - (r : Int)) = (d : Int) - (r : Int) := by rw [IntKind.wrap_i64]; omega
      obtain ⟨D2, hD2⟩ : ∃ D2, D2 = d + r := ⟨_, rfl⟩
      have wdr2 : IntKind.i64.wrap ((d : Int) + (r : Int)) = (D2 : Int) := by rw [IntKind.wrap_i64]; omega
      have HD2 := Hid.mk hD2
      have hsk : gone T (dqf T q) bd p i (E0 - 1) 0 (V ++ [i]) = V ++ [i] := gone_skip _ (fun e c h1 h2 hc hm => by
        obtain ⟨-, -, -, -, -, -, -, -, f0, -, f2, f3, f4, -⟩ := HH.out
        rw [HBC.out _ f0, f2] at hm
        have := hm.1
        simp only at this
        omega)
      have HSK := Hid.mk hsk
      clear hsk
      have HE0 := Hid.mk hE0
      clear hE0 hD2
      go_wp2_with fail
      go_loopw [4, 12, 13] (fun u4 u12 u13 wr => ∃ (E : Nat) (L5 : List (Nat × Cd n)) (Vc : List Nat), u12 = .int .i64 E ∧ E0 ≤ E ∧ E ≤ wd + 1 ∧ Hid (Vc = gone T (dqf T q) bd p i (E - 1) 0 (V ++ [i]) ∧ SW B0 W0 wr t wd T v q r sn u4 Vc L5)) (fun _ u12 _ _ => wd + 1 - (intOf u12).toNat)
      case atStart => exact ⟨E0, L3, V ++ [i], by first | rfl | (refine ival ?_; first | exact HE0.out.symm | (have := HE0.out; omega) | (have := HE0.out; split <;> omega)), Nat.le_refl _, by omega, Hid.mk ⟨HSK.out.symm, HS.out⟩⟩
      case round =>
        obtain ⟨E, L5, Vc, rfl, hE3, hE4, HJ⟩ := hrel
        obtain ⟨x0, x1, -, -⟩ := HCC.out wr _ HJ.out.2.rt
        obtain ⟨xa, xl, xc, hxv⟩ : ∃ xa xl xc, u4 = .slice xa xl xc := by
          obtain ⟨a', c', e', -⟩ := slice_form HJ.out.2.row
          exact ⟨_, _, _, e'⟩
        subst hxv
        by_cases hin : E ≤ d + r ∧ E ≤ wd
        · have b1 : decide (((E : Nat) : Int) ≤ (D2 : Int)) = true := by have := HD2.out; simp; omega
          have b2 : decide (((E : Nat) : Int) ≤ ((wd : Nat) : Int)) = true := by simp; omega
          have b3 : decide (E ≤ D2) = true := by have := HD2.out; simp; omega
          have b4 : decide (E ≤ wd) = true := by simp; omega
          have hwE : IntKind.i64.wrap ((E : Int) + 1) = ((E + 1 : Nat) : Int) := by rw [IntKind.wrap_i64]; omega
          have hch := child_any wr HJ.out.2.rt i E
          obtain ⟨o, ho⟩ : ∃ o, o = child T i E := ⟨_, rfl⟩
          rw [← ho] at hch
          have hst : gone T (dqf T q) bd p i (E + 1 - 1) 0 (V ++ [i]) = optP p Vc o := by
            have e1 : E + 1 - 1 = (E - 1) + 1 := by omega
            rw [e1, gone_step, ← HJ.out.1]
            unfold step1
            rw [show 0 + (E - 1) + 1 = E by omega, ← ho]
            cases o with
            | none => rfl
            | some c =>
              refine if_pos ?_
              obtain ⟨-, -, -, -, -, -, -, f8, f0, f1, f2, f3, f4, -⟩ := HH.out
              obtain ⟨X, hX⟩ := gone_pre (T := T) (dq := dqf T q) (bd := bd) f1 i (V ++ [i]) (E - 1) (wd - (E - 1))
              rw [show E - 1 + (wd - (E - 1)) = wd by omega] at hX
              rw [hX, ← HJ.out.1] at f8
              rw [HBC.out _ (Fin'.pre f8), f2]
              exact ⟨by simp only; have := HE0.out; omega, by simp only; omega⟩
          have HO := Hid.mk (And.intro ho hst)
          have HIN := Hid.mk hin
          clear ho hst hin
          go_wp2_with fail
          refine hch.mono ?_
          rintro e6 w6 ⟨rfl, hd6⟩
          have hS6 := HJ.out.2.drew hd6
          cases o with
          | none =>
            have HN := Hid.mk hS6
            clear hS6 hd6 hch
            simp only [chI]
            go_wp2_with fail
            exact ⟨⟨E + 1, L5, Vc, by push_cast; rfl, by omega, by have := HIN.out.2; omega, Hid.mk ⟨HO.out.2.symm, HN.out⟩⟩, by simp only [intOf]; have := HIN.out.2; omega⟩
          | some c =>
            obtain ⟨k1, k2⟩ := HJ.out.2.rt.wf.child_lt HO.out.1.symm
            have hrec := HI.out c Vc L5 (.slice xa xl xc) w6 (by have := HFL.out; omega) k2 hS6 (by
              obtain ⟨-, -, -, -, -, -, -, f8, f0, f1, f2, f3, f4, -⟩ := HH.out
              have hin2 := HIN.out.2
              obtain ⟨X, hX⟩ := gone_pre (T := T) (dq := dqf T q) (bd := bd) f1 i (V ++ [i]) (E + 1 - 1) (wd - (E + 1 - 1))
              rw [show E + 1 - 1 + (wd - (E + 1 - 1)) = wd by omega, HO.out.2] at hX
              rw [hX] at f8
              exact Fin'.pre f8)
            have c1 : (0 : Int) ≤ (c : Int) := by omega
            obtain ⟨y0, y1, -, -⟩ := HCC.out w6 _ hS6.rt
            clear hS6 hd6 hch k1 k2
            simp only [chI]
            go_wp2_with (first
              | (go_at_call 63; refine hrec.mono ?_; rintro e7 w7 ⟨fv7, L7, rfl, hS7⟩; obtain ⟨a7, c7, hf7, -⟩ := slice_form hS7.row; subst hf7)
              | fail)
            exact ⟨⟨E + 1, L7, p Vc c, by push_cast; rfl, by omega, by have := HIN.out.2; omega, Hid.mk ⟨HO.out.2.symm, hS7⟩⟩, by simp only [intOf]; have := HIN.out.2; omega⟩
        · have hend : gone T (dqf T q) bd p i wd 0 (V ++ [i]) = Vc := by
            rw [HJ.out.1]
            obtain ⟨-, -, -, -, -, -, -, f8, f0, f1, f2, f3, f4, -⟩ := HH.out
            have hg := gone_end (T := T) (dq := dqf T q) (bd := bd) (p := p) (i := i) (V := V ++ [i]) (m := E - 1) (wd - (E - 1)) (fun e c h1 h2 hc hm => by
              obtain ⟨X, hX⟩ := gone_pre (T := T) (dq := dqf T q) (bd := bd) f1 i (V ++ [i]) (E - 1) (wd - (E - 1))
              rw [show E - 1 + (wd - (E - 1)) = wd by omega] at hX
              rw [hX] at f8
              rw [f2] at hm
              rw [HBC.out _ (Fin'.pre f8)] at hm
              have := hm.2
              simp only at this
              omega)
            rw [show E - 1 + (wd - (E - 1)) = wd by omega] at hg
            exact hg
          have HEN := Hid.mk hend
          clear hend
          by_cases hb : E ≤ d + r
          · have b1 : decide (((E : Nat) : Int) ≤ (D2 : Int)) = true := by have := HD2.out; simp; omega
            have b2 : decide (((E : Nat) : Int) ≤ ((wd : Nat) : Int)) = false := by simp; omega
            have b3 : decide (E ≤ D2) = true := by have := HD2.out; simp; omega
            have b4 : decide (E ≤ wd) = false := by simp; omega
            clear hin hb
            go_wp2_with fail
            go_ret
            rw [HEN.out]
            exact ⟨_, L5, rfl, HJ.out.2⟩
          · have b1 : decide (((E : Nat) : Int) ≤ (D2 : Int)) = false := by have := HD2.out; simp; omega
            have b3 : decide (E ≤ D2) = false := by have := HD2.out; simp; omega
            clear hin hb
            go_wp2_with fail
            go_ret
            rw [HEN.out]
            exact ⟨_, L5, rfl, HJ.out.2⟩
    · have dr1 : ¬ ((d : Nat) : Int) ≤ ((r : Nat) : Int) := by omega
      obtain ⟨L3, hL3⟩ : ∃ L3, L3 = L := ⟨_, rfl⟩
      have HS := Hid.mk (show SW B0 W0 w2 t wd T v q r sn (.slice fa fl fc) (V ++ [i]) L3 from by
        rw [hL3]
        exact SW.put HH.out.2.1 HH.out.2.2.2.1 HH.out.1.foot (Below.refl _ _) HH.out.2.2.1 (by
          rw [lvc_yes HH.out.2.2.2.2.1 HC.out.2.symm]; exact HH.out.1.sc.skip (by rw [← HH.out.2.2.2.2.2.1]; omega)))
      clear hL3
      obtain ⟨E0, hE0⟩ : ∃ E0 : Nat, (E0 : Int) = max 1 ((d : Int) - (r : Int)) := ⟨(max 1 ((d : Int) - (r : Int))).toNat, by omega⟩
      have hE1 : 1 ≤ E0 := by omega
      have hE2 : E0 ≤ wd := by omega
      have wdr : IntKind.i64.wrap ((d : Int) - (r : Int)) = (d : Int) - (r : Int) := by rw [IntKind.wrap_i64]; omega
      obtain ⟨D2, hD2⟩ : ∃ D2, D2 = d + r := ⟨_, rfl⟩
      have wdr2 : IntKind.i64.wrap ((d : Int) + (r : Int)) = (D2 : Int) := by rw [IntKind.wrap_i64]; omega
      have HD2 := Hid.mk hD2
      have hsk : gone T (dqf T q) bd p i (E0 - 1) 0 (V ++ [i]) = V ++ [i] := gone_skip _ (fun e c h1 h2 hc hm => by
        obtain ⟨-, -, -, -, -, -, -, -, f0, -, f2, f3, f4, -⟩ := HH.out
        rw [HBC.out _ f0, f2] at hm
        have := hm.1
        simp only at this
        omega)
      have HSK := Hid.mk hsk
      clear hsk
      have HE0 := Hid.mk hE0
      clear hE0 hD2
      go_wp2_with fail
      go_loopw [4, 12, 13] (fun u4 u12 u13 wr => ∃ (E : Nat) (L5 : List (Nat × Cd n)) (Vc : List Nat), u12 = .int .i64 E ∧ E0 ≤ E ∧ E ≤ wd + 1 ∧ Hid (Vc = gone T (dqf T q) bd p i (E - 1) 0 (V ++ [i]) ∧ SW B0 W0 wr t wd T v q r sn u4 Vc L5)) (fun _ u12 _ _ => wd + 1 - (intOf u12).toNat)
      case atStart => exact ⟨E0, L3, V ++ [i], by first | rfl | (refine ival ?_; first | exact HE0.out.symm | (have := HE0.out; omega) | (have := HE0.out; split <;> omega)), Nat.le_refl _, by omega, Hid.mk ⟨HSK.out.symm, HS.out⟩⟩
      case round =>
        obtain ⟨E, L5, Vc, rfl, hE3, hE4, HJ⟩ := hrel
        obtain ⟨x0, x1, -, -⟩ := HCC.out wr _ HJ.out.2.rt
        obtain ⟨xa, xl, xc, hxv⟩ : ∃ xa xl xc, u4 = .slice xa xl xc := by
          obtain ⟨a', c', e', -⟩ := slice_form HJ.out.2.row
          exact ⟨_, _, _, e'⟩
        subst hxv
        by_cases hin : E ≤ d + r ∧ E ≤ wd
        · have b1 : decide (((E : Nat) : Int) ≤ (D2 : Int)) = true := by have := HD2.out; simp; omega
          have b2 : decide (((E : Nat) : Int) ≤ ((wd : Nat) : Int)) = true := by simp; omega
          have b3 : decide (E ≤ D2) = true := by have := HD2.out; simp; omega
          have b4 : decide (E ≤ wd) = true := by simp; omega
          have hwE : IntKind.i64.wrap ((E : Int) + 1) = ((E + 1 : Nat) : Int) := by rw [IntKind.wrap_i64]; omega
          have hch := child_any wr HJ.out.2.rt i E
          obtain ⟨o, ho⟩ : ∃ o, o = child T i E := ⟨_, rfl⟩
          rw [← ho] at hch
          have hst : gone T (dqf T q) bd p i (E + 1 - 1) 0 (V ++ [i]) = optP p Vc o := by
            have e1 : E + 1 - 1 = (E - 1) + 1 := by omega
            rw [e1, gone_step, ← HJ.out.1]
            unfold step1
            rw [show 0 + (E - 1) + 1 = E by omega, ← ho]
            cases o with
            | none => rfl
            | some c =>
              refine if_pos ?_
              obtain ⟨-, -, -, -, -, -, -, f8, f0, f1, f2, f3, f4, -⟩ := HH.out
              obtain ⟨X, hX⟩ := gone_pre (T := T) (dq := dqf T q) (bd := bd) f1 i (V ++ [i]) (E - 1) (wd - (E - 1))
              rw [show E - 1 + (wd - (E - 1)) = wd by omega] at hX
              rw [hX, ← HJ.out.1] at f8
              rw [HBC.out _ (Fin'.pre f8), f2]
              exact ⟨by simp only; have := HE0.out; omega, by simp only; omega⟩
          have HO := Hid.mk (And.intro ho hst)
          have HIN := Hid.mk hin
          clear ho hst hin
          go_wp2_with fail
          refine hch.mono ?_
          rintro e6 w6 ⟨rfl, hd6⟩
          have hS6 := HJ.out.2.drew hd6
          cases o with
          | none =>
            have HN := Hid.mk hS6
            clear hS6 hd6 hch
            simp only [chI]
            go_wp2_with fail
            exact ⟨⟨E + 1, L5, Vc, by push_cast; rfl, by omega, by have := HIN.out.2; omega, Hid.mk ⟨HO.out.2.symm, HN.out⟩⟩, by simp only [intOf]; have := HIN.out.2; omega⟩
          | some c =>
            obtain ⟨k1, k2⟩ := HJ.out.2.rt.wf.child_lt HO.out.1.symm
            have hrec := HI.out c Vc L5 (.slice xa xl xc) w6 (by have := HFL.out; omega) k2 hS6 (by
              obtain ⟨-, -, -, -, -, -, -, f8, f0, f1, f2, f3, f4, -⟩ := HH.out
              have hin2 := HIN.out.2
              obtain ⟨X, hX⟩ := gone_pre (T := T) (dq := dqf T q) (bd := bd) f1 i (V ++ [i]) (E + 1 - 1) (wd - (E + 1 - 1))
              rw [show E + 1 - 1 + (wd - (E + 1 - 1)) = wd by omega, HO.out.2] at hX
              rw [hX] at f8
              exact Fin'.pre f8)
            have c1 : (0 : Int) ≤ (c : Int) := by omega
            obtain ⟨y0, y1, -, -⟩ := HCC.out w6 _ hS6.rt
            clear hS6 hd6 hch k1 k2
            simp only [chI]
            go_wp2_with (first
              | (go_at_call 63; refine hrec.mono ?_; rintro e7 w7 ⟨fv7, L7, rfl, hS7⟩; obtain ⟨a7, c7, hf7, -⟩ := slice_form hS7.row; subst hf7)
              | fail)
            exact ⟨⟨E + 1, L7, p Vc c, by push_cast; rfl, by omega, by have := HIN.out.2; omega, Hid.mk ⟨HO.out.2.symm, hS7⟩⟩, by simp only [intOf]; have := HIN.out.2; omega⟩
        · have hend : gone T (dqf T q) bd p i wd 0 (V ++ [i]) = Vc := by
            rw [HJ.out.1]
            obtain ⟨-, -, -, -, -, -, -, f8, f0, f1, f2, f3, f4, -⟩ := HH.out
            have hg := gone_end (T := T) (dq := dqf T q) (bd := bd) (p := p) (i := i) (V := V ++ [i]) (m := E - 1) (wd - (E - 1)) (fun e c h1 h2 hc hm => by
              obtain ⟨X, hX⟩ := gone_pre (T := T) (dq := dqf T q) (bd := bd) f1 i (V ++ [i]) (E - 1) (wd - (E - 1))
              rw [show E - 1 + (wd - (E - 1)) = wd by omega] at hX
              rw [hX] at f8
              rw [f2] at hm
              rw [HBC.out _ (Fin'.pre f8)] at hm
              have := hm.2
              simp only at this
              omega)
            rw [show E - 1 + (wd - (E - 1)) = wd by omega] at hg
            exact hg
          have HEN := Hid.mk hend
          clear hend
          by_cases hb : E ≤ d + r
          · have b1 : decide (((E : Nat) : Int) ≤ (D2 : Int)) = true := by have := HD2.out; simp; omega
            have b2 : decide (((E : Nat) : Int) ≤ ((wd : Nat) : Int)) = false := by simp; omega
            have b3 : decide (E ≤ D2) = true := by have := HD2.out; simp; omega
            have b4 : decide (E ≤ wd) = false := by simp; omega
            clear hin hb
            go_wp2_with fail
            go_ret
            rw [HEN.out]
            exact ⟨_, L5, rfl, HJ.out.2⟩
          · have b1 : decide (((E : Nat) : Int) ≤ (D2 : Int)) = false := by have := HD2.out; simp; omega
            have b3 : decide (E ≤ D2) = false := by have := HD2.out; simp; omega
            clear hin hb
            go_wp2_with fail
            go_ret
            rw [HEN.out]
            exact ⟨_, L5, rfl, HJ.out.2⟩
  | false =>
    obtain ⟨L3, hL3⟩ : ∃ L3, L3 = L := ⟨_, rfl⟩
    have HS := Hid.mk (show SW B0 W0 w2 t wd T v q r sn (.slice fa fl fc) (V ++ [i]) L3 from by
      rw [hL3]
      exact SW.put HH.out.2.1 HH.out.2.2.2.1 HH.out.1.foot (Below.refl _ _) HH.out.2.2.1 (by
        rw [lvc_no HH.out.2.2.2.2.1 HC.out.2.symm]; exact HH.out.1.sc))
    clear hL3
    obtain ⟨E0, hE0⟩ : ∃ E0 : Nat, (E0 : Int) = max 1 ((d : Int) - (r : Int)) := ⟨(max 1 ((d : Int) - (r : Int))).toNat, by omega⟩
    have hE1 : 1 ≤ E0 := by omega
    have hE2 : E0 ≤ wd := by omega
    have wdr : IntKind.i64.wrap ((d : Int) - (r : Int)) = (d : Int) - (r : Int) := by rw [IntKind.wrap_i64]; omega
    obtain ⟨D2, hD2⟩ : ∃ D2, D2 = d + r := ⟨_, rfl⟩
    have wdr2 : IntKind.i64.wrap ((d : Int) + (r : Int)) = (D2 : Int) := by rw [IntKind.wrap_i64]; omega
    have HD2 := Hid.mk hD2
    have hsk : gone T (dqf T q) bd p i (E0 - 1) 0 (V ++ [i]) = V ++ [i] := gone_skip _ (fun e c h1 h2 hc hm => by
      obtain ⟨-, -, -, -, -, -, -, -, f0, -, f2, f3, f4, -⟩ := HH.out
      rw [HBC.out _ f0, f2] at hm
      have := hm.1
      simp only at this
      omega)
    have HSK := Hid.mk hsk
    clear hsk
    have HE0 := Hid.mk hE0
    clear hE0 hD2
    go_wp2_with fail
    go_loopw [4, 12, 13] (fun u4 u12 u13 wr => ∃ (E : Nat) (L5 : List (Nat × Cd n)) (Vc : List Nat), u12 = .int .i64 E ∧ E0 ≤ E ∧ E ≤ wd + 1 ∧ Hid (Vc = gone T (dqf T q) bd p i (E - 1) 0 (V ++ [i]) ∧ SW B0 W0 wr t wd T v q r sn u4 Vc L5)) (fun _ u12 _ _ => wd + 1 - (intOf u12).toNat)
    case atStart => exact ⟨E0, L3, V ++ [i], by first | rfl | (refine ival ?_; first | exact HE0.out.symm | (have := HE0.out; omega) | (have := HE0.out; split <;> omega)), Nat.le_refl _, by omega, Hid.mk ⟨HSK.out.symm, HS.out⟩⟩
    case round =>
      obtain ⟨E, L5, Vc, rfl, hE3, hE4, HJ⟩ := hrel
      obtain ⟨x0, x1, -, -⟩ := HCC.out wr _ HJ.out.2.rt
      obtain ⟨xa, xl, xc, hxv⟩ : ∃ xa xl xc, u4 = .slice xa xl xc := by
        obtain ⟨a', c', e', -⟩ := slice_form HJ.out.2.row
        exact ⟨_, _, _, e'⟩
      subst hxv
      by_cases hin : E ≤ d + r ∧ E ≤ wd
      · have b1 : decide (((E : Nat) : Int) ≤ (D2 : Int)) = true := by have := HD2.out; simp; omega
        have b2 : decide (((E : Nat) : Int) ≤ ((wd : Nat) : Int)) = true := by simp; omega
        have b3 : decide (E ≤ D2) = true := by have := HD2.out; simp; omega
        have b4 : decide (E ≤ wd) = true := by simp; omega
        have hwE : IntKind.i64.wrap ((E : Int) + 1) = ((E + 1 : Nat) : Int) := by rw [IntKind.wrap_i64]; omega
        have hch := child_any wr HJ.out.2.rt i E
        obtain ⟨o, ho⟩ : ∃ o, o = child T i E := ⟨_, rfl⟩
        rw [← ho] at hch
        have hst : gone T (dqf T q) bd p i (E + 1 - 1) 0 (V ++ [i]) = optP p Vc o := by
          have e1 : E + 1 - 1 = (E - 1) + 1 := by omega
          rw [e1, gone_step, ← HJ.out.1]
          unfold step1
          rw [show 0 + (E - 1) + 1 = E by omega, ← ho]
          cases o with
          | none => rfl
          | some c =>
            refine if_pos ?_
            obtain ⟨-, -, -, -, -, -, -, f8, f0, f1, f2, f3, f4, -⟩ := HH.out
            obtain ⟨X, hX⟩ := gone_pre (T := T) (dq := dqf T q) (bd := bd) f1 i (V ++ [i]) (E - 1) (wd - (E - 1))
            rw [show E - 1 + (wd - (E - 1)) = wd by omega] at hX
            rw [hX, ← HJ.out.1] at f8
            rw [HBC.out _ (Fin'.pre f8), f2]
            exact ⟨by simp only; have := HE0.out; omega, by simp only; omega⟩
        have HO := Hid.mk (And.intro ho hst)
        have HIN := Hid.mk hin
        clear ho hst hin
        go_wp2_with fail
        refine hch.mono ?_
        rintro e6 w6 ⟨rfl, hd6⟩
        have hS6 := HJ.out.2.drew hd6
        cases o with
        | none =>
          have HN := Hid.mk hS6
          clear hS6 hd6 hch
          simp only [chI]
          go_wp2_with fail
          exact ⟨⟨E + 1, L5, Vc, by push_cast; rfl, by omega, by have := HIN.out.2; omega, Hid.mk ⟨HO.out.2.symm, HN.out⟩⟩, by simp only [intOf]; have := HIN.out.2; omega⟩
        | some c =>
          obtain ⟨k1, k2⟩ := HJ.out.2.rt.wf.child_lt HO.out.1.symm
          have hrec := HI.out c Vc L5 (.slice xa xl xc) w6 (by have := HFL.out; omega) k2 hS6 (by
            obtain ⟨-, -, -, -, -, -, -, f8, f0, f1, f2, f3, f4, -⟩ := HH.out
            have hin2 := HIN.out.2
            obtain ⟨X, hX⟩ := gone_pre (T := T) (dq := dqf T q) (bd := bd) f1 i (V ++ [i]) (E + 1 - 1) (wd - (E + 1 - 1))
            rw [show E + 1 - 1 + (wd - (E + 1 - 1)) = wd by omega, HO.out.2] at hX
            rw [hX] at f8
            exact Fin'.pre f8)
          have c1 : (0 : Int) ≤ (c : Int) := by omega
          obtain ⟨y0, y1, -, -⟩ := HCC.out w6 _ hS6.rt
          clear hS6 hd6 hch k1 k2
          simp only [chI]
          go_wp2_with (first
            | (go_at_call 63; refine hrec.mono ?_; rintro e7 w7 ⟨fv7, L7, rfl, hS7⟩; obtain ⟨a7, c7, hf7, -⟩ := slice_form hS7.row; subst hf7)
            | fail)
          exact ⟨⟨E + 1, L7, p Vc c, by push_cast; rfl, by omega, by have := HIN.out.2; omega, Hid.mk ⟨HO.out.2.symm, hS7⟩⟩, by simp only [intOf]; have := HIN.out.2; omega⟩
      · have hend : gone T (dqf T q) bd p i wd 0 (V ++ [i]) = Vc := by
          rw [HJ.out.1]
          obtain ⟨-, -, -, -, -, -, -, f8, f0, f1, f2, f3, f4, -⟩ := HH.out
          have hg := gone_end (T := T) (dq := dqf T q) (bd := bd) (p := p) (i := i) (V := V ++ [i]) (m := E - 1) (wd - (E - 1)) (fun e c h1 h2 hc hm => by
            obtain ⟨X, hX⟩ := gone_pre (T := T) (dq := dqf T q) (bd := bd) f1 i (V ++ [i]) (E - 1) (wd - (E - 1))
            rw [show E - 1 + (wd - (E - 1)) = wd by omega] at hX
            rw [hX] at f8
            rw [f2] at hm
            rw [HBC.out _ (Fin'.pre f8)] at hm
            have := hm.2
            simp only at this
            omega)
          rw [show E - 1 + (wd - (E - 1)) = wd by omega] at hg
          exact hg
        have HEN := Hid.mk hend
        clear hend
        by_cases hb : E ≤ d + r
        · have b1 : decide (((E : Nat) : Int) ≤ (D2 : Int)) = true := by have := HD2.out; simp; omega
          have b2 : decide (((E : Nat) : Int) ≤ ((wd : Nat) : Int)) = false := by simp; omega
          have b3 : decide (E ≤ D2) = true := by have := HD2.out; simp; omega
          have b4 : decide (E ≤ wd) = false := by simp; omega
          clear hin hb
          go_wp2_with fail
          go_ret
          rw [HEN.out]
          exact ⟨_, L5, rfl, HJ.out.2⟩
        · have b1 : decide (((E : Nat) : Int) ≤ (D2 : Int)) = false := by have := HD2.out; simp; omega
          have b3 : decide (E ≤ D2) = false := by have := HD2.out; simp; omega
          clear hin hb
          go_wp2_with fail
          go_ret
          rw [HEN.out]
          exact ⟨_, L5, rfl, HJ.out.2⟩
end Go.Proofs.YtnnbcdfpbdmgdaaDoor
set_option linter.unusedVariables false
set_option linter.unusedSimpArgs false
namespace Go.Proofs.YtnnbcdfpbdmgdaaDoor
open Go.RowKit Go.Maps Go.Sort Go.Proofs.BitMath Go.Proofs.TreeMath
theorem run_si {α : Type} {d : α → α → Nat} (hs : ∀ a b, d a b = d b a) (ht : ∀ a b c, d a c ≤ d a b + d b c) {T : List (Nd α)} (h : WF d T) {q : α} {dq : Nat → Nat} (hq : ∀ (i : Nat) (n : Nd α), T[i]? = some n → dq i = d n.code q) {bd : List Nat → Nat} (hbd : ∀ V v, bd (V ++ [v]) ≤ bd V) {w : Nat} (hw : ∀ (j : Nat) (m : Nd α), T[j]? = some m → m.over ≠ none → m.dist ≤ w) {L L' : List St} {V V' : List Nat} (r : Run T dq bd w L V L' V') (i : SI d T q bd V L) : SI d T q bd V' L' := by
  induction r using Run.ind with
  | refl => exact i
  | skip hm r ih => exact ih (i.skip hs ht h hm)
  | @look L0 L1 V0 V1 s hm r ih =>
    have hl := (i.ok s (by simp)).lt
    have hn : T[s.node]? = some T[s.node] := List.getElem?_eq_getElem hl
    exact ih (i.visit hs ht h hbd hn (kids_kids' h (hq _ _ hn) hw))
/-- What a search from the beginning has met. -/
theorem run_start {n : Nat} {T : List (Nd (Cd n))} (wf : WF dC T) {k b0 wd : Nat} (hk : 1 ≤ k) (h8 : wd = 8 * n) {q : Cd n} {V : List Nat} (r : Run T (dqf T q) (bdV T k b0 q) wd (st0 T) [] [] V) : SI dC T q (bdV T k b0 q) V [] := by
  refine run_si dC_comm dC_tri wf (fun i nd hi => dqf_eq hi) (bdV_snoc hk b0 q) (w := wd) (fun j m hj ho => ?_) r ?_
  · cases hm : m.over with
    | none => exact absurd hm ho
    | some u => have := (dist_le wf hj hm).2; omega
  · unfold st0
    by_cases hT : T.length = 0
    · rw [if_pos hT]
      exact SI.none q _ (List.eq_nil_of_length_eq_zero hT)
    · rw [if_neg hT]
      exact SI.start wf q _ (by omega)
theorem run_fin {n : Nat} {T : List (Nd (Cd n))} (wf : WF dC T) {k b0 wd : Nat} (hk : 1 ≤ k) (h8 : wd = 8 * n) {q : Cd n} {V : List Nat} (r : Run T (dqf T q) (bdV T k b0 q) wd (st0 T) [] [] V) : Fin' T V := ⟨(run_start wf hk h8 r).nd, (run_start wf hk h8 r).vin⟩
/-- The document's search goes the same way. -/
theorem pre_run {n : Nat} {T : List (Nd (Cd n))} (wf : WF dC T) {k b0 wd : Nat} (hk : 1 ≤ k) {q : Cd n} (hT : 0 < T.length) : Run T (dqf T q) (bdV T k b0 q) wd (st0 T) [] [] (pre T (dqf T q) (bdV T k b0 q) wd T.length [] 0) := by
  unfold st0
  rw [if_neg (by omega)]
  have := run_pre wf (dq := dqf T q) (bd := bdV T k b0 q) (bdV_snoc hk b0 q) (w := wd) T.length ⟨0, 0, 0⟩ [] [] (by simp) hT ⟨Nat.zero_le _, Nat.zero_le _⟩
  simpa using this
theorem run_one {n : Nat} {T : List (Nd (Cd n))} {k b0 wd : Nat} {q : Cd n} {V V' : List Nat} (r : Run T (dqf T q) (bdV T k b0 q) wd (st0 T) [] [] V) (r' : Run T (dqf T q) (bdV T k b0 q) wd (st0 T) [] [] V') : V = V' := Run.det r rfl r'
/-- What is found within is what the program answers. -/
theorem win_ans {n : Nat} {T : List (Nd (Cd n))} (wf : WF dC T) (hsm : T.length ≤ 1099511627776) {r wd : Nat} (h8 : wd = 8 * n) {q : Cd n} {V : List Nat} (hr : Run T (dqf T q) (bdV T 9223372036854775807 r q) wd (st0 T) [] [] V) {L : List (Nat × Cd n)} (hs : ScL q r (lvc T V) L) : ansL 9223372036854775807 r q (lives T) = L := by
  have si := run_start wf (by omega) h8 hr
  have hF := run_fin wf (by omega) h8 hr
  have hl : (lives T).length ≤ T.length := lives_len_le T
  refine ansL_eq wf.lives_nodup hs.srt (fun x => ?_)
  rw [hs.mem, bdM_all r q _ (by omega)]
  constructor
  · rintro ⟨h1, h2, h3⟩
    obtain ⟨v, -, nd, a1, a2, a3⟩ := mem_lvc.1 h1
    exact ⟨mem_lives.2 ⟨v, nd, a1, a2, a3⟩, h2, h3⟩
  · rintro ⟨h1, h2, h3⟩
    obtain ⟨v, nd, a1, a2, a3⟩ := mem_lives.1 h1
    exact ⟨mem_lvc.2 ⟨v, si.done v nd a1 a2 (by rw [bd_const hF hsm, a3, h2]; exact h3), nd, a1, a2, a3⟩, h2, h3⟩
theorem within_all {n B0 t wd : Nat} {T : List (Nd (Cd n))} {v : Value} (q : Cd n) (r : Nat) (sn : Int) (W0 : World) (hr : r ≤ wd) : ∀ (f i : Nat) (V : List Nat) (L : List (Nat × Cd n)) (fv : Value) (w : World), T.length - i ≤ f → i < T.length → SW B0 W0 w t wd T v q r sn fv V L → Fin' T (pre T (dqf T q) (bdV T 9223372036854775807 r q) wd f V i) → Calls Tryd.prog 63 #[.pointer (some ⟨t, 0, none⟩), .int .i64 i, .string q.1, .int .i64 r, fv] w (WinO B0 W0 t wd T v q r sn (pre T (dqf T q) (bdV T 9223372036854775807 r q) wd f V i))
  | 0, i, V, L, fv, w, hf, hi, _, _ => by omega
  | f + 1, i, V, L, fv, w, hf, hi, h, hF => within_rec q r sn W0 hr f (within_all q r sn W0 hr f) i V L fv w hf hi h hF
/-- What a search of the document's tree leaves. -/
structure RSrch {n : Nat} (B0 : Nat) (W w' : World) (t wd : Nat) (T : List (Nd (Cd n))) (v : Value) (sn : Int) (k b0 : Nat) (q : Cd n) (fv : Value) (nv : Nat) : Prop where
  row : w'.ownsRow W.heap.size 36 3 fv (ansL k b0 q (lives T)).length ((ansL k b0 q (lives T)).flatMap hV)
  rt : RT B0 w' t wd T v (lkN sn nv)
  st : Stay (fun j => j = t ∨ W.heap.size ≤ j) W w'
  run : ∃ V : List Nat, nv = V.length ∧ Run T (dqf T q) (bdV T k b0 q) wd (st0 T) [] [] V
def RWithO {n : Nat} (B0 : Nat) (W : World) (t wd : Nat) (T : List (Nd (Cd n))) (v : Value) (sn : Int) (s : ByteArray) (r : Int) (e : Ending) (w' : World) : Prop :=
  (s.size ≠ n ∧ e = .returned (.tuple #[.slice none 0 0, .int .i64 11]) ∧ Drew W w') ∨
  (s.size = n ∧ ¬ (0 ≤ r ∧ r ≤ wd) ∧ e = .returned (.tuple #[.slice none 0 0, .int .i64 101]) ∧ Drew W w') ∨
  ∃ (hs : s.size = n) (fv : Value) (nv : Nat), 0 ≤ r ∧ r ≤ wd ∧ e = .returned (.tuple #[fv, .int .i64 0]) ∧ RSrch B0 W w' t wd T v sn 9223372036854775807 r.toNat ⟨s, hs⟩ fv nv
theorem st0_nil {α : Type} {T : List (Nd α)} (h : T.length = 0) : st0 T = [] := if_pos h
theorem sw_start {n B0 t wd : Nat} {W : World} {T : List (Nd (Cd n))} {v : Value} {sn : Int} (h : RT B0 W t wd T v sn) (q : Cd n) (r : Nat) : SW B0 W W t wd T v q r sn (.slice none 0 0) [] [] :=
  ⟨by rw [List.length_nil, lkN_zero h.lk]; exact h, ⟨rfl, .inl ⟨rfl, rfl⟩⟩, ScL.nil q r, Stay.refl _ _, fun k hk => by
    rcases hk with rfl | hk
    · exact h.lt
    · exact row_lt h.row hk⟩
set_option maxHeartbeats 2000000 in
set_option maxRecDepth 100000 in
theorem rwithin_any {n B0 t wd : Nat} {T : List (Nd (Cd n))} {v : Value} {sn : Int} (W : World) (h : RT B0 W t wd T v sn) (s : ByteArray) (r : Int) :
    Calls Tryd.prog 46 #[.pointer (some ⟨t, 0, none⟩), .string s, .int .i64 r] W (RWithO B0 W t wd T v sn s r) := by
  obtain ⟨t0, t1, t2, tf⟩ := h.cell
  have h8 : ((wd : Nat) : Int) / 8 = (n : Int) := by have := h.eight; omega
  have n8 : n ≤ 128 := by have := isW_bd h.wid; have := h.eight; omega
  have hw1024 : wd ≤ 1024 := by have := isW_bd h.wid; omega
  have hwn : wrap64 (n : Int) = (n : Int) := by unfold wrap64; omega
  by_cases hs : s.size = n
  · have e1 : (((s.size : Nat) : Int) != (n : Int)) = false := by rw [bne_eq_false_iff_eq]; omega
    obtain ⟨q, hq⟩ : ∃ q : Cd n, q.1 = s := ⟨⟨s, hs⟩, rfl⟩
    have hq2 : ∀ hs' : s.size = n, (⟨s, hs'⟩ : Cd n) = q := fun _ => Subtype.ext hq.symm
    by_cases hr : 0 ≤ r ∧ r ≤ wd
    · obtain ⟨r', rfl⟩ : ∃ r' : Nat, r = r' := ⟨r.toNat, by omega⟩
      have r1 : ¬ ((r' : Nat) : Int) < 0 := by omega
      have r2 : decide (((wd : Nat) : Int) < ((r' : Nat) : Int)) = false := by simp; omega
      have r3 : decide (wd < r') = false := by simp; omega
      obtain ⟨a, cp, hv, hcp⟩ := h.form
      have hfin : ∀ (w' : World) (fv : Value) (V : List Nat) (L : List (Nat × Cd n)), SW B0 W w' t wd T v q r' sn fv V L → Run T (dqf T q) (bdV T 9223372036854775807 r' q) wd (st0 T) [] [] V → RWithO B0 W t wd T v sn s (r' : Int) (.returned (.tuple #[fv, .int .i64 0])) w' := fun w' fv V L hS hR => by
        refine .inr (.inr ⟨hs, fv, V.length, hr.1, hr.2, rfl, ?_⟩)
        rw [hq2 hs, Int.toNat_natCast]
        exact ⟨by rw [win_ans h.wf h.small h.eight hR hS.sc]; exact hS.row, hS.rt, hS.st, V, rfl, hR⟩
      have HF := Hid.mk hfin
      by_cases hT : T.length = 0
      · have hE := hfin W _ [] [] (sw_start h q r') (by rw [st0_nil hT]; exact .refl _ _)
        have HE := Hid.mk hE
        rw [hv, hT] at t1
        clear hE hfin h hv hcp hr
        go_enter Tryd.func46, Tryd.ntmps46
        go_wp2_with fail
        go_ret2
        exact HE.out
      · have hR := pre_run h.wf (k := 9223372036854775807) (b0 := r') (wd := wd) (by omega) (q := q) (show 0 < T.length by omega)
        have hrec := within_all (B0 := B0) (t := t) (v := v) q r' sn W (by omega) T.length 0 [] [] (.slice none 0 0) W (by omega) (by omega) (sw_start h q r') (run_fin h.wf (by omega) h.eight hR)
        rw [hq] at hrec
        have HR := Hid.mk hR
        obtain ⟨ln, hln⟩ : ∃ ln, ln = T.length := ⟨_, rfl⟩
        have l0 : ((ln : Int) == 0) = false := by simp; omega
        rw [hv, ← hln] at t1
        clear hR hfin h hv hcp hr hln hT
        go_enter Tryd.func46, Tryd.ntmps46
        go_wp2_with (first
          | (go_at_call 63; refine hrec.mono ?_; rintro e7 w7 ⟨fv7, L7, rfl, hS7⟩; obtain ⟨a7, c7, hf7, -⟩ := slice_form hS7.row; subst hf7)
          | fail)
        go_ret2
        exact HF.out _ _ _ _ hS7 HR.out
    · have HE := Hid.mk (show RWithO B0 W t wd T v sn s r (.returned (.tuple #[.slice none 0 0, .int .i64 101])) W from .inr (.inl ⟨hs, hr, rfl, Drew.refl _⟩))
      by_cases hr0 : r < 0
      · clear h
        go_enter Tryd.func46, Tryd.ntmps46
        go_wp2_with fail
        all_goals (go_ret2; exact HE.out)
      · have r2 : decide (((wd : Nat) : Int) < r) = true := by simp; omega
        have r3 : ((wd : Nat) : Int) < r := by omega
        clear h
        go_enter Tryd.func46, Tryd.ntmps46
        go_wp2_with fail
        all_goals (go_ret2; exact HE.out)
  · have e1 : (((s.size : Nat) : Int) != (n : Int)) = true := by rw [bne_iff_ne]; omega
    clear h
    go_enter Tryd.func46, Tryd.ntmps46
    go_wp2_with fail
    go_ret2
    exact .inl ⟨hs, rfl, Drew.refl _⟩
end Go.Proofs.YtnnbcdfpbdmgdaaDoor
set_option linter.unusedVariables false
set_option linter.unusedSimpArgs false
namespace Go.Proofs.YtnnbcdfpbdmgdaaDoor
open Go.RowKit Go.Maps Go.Sort Go.Proofs.BitMath Go.Proofs.TreeMath
def optQ (p : List Nat → Nat → List Nat) (V : List Nat) (d bb E : Nat) (o : Option Nat) : List Nat := match o with
  | none => V
  | some c => if d ≤ E + bb ∧ E ≤ d + bb then p V c else V
/-- How far a code may be, by what was found. -/
theorem bound_of {n wd : Nat} {q : Cd n} {A : List (Cd n)} {L : List (Nat × Cd n)} (hA : A.Nodup) (hlen : A.length < 9223372036854775807) (hwd : 8 * n ≤ wd) (hs : ScL q wd A L) {k : Nat} (hk : 1 ≤ k) : (L.length < k → bdM k wd q A = wd) ∧ (∀ h : k - 1 < L.length, bdM k wd q A = L[k - 1].1) := by
  have e := hs.ans hA hlen
  have hbd := bdM_all wd q A hlen
  have hall : ∀ c ∈ A, dC c q ≤ bdM 9223372036854775807 wd q A := fun c hc => by rw [hbd]; exact Nat.le_trans (dC_le c q) hwd
  have hperm := ans_perm hA hall
  rw [e] at hperm
  have hpl := hperm.length_eq
  rw [List.length_map] at hpl
  have hql : (dqs q A).length = A.length := by simp [dqs]
  refine ⟨fun h => ?_, fun hp => ?_⟩
  · unfold bdM
    exact lower_few _ _ (by omega)
  · have hsd : (L.map Prod.fst).Pairwise (· ≤ ·) := by
      rw [List.pairwise_map]
      exact hs.srt.imp fun h => hlt_le h
    have hlp : L[k - 1].1 ≤ wd := ((hs.mem L[k - 1]).1 (List.getElem_mem _)).2.2
    have c1 := count_lt hsd (p := k - 1) (by simpa using hp)
    have c2 := count_le hsd (p := k - 1) (by simpa using hp)
    rw [List.getElem_map] at c1 c2
    have e1 : lc (L.map Prod.fst) L[k - 1].1 = lc (dqs q A) L[k - 1].1 := hperm.countP_eq _
    have e2 : lc (L.map Prod.fst) (L[k - 1].1 + 1) = lc (dqs q A) (L[k - 1].1 + 1) := hperm.countP_eq _
    unfold bdM
    exact lower_one (by omega) hlp (by omega) (.inr (by omega))
set_option maxHeartbeats 400000 in
theorem rbound_any {n B0 t wd : Nat} {W0 w : World} {T : List (Nd (Cd n))} {v : Value} {q : Cd n} {sn : Int} {fv : Value} {V : List Nat} {L : List (Nat × Cd n)} (h : SW B0 W0 w t wd T v q wd sn fv V L) (hF : Fin' T V) (k : Nat) (hk1 : 1 ≤ k) (hk2 : k ≤ 4096) :
    Calls Tryd.prog 65 #[.pointer (some ⟨t, 0, none⟩), fv, .int .i64 k] w fun e w' => e = .returned (.int .i64 (bdV T k wd q V : Nat)) ∧ Drew w w' := by
  obtain ⟨t0, -, -, -⟩ := h.rt.cell
  have hl := lvc_len T V
  have hl2 := hF.len
  have hsm := h.rt.small
  obtain ⟨p1, p2⟩ := bound_of (lvc_nodup h.rt.wf hF.1) (by omega) (by have := h.rt.eight; omega) h.sc hk1
  have hLl := h.sc.len
  obtain ⟨a, c, rfl, hc, hat⟩ := HAt.row h.row
  obtain ⟨m, hm⟩ : ∃ m, m = L.length := ⟨_, rfl⟩
  have hmb : m ≤ 1099511627776 := by omega
  by_cases hlt : L.length < k
  · have h1 := p1 hlt
    have HE := Hid.mk h1
    have m1 : decide ((m : Int) < (k : Int)) = true := by simp; omega
    have m2 : decide (m < k) = true := by simp; omega
    rw [← hm]
    clear h hat p1 p2 h1 hlt hm hl hl2 hsm hLl hc
    go_enter Tryd.func65, Tryd.ntmps65
    go_wp2
    go_ret
    exact ⟨ret_int (by rw [show bdV T k wd q V = wd from HE.out]), Drew.refl _⟩
  · have hp : k - 1 < L.length := by omega
    have h1 := p2 hp
    have HE := Hid.mk h1
    have m1 : decide ((m : Int) < (k : Int)) = false := by simp; omega
    have m2 : decide (m < k) = false := by simp; omega
    obtain ⟨g, hg, c0, -, -⟩ := hat (k - 1) hp
    obtain ⟨j, hj⟩ : ∃ j, j = k - 1 := ⟨_, rfl⟩
    have wj : IntKind.i64.wrap ((k : Int) - 1) = (j : Int) := by rw [IntKind.wrap_i64]; omega
    have j0 : (0 : Int) ≤ (j : Int) := by omega
    have j1 : (j : Int) < (m : Int) := by omega
    obtain ⟨D, hD⟩ : ∃ D, D = L[k - 1].1 := ⟨_, rfl⟩
    rw [← hD, ← hj] at c0
    have HD := Hid.mk hD
    subst hg
    rw [← hm]
    clear h hat p1 p2 h1 hlt hm hl hl2 hsm hLl hc hD hj
    go_enter Tryd.func65, Tryd.ntmps65
    go_wp2
    go_ret
    exact ⟨ret_int (by rw [HD.out]; exact congrArg _ HE.out.symm), Drew.refl _⟩
set_option maxHeartbeats 4000000 in
set_option maxRecDepth 100000 in
theorem near_rec {n B0 t wd : Nat} {T : List (Nd (Cd n))} {v : Value} (q : Cd n) (k : Nat) (sn : Int) (W0 : World) (hk1 : 1 ≤ k) (hk2 : k ≤ 4096) (f : Nat)
    (ih : ∀ (i : Nat) (V : List Nat) (L : List (Nat × Cd n)) (fv : Value) (w : World), T.length - i ≤ f → i < T.length → SW B0 W0 w t wd T v q wd sn fv V L → Fin' T (pre T (dqf T q) (bdV T k wd q) wd f V i) → Calls Tryd.prog 64 #[.pointer (some ⟨t, 0, none⟩), .int .i64 i, .string q.1, .int .i64 k, fv] w (WinO B0 W0 t wd T v q wd sn (pre T (dqf T q) (bdV T k wd q) wd f V i)))
    (i : Nat) (V : List Nat) (L : List (Nat × Cd n)) (fv : Value) (w : World) (hf : T.length - i ≤ f + 1) (hi : i < T.length) (h : SW B0 W0 w t wd T v q wd sn fv V L) (hF : Fin' T (pre T (dqf T q) (bdV T k wd q) wd (f + 1) V i)) :
    Calls Tryd.prog 64 #[.pointer (some ⟨t, 0, none⟩), .int .i64 i, .string q.1, .int .i64 k, fv] w (WinO B0 W0 t wd T v q wd sn (pre T (dqf T q) (bdV T k wd q) wd (f + 1) V i)) := by
  obtain ⟨bd, hbd⟩ : ∃ bd, bd = bdV T k wd q := ⟨_, rfl⟩
  obtain ⟨p, hp⟩ : ∃ p, p = pre T (dqf T q) bd wd f := ⟨_, rfl⟩
  have hpa : ∀ V i, ∃ X, p V i = V ++ X := by rw [hp]; exact pre_app T (dqf T q) bd wd f
  rw [← hbd] at hF ih ⊢
  rw [← hp] at ih
  rw [show pre T (dqf T q) bd wd (f + 1) V i = gone T (dqf T q) bd p i wd 0 (V ++ [i]) from by rw [hp]; rfl] at hF ⊢
  have hF0 : Fin' T (V ++ [i]) := by
    obtain ⟨X, hX⟩ := gone_app (T := T) (dq := dqf T q) (bd := bd) hpa i wd 0 (V ++ [i])
    rw [hX] at hF
    exact hF.pre
  have hiV : i ∉ V := Fin'.out (X := []) (by simpa using hF0)
  have hsm := h.rt.small
  have hn8 : wd = 8 * n := h.rt.eight
  have hw1024 : wd ≤ 1024 := by have := isW_bd h.rt.wid; omega
  have hw64 : 64 ≤ wd := by have := isW_bd h.rt.wid; omega
  obtain ⟨nd, hnd⟩ : ∃ nd, nd = T[i] := ⟨_, rfl⟩
  have hTi : T[i]? = some nd := by rw [List.getElem?_eq_getElem hi, hnd]
  obtain ⟨g, cp, hv, c0, c1, -, -, -, -, -⟩ := h.rt.at_ i hi
  rw [← hnd] at c0 c1
  obtain ⟨t0, t1, t2, tf⟩ := h.rt.cell
  have tf2 := tf 2
  have hgt : g ≠ t := h.rt.nb (by rw [hv]; rfl)
  obtain ⟨s0, hs0⟩ : ∃ s0, s0 = lkN sn V.length := ⟨_, rfl⟩
  obtain ⟨s1, hs1⟩ : ∃ s1, s1 = lkN sn (V.length + 1) := ⟨_, rfl⟩
  have hlk : IntKind.i64.wrap (s0 + 1) = s1 := by rw [hs0, hs1, lkN_succ]
  rw [← hs0] at t2
  obtain ⟨ln, hln⟩ : ∃ ln, ln = T.length := ⟨_, rfl⟩
  obtain ⟨d, hd⟩ : ∃ d, d = dC nd.code q := ⟨_, rfl⟩
  have hd8 : d ≤ wd := by rw [hd, hn8]; exact dC_le _ _
  obtain ⟨hA1, hA2, hA3⟩ := h.seen (i := i)
  rw [← hs1] at hA1 hA2 hA3
  obtain ⟨w1, hw1⟩ : ∃ w1, w1 = w.setCell ⟨t, 2, none⟩ (.int .i64 s1) := ⟨_, rfl⟩
  rw [← hw1] at hA1 hA2 hA3
  have hfar := far_any nd.code q w1 (by omega)
  rw [← hd] at hfar
  have i1 : (i : Int) < (ln : Int) := by omega
  have i2 : 0 ≤ (i : Int) := by omega
  have hx : nd.code ∉ lvc T V := lvc_out h.rt.wf hTi hiV
  have hdq : dqf T q i = d := by rw [dqf_eq hTi, hd]
  have HH := Hid.mk (And.intro h (And.intro hA1 (And.intro hA2 (And.intro hA3 (And.intro hTi (And.intro hd (And.intro hx (And.intro hF (And.intro hF0 (And.intro hpa (And.intro hdq (And.intro hbd (And.intro hln hv)))))))))))))
  have HI := Hid.mk ih
  have HFL := Hid.mk hf
  have HCC := Hid.mk (show ∀ (w' : World) (s : Int), RT B0 w' t wd T v s → w'.cell? ⟨t, 0, none⟩ = some (.int .i64 wd) ∧ w'.cell? ⟨t, 1, none⟩ = some (.slice (some ⟨g, 0, none⟩) ln cp) ∧ w'.cell? ⟨g, i * 4, none⟩ = some (.string nd.code.1) ∧ w'.cell? ⟨g, i * 4 + 1, none⟩ = some (.bool nd.live) from fun w' s hw => by
    obtain ⟨x0, x1, -, -⟩ := hw.cell
    obtain ⟨g', cp', e', y0, y1, -⟩ := hw.at_ i hi
    rw [hv] at e'
    cases e'
    rw [← hnd] at y0 y1
    exact ⟨x0, by rw [x1, hv, hln], y0, y1⟩)
  rw [hv] at t1
  rw [← hln] at t1
  have hlb : ln ≤ 1099511627776 := by omega
  obtain ⟨cd, hcd⟩ : ∃ cd, cd = nd.code := ⟨_, rfl⟩
  obtain ⟨lv, hlv⟩ : ∃ lv, lv = nd.live := ⟨_, rfl⟩
  have HC := Hid.mk (And.intro hcd hlv)
  rw [← hcd] at c0 hfar HCC
  rw [← hlv] at c1 HCC
  obtain ⟨fa, fl, fc, hfv⟩ : ∃ fa fl fc, fv = .slice fa fl fc := by
    obtain ⟨a', c', e', -⟩ := slice_form h.row
    exact ⟨_, _, _, e'⟩
  subst hfv
  clear h hA1 hA2 hA3 hTi hd hx hF hF0 hpa hdq hbd hp hln hv hnd hiV ih hs0 hs1 hsm hn8 hcd hlv hf tf hi
  go_enter Tryd.func64, Tryd.ntmps64
  go_wp2_with fail
  rw [← hw1]
  refine hfar.mono ?_
  rintro e w2 ⟨rfl, hw2⟩
  subst hw2
  have HW := Hid.mk hw1
  clear hw1 hfar c0 c1 t0 t1 t2 tf2
  obtain ⟨t0, t1, c0, c1⟩ := HCC.out w2 _ HH.out.2.1
  have hl0 : (lvc T V).length ≤ ln := by
    have h1 := lvc_len T V
    obtain ⟨-, -, -, -, -, -, -, -, f0, -, -, -, f4, -⟩ := HH.out
    have h2 : V.length ≤ T.length := (Fin'.pre f0).len
    omega
  have hLl : L.length ≤ ln := Nat.le_trans HH.out.1.sc.len hl0
  cases lv with
  | true =>
    have hput := put_any (r := wd) (A := lvc T V) (L := L) (v := .slice fa fl fc) cd d w2 (by rw [HC.out.1]; exact HH.out.2.2.2.2.2.1) HH.out.2.2.1 HH.out.1.sc (by rw [HC.out.1]; exact HH.out.2.2.2.2.2.2.1) hd8 HH.out.2.2.2.1.size (by omega)
    go_wp2_with (first
      | (go_at_call 72; refine hput.mono ?_; rintro e3 w3 ⟨fv3, L3, rfl, b3, r3, s3⟩)
      | fail)
    have HS := Hid.mk (show SW B0 W0 w3 t wd T v q wd sn fv3 (V ++ [i]) L3 from SW.put HH.out.2.1 HH.out.2.2.2.1 HH.out.1.foot b3 r3 (by
      rw [lvc_yes HH.out.2.2.2.2.1 HC.out.2.symm, ← HC.out.1]; exact s3))
    obtain ⟨z0, z1, z2, z3⟩ := HCC.out w3 _ HS.out.rt
    obtain ⟨fa3, fl3, fc3, hfv3⟩ : ∃ fa fl fc, fv3 = .slice fa fl fc := by
      obtain ⟨a', c', e', -⟩ := slice_form r3
      exact ⟨_, _, _, e'⟩
    subst hfv3
    clear b3 r3 s3 hput t0 t1 c0 c1
    go_wp2_with fail
    go_loopw [4, 12, 13, 14] (fun u4 u12 u13 u14 wr => ∃ (E : Nat) (L5 : List (Nat × Cd n)) (Vc : List Nat), u12 = .int .i64 E ∧ 1 ≤ E ∧ E ≤ wd + 1 ∧ Hid (Vc = gone T (dqf T q) bd p i (E - 1) 0 (V ++ [i]) ∧ SW B0 W0 wr t wd T v q wd sn u4 Vc L5)) (fun _ u12 _ _ _ => wd + 1 - (intOf u12).toNat)
    case atStart => exact ⟨1, L3, V ++ [i], rfl, Nat.le_refl _, by omega, Hid.mk ⟨rfl, HS.out⟩⟩
    case round =>
      obtain ⟨E, L5, Vc, rfl, hE3, hE4, HJ⟩ := hrel
      obtain ⟨x0, x1, -, -⟩ := HCC.out wr _ HJ.out.2.rt
      obtain ⟨xa, xl, xc, hxv⟩ : ∃ xa xl xc, u4 = .slice xa xl xc := by
        obtain ⟨a', c', e', -⟩ := slice_form HJ.out.2.row
        exact ⟨_, _, _, e'⟩
      subst hxv
      by_cases hin : E ≤ wd
      · have b2 : decide (((E : Nat) : Int) ≤ ((wd : Nat) : Int)) = true := by simp; omega
        have b4 : decide (E ≤ wd) = true := by simp; omega
        have hwE : IntKind.i64.wrap ((E : Int) + 1) = ((E + 1 : Nat) : Int) := by rw [IntKind.wrap_i64]; omega
        have hFc : Fin' T Vc := by
          obtain ⟨-, -, -, -, -, -, -, f8, f0, f1, f2, f3, f4, -⟩ := HH.out
          obtain ⟨X, hX⟩ := gone_pre (T := T) (dq := dqf T q) (bd := bd) f1 i (V ++ [i]) (E - 1) (wd - (E - 1))
          rw [show E - 1 + (wd - (E - 1)) = wd by omega] at hX
          rw [hX, ← HJ.out.1] at f8
          exact Fin'.pre f8
        have hch := child_any wr HJ.out.2.rt i E
        obtain ⟨o, ho⟩ : ∃ o, o = child T i E := ⟨_, rfl⟩
        rw [← ho] at hch
        obtain ⟨bb, hbb⟩ : ∃ bb, bb = bd Vc := ⟨_, rfl⟩
        have hbw : bb ≤ wd := by rw [hbb, HH.out.2.2.2.2.2.2.2.2.2.2.2.1]; exact bdV_le T k wd q Vc
        have hst : gone T (dqf T q) bd p i (E + 1 - 1) 0 (V ++ [i]) = optQ p Vc d bb E o := by
          have e1 : E + 1 - 1 = (E - 1) + 1 := by omega
          rw [e1, gone_step, ← HJ.out.1]
          unfold step1
          rw [show 0 + (E - 1) + 1 = E by omega]
          rw [← ho, ← hbb, HH.out.2.2.2.2.2.2.2.2.2.2.1]
          rfl
        have hbnd := fun w' (d' : Drew wr w') => rbound_any (HJ.out.2.drew d') hFc k hk1 hk2
        rw [show bdV T k wd q Vc = bb from by rw [hbb, HH.out.2.2.2.2.2.2.2.2.2.2.2.1]] at hbnd
        have HO := Hid.mk (And.intro ho hst)
        have HIN := Hid.mk (And.intro hin hFc)
        obtain ⟨DM, hDM⟩ : ∃ DM : Int, DM = (d : Int) - (bb : Int) := ⟨_, rfl⟩
        obtain ⟨DP, hDP⟩ : ∃ DP : Nat, DP = d + bb := ⟨_, rfl⟩
        have wdm : IntKind.i64.wrap ((d : Int) - (bb : Int)) = DM := by rw [IntKind.wrap_i64]; omega
        have wdp : IntKind.i64.wrap ((d : Int) + (bb : Int)) = (DP : Int) := by rw [IntKind.wrap_i64]; omega
        have HDD := Hid.mk (And.intro hDM hDP)
        clear ho hst hin hFc hbb hDM hDP
        go_wp2_with fail
        refine hch.mono ?_
        rintro e6 w6 ⟨rfl, hd6⟩
        have hS6 := HJ.out.2.drew hd6
        have hb6 := hbnd w6 hd6
        cases o with
        | none =>
          have HN := Hid.mk hS6
          clear hS6 hd6 hch hbnd
          simp only [chI]
          go_wp2_with (first
            | (go_at_call 65; refine hb6.mono ?_; rintro e7 w7 ⟨rfl, hd7⟩)
            | fail)
          exact ⟨⟨E + 1, L5, Vc, by push_cast; rfl, by omega, by have := HIN.out.1; omega, Hid.mk ⟨HO.out.2.symm, HN.out.drew hd7⟩⟩, by simp only [intOf]; have := HIN.out.1; omega⟩
        | some c =>
          obtain ⟨k1, k2⟩ := HJ.out.2.rt.wf.child_lt HO.out.1.symm
          have c1 : (0 : Int) ≤ (c : Int) := by omega
          have HN := Hid.mk hS6
          have HK2 := Hid.mk (And.intro k1 k2)
          clear hS6 hd6 hch hbnd k1 k2
          by_cases hA : DM ≤ (E : Int)
          · have a1 : decide (DM ≤ ((E : Nat) : Int)) = true := by simp; omega
            by_cases hB : E ≤ DP
            · have a2 : decide (((E : Nat) : Int) ≤ (DP : Int)) = true := by simp; omega
              have a3 : decide (E ≤ DP) = true := by simp; omega
              have hyes : gone T (dqf T q) bd p i (E + 1 - 1) 0 (V ++ [i]) = p Vc c := by
                rw [HO.out.2]
                exact if_pos ⟨by have := HDD.out.1; omega, by have := HDD.out.2; omega⟩
              have HY := Hid.mk hyes
              have hrec := fun w' (d' : Drew w6 w') => HI.out c Vc L5 (.slice xa xl xc) w' (by have := HFL.out; have := HK2.out; omega) HK2.out.2 (HN.out.drew d') (by
                obtain ⟨-, -, -, -, -, -, -, f8, f0, f1, f2, f3, f4, -⟩ := HH.out
                have hin2 := HIN.out.1
                obtain ⟨X, hX⟩ := gone_pre (T := T) (dq := dqf T q) (bd := bd) f1 i (V ++ [i]) (E + 1 - 1) (wd - (E + 1 - 1))
                rw [show E + 1 - 1 + (wd - (E + 1 - 1)) = wd by omega, HY.out] at hX
                rw [hX] at f8
                exact Fin'.pre f8)
              clear hyes hA hB
              simp only [chI]
              go_wp2_with (first
                | (go_at_call 65; refine hb6.mono ?_; rintro e7 w7 ⟨rfl, hd7⟩; have hr7 := hrec w7 hd7)
                | (go_at_call 64; refine hr7.mono ?_; rintro e8 w8 ⟨fv8, L8, rfl, hS8⟩; obtain ⟨a8, c8, hf8, -⟩ := slice_form hS8.row; subst hf8)
                | fail)
              exact ⟨⟨E + 1, L8, p Vc c, by push_cast; rfl, by omega, by have := HIN.out.1; omega, Hid.mk ⟨HY.out.symm, hS8⟩⟩, by simp only [intOf]; have := HIN.out.1; omega⟩
            · have a2 : decide (((E : Nat) : Int) ≤ (DP : Int)) = false := by simp; omega
              have a3 : decide (E ≤ DP) = false := by simp; omega
              have hno : gone T (dqf T q) bd p i (E + 1 - 1) 0 (V ++ [i]) = Vc := by
                rw [HO.out.2]
                exact if_neg (fun h => by have := HDD.out.2; omega)
              have HY := Hid.mk hno
              clear hno hA hB
              simp only [chI]
              go_wp2_with (first
                | (go_at_call 65; refine hb6.mono ?_; rintro e7 w7 ⟨rfl, hd7⟩)
                | fail)
              exact ⟨⟨E + 1, L5, Vc, by push_cast; rfl, by omega, by have := HIN.out.1; omega, Hid.mk ⟨HY.out.symm, HN.out.drew hd7⟩⟩, by simp only [intOf]; have := HIN.out.1; omega⟩
          · have a1 : decide (DM ≤ ((E : Nat) : Int)) = false := by simp; omega
            have hno : gone T (dqf T q) bd p i (E + 1 - 1) 0 (V ++ [i]) = Vc := by
              rw [HO.out.2]
              exact if_neg (fun h => by have := HDD.out.1; omega)
            have HY := Hid.mk hno
            clear hno hA
            simp only [chI]
            go_wp2_with (first
              | (go_at_call 65; refine hb6.mono ?_; rintro e7 w7 ⟨rfl, hd7⟩)
              | fail)
            exact ⟨⟨E + 1, L5, Vc, by push_cast; rfl, by omega, by have := HIN.out.1; omega, Hid.mk ⟨HY.out.symm, HN.out.drew hd7⟩⟩, by simp only [intOf]; have := HIN.out.1; omega⟩
      · have hend : gone T (dqf T q) bd p i wd 0 (V ++ [i]) = Vc := by rw [HJ.out.1, show E - 1 = wd by omega]
        have HEN := Hid.mk hend
        have b2 : decide (((E : Nat) : Int) ≤ ((wd : Nat) : Int)) = false := by simp; omega
        have b4 : decide (E ≤ wd) = false := by simp; omega
        clear hend hin
        go_wp2_with fail
        go_ret
        rw [HEN.out]
        exact ⟨_, L5, rfl, HJ.out.2⟩
  | false =>
    obtain ⟨L3, hL3⟩ : ∃ L3, L3 = L := ⟨_, rfl⟩
    have HS := Hid.mk (show SW B0 W0 w2 t wd T v q wd sn (.slice fa fl fc) (V ++ [i]) L3 from by
      rw [hL3]
      exact SW.put HH.out.2.1 HH.out.2.2.2.1 HH.out.1.foot (Below.refl _ _) HH.out.2.2.1 (by
        rw [lvc_no HH.out.2.2.2.2.1 HC.out.2.symm]; exact HH.out.1.sc))
    clear hL3
    go_wp2_with fail
    go_loopw [4, 12, 13, 14] (fun u4 u12 u13 u14 wr => ∃ (E : Nat) (L5 : List (Nat × Cd n)) (Vc : List Nat), u12 = .int .i64 E ∧ 1 ≤ E ∧ E ≤ wd + 1 ∧ Hid (Vc = gone T (dqf T q) bd p i (E - 1) 0 (V ++ [i]) ∧ SW B0 W0 wr t wd T v q wd sn u4 Vc L5)) (fun _ u12 _ _ _ => wd + 1 - (intOf u12).toNat)
    case atStart => exact ⟨1, L3, V ++ [i], rfl, Nat.le_refl _, by omega, Hid.mk ⟨rfl, HS.out⟩⟩
    case round =>
      obtain ⟨E, L5, Vc, rfl, hE3, hE4, HJ⟩ := hrel
      obtain ⟨x0, x1, -, -⟩ := HCC.out wr _ HJ.out.2.rt
      obtain ⟨xa, xl, xc, hxv⟩ : ∃ xa xl xc, u4 = .slice xa xl xc := by
        obtain ⟨a', c', e', -⟩ := slice_form HJ.out.2.row
        exact ⟨_, _, _, e'⟩
      subst hxv
      by_cases hin : E ≤ wd
      · have b2 : decide (((E : Nat) : Int) ≤ ((wd : Nat) : Int)) = true := by simp; omega
        have b4 : decide (E ≤ wd) = true := by simp; omega
        have hwE : IntKind.i64.wrap ((E : Int) + 1) = ((E + 1 : Nat) : Int) := by rw [IntKind.wrap_i64]; omega
        have hFc : Fin' T Vc := by
          obtain ⟨-, -, -, -, -, -, -, f8, f0, f1, f2, f3, f4, -⟩ := HH.out
          obtain ⟨X, hX⟩ := gone_pre (T := T) (dq := dqf T q) (bd := bd) f1 i (V ++ [i]) (E - 1) (wd - (E - 1))
          rw [show E - 1 + (wd - (E - 1)) = wd by omega] at hX
          rw [hX, ← HJ.out.1] at f8
          exact Fin'.pre f8
        have hch := child_any wr HJ.out.2.rt i E
        obtain ⟨o, ho⟩ : ∃ o, o = child T i E := ⟨_, rfl⟩
        rw [← ho] at hch
        obtain ⟨bb, hbb⟩ : ∃ bb, bb = bd Vc := ⟨_, rfl⟩
        have hbw : bb ≤ wd := by rw [hbb, HH.out.2.2.2.2.2.2.2.2.2.2.2.1]; exact bdV_le T k wd q Vc
        have hst : gone T (dqf T q) bd p i (E + 1 - 1) 0 (V ++ [i]) = optQ p Vc d bb E o := by
          have e1 : E + 1 - 1 = (E - 1) + 1 := by omega
          rw [e1, gone_step, ← HJ.out.1]
          unfold step1
          rw [show 0 + (E - 1) + 1 = E by omega]
          rw [← ho, ← hbb, HH.out.2.2.2.2.2.2.2.2.2.2.1]
          rfl
        have hbnd := fun w' (d' : Drew wr w') => rbound_any (HJ.out.2.drew d') hFc k hk1 hk2
        rw [show bdV T k wd q Vc = bb from by rw [hbb, HH.out.2.2.2.2.2.2.2.2.2.2.2.1]] at hbnd
        have HO := Hid.mk (And.intro ho hst)
        have HIN := Hid.mk (And.intro hin hFc)
        obtain ⟨DM, hDM⟩ : ∃ DM : Int, DM = (d : Int) - (bb : Int) := ⟨_, rfl⟩
        obtain ⟨DP, hDP⟩ : ∃ DP : Nat, DP = d + bb := ⟨_, rfl⟩
        have wdm : IntKind.i64.wrap ((d : Int) - (bb : Int)) = DM := by rw [IntKind.wrap_i64]; omega
        have wdp : IntKind.i64.wrap ((d : Int) + (bb : Int)) = (DP : Int) := by rw [IntKind.wrap_i64]; omega
        have HDD := Hid.mk (And.intro hDM hDP)
        clear ho hst hin hFc hbb hDM hDP
        go_wp2_with fail
        refine hch.mono ?_
        rintro e6 w6 ⟨rfl, hd6⟩
        have hS6 := HJ.out.2.drew hd6
        have hb6 := hbnd w6 hd6
        cases o with
        | none =>
          have HN := Hid.mk hS6
          clear hS6 hd6 hch hbnd
          simp only [chI]
          go_wp2_with (first
            | (go_at_call 65; refine hb6.mono ?_; rintro e7 w7 ⟨rfl, hd7⟩)
            | fail)
          exact ⟨⟨E + 1, L5, Vc, by push_cast; rfl, by omega, by have := HIN.out.1; omega, Hid.mk ⟨HO.out.2.symm, HN.out.drew hd7⟩⟩, by simp only [intOf]; have := HIN.out.1; omega⟩
        | some c =>
          obtain ⟨k1, k2⟩ := HJ.out.2.rt.wf.child_lt HO.out.1.symm
          have c1 : (0 : Int) ≤ (c : Int) := by omega
          have HN := Hid.mk hS6
          have HK2 := Hid.mk (And.intro k1 k2)
          clear hS6 hd6 hch hbnd k1 k2
          by_cases hA : DM ≤ (E : Int)
          · have a1 : decide (DM ≤ ((E : Nat) : Int)) = true := by simp; omega
            by_cases hB : E ≤ DP
            · have a2 : decide (((E : Nat) : Int) ≤ (DP : Int)) = true := by simp; omega
              have a3 : decide (E ≤ DP) = true := by simp; omega
              have hyes : gone T (dqf T q) bd p i (E + 1 - 1) 0 (V ++ [i]) = p Vc c := by
                rw [HO.out.2]
                exact if_pos ⟨by have := HDD.out.1; omega, by have := HDD.out.2; omega⟩
              have HY := Hid.mk hyes
              have hrec := fun w' (d' : Drew w6 w') => HI.out c Vc L5 (.slice xa xl xc) w' (by have := HFL.out; have := HK2.out; omega) HK2.out.2 (HN.out.drew d') (by
                obtain ⟨-, -, -, -, -, -, -, f8, f0, f1, f2, f3, f4, -⟩ := HH.out
                have hin2 := HIN.out.1
                obtain ⟨X, hX⟩ := gone_pre (T := T) (dq := dqf T q) (bd := bd) f1 i (V ++ [i]) (E + 1 - 1) (wd - (E + 1 - 1))
                rw [show E + 1 - 1 + (wd - (E + 1 - 1)) = wd by omega, HY.out] at hX
                rw [hX] at f8
                exact Fin'.pre f8)
              clear hyes hA hB
              simp only [chI]
              go_wp2_with (first
                | (go_at_call 65; refine hb6.mono ?_; rintro e7 w7 ⟨rfl, hd7⟩; have hr7 := hrec w7 hd7)
                | (go_at_call 64; refine hr7.mono ?_; rintro e8 w8 ⟨fv8, L8, rfl, hS8⟩; obtain ⟨a8, c8, hf8, -⟩ := slice_form hS8.row; subst hf8)
                | fail)
              exact ⟨⟨E + 1, L8, p Vc c, by push_cast; rfl, by omega, by have := HIN.out.1; omega, Hid.mk ⟨HY.out.symm, hS8⟩⟩, by simp only [intOf]; have := HIN.out.1; omega⟩
            · have a2 : decide (((E : Nat) : Int) ≤ (DP : Int)) = false := by simp; omega
              have a3 : decide (E ≤ DP) = false := by simp; omega
              have hno : gone T (dqf T q) bd p i (E + 1 - 1) 0 (V ++ [i]) = Vc := by
                rw [HO.out.2]
                exact if_neg (fun h => by have := HDD.out.2; omega)
              have HY := Hid.mk hno
              clear hno hA hB
              simp only [chI]
              go_wp2_with (first
                | (go_at_call 65; refine hb6.mono ?_; rintro e7 w7 ⟨rfl, hd7⟩)
                | fail)
              exact ⟨⟨E + 1, L5, Vc, by push_cast; rfl, by omega, by have := HIN.out.1; omega, Hid.mk ⟨HY.out.symm, HN.out.drew hd7⟩⟩, by simp only [intOf]; have := HIN.out.1; omega⟩
          · have a1 : decide (DM ≤ ((E : Nat) : Int)) = false := by simp; omega
            have hno : gone T (dqf T q) bd p i (E + 1 - 1) 0 (V ++ [i]) = Vc := by
              rw [HO.out.2]
              exact if_neg (fun h => by have := HDD.out.1; omega)
            have HY := Hid.mk hno
            clear hno hA
            simp only [chI]
            go_wp2_with (first
              | (go_at_call 65; refine hb6.mono ?_; rintro e7 w7 ⟨rfl, hd7⟩)
              | fail)
            exact ⟨⟨E + 1, L5, Vc, by push_cast; rfl, by omega, by have := HIN.out.1; omega, Hid.mk ⟨HY.out.symm, HN.out.drew hd7⟩⟩, by simp only [intOf]; have := HIN.out.1; omega⟩
      · have hend : gone T (dqf T q) bd p i wd 0 (V ++ [i]) = Vc := by rw [HJ.out.1, show E - 1 = wd by omega]
        have HEN := Hid.mk hend
        have b2 : decide (((E : Nat) : Int) ≤ ((wd : Nat) : Int)) = false := by simp; omega
        have b4 : decide (E ≤ wd) = false := by simp; omega
        clear hend hin
        go_wp2_with fail
        go_ret
        rw [HEN.out]
        exact ⟨_, L5, rfl, HJ.out.2⟩
end Go.Proofs.YtnnbcdfpbdmgdaaDoor
set_option linter.unusedVariables false
set_option linter.unusedSimpArgs false
namespace Go.Proofs.YtnnbcdfpbdmgdaaDoor
open Go.RowKit Go.Maps Go.Sort Go.Proofs.BitMath Go.Proofs.TreeMath
theorem near_all {n B0 t wd : Nat} {T : List (Nd (Cd n))} {v : Value} (q : Cd n) (k : Nat) (sn : Int) (W0 : World) (hk1 : 1 ≤ k) (hk2 : k ≤ 4096) : ∀ (f i : Nat) (V : List Nat) (L : List (Nat × Cd n)) (fv : Value) (w : World), T.length - i ≤ f → i < T.length → SW B0 W0 w t wd T v q wd sn fv V L → Fin' T (pre T (dqf T q) (bdV T k wd q) wd f V i) → Calls Tryd.prog 64 #[.pointer (some ⟨t, 0, none⟩), .int .i64 i, .string q.1, .int .i64 k, fv] w (WinO B0 W0 t wd T v q wd sn (pre T (dqf T q) (bdV T k wd q) wd f V i))
  | 0, i, V, L, fv, w, hf, hi, _, _ => by omega
  | f + 1, i, V, L, fv, w, hf, hi, h, hF => near_rec q k sn W0 hk1 hk2 f (near_all q k sn W0 hk1 hk2 f) i V L fv w hf hi h hF
/-- The first of what is found, up to the bound, are what the program answers. -/
theorem near_ans {n : Nat} {T : List (Nd (Cd n))} (wf : WF dC T) {k wd : Nat} (hk : 1 ≤ k) (h8 : wd = 8 * n) {q : Cd n} {V : List Nat} (hr : Run T (dqf T q) (bdV T k wd q) wd (st0 T) [] [] V) {L : List (Nat × Cd n)} (hs : ScL q wd (lvc T V) L) {x : Nat} (h1 : ∀ j (hj : j < L.length), j < x → L[j].1 ≤ bdV T k wd q V) (h2 : ∀ hx : x < L.length, bdV T k wd q V < L[x].1) : ansL k wd q (lives T) = L.take x := by
  have si := run_start wf hk h8 hr
  rw [← ans_eq wf hk si]
  show ansL k wd q (lvc T V) = _
  refine ansL_eq (lvc_nodup wf si.nd) (hs.srt.sublist (List.take_sublist x L)) (fun y => ?_)
  show y ∈ L.take x ↔ y.2 ∈ lvc T V ∧ dC y.2 q = y.1 ∧ y.1 ≤ bdV T k wd q V
  have hb := bdV_le T k wd q V
  constructor
  · intro hy
    obtain ⟨j, hj, rfl⟩ := List.getElem_of_mem hy
    rw [List.length_take] at hj
    rw [List.getElem_take]
    have hm := (hs.mem L[j]).1 (List.getElem_mem _)
    exact ⟨hm.1, hm.2.1, h1 j (by omega) (by omega)⟩
  · rintro ⟨a1, a2, a3⟩
    have hy : y ∈ L := (hs.mem y).2 ⟨a1, a2, by omega⟩
    obtain ⟨j, hj, rfl⟩ := List.getElem_of_mem hy
    by_cases hjx : j < x
    · rw [List.mem_take_iff_getElem]
      exact ⟨j, by omega, rfl⟩
    · exfalso
      have h4 := h2 (by omega)
      have h5 : L[x].1 ≤ L[j].1 := by
        by_cases e : x = j
        · subst e; exact Nat.le_refl _
        · exact hlt_le (List.pairwise_iff_getElem.1 hs.srt x j (by omega) hj (by omega))
      omega
def RNearO {n : Nat} (B0 : Nat) (W : World) (t wd : Nat) (T : List (Nd (Cd n))) (v : Value) (sn : Int) (s : ByteArray) (k : Int) (e : Ending) (w' : World) : Prop :=
  (s.size ≠ n ∧ e = .returned (.tuple #[.slice none 0 0, .int .i64 11]) ∧ Drew W w') ∨
  (s.size = n ∧ ¬ (0 ≤ k ∧ k ≤ 4096) ∧ e = .returned (.tuple #[.slice none 0 0, .int .i64 100]) ∧ Drew W w') ∨
  (s.size = n ∧ k = 0 ∧ e = .returned (.tuple #[.slice none 0 0, .int .i64 0]) ∧ Drew W w') ∨
  ∃ (hs : s.size = n) (fv : Value) (nv : Nat), 1 ≤ k ∧ k ≤ 4096 ∧ e = .returned (.tuple #[fv, .int .i64 0]) ∧ RSrch B0 W w' t wd T v sn k.toNat wd ⟨s, hs⟩ fv nv
set_option maxHeartbeats 4000000 in
set_option maxRecDepth 100000 in
theorem rnearest_any {n B0 t wd : Nat} {T : List (Nd (Cd n))} {v : Value} {sn : Int} (W : World) (h : RT B0 W t wd T v sn) (s : ByteArray) (k : Int) :
    Calls Tryd.prog 48 #[.pointer (some ⟨t, 0, none⟩), .string s, .int .i64 k] W (RNearO B0 W t wd T v sn s k) := by
  obtain ⟨t0, t1, t2, tf⟩ := h.cell
  obtain ⟨i0, hi0, hz0, hz1, hz2⟩ := info_parts infH
  have h8 : ((wd : Nat) : Int) / 8 = (n : Int) := by have := h.eight; omega
  have n8 : n ≤ 128 := by have := isW_bd h.wid; have := h.eight; omega
  have hw1024 : wd ≤ 1024 := by have := isW_bd h.wid; omega
  have hwn : wrap64 (n : Int) = (n : Int) := by unfold wrap64; omega
  by_cases hs : s.size = n
  · have e1 : (((s.size : Nat) : Int) != (n : Int)) = false := by rw [bne_eq_false_iff_eq]; omega
    obtain ⟨q, hq⟩ : ∃ q : Cd n, q.1 = s := ⟨⟨s, hs⟩, rfl⟩
    have hq2 : ∀ hs' : s.size = n, (⟨s, hs'⟩ : Cd n) = q := fun _ => Subtype.ext hq.symm
    by_cases hr : 0 ≤ k ∧ k ≤ 4096
    · obtain ⟨k', rfl⟩ : ∃ k' : Nat, k = k' := ⟨k.toNat, by omega⟩
      have r1 : ¬ ((k' : Nat) : Int) < 0 := by omega
      have r2 : decide ((4096 : Int) < ((k' : Nat) : Int)) = false := by simp; omega
      have r3 : decide (4096 < k') = false := by simp; omega
      obtain ⟨a, cp, hv, hcp⟩ := h.form
      rcases Nat.eq_zero_or_pos k' with hk0 | hk0
      · have HE := Hid.mk (show RNearO B0 W t wd T v sn s (k' : Int) (.returned (.tuple #[.slice none 0 0, .int .i64 0])) W from .inr (.inr (.inl ⟨hs, by omega, rfl, Drew.refl _⟩)))
        subst hk0
        clear h hcp hr r2 r3 hv
        go_enter Tryd.func48, Tryd.ntmps48
        go_wp2_with fail
        all_goals (go_ret2; exact HE.out)
      · have k0 : (((k' : Nat) : Int) == 0) = false := by simp; omega
        have hfin : ∀ (w' : World) (fv : Value) (V : List Nat) (M : List (Nat × Cd n)), w'.ownsRow W.heap.size 36 3 fv M.length (M.flatMap hV) → RT B0 w' t wd T v (lkN sn V.length) → Stay (fun j => j = t ∨ W.heap.size ≤ j) W w' → Run T (dqf T q) (bdV T k' wd q) wd (st0 T) [] [] V → ansL k' wd q (lives T) = M → RNearO B0 W t wd T v sn s (k' : Int) (.returned (.tuple #[fv, .int .i64 0])) w' := fun w' fv V M hrow hrt hst hR hM => by
          refine .inr (.inr (.inr ⟨hs, fv, V.length, by omega, hr.2, rfl, ?_⟩))
          rw [hq2 hs, Int.toNat_natCast]
          exact ⟨by rw [hM]; exact hrow, hrt, hst, V, rfl, hR⟩
        have HF := Hid.mk hfin
        by_cases hT : T.length = 0
        · have hT0 : T = [] := List.eq_nil_of_length_eq_zero hT
          have hE := hfin W (.slice none 0 0) [] [] ⟨rfl, .inl ⟨rfl, rfl⟩⟩ (by rw [List.length_nil, lkN_zero h.lk]; exact h) (Stay.refl _ _) (by rw [st0_nil hT]; exact .refl _ _) (ansL_eq h.wf.lives_nodup List.Pairwise.nil (fun x => by subst hT0; simp [lives]))
          have HE := Hid.mk hE
          rw [hv, hT] at t1
          clear hE hfin h hv hcp hr hT0
          go_enter Tryd.func48, Tryd.ntmps48
          go_wp2_with fail
          all_goals (go_ret2; exact HE.out)
        · have hR := pre_run h.wf (k := k') (b0 := wd) (wd := wd) (by omega) (q := q) (show 0 < T.length by omega)
          have hFin := run_fin h.wf (by omega) h.eight hR
          have hrec := near_all (B0 := B0) (t := t) (v := v) q k' sn W (by omega) (by omega) T.length 0 [] [] (.slice none 0 0) W (by omega) (by omega) (sw_start h q wd) hFin
          rw [hq] at hrec
          obtain ⟨V, hV⟩ : ∃ V, V = pre T (dqf T q) (bdV T k' wd q) wd T.length [] 0 := ⟨_, rfl⟩
          rw [← hV] at hR hFin hrec
          have HR := Hid.mk (And.intro hR (And.intro hFin (And.intro h.wf (And.intro h.eight h.small))))
          obtain ⟨ln, hln⟩ : ∃ ln, ln = T.length := ⟨_, rfl⟩
          have l0 : ((ln : Int) == 0) = false := by simp; omega
          have hk2 : k' ≤ 4096 := by omega
          rw [hv, ← hln] at t1
          clear hR hFin hfin h hv hcp hr hln hT hV
          go_enter Tryd.func48, Tryd.ntmps48
          go_wp2_with fail
          refine hrec.mono ?_
          rintro e1' w1 ⟨fv1, L, rfl, hS⟩
          obtain ⟨a1, c1, hf1, -⟩ := slice_form hS.row
          have hbn := rbound_any hS HR.out.2.1 k' hk0 hk2
          subst hf1
          obtain ⟨m, hm⟩ : ∃ m, m = L.length := ⟨_, rfl⟩
          have hmb : m ≤ 1099511627776 := by have h1 := hS.sc.len; have h2 := lvc_len T V; have h3 := HR.out.2.1.len; have h4 := HR.out.2.2.2.2; omega
          obtain ⟨bb, hbb⟩ : ∃ bb, bb = bdV T k' wd q V := ⟨_, rfl⟩
          rw [← hbb, ← hm] at hbn
          rw [← hm]
          have HB := Hid.mk (And.intro hm hbb)
          have HS := Hid.mk hS
          clear hrec hS hm hbb
          go_wp2_with (first
            | (go_at_call 65; refine hbn.mono ?_; rintro e2 w2 ⟨rfl, hd2⟩)
            | fail)
          have hS2 := HS.out.drew hd2
          have HS2 := Hid.mk hS2
          obtain ⟨aa, cc, haa, -, hat⟩ := HAt.row hS2.row
          rw [← HB.out.1] at haa
          cases haa
          have HAT := Hid.mk hat
          clear hS2 hat hbn hd2 HS
          go_loopw [9, 11] (fun u9 u11 wr => ∃ (i : Nat), u11 = .int .i64 i ∧ i ≤ m ∧ Hid (Below w2.heap.size w2 wr ∧ wr.ownsRow w2.heap.size 36 3 u9 i ((L.take i).flatMap hV) ∧ ∀ j (hj : j < L.length), j < i → L[j].1 ≤ bb)) (fun _ u11 _ => m - (intOf u11).toNat)
          case atStart => exact ⟨0, rfl, Nat.zero_le _, Hid.mk ⟨Below.refl _ _, ⟨by simp, .inl ⟨rfl, rfl⟩⟩, fun j hj h => by omega⟩⟩
          case round =>
            obtain ⟨i, rfl, hi, HJ⟩ := hrel
            have i2 : (0 : Int) ≤ (i : Int) := by omega
            obtain ⟨ya, yc, hyv, -⟩ := slice_form HJ.out.2.1
            subst hyv
            have fin : (∀ hx : i < L.length, bb < L[i].1) → RNearO B0 W t wd T v sn s (k' : Int) (.returned (.tuple #[.slice ya i yc, .int .i64 0])) wr := fun hx => by
              have hil : i ≤ L.length := by have := HB.out.1; omega
              have hst2 : Stay (fun _ => False) w2 wr := .below HJ.out.1
              refine HF.out wr (.slice ya i yc) V (L.take i) ?_ (HS2.out.rt.below HJ.out.1) (HS2.out.st.andThen hst2 (fun _ _ e => e.elim)) HR.out.1 (near_ans HR.out.2.2.1 hk0 HR.out.2.2.2.1 HR.out.1 HS2.out.sc (fun j hj hji => by rw [← HB.out.2]; exact HJ.out.2.2 j hj hji) (fun hxx => by rw [← HB.out.2]; exact hx hxx))
              rw [List.length_take, Nat.min_eq_left hil]
              exact row_mono HJ.out.2.1 HS2.out.st.size
            by_cases hlt : i < m
            · have hiL : i < L.length := by have := HB.out.1; omega
              have i1 : decide ((i : Int) < (m : Int)) = true := by simp; omega
              have i1' : (i : Int) < (m : Int) := by omega
              have i3 : decide (i < m) = true := by simp; omega
              obtain ⟨g, hg, x0, x1, x2⟩ := (HAT.out.below HJ.out.1) i hiL
              subst hg
              have htk : (L.take (i + 1)).flatMap hV = (L.take i).flatMap hV ++ hV L[i] := by rw [List.take_succ_eq_append_getElem hiL, List.flatMap_append]; simp
              obtain ⟨y1, hy1⟩ : ∃ y1, y1 = L[i].1 := ⟨_, rfl⟩
              obtain ⟨ys, hys⟩ : ∃ ys, ys = L[i].2.1 := ⟨_, rfl⟩
              rw [← hy1] at x0
              rw [← hys] at x2
              have hV1 : hV L[i] = [.int .i64 (y1 : Nat), .int .i64 0, .string ys] := by rw [hy1, hys]; rfl
              rw [hV1] at htk
              have HT := Hid.mk (And.intro htk (And.intro hy1 fin))
              have hwi : IntKind.i64.wrap ((i : Int) + 1) = ((i + 1 : Nat) : Int) := by rw [IntKind.wrap_i64]; omega
              clear hy1 hys hV1 htk fin
              by_cases hyb : y1 ≤ bb
              · have y2 : decide (((y1 : Nat) : Int) ≤ ((bb : Nat) : Int)) = true := by simp; omega
                have y3 : decide (y1 ≤ bb) = true := by simp; omega
                have hb1 : i + 1 ≤ maxLen := by unfold maxLen; omega
                have hb2 : (i + 1) * 32 ≤ 140737488355328 := by omega
                have HY := Hid.mk hyb
                have r1' := HJ.out.2.1
                have b1' := HJ.out.1
                clear hyb
                go_wp2_with (first
                  | (at_builtin; refine wpList_append_own _ rfl _ _ 32 rfl w2.heap.size 36 i0 (.agg #[.int .i64 0, .int .i64 0, .string ⟨#[]⟩]) 3 32 Tryd.underlying32 hi0 hz0 hz1 hz2 rfl (by decide) _ _ _ rfl (r1'.alloc _) ⟨wr.heap.size, 0, none⟩ 1 1 [.int .i64 (y1 : Nat), .int .i64 0, .string ys] rfl rfl (cell_three_new _ _ _ _ _) (by simp [Value.oneCell']) hb1 hb2 (by have := b1'.size; simp; omega) ?_; intro v3 w3 hr3 hg3 hnil3; have b3 : Below w2.heap.size w2 w3 := (b1'.alloc b1'.size _).grown hg3 (by have := b1'.size; simp; omega) (fun j hj => (r1'.lt j hj).1))
                  | go_in)
                exact ⟨⟨i + 1, by push_cast; rfl, hlt, Hid.mk ⟨b3, by rw [HT.out.1]; exact hr3, fun j hj hji => by
                  by_cases e : j = i
                  · subst e; rw [← HT.out.2.1]; exact HY.out
                  · exact HJ.out.2.2 j hj (by omega)⟩⟩, by simp only [intOf]; omega⟩
              · have y2 : decide (((y1 : Nat) : Int) ≤ ((bb : Nat) : Int)) = false := by simp; omega
                have y3 : decide (y1 ≤ bb) = false := by simp; omega
                have HE := Hid.mk (HT.out.2.2 (fun _ => by rw [← HT.out.2.1]; omega))
                clear hyb
                go_wp2_with fail
                go_ret2
                exact HE.out
            · have i1 : decide ((i : Int) < (m : Int)) = false := by simp; omega
              have i3 : decide (i < m) = false := by simp; omega
              have HE := Hid.mk (fin (fun hx => by have := HB.out.1; omega))
              clear fin
              go_wp2_with fail
              go_ret2
              exact HE.out
    · have HE := Hid.mk (show RNearO B0 W t wd T v sn s k (.returned (.tuple #[.slice none 0 0, .int .i64 100])) W from .inr (.inl ⟨hs, hr, rfl, Drew.refl _⟩))
      by_cases hr0 : k < 0
      · clear h
        go_enter Tryd.func48, Tryd.ntmps48
        go_wp2_with fail
        all_goals (go_ret2; exact HE.out)
      · have r2 : decide ((4096 : Int) < k) = true := by simp; omega
        have r3 : (4096 : Int) < k := by omega
        clear h
        go_enter Tryd.func48, Tryd.ntmps48
        go_wp2_with fail
        all_goals (go_ret2; exact HE.out)
  · have e1 : (((s.size : Nat) : Int) != (n : Int)) = true := by rw [bne_iff_ne]; omega
    clear h
    go_enter Tryd.func48, Tryd.ntmps48
    go_wp2_with fail
    go_ret2
    exact .inl ⟨hs, rfl, Drew.refl _⟩
end Go.Proofs.YtnnbcdfpbdmgdaaDoor
set_option linter.unusedVariables false
set_option linter.unusedSimpArgs false
namespace Go.Proofs.YtnnbcdfpbdmgdaaDoor
open Go.RowKit Go.Maps Go.Sort Go.Proofs.BitMath Go.Proofs.TreeMath
/-- What a call answers. -/
def ToldC {n : Nat} (B : Nat) (W1 w1 : World) (t wd : Nat) (T : List (Nd (Cd n))) (v : Value) (sn : Int) (K : Int) (s : ByteArray) (N : Int) (r : Ending) : Prop :=
  (K = 1 ∧ ∃ y e, r = .returned (gotV y e nilS 0 0 0 0) ∧ RAddO B W1 t wd T v sn s (.returned (.tuple #[.bool y, .int .i64 e])) w1) ∨
   (K = 2 ∧ ∃ y, r = .returned (gotV y 0 nilS 0 0 0 0) ∧ RDropO B W1 t wd T v sn s (.returned (.bool y)) w1) ∨
   (K = 3 ∧ ∃ y, r = .returned (gotV y 0 nilS 0 0 0 0) ∧ Drew W1 w1 ∧ (y = true ↔ ∃ c ∈ lives T, c.1 = s)) ∨
   (K = 4 ∧ ∃ fv e d, r = .returned (gotV false e fv 0 0 0 d) ∧ RWithO B W1 t wd T v sn s N (.returned (.tuple #[fv, .int .i64 e])) w1 ∧ RT B w1 t wd T v d) ∨
   (K = 5 ∧ ∃ fv e d, r = .returned (gotV false e fv 0 0 0 d) ∧ RNearO B W1 t wd T v sn s N (.returned (.tuple #[fv, .int .i64 e])) w1 ∧ RT B w1 t wd T v d) ∨
   (¬ (1 ≤ K ∧ K ≤ 5) ∧ ∃ a b c d : Int, r = .returned (gotV false 0 nilS a b c d) ∧ Drew W1 w1 ∧ ((K = 6 ∧ a = (lives T).length ∧ b = T.length ∧ (∃ k : Nat, c = k ∧ DepO T k) ∧ d = sn) ∨ (K ≠ 6 ∧ a = 0 ∧ b = 0 ∧ c = 0 ∧ d = 0)))
def ToldO {n : Nat} (B : Nat) (W : World) (t wd : Nat) (T : List (Nd (Cd n))) (v : Value) (sn : Int) (K : Int) (s : ByteArray) (N : Int) (r : Ending) (W' : World) : Prop :=
  ∃ W1 w1 gb, Below W.heap.size W W1 ∧ RT B W1 t wd T v sn ∧ W.heap.size ≤ gb ∧ gb < W1.heap.size ∧ ToldC B W1 w1 t wd T v sn K s N r ∧ Stay (fun k => k = gb) w1 W'
set_option maxHeartbeats 4000000 in
set_option maxRecDepth 100000 in
theorem told_any {n B t wd : Nat} {T : List (Nd (Cd n))} {v : Value} {sn : Int} (K : Int) (s : ByteArray) (N : Int) (W : World) (h : RT B W t wd T v sn) (hB : B ≤ W.heap.size) (hsm : T.length < 1099511627776) :
    Calls Tryd.prog 29 #[.pointer (some ⟨t, 0, none⟩), opV K s N] W (ToldO B W t wd T v sn K s N) := by
  have htl : t < W.heap.size := h.lt
  obtain ⟨W1, hW1⟩ : ∃ W1, W1 = (W.alloc (.cells #[.int .i64 K, .string s, .int .i64 N] 40)).alloc (.cells zGot 42) := ⟨_, rfl⟩
  have b1 : Below W.heap.size W W1 := by rw [hW1]; exact ((Below.refl _ W).alloc (Nat.le_refl _) _).alloc (by simp) _
  have hsz : W1.heap.size = W.heap.size + 2 := by rw [hW1]; simp
  have hgb : W1.heap[W.heap.size + 1]? = some (.cells zGot 42 (0, 0)) := by
    rw [hW1, show W.heap.size + 1 = (W.alloc (.cells #[.int .i64 K, .string s, .int .i64 N] 40)).heap.size by simp]
    exact Array.getElem?_push_size
  have h1 := h.below b1
  have hB1 : B ≤ W1.heap.size := Nat.le_trans hB b1.size
  have hrl : ∀ k, v.ownBlock = some k → k < W.heap.size := fun k hk => row_lt h.row hk
  have HT := Hid.mk (And.intro h1 (And.intro b1 (And.intro hsz hgb)))
  have mv : ∀ (w' : World) (T' : List (Nd (Cd n))), RMoved B W1 w' t wd T' v sn → w'.heap[W.heap.size + 1]? = some (.cells zGot 42 (0, 0)) := fun w' T' m =>
    (m.stay.block _ (by omega) (fun e => by
      rcases e with e | e
      · omega
      · have := hrl _ e; omega)).trans hgb
  have sv : ∀ (w' : World) (k b0 nv : Nat) (q : Cd n) (fv : Value), RSrch B W1 w' t wd T v sn k b0 q fv nv → w'.heap[W.heap.size + 1]? = some (.cells zGot 42 (0, 0)) := fun w' k b0 nv q fv m =>
    (m.st.block _ (by omega) (fun e => by rcases e with e | e <;> omega)).trans hgb
  have bv : ∀ (w' : World), Drew W1 w' → w'.heap[W.heap.size + 1]? = some (.cells zGot 42 (0, 0)) := fun w' d => ((d.below W1.heap.size).block _ (by omega)).trans hgb
  have MV := Hid.mk (And.intro mv (And.intro sv bv))
  have fin : ∀ (r : Ending) (w1 W' : World), ToldC B W1 w1 t wd T v sn K s N r → Stay (fun k => k = W.heap.size + 1) w1 W' → ToldO B W t wd T v sn K s N r W' := fun r w1 W' hc hst => ⟨W1, w1, W.heap.size + 1, b1, h1, by omega, by omega, hc, hst⟩
  have FN := Hid.mk fin
  clear h b1 hgb hsz mv sv bv fin hrl
  by_cases k1 : K = 1
  · subst k1
    have HC := Hid.mk (radd_any W1 HT.out.1 s hsm hB1)
    go_enter Tryd.func29, Tryd.ntmps29
    go_wp2_with fail
    rw [← hW1]
    refine HC.out.mono ?_
    rintro r w' ho
    obtain ⟨⟨y, e, rfl⟩, hbx⟩ : (∃ y e, r = .returned (.tuple #[.bool y, .int .i64 e])) ∧ w'.heap[W.heap.size + 1]? = some (.cells zGot 42 (0, 0)) := by
      rcases ho with ⟨-, h2, h3⟩ | ⟨hs, -, h2, h3⟩ | ⟨-, j, nd, -, -, h2, h3⟩
      · exact ⟨⟨_, _, h2⟩, MV.out.2.2 _ h3⟩
      · exact ⟨⟨_, _, h2⟩, MV.out.1 _ _ h3⟩
      · exact ⟨⟨_, _, h2⟩, MV.out.1 _ _ h3⟩
    obtain ⟨c0, c1, c2, c3, c4, c5, c6, cf⟩ := box7 hbx
    have HO := Hid.mk ho
    have HB := Hid.mk hbx
    clear ho hbx
    go_wp2_with fail
    obtain ⟨f0, f1, f2, f3, f4, f5, f6⟩ := rd7 HB.out (.bool y) (.int .i64 e) nilS (.int .i64 0) (.int .i64 0) (.int .i64 0) (.int .i64 0)
    refine bodyPost_ret (v := .agg #[(.bool y), (.int .i64 e), nilS, (.int .i64 0), (.int .i64 0), (.int .i64 0), (.int .i64 0)]) (by simp [results, Tryd.results29, go_sem, f0, f1, f2, f3, f4, f5, f6]; try rfl) rfl ?_
    exact FN.out _ _ _ (.inl ⟨rfl, y, e, rfl, HO.out⟩) (st7 w' _ _ _ _ _ _ _ _)
  by_cases k2 : K = 2
  · subst k2
    have HC := Hid.mk (rdrop_any W1 HT.out.1 s hB1)
    go_enter Tryd.func29, Tryd.ntmps29
    go_wp2_with fail
    rw [← hW1]
    refine HC.out.mono ?_
    rintro r w' ho
    obtain ⟨⟨y, rfl⟩, hbx⟩ : (∃ y, r = .returned (.bool y)) ∧ w'.heap[W.heap.size + 1]? = some (.cells zGot 42 (0, 0)) := by
      rcases ho with ⟨-, h2, h3⟩ | ⟨j, nd, -, -, -, h2, (⟨-, h3⟩ | ⟨-, cs, -, -, h3⟩)⟩
      · exact ⟨⟨_, h2⟩, MV.out.2.2 _ h3⟩
      · exact ⟨⟨_, h2⟩, MV.out.1 _ _ h3⟩
      · exact ⟨⟨_, h2⟩, MV.out.1 _ _ h3⟩
    obtain ⟨c0, c1, c2, c3, c4, c5, c6, cf⟩ := box7 hbx
    have HO := Hid.mk ho
    have HB := Hid.mk hbx
    clear ho hbx
    go_wp2_with fail
    obtain ⟨f0, f1, f2, f3, f4, f5, f6⟩ := rd7 HB.out (.bool y) (.int .i64 0) nilS (.int .i64 0) (.int .i64 0) (.int .i64 0) (.int .i64 0)
    refine bodyPost_ret (v := .agg #[(.bool y), (.int .i64 0), nilS, (.int .i64 0), (.int .i64 0), (.int .i64 0), (.int .i64 0)]) (by simp [results, Tryd.results29, go_sem, f0, f1, f2, f3, f4, f5, f6]; try rfl) rfl ?_
    exact FN.out _ _ _ (.inr (.inl ⟨rfl, y, rfl, HO.out⟩)) (st7 w' _ _ _ _ _ _ _ _)
  by_cases k3 : K = 3
  · subst k3
    have HC := Hid.mk (rhas_any W1 HT.out.1 s)
    go_enter Tryd.func29, Tryd.ntmps29
    go_wp2_with fail
    rw [← hW1]
    refine HC.out.mono ?_
    rintro r w' ⟨y, rfl, hy, hb⟩
    obtain ⟨c0, c1, c2, c3, c4, c5, c6, cf⟩ := box7 (MV.out.2.2 _ hb)
    have HB := Hid.mk (MV.out.2.2 _ hb)
    have HO := Hid.mk (And.intro hb hy)
    clear hb hy
    go_wp2_with fail
    obtain ⟨f0, f1, f2, f3, f4, f5, f6⟩ := rd7 HB.out (.bool y) (.int .i64 0) nilS (.int .i64 0) (.int .i64 0) (.int .i64 0) (.int .i64 0)
    refine bodyPost_ret (v := .agg #[(.bool y), (.int .i64 0), nilS, (.int .i64 0), (.int .i64 0), (.int .i64 0), (.int .i64 0)]) (by simp [results, Tryd.results29, go_sem, f0, f1, f2, f3, f4, f5, f6]; try rfl) rfl ?_
    exact FN.out _ _ _ (.inr (.inr (.inl ⟨rfl, y, rfl, HO.out.1, HO.out.2⟩))) (st7 w' _ _ _ _ _ _ _ _)
  by_cases k4 : K = 4
  · subst k4
    have HC := Hid.mk (rwithin_any W1 HT.out.1 s N)
    go_enter Tryd.func29, Tryd.ntmps29
    go_wp2_with fail
    rw [← hW1]
    refine HC.out.mono ?_
    rintro r w' ho
    obtain ⟨⟨fv, e, rfl⟩, hbx, sn2, hrt⟩ : (∃ fv e, r = .returned (.tuple #[fv, .int .i64 e])) ∧ w'.heap[W.heap.size + 1]? = some (.cells zGot 42 (0, 0)) ∧ ∃ sn2, RT B w' t wd T v sn2 := by
      rcases ho with ⟨-, h2, h3⟩ | ⟨-, -, h2, h3⟩ | ⟨hs, fv, nv, -, -, h2, h3⟩
      · exact ⟨⟨_, _, h2⟩, MV.out.2.2 _ h3, _, HT.out.1.below (h3.below _)⟩
      · exact ⟨⟨_, _, h2⟩, MV.out.2.2 _ h3, _, HT.out.1.below (h3.below _)⟩
      · exact ⟨⟨_, _, h2⟩, MV.out.2.1 _ _ _ _ _ _ h3, _, h3.rt⟩
    obtain ⟨va, vl, vc, rfl⟩ : ∃ va vl vc, fv = .slice va vl vc := by
      rcases ho with ⟨-, h2, h3⟩ | ⟨-, -, h2, h3⟩ | ⟨hs, fv, nv, -, -, h2, h3⟩
      · cases h2; exact ⟨_, _, _, rfl⟩
      · cases h2; exact ⟨_, _, _, rfl⟩
      · cases h2
        obtain ⟨a, c, e, -⟩ := slice_form h3.row
        exact ⟨_, _, _, e⟩
    obtain ⟨c0, c1, c2, c3, c4, c5, c6, cf⟩ := box7 hbx
    have hlk := rlooked_any w' hrt
    have HX := Hid.mk hrt
    have HO := Hid.mk ho
    have HB := Hid.mk hbx
    clear ho hbx hrt
    go_wp2_with (go_at_call 47; refine hlk.mono ?_; rintro e' w2 ⟨rfl, hd2⟩; obtain ⟨nq2, rfl⟩ := hd2)
    have HB2 := Hid.mk (show (w'.drewN nq2).heap[W.heap.size + 1]? = some (.cells zGot 42 (0, 0)) from HB.out)
    obtain ⟨f0, f1, f2, f3, f4, f5, f6⟩ := rd7 HB2.out (.bool false) (.int .i64 e) (.slice va vl vc) (.int .i64 0) (.int .i64 0) (.int .i64 0) (.int .i64 sn2)
    refine bodyPost_ret (v := .agg #[(.bool false), (.int .i64 e), (.slice va vl vc), (.int .i64 0), (.int .i64 0), (.int .i64 0), (.int .i64 sn2)]) (by simp [results, Tryd.results29, go_sem, f0, f1, f2, f3, f4, f5, f6]; try rfl) rfl ?_
    refine FN.out _ w' _ (.inr <| .inr <| .inr <| .inl ⟨rfl, _, e, _, rfl, HO.out, HX.out⟩) ?_
    exact (Stay.below (F := fun k => k = W.heap.size + 1) (Drew.below (show Drew w' (w'.drewN nq2) from ⟨nq2, rfl⟩) _)).trans (st7 _ _ _ _ _ _ _ _ _)
  by_cases k5 : K = 5
  · subst k5
    have HC := Hid.mk (rnearest_any W1 HT.out.1 s N)
    go_enter Tryd.func29, Tryd.ntmps29
    go_wp2_with fail
    rw [← hW1]
    refine HC.out.mono ?_
    rintro r w' ho
    obtain ⟨⟨fv, e, rfl⟩, hbx, sn2, hrt⟩ : (∃ fv e, r = .returned (.tuple #[fv, .int .i64 e])) ∧ w'.heap[W.heap.size + 1]? = some (.cells zGot 42 (0, 0)) ∧ ∃ sn2, RT B w' t wd T v sn2 := by
      rcases ho with ⟨-, h2, h3⟩ | ⟨-, -, h2, h3⟩ | ⟨-, -, h2, h3⟩ | ⟨hs, fv, nv, -, -, h2, h3⟩
      · exact ⟨⟨_, _, h2⟩, MV.out.2.2 _ h3, _, HT.out.1.below (h3.below _)⟩
      · exact ⟨⟨_, _, h2⟩, MV.out.2.2 _ h3, _, HT.out.1.below (h3.below _)⟩
      · exact ⟨⟨_, _, h2⟩, MV.out.2.2 _ h3, _, HT.out.1.below (h3.below _)⟩
      · exact ⟨⟨_, _, h2⟩, MV.out.2.1 _ _ _ _ _ _ h3, _, h3.rt⟩
    obtain ⟨va, vl, vc, rfl⟩ : ∃ va vl vc, fv = .slice va vl vc := by
      rcases ho with ⟨-, h2, h3⟩ | ⟨-, -, h2, h3⟩ | ⟨-, -, h2, h3⟩ | ⟨hs, fv, nv, -, -, h2, h3⟩
      · cases h2; exact ⟨_, _, _, rfl⟩
      · cases h2; exact ⟨_, _, _, rfl⟩
      · cases h2; exact ⟨_, _, _, rfl⟩
      · cases h2
        obtain ⟨a, c, e, -⟩ := slice_form h3.row
        exact ⟨_, _, _, e⟩
    obtain ⟨c0, c1, c2, c3, c4, c5, c6, cf⟩ := box7 hbx
    have hlk := rlooked_any w' hrt
    have HX := Hid.mk hrt
    have HO := Hid.mk ho
    have HB := Hid.mk hbx
    clear ho hbx hrt
    go_wp2_with (go_at_call 47; refine hlk.mono ?_; rintro e' w2 ⟨rfl, hd2⟩; obtain ⟨nq2, rfl⟩ := hd2)
    have HB2 := Hid.mk (show (w'.drewN nq2).heap[W.heap.size + 1]? = some (.cells zGot 42 (0, 0)) from HB.out)
    obtain ⟨f0, f1, f2, f3, f4, f5, f6⟩ := rd7 HB2.out (.bool false) (.int .i64 e) (.slice va vl vc) (.int .i64 0) (.int .i64 0) (.int .i64 0) (.int .i64 sn2)
    refine bodyPost_ret (v := .agg #[(.bool false), (.int .i64 e), (.slice va vl vc), (.int .i64 0), (.int .i64 0), (.int .i64 0), (.int .i64 sn2)]) (by simp [results, Tryd.results29, go_sem, f0, f1, f2, f3, f4, f5, f6]; try rfl) rfl ?_
    refine FN.out _ w' _ (.inr <| .inr <| .inr <| .inr <| .inl ⟨rfl, _, e, _, rfl, HO.out, HX.out⟩) ?_
    exact (Stay.below (F := fun k => k = W.heap.size + 1) (Drew.below (show Drew w' (w'.drewN nq2) from ⟨nq2, rfl⟩) _)).trans (st7 _ _ _ _ _ _ _ _ _)
  by_cases k6 : K = 6
  · subst k6
    have hl1 := rlen_any W1 HT.out.1
    go_enter Tryd.func29, Tryd.ntmps29
    go_wp2_with fail
    rw [← hW1]
    refine hl1.mono ?_
    rintro e w2 ⟨rfl, d2⟩
    have hl2 := rnodes_any w2 (HT.out.1.below (d2.below _))
    go_wp2_with fail
    refine hl2.mono ?_
    rintro e w3 ⟨rfl, d3'⟩
    have d3 := d2.trans d3'
    have hl3 := rdepth_any w3 (HT.out.1.below (d3.below _))
    go_wp2_with fail
    refine hl3.mono ?_
    rintro e w4 ⟨kd, rfl, hkd, d4'⟩
    have d4 := d3.trans d4'
    have hl4 := rlooked_any w4 (HT.out.1.below (d4.below _))
    go_wp2_with fail
    refine hl4.mono ?_
    rintro e w5 ⟨rfl, d5'⟩
    have d5 := d4.trans d5'
    obtain ⟨c0, c1, c2, c3, c4, c5, c6, cf⟩ := box7 (MV.out.2.2 _ d5)
    have HB := Hid.mk (MV.out.2.2 _ d5)
    have HD := Hid.mk (And.intro d5 hkd)
    clear d2 d3 d4 d3' d4' d5' hl1 hl2 hl3 hl4 hkd d5 hW1
    go_wp2_with fail
    obtain ⟨f0, f1, f2, f3, f4, f5, f6⟩ := rd7 HB.out (.bool false) (.int .i64 0) nilS (.int .i64 ((lives T).length : Nat)) (.int .i64 (T.length : Nat)) (.int .i64 (kd : Nat)) (.int .i64 sn)
    refine bodyPost_ret (v := .agg #[(.bool false), (.int .i64 0), nilS, (.int .i64 ((lives T).length : Nat)), (.int .i64 (T.length : Nat)), (.int .i64 (kd : Nat)), (.int .i64 sn)]) (by simp [results, Tryd.results29, go_sem, f0, f1, f2, f3, f4, f5, f6]; try rfl) rfl ?_
    exact FN.out _ _ _ (.inr (.inr (.inr (.inr (.inr ⟨by omega, _, _, _, _, rfl, HD.out.1, .inl ⟨rfl, rfl, rfl, ⟨kd, rfl, HD.out.2⟩, rfl⟩⟩))))) (st7 _ _ _ _ _ _ _ _ _)
  · have e1 : (K == 1) = false := by simpa using k1
    have e2 : (K == 2) = false := by simpa using k2
    have e3 : (K == 3) = false := by simpa using k3
    have e4 : (K == 4) = false := by simpa using k4
    have e5 : (K == 5) = false := by simpa using k5
    have e6 : (K == 6) = false := by simpa using k6
    have HK := Hid.mk (show ¬ (1 ≤ K ∧ K ≤ 5) by omega)
    have HK6 := Hid.mk k6
    clear k1 k2 k3 k4 k5 k6
    go_enter Tryd.func29, Tryd.ntmps29
    go_wp2_with fail
    rw [← hW1]
    obtain ⟨c0, c1, c2, c3, c4, c5, c6, cf⟩ := box7 (MV.out.2.2 _ (Drew.refl _))
    refine bodyPost_ret (v := gotV false 0 nilS 0 0 0 0) (by simp [gotV, results, Tryd.results29, go_sem, c0, c1, c2, c3, c4, c5, c6]; try rfl) rfl ?_
    exact FN.out _ _ _ (.inr (.inr (.inr (.inr (.inr ⟨HK.out, _, _, _, _, rfl, Drew.refl _, .inr ⟨HK6.out, rfl, rfl, rfl, rfl⟩⟩))))) (.refl _ _)
end Go.Proofs.YtnnbcdfpbdmgdaaDoor
set_option linter.unusedVariables false
set_option linter.unusedSimpArgs false
namespace Go.Proofs.YtnnbcdfpbdmgdaaDoor
open Go.RowKit Go.Maps Go.Sort Go.Proofs.BitMath Go.Proofs.TreeMath
theorem gbox {w : World} {gb : Nat} {v0 v1 v2 v3 v4 v5 v6 : Value} (h : w.heap[gb]? = some (.cells #[v0, v1, v2, v3, v4, v5, v6] 42 (0, 0))) : w.cell? ⟨gb, 0, none⟩ = some v0 ∧ w.cell? ⟨gb, 1, none⟩ = some v1 ∧ w.cell? ⟨gb, 2, none⟩ = some v2 ∧ w.cell? ⟨gb, 3, none⟩ = some v3 ∧ w.cell? ⟨gb, 4, none⟩ = some v4 ∧ w.cell? ⟨gb, 5, none⟩ = some v5 ∧ w.cell? ⟨gb, 6, none⟩ = some v6 := by
  refine ⟨?_, ?_, ?_, ?_, ?_, ?_, ?_⟩ <;> simp [World.cell?, h]
set_option maxHeartbeats 2000000 in
set_option maxRecDepth 100000 in
theorem same_any {m : Nat} (l : List (Nat × Cd m)) (va vb : Option Addr) (ca cb : Nat) (y : Bool) (e a b c d : Int) (w : World) (ha : HAt w va l) (hb : HAt w vb l) (hl : l.length < 4611686018427387904) :
    Calls Tryd.prog 28 #[gotV y e (.slice va l.length ca) a b c d, gotV y e (.slice vb l.length cb) a b c d] w fun r w' => r = .returned (.bool true) ∧ Below w.heap.size w w' := by
  obtain ⟨ln, hln⟩ : ∃ ln, ln = l.length := ⟨_, rfl⟩
  obtain ⟨w2, hw2⟩ : ∃ w2, w2 = (w.alloc (.cells #[.bool y, .int .i64 e, .slice va ln ca, .int .i64 a, .int .i64 b, .int .i64 c, .int .i64 d] 42)).alloc (.cells #[.bool y, .int .i64 e, .slice vb ln cb, .int .i64 a, .int .i64 b, .int .i64 c, .int .i64 d] 42) := ⟨_, rfl⟩
  have b2 : Below w.heap.size w w2 := by rw [hw2]; exact ((Below.refl _ w).alloc (Nat.le_refl _) _).alloc (by simp) _
  have h1 : w2.heap[w.heap.size]? = some (.cells #[.bool y, .int .i64 e, .slice va ln ca, .int .i64 a, .int .i64 b, .int .i64 c, .int .i64 d] 42 (0, 0)) := by
    rw [hw2, Below.heap_alloc _ _ _ (by simp)]
    exact Array.getElem?_push_size
  have h2 : w2.heap[w.heap.size + 1]? = some (.cells #[.bool y, .int .i64 e, .slice vb ln cb, .int .i64 a, .int .i64 b, .int .i64 c, .int .i64 d] 42 (0, 0)) := by
    rw [hw2, show w.heap.size + 1 = (w.alloc (.cells #[.bool y, .int .i64 e, .slice va ln ca, .int .i64 a, .int .i64 b, .int .i64 c, .int .i64 d] 42)).heap.size by simp]
    exact Array.getElem?_push_size
  have hsame : ∀ w', Drew w2 w' → Calls Tryd.prog 23 #[.slice va ln ca, .slice vb ln cb] w' fun e w'' => e = .returned (.bool true) ∧ Drew w' w'' := fun w' dd => by
    rw [hln]
    exact sameHits_any l va vb ca cb w' ((ha.below b2).below (dd.below _)) ((hb.below b2).below (dd.below _)) hl
  have hs2 := hsame w2 (Drew.refl _)
  have HA := Hid.mk (And.intro b2 (And.intro h1 h2))
  rw [← hln]
  simp only [gotV]
  clear ha hb hl hln b2 hsame h1 h2
  go_enter Tryd.func28, Tryd.ntmps28
  go_wp2_with fail
  rw [← hw2]
  clear hw2
  refine hs2.mono ?_
  rintro e' w3 ⟨rfl, d3⟩
  have b23 : Below w2.heap.size w2 w3 := d3.below _
  obtain ⟨p0, p1, p2, p3, p4, p5, p6⟩ := gbox ((b23.block _ (Array.getElem?_eq_some_iff.1 HA.out.2.1).1).trans HA.out.2.1)
  obtain ⟨q0, q1, q2, q3, q4, q5, q6⟩ := gbox ((b23.block _ (Array.getElem?_eq_some_iff.1 HA.out.2.2).1).trans HA.out.2.2)
  have HB := Hid.mk (chain HA.out.1 b23 (Nat.le_refl _))
  clear d3 b23 hs2
  go_wp2
  all_goals first
    | (go_ret; exact ⟨rfl, HB.out⟩)
    | skip
end Go.Proofs.YtnnbcdfpbdmgdaaDoor
set_option linter.unusedVariables false
set_option linter.unusedSimpArgs false
namespace Go.Proofs.YtnnbcdfpbdmgdaaDoor
open Go.RowKit Go.Maps Go.Sort Go.Proofs.BitMath Go.Proofs.TreeMath
/-- What told may write. -/
theorem told_frame {n : Nat} {B : Nat} {w W' : World} {t wd : Nat} {T : List (Nd (Cd n))} {v : Value} {sn : Int} {K N : Int} {s : ByteArray} {r : Ending} (ht : ToldO B w t wd T v sn K s N r W') : Stay (fun k => k = t ∨ v.ownBlock = some k ∨ w.heap.size ≤ k) w W' := by
  obtain ⟨W1, w1, gb, b1, hrt1, hg1, hg2, hc, hst⟩ := ht
  have hs1 := b1.size
  have dr : ∀ w', Drew W1 w' → Stay (fun k => k = t ∨ v.ownBlock = some k ∨ w.heap.size ≤ k) W1 w' := fun w' d => .below (d.below _)
  have mv : ∀ (T' : List (Nd (Cd n))) w', RMoved B W1 w' t wd T' v sn → Stay (fun k => k = t ∨ v.ownBlock = some k ∨ w.heap.size ≤ k) W1 w' := fun T' w' m => m.stay.mono (fun k _ e => e.elim .inl (fun e => .inr (.inl e)))
  have sv : ∀ w' (k b0 nv : Nat) (q : Cd n) (fv : Value), RSrch B W1 w' t wd T v sn k b0 q fv nv → Stay (fun k => k = t ∨ v.ownBlock = some k ∨ w.heap.size ≤ k) W1 w' := fun w' k b0 nv q fv m => m.st.mono (fun k _ e => e.elim .inl (fun e => .inr (.inr (by omega))))
  have hop : Stay (fun k => k = t ∨ v.ownBlock = some k ∨ w.heap.size ≤ k) W1 w1 := by
    rcases hc with ⟨-, y, e, -, ho⟩ | ⟨-, y, -, ho⟩ | ⟨-, y, -, hb, -⟩ | ⟨-, fv, e, d, -, ho, -⟩ | ⟨-, fv, e, d, -, ho, -⟩ | ⟨-, a, b, c, d, -, hb, -⟩
    · rcases ho with ⟨-, -, m⟩ | ⟨hs, -, -, m⟩ | ⟨-, j, nd, -, -, -, m⟩
      · exact dr _ m
      · exact mv _ _ m
      · exact mv _ _ m
    · rcases ho with ⟨-, -, m⟩ | ⟨j, nd, -, -, -, -, (⟨-, m⟩ | ⟨-, cs, -, -, m⟩)⟩
      · exact dr _ m
      · exact mv _ _ m
      · exact mv _ _ m
    · exact dr _ hb
    · rcases ho with ⟨-, -, m⟩ | ⟨-, -, -, m⟩ | ⟨hs, fv', nv, -, -, -, m⟩
      · exact dr _ m
      · exact dr _ m
      · exact sv _ _ _ _ _ _ m
    · rcases ho with ⟨-, -, m⟩ | ⟨-, -, -, m⟩ | ⟨-, -, -, m⟩ | ⟨hs, fv', nv, -, -, -, m⟩
      · exact dr _ m
      · exact dr _ m
      · exact dr _ m
      · exact sv _ _ _ _ _ _ m
    · exact dr _ hb
  exact ((Stay.below b1).trans hop).andThen hst (fun k _ e => .inr (.inr (by omega)))
/-- Both trees. -/
structure BT {n : Nat} (W0 wr : World) (t wd : Nat) (T : List (Nd (Cd n))) (bs : List Nat) (ms : List (Option Nat)) (x : Num) (t' : Nat) (v : Value) : Prop where
  ot : OT W0 wr t wd T bs ms x
  rt : RT W0.heap.size wr t' wd T v x.looked
  own' : W0.heap.size ≤ t'
/-- Their blocks are apart. -/
theorem BT.ap {n : Nat} {W0 wr : World} {t wd : Nat} {T : List (Nd (Cd n))} {bs : List Nat} {ms : List (Option Nat)} {x : Num} {t' : Nat} {v : Value} {sn : Int} {T2 : List (Nd (Cd n))} {B : Nat} (h : TR wr t wd T bs ms x) (r : RT B wr t' wd T2 v sn) {k : Nat} (hk : TFoot t bs ms k) : ¬ (k = t' ∨ v.ownBlock = some k) := fun e => by
  rcases e with e | e
  · subst e
    rcases h.kind hk r.tree with e2 | e2 <;> cases e2
  · obtain ⟨cur, hc⟩ := row_block r.row e
    rcases h.kind hk hc with e2 | e2 <;> cases e2
theorem rt_do {n : Nat} {wr W' : World} {t wd : Nat} {T : List (Nd (Cd n))} {bs : List Nat} {ms : List (Option Nat)} {x : Num} {K N : Int} {s : ByteArray} {r : Ending} {B t' : Nat} {v : Value} {sn : Int} {T2 : List (Nd (Cd n))} (h : TR wr t wd T bs ms x) (rt : RT B wr t' wd T2 v sn) (hd : DoO wr t wd T bs ms x K s N r W') : RT B W' t' wd T2 v sn :=
  rt.kept (do_frame hd) (fun k hk e => by
    rcases e with e | e
    · exact BT.ap (W0 := wr) h rt e hk
    · rcases hk with hk | hk
      · have := rt.lt; omega
      · have := row_lt rt.row hk; omega)
theorem setLive_same {α : Type} {T : List (Nd α)} {j : Nat} {nd : Nd α} (h : T[j]? = some nd) {b : Bool} (hl : nd.live = b) : setLive T j b = T := by
  refine List.ext_getElem? fun i => ?_
  by_cases e : j = i
  · subst e
    unfold setLive
    rw [List.getElem?_modify, h]
    simp
    rw [← hl]
  · unfold setLive
    rw [List.getElem?_modify]
    simp [e]
theorem rise_one {n : Nat} {A cs cs' : List (Cd n)} (h : cs.Perm A) (h' : cs'.Perm A) (r : Rising cs) (r' : Rising cs') : cs = cs' :=
  sorted_ext (fun a b => byC a < byC b) (fun a h => List.lt_irrefl _ h) (fun a b h k => List.lt_irrefl _ (List.lt_trans h k)) cs cs' r r' (fun x => by rw [h.mem_iff, h'.mem_iff])
theorem TR.depO {n : Nat} {W : World} {t wd : Nat} {T : List (Nd (Cd n))} {bs : List Nat} {ms : List (Option Nat)} {x : Num} (h : TR W t wd T bs ms x) : DepO T x.dep := ⟨h.dep, h.depE⟩
theorem TR.look_one {n : Nat} {W : World} {t wd : Nat} {T T2 : List (Nd (Cd n))} {bs bs2 : List Nat} {ms ms2 : List (Option Nat)} {x x2 : Num} (h : TR W t wd T bs ms x) (k : TR W t wd T2 bs2 ms2 x2) : x.looked = x2.looked := by
  have h1 := h.cell.2.2.2.2.2
  have h2 := k.cell.2.2.2.2.2
  rw [h1] at h2
  simpa using h2
theorem RT.seen_one {n B : Nat} {W : World} {t wd : Nat} {T T2 : List (Nd (Cd n))} {v v2 : Value} {s s2 : Int} (h : RT B W t wd T v s) (k : RT B W t wd T2 v2 s2) : s = s2 := by
  have h1 := h.cell.2.2.1
  have h2 := k.cell.2.2.1
  rw [h1] at h2
  simpa using h2
/-- What the two calls leave. -/
def Step2 {n : Nat} (W0 w2 : World) (t wd : Nat) (T : List (Nd (Cd n))) (t' : Nat) (r1 r2 : Ending) : Prop :=
  ∃ (T' : List (Nd (Cd n))) (bs' : List Nat) (ms' : List (Option Nat)) (x' : Num) (v' : Value) (y : Bool) (e a b c d : Int) (L : List (Nat × Cd n)) (va vb : Option Addr) (ca cb : Nat),
    r1 = .returned (gotV y e (.slice va L.length ca) a b c d) ∧ r2 = .returned (gotV y e (.slice vb L.length cb) a b c d) ∧ HAt w2 va L ∧ HAt w2 vb L ∧ BT W0 w2 t wd T' bs' ms' x' t' v' ∧ T'.length ≤ T.length + 1 ∧ L.length ≤ T.length
theorem hat_nil {n : Nat} (w : World) (a : Option Addr) : HAt (n := n) w a [] := fun i hi => by simp at hi
set_option maxHeartbeats 4000000 in
theorem step2 {n : Nat} {W0 wr w1 w2 : World} {t wd : Nat} {T : List (Nd (Cd n))} {bs : List Nat} {ms : List (Option Nat)} {x : Num} {t' : Nat} {v : Value} {K N : Int} {s : ByteArray} {r1 r2 : Ending} (h : BT W0 wr t wd T bs ms x t' v) (hd : DoO wr t wd T bs ms x K s N r1 w1) (ht : ToldO W0.heap.size w1 t' wd T v x.looked K s N r2 w2) : Step2 W0 w2 t wd T t' r1 r2 := by
  have hfr := told_frame ht
  have hdf := do_frame hd
  have hrt1 := rt_do h.ot.tr h.rt hd
  obtain ⟨W1, wa, gb, b1, htr1, hg1, hg2, hc, hst⟩ := hd
  obtain ⟨W2, wb, gb', b2, hrt2, hg1', hg2', hc', hst'⟩ := ht
  have o1 := h.ot.below b1
  have hft : ∀ k, TFoot t bs ms k → k < wr.heap.size := fun k hk => h.ot.tr.lt hk
  have hgW : W0.heap.size ≤ gb := Nat.le_trans h.ot.be.size hg1
  have hs1 : W0.heap.size ≤ w1.heap.size := Nat.le_trans h.ot.be.size hdf.size
  -- the program's tree, behind both
  have over : ∀ {T' : List (Nd (Cd n))} {bs' : List Nat} {ms' : List (Option Nat)} {x' : Num}, OT W0 w1 t wd T' bs' ms' x' → OT W0 w2 t wd T' bs' ms' x' := fun {T' bs' ms' x'} o => by
    refine ⟨o.tr.kept hfr (fun k hk e => ?_), o.own, o.be.trans (hfr.toBelow (fun k hk e => ?_) hs1)⟩
    · rcases e with e | e | e
      · exact BT.ap (W0 := W0) o.tr hrt1 hk (.inl e)
      · exact BT.ap (W0 := W0) o.tr hrt1 hk (.inr e)
      · have := o.tr.lt hk; omega
    · rcases e with e | e | e
      · have := h.own'; omega
      · have := (h.rt.row.lt k e).1; omega
      · omega
  have same : Below W1.heap.size W1 wa → OT W0 w1 t wd T bs ms x := fun b => (o1.below b).boxed (wd1 := W0) (W1 := W0) (fun k hk e => by have := hft k hk; omega) hgW hst
  have moved : ∀ (T' : List (Nd (Cd n))), Moved W1 wa t wd T' bs ms x → ∃ bs' ms' x', OT W0 w1 t wd T' bs' ms' x' ∧ x'.looked = x.looked := fun T' m => by
    obtain ⟨⟨bs', ms', x', m1, m2, m3⟩, m4⟩ := m
    have hf : ∀ k, TFoot t bs' ms' k → k ≠ gb := fun k hk e => by
      rcases m3 k hk with e2 | e2
      · have := hft k e2; omega
      · omega
    refine ⟨bs', ms', x', OT.boxed (wd1 := W0) (W1 := W0) ⟨m1, fun k hk => ?_, o1.be.trans (m4.toBelow (fun k hk e => by have := h.ot.own k e; omega) o1.be.size)⟩ hf hgW hst, m2⟩
    rcases m3 k hk with e2 | e2
    · exact h.ot.own k e2
    · exact Nat.le_trans o1.be.size e2
  have hats : ∀ {u : Value} {L : List (Nat × Cd n)}, wa.ownsRow W1.heap.size 36 3 u L.length (L.flatMap hV) → ∃ va vc, u = .slice va L.length vc ∧ HAt w2 va L := fun {u L} hr => by
    have hr' := row_kept hr hst (fun k hk e => by have := (hr.lt k hk).1; omega)
    have hr'' := row_kept hr' hfr (fun k hk e => by
      obtain ⟨cur, hcur⟩ := row_block hr' hk
      rcases e with e | e | e
      · rw [e, hrt1.tree] at hcur; simp at hcur
      · obtain ⟨cur2, hc2⟩ := row_block hrt1.row e
        rw [hc2] at hcur; simp at hcur
      · have := row_lt hr' hk; omega)
    obtain ⟨a, c, e, -, ha⟩ := HAt.row hr''
    exact ⟨a, c, e, ha⟩
  -- the document's tree
  have hrl : ∀ k, v.ownBlock = some k → k < w1.heap.size := fun k hk => row_lt hrt1.row hk
  have same' : Drew W2 wb → RT W0.heap.size w2 t' wd T v x.looked := fun d => (hrt2.below (d.below _)).kept hst' (fun k hk e => by
    rcases hk with hk | hk
    · have := hrt1.lt; omega
    · have := hrl k hk; omega)
  have moved' : ∀ (T' : List (Nd (Cd n))), RMoved W0.heap.size W2 wb t' wd T' v x.looked → ∃ v', RT W0.heap.size w2 t' wd T' v' x.looked := fun T' m => by
    obtain ⟨⟨v', m1, m2⟩, m3⟩ := m
    refine ⟨v', m1.kept hst' (fun k hk e => ?_)⟩
    rcases hk with hk | hk
    · have := hrt1.lt; omega
    · rcases m2 k hk with e2 | e2
      · have := hrl k e2; omega
      · omega
  have hats' : ∀ {u : Value} {L : List (Nat × Cd n)}, wb.ownsRow W2.heap.size 36 3 u L.length (L.flatMap hV) → ∃ va vc, u = .slice va L.length vc ∧ HAt w2 va L := fun {u L} hr => by
    have hr' := row_kept hr hst' (fun k hk e => by have := (hr.lt k hk).1; omega)
    obtain ⟨a, c, e, -, ha⟩ := HAt.row hr'
    exact ⟨a, c, e, ha⟩
  have srt : ∀ (sn2 : Int), RT W0.heap.size wb t' wd T v sn2 → RT W0.heap.size w2 t' wd T v sn2 := fun sn2 m => m.kept hst' (fun k hk e => by
    rcases hk with hk | hk
    · have := hrt1.lt; omega
    · have := hrl k hk; omega)
  have bt : ∀ {T' : List (Nd (Cd n))} {bs' : List Nat} {ms' : List (Option Nat)} {x' : Num} {v' : Value}, OT W0 w1 t wd T' bs' ms' x' → RT W0.heap.size w2 t' wd T' v' x'.looked → BT W0 w2 t wd T' bs' ms' x' t' v' := fun o r => ⟨over o, r, h.own'⟩
  have wf := h.ot.tr.wf
  have nil : ∀ (T' : List (Nd (Cd n))) (bs' : List Nat) (ms' : List (Option Nat)) (x' : Num) (v' : Value) (y : Bool) (e a b c d : Int), OT W0 w1 t wd T' bs' ms' x' → RT W0.heap.size w2 t' wd T' v' x'.looked → T'.length ≤ T.length + 1 → Step2 W0 w2 t wd T t' (.returned (gotV y e nilS a b c d)) (.returned (gotV y e nilS a b c d)) := fun T' bs' ms' x' v' y e a b c d o r hl =>
    ⟨T', bs', ms', x', v', y, e, a, b, c, d, [], none, none, 0, 0, rfl, rfl, hat_nil _ _, hat_nil _ _, bt o r, hl, Nat.zero_le _⟩
  rcases hc with ⟨rfl, y, e, rfl, ho⟩ | ⟨rfl, y, rfl, ho⟩ | ⟨rfl, y, rfl, hb, hy⟩ | ⟨rfl, u, e, d, rfl, ho, x2, hx2, hd2⟩ | ⟨rfl, u, e, d, rfl, ho, x2, hx2, hd2⟩ | ⟨hK, a, b, c, d, rfl, hb, habcd⟩
  · -- Add
    rcases hc' with ⟨-, y', e', rfl, ho'⟩ | ⟨h', -⟩ | ⟨h', -⟩ | ⟨h', -⟩ | ⟨h', -⟩ | ⟨h', -⟩
    · rcases ho with ⟨n1, n2, n3⟩ | ⟨hs, (⟨n1, n2, n3⟩ | ⟨j, nd, hj, hcd, (⟨hl, n2, n3⟩ | ⟨hl, n2, n3⟩)⟩)⟩
      · rcases ho' with ⟨m1, m2, m3⟩ | ⟨m1, -⟩ | ⟨m1, -⟩
        · cases n2; cases m2
          obtain ⟨bs', ms', x', o, hx⟩ := moved T n3
          exact nil T bs' ms' x' v _ _ _ _ _ _ o (by rw [hx]; exact same' m3) (by omega)
        · exact absurd m1 n1
        · exact absurd m1 n1
      · rcases ho' with ⟨m1, m2, m3⟩ | ⟨m1, m2, m3, m4⟩ | ⟨-, j, nd, m1, m2, -⟩
        · exact absurd hs m1
        · cases n2; cases m3
          obtain ⟨bs', ms', x', o, hx⟩ := moved _ n3
          obtain ⟨v', r⟩ := moved' _ m4
          exact nil _ bs' ms' x' v' _ _ _ _ _ _ o (by rw [hx]; exact r) (by rw [hang_len wf]; exact Nat.le_refl _)
        · exact absurd (Subtype.ext m2) (n1 j nd m1)
      · rcases ho' with ⟨m1, m2, m3⟩ | ⟨m1, m2, m3, m4⟩ | ⟨-, j2, nd2, m1, m2, m3, m4⟩
        · exact absurd hs m1
        · exact absurd (by rw [hcd]) (m2 j nd hj)
        · have ej : j2 = j := wf.codes j2 j nd2 nd m1 hj (Subtype.ext (by rw [hcd]; exact m2))
          subst ej
          rw [hj] at m1
          cases m1
          rw [hl] at m3
          cases n2; cases m3
          obtain ⟨bs', ms', x', o, hx⟩ := moved _ n3
          obtain ⟨v', r⟩ := moved' _ m4
          rw [setLive_same hj hl] at r
          exact nil _ bs' ms' x' v' _ _ _ _ _ _ o (by rw [hx]; exact r) (by omega)
      · rcases ho' with ⟨m1, m2, m3⟩ | ⟨m1, m2, m3, m4⟩ | ⟨-, j2, nd2, m1, m2, m3, m4⟩
        · exact absurd hs m1
        · exact absurd (by rw [hcd]) (m2 j nd hj)
        · have ej : j2 = j := wf.codes j2 j nd2 nd m1 hj (Subtype.ext (by rw [hcd]; exact m2))
          subst ej
          rw [hj] at m1
          cases m1
          rw [hl] at m3
          cases n2; cases m3
          obtain ⟨bs', ms', x', o, hx⟩ := moved _ n3
          obtain ⟨v', r⟩ := moved' _ m4
          exact nil _ bs' ms' x' v' _ _ _ _ _ _ o (by rw [hx]; exact r) (by rw [setLive_len]; omega)
    all_goals (exfalso; omega)
  · -- Drop
    rcases hc' with ⟨h', -⟩ | ⟨-, y', rfl, ho'⟩ | ⟨h', -⟩ | ⟨h', -⟩ | ⟨h', -⟩ | ⟨h', -⟩
    · exfalso; omega
    · rcases ho with ⟨n0, n2, n3⟩ | ⟨j, nd, hj, hcd, hl, n2, n3⟩
      · rcases ho' with ⟨-, m2, m3⟩ | ⟨j2, nd2, m1, m2, m3, -⟩
        · cases n2; cases m2
          obtain ⟨bs', ms', x', o, hx⟩ := moved _ n3
          exact nil T bs' ms' x' v _ _ _ _ _ _ o (by rw [hx]; exact same' m3) (by omega)
        · exact absurd m2 (n0 _ (mem_lives.2 ⟨j2, nd2, m1, m3, rfl⟩))
      · rcases ho' with ⟨m0, -⟩ | ⟨j2, nd2, m1, m2, m3, m4, m5⟩
        · exact absurd hcd (m0 _ (mem_lives.2 ⟨j, nd, hj, hl, rfl⟩))
        · have ej : j2 = j := wf.codes j2 j nd2 nd m1 hj (Subtype.ext (by rw [m2, hcd]))
          subst ej
          cases n2; cases m4
          have hll := lives_len T j2 nd false hj
          have h1 := h.ot.tr.live
          have h2 := h.ot.tr.all
          simp [hl] at hll
          rcases n3 with ⟨hdd, n4⟩ | ⟨hdd, cs, p1, p2, n4⟩
          · rcases m5 with ⟨-, m6⟩ | ⟨hee, -⟩
            · obtain ⟨bs', ms', x', o, hx⟩ := moved _ n4
              obtain ⟨v', r⟩ := moved' _ m6
              exact nil _ bs' ms' x' v' _ _ _ _ _ _ o (by rw [hx]; exact r) (by rw [setLive_len]; omega)
            · exfalso; omega
          · rcases m5 with ⟨hee, -⟩ | ⟨-, cs', p1', p2', m6⟩
            · exfalso; omega
            · obtain rfl := rise_one p1 p1' p2 p2'
              obtain ⟨bs', ms', x', o, hx⟩ := moved _ n4
              obtain ⟨v', r⟩ := moved' _ m6
              refine nil _ bs' ms' x' v' _ _ _ _ _ _ o (by rw [hx]; exact r) ?_
              have hnd : cs.Nodup := p1.nodup_iff.2 (wf.setLive j2 false).lives_nodup
              obtain ⟨-, -, w3⟩ := hangs_wf (d := dC) (fun a b => dC_zero a b) cs [] (WF.nil _) (by simpa using hnd)
              have hcl := p1.length_eq
              have h6 : (hangs dC [] cs).length = cs.length := by simpa using w3
              omega
    all_goals (exfalso; omega)
  · -- Has
    rcases hc' with ⟨h', -⟩ | ⟨h', -⟩ | ⟨-, y', rfl, hb', hy'⟩ | ⟨h', -⟩ | ⟨h', -⟩ | ⟨h', -⟩
    · exfalso; omega
    · exfalso; omega
    · obtain rfl : y = y' := by
        cases y <;> cases y'
        · rfl
        · exact absurd (hy.2 (hy'.1 rfl)) (by decide)
        · exact absurd (hy'.2 (hy.1 rfl)) (by decide)
        · rfl
      exact nil T bs ms x v _ _ _ _ _ _ (same hb) (same' hb') (by omega)
    all_goals (exfalso; omega)
  · -- Within
    rcases hc' with ⟨h', -⟩ | ⟨h', -⟩ | ⟨h', -⟩ | ⟨-, u', e', d', rfl, ho', hx2'⟩ | ⟨h', -⟩ | ⟨h', -⟩
    · exfalso; omega
    · exfalso; omega
    · exfalso; omega
    · rcases ho with ⟨n1, n2, n3⟩ | ⟨n0, n1, n2, n3⟩ | ⟨hs, fv, nv, n0, n1, n2, sr⟩
      · rcases ho' with ⟨-, m2, m3⟩ | ⟨m1, -⟩ | ⟨m1, -⟩
        · cases n2; cases m2
          have e1 := hx2.look_one (htr1.below n3)
          have e2 := hx2'.seen_one (hrt2.below (m3.below _))
          rw [← hd2, e1, e2]
          exact nil T bs ms x v _ _ _ _ _ _ (same n3) (same' m3) (by omega)
        · exact absurd m1 n1
        · exact absurd m1 n1
      · rcases ho' with ⟨m1, -⟩ | ⟨-, -, m2, m3⟩ | ⟨-, -, -, m1, m2, -⟩
        · exact absurd n0 m1
        · cases n2; cases m2
          have e1 := hx2.look_one (htr1.below n3)
          have e2 := hx2'.seen_one (hrt2.below (m3.below _))
          rw [← hd2, e1, e2]
          exact nil T bs ms x v _ _ _ _ _ _ (same n3) (same' m3) (by omega)
        · exact absurd ⟨m1, m2⟩ n1
      · rcases ho' with ⟨m1, -⟩ | ⟨-, m1, -⟩ | ⟨hs', fv', nv', m0, m1, m2, sr'⟩
        · exact absurd hs m1
        · exact absurd ⟨n0, n1⟩ m1
        · cases n2; cases m2
          obtain ⟨V, hV, hR⟩ := sr.run
          obtain ⟨V', hV', hR'⟩ := sr'.run
          obtain rfl := run_one hR hR'
          have e1 := hx2.look_one sr.tr
          have e2 := hx2'.seen_one sr'.rt
          obtain ⟨va, vc, hva, ha⟩ := hats sr.row
          obtain ⟨vb, vd, hvb, hb⟩ := hats' sr'.row
          subst hva hvb
          have e3 : d' = d := by rw [e2, ← hd2, e1, hV, hV']
          subst e3
          have o := (o1.srch sr).boxed (wd1 := W0) (W1 := W0) (fun k hk e => by have := hft k hk; omega) hgW hst
          exact ⟨T, bs, ms, _, v, false, 0, 0, 0, 0, _, _, va, vb, vc, vd, rfl, rfl, ha, hb, bt o (by show RT _ _ _ _ _ _ (lkN x.looked nv); rw [hV, ← hV']; exact srt _ sr'.rt), by omega, Nat.le_trans sr.ge sr.le⟩
    all_goals (exfalso; omega)
  · -- Nearest
    rcases hc' with ⟨h', -⟩ | ⟨h', -⟩ | ⟨h', -⟩ | ⟨h', -⟩ | ⟨-, u', e', d', rfl, ho', hx2'⟩ | ⟨h', -⟩
    · exfalso; omega
    · exfalso; omega
    · exfalso; omega
    · exfalso; omega
    · rcases ho with ⟨n1, n2, n3⟩ | ⟨n0, n1, n2, n3⟩ | ⟨n0, n1, n2, n3⟩ | ⟨hs, fv, nv, n0, n1, n2, sr⟩
      · rcases ho' with ⟨-, m2, m3⟩ | ⟨m1, -⟩ | ⟨m1, -⟩ | ⟨m1, -⟩
        · cases n2; cases m2
          have e1 := hx2.look_one (htr1.below n3)
          have e2 := hx2'.seen_one (hrt2.below (m3.below _))
          rw [← hd2, e1, e2]
          exact nil T bs ms x v _ _ _ _ _ _ (same n3) (same' m3) (by omega)
        · exact absurd m1 n1
        · exact absurd m1 n1
        · exact absurd m1 n1
      · rcases ho' with ⟨m1, -⟩ | ⟨-, -, m2, m3⟩ | ⟨-, m1, -⟩ | ⟨-, -, -, m1, m2, -⟩
        · exact absurd n0 m1
        · cases n2; cases m2
          have e1 := hx2.look_one (htr1.below n3)
          have e2 := hx2'.seen_one (hrt2.below (m3.below _))
          rw [← hd2, e1, e2]
          exact nil T bs ms x v _ _ _ _ _ _ (same n3) (same' m3) (by omega)
        · exact absurd ⟨by omega, by omega⟩ n1
        · exact absurd ⟨by omega, m2⟩ n1
      · rcases ho' with ⟨m1, -⟩ | ⟨-, m1, -⟩ | ⟨-, -, m2, m3⟩ | ⟨-, -, -, m1, m2, -⟩
        · exact absurd n0 m1
        · exact absurd ⟨by omega, by omega⟩ m1
        · cases n2; cases m2
          have e1 := hx2.look_one (htr1.below n3)
          have e2 := hx2'.seen_one (hrt2.below (m3.below _))
          rw [← hd2, e1, e2]
          exact nil T bs ms x v _ _ _ _ _ _ (same n3) (same' m3) (by omega)
        · exfalso; omega
      · rcases ho' with ⟨m1, -⟩ | ⟨-, m1, -⟩ | ⟨-, m1, -⟩ | ⟨hs', fv', nv', m0, m1, m2, sr'⟩
        · exact absurd hs m1
        · exact absurd ⟨by omega, n1⟩ m1
        · exfalso; omega
        · cases n2; cases m2
          obtain ⟨V, hV, hR⟩ := sr.run
          obtain ⟨V', hV', hR'⟩ := sr'.run
          obtain rfl := run_one hR hR'
          have e1 := hx2.look_one sr.tr
          have e2 := hx2'.seen_one sr'.rt
          obtain ⟨va, vc, hva, ha⟩ := hats sr.row
          obtain ⟨vb, vd, hvb, hb⟩ := hats' sr'.row
          subst hva hvb
          have e3 : d' = d := by rw [e2, ← hd2, e1, hV, hV']
          subst e3
          have o := (o1.srch sr).boxed (wd1 := W0) (W1 := W0) (fun k hk e => by have := hft k hk; omega) hgW hst
          exact ⟨T, bs, ms, _, v, false, 0, 0, 0, 0, _, _, va, vb, vc, vd, rfl, rfl, ha, hb, bt o (by show RT _ _ _ _ _ _ (lkN x.looked nv); rw [hV, ← hV']; exact srt _ sr'.rt), by omega, Nat.le_trans sr.ge sr.le⟩
    all_goals (exfalso; omega)
  · -- Tell, and the others
    rcases hc' with ⟨h', -⟩ | ⟨h', -⟩ | ⟨h', -⟩ | ⟨h', -⟩ | ⟨h', -⟩ | ⟨-, a', b', c', d', rfl, hb', habcd'⟩
    · exfalso; omega
    · exfalso; omega
    · exfalso; omega
    · exfalso; omega
    · exfalso; omega
    · rcases habcd with ⟨k6, rfl, rfl, rfl, rfl⟩ | ⟨k6, rfl, rfl, rfl, rfl⟩
      · rcases habcd' with ⟨-, rfl, rfl, ⟨kd, rfl, hkd⟩, rfl⟩ | ⟨k6', -⟩
        · rw [h.ot.tr.live, h.ot.tr.depO.one hkd]
          exact nil T bs ms x v _ _ _ _ _ _ (same hb) (same' hb') (by omega)
        · exact absurd k6 k6'
      · rcases habcd' with ⟨k6', -⟩ | ⟨-, rfl, rfl, rfl, rfl⟩
        · exact absurd k6' k6
        · exact nil T bs ms x v _ _ _ _ _ _ (same hb) (same' hb') (by omega)
end Go.Proofs.YtnnbcdfpbdmgdaaDoor
set_option linter.unusedVariables false
set_option linter.unusedSimpArgs false
namespace Go.Proofs.YtnnbcdfpbdmgdaaDoor
open Go.RowKit Go.Maps Go.Sort Go.Proofs.BitMath Go.Proofs.TreeMath
theorem do_form {n : Nat} {wr W' : World} {t wd : Nat} {T : List (Nd (Cd n))} {bs : List Nat} {ms : List (Option Nat)} {x : Num} {K N : Int} {s : ByteArray} {r : Ending} (hd : DoO wr t wd T bs ms x K s N r W') : ∃ (y : Bool) (e : Int) (va : Option Addr) (len vc : Nat) (a b c d : Int), r = .returned (gotV y e (.slice va len vc) a b c d) := by
  obtain ⟨W1, w1, gb, b1, htr1, hg1, hg2, hc, hst⟩ := hd
  rcases hc with ⟨rfl, y, e, rfl, ho⟩ | ⟨rfl, y, rfl, ho⟩ | ⟨rfl, y, rfl, hb, -⟩ | ⟨rfl, v, e, d, rfl, ho, -⟩ | ⟨rfl, v, e, d, rfl, ho, -⟩ | ⟨hK, a, b, c, d, rfl, hb, -⟩
  · exact ⟨_, _, _, _, _, _, _, _, _, rfl⟩
  · exact ⟨_, _, _, _, _, _, _, _, _, rfl⟩
  · exact ⟨_, _, _, _, _, _, _, _, _, rfl⟩
  · rcases ho with ⟨-, h2, hb⟩ | ⟨-, -, h2, hb⟩ | ⟨hs, v', nv, -, -, h2, sr⟩
    · cases h2; exact ⟨_, _, _, _, _, _, _, _, _, rfl⟩
    · cases h2; exact ⟨_, _, _, _, _, _, _, _, _, rfl⟩
    · cases h2
      obtain ⟨va, vc, rfl, -⟩ := slice_form sr.row
      exact ⟨_, _, _, _, _, _, _, _, _, rfl⟩
  · rcases ho with ⟨-, h2, hb⟩ | ⟨-, -, h2, hb⟩ | ⟨-, -, h2, hb⟩ | ⟨hs, v', nv, -, -, h2, sr⟩
    · cases h2; exact ⟨_, _, _, _, _, _, _, _, _, rfl⟩
    · cases h2; exact ⟨_, _, _, _, _, _, _, _, _, rfl⟩
    · cases h2; exact ⟨_, _, _, _, _, _, _, _, _, rfl⟩
    · cases h2
      obtain ⟨va, vc, rfl, -⟩ := slice_form sr.row
      exact ⟨_, _, _, _, _, _, _, _, _, rfl⟩
  · exact ⟨_, _, _, _, _, _, _, _, _, rfl⟩
theorem told_form {n : Nat} {B : Nat} {w W' : World} {t wd : Nat} {T : List (Nd (Cd n))} {v : Value} {sn : Int} {K N : Int} {s : ByteArray} {r : Ending} (ht : ToldO B w t wd T v sn K s N r W') : ∃ (y : Bool) (e : Int) (va : Option Addr) (len vc : Nat) (a b c d : Int), r = .returned (gotV y e (.slice va len vc) a b c d) := by
  obtain ⟨W1, w1, gb, b1, hrt1, hg1, hg2, hc, hst⟩ := ht
  rcases hc with ⟨-, y, e, rfl, ho⟩ | ⟨-, y, rfl, ho⟩ | ⟨-, y, rfl, hb, -⟩ | ⟨-, fv, e, d, rfl, ho, -⟩ | ⟨-, fv, e, d, rfl, ho, -⟩ | ⟨-, a, b, c, d, rfl, hb, -⟩
  · exact ⟨_, _, _, _, _, _, _, _, _, rfl⟩
  · exact ⟨_, _, _, _, _, _, _, _, _, rfl⟩
  · exact ⟨_, _, _, _, _, _, _, _, _, rfl⟩
  · rcases ho with ⟨-, h2, m⟩ | ⟨-, -, h2, m⟩ | ⟨hs, fv', nv, -, -, h2, sr⟩
    · cases h2; exact ⟨_, _, _, _, _, _, _, _, _, rfl⟩
    · cases h2; exact ⟨_, _, _, _, _, _, _, _, _, rfl⟩
    · cases h2
      obtain ⟨va, vc, rfl, -⟩ := slice_form sr.row
      exact ⟨_, _, _, _, _, _, _, _, _, rfl⟩
  · rcases ho with ⟨-, h2, m⟩ | ⟨-, -, h2, m⟩ | ⟨-, -, h2, m⟩ | ⟨hs, fv', nv, -, -, h2, sr⟩
    · cases h2; exact ⟨_, _, _, _, _, _, _, _, _, rfl⟩
    · cases h2; exact ⟨_, _, _, _, _, _, _, _, _, rfl⟩
    · cases h2; exact ⟨_, _, _, _, _, _, _, _, _, rfl⟩
    · cases h2
      obtain ⟨va, vc, rfl, -⟩ := slice_form sr.row
      exact ⟨_, _, _, _, _, _, _, _, _, rfl⟩
  · exact ⟨_, _, _, _, _, _, _, _, _, rfl⟩
theorem bt_do {n : Nat} {W0 wr W' : World} {t wd : Nat} {T : List (Nd (Cd n))} {bs : List Nat} {ms : List (Option Nat)} {x : Num} {t' : Nat} {v : Value} {K N : Int} {s : ByteArray} {r : Ending} (h : BT W0 wr t wd T bs ms x t' v) (hd : DoO wr t wd T bs ms x K s N r W') : Below W0.heap.size W0 W' :=
  h.ot.be.trans ((do_frame hd).toBelow (fun k hk e => by
    rcases e with e | e
    · have := h.ot.own k e; omega
    · have := h.ot.be.size; omega) h.ot.be.size)
/-- The two answers, and what same says of them. -/
theorem step_same {n : Nat} {W0 wr w1 w2 : World} {t wd : Nat} {T : List (Nd (Cd n))} {bs : List Nat} {ms : List (Option Nat)} {x : Num} {t' : Nat} {v : Value} {K N : Int} {s : ByteArray} {y1 y2 : Bool} {e1 e2 a1 a2 b1 b2 c1 c2 d1 d2 : Int} {va vb : Option Addr} {l1 l2 ca cb : Nat} (h : BT W0 wr t wd T bs ms x t' v) (hd : DoO wr t wd T bs ms x K s N (.returned (gotV y1 e1 (.slice va l1 ca) a1 b1 c1 d1)) w1) (ht : ToldO W0.heap.size w1 t' wd T v x.looked K s N (.returned (gotV y2 e2 (.slice vb l2 cb) a2 b2 c2 d2)) w2) (hsm : T.length ≤ 1099511627776) :
    (∃ (T' : List (Nd (Cd n))) (bs' : List Nat) (ms' : List (Option Nat)) (x' : Num) (v' : Value), BT W0 w2 t wd T' bs' ms' x' t' v' ∧ T'.length ≤ T.length + 1) ∧ Calls Tryd.prog 28 #[gotV y1 e1 (.slice va l1 ca) a1 b1 c1 d1, gotV y2 e2 (.slice vb l2 cb) a2 b2 c2 d2] w2 fun r w' => r = .returned (.bool true) ∧ Below w2.heap.size w2 w' := by
  obtain ⟨T', bs', ms', x', v', y, e, a, b, c, d, L, va', vb', ca', cb', q1, q2, ha, hb, hbt, hle, hLl⟩ := step2 h hd ht
  simp [gotV] at q1 q2
  obtain ⟨rfl, rfl, ⟨rfl, rfl, rfl⟩, rfl, rfl, rfl, rfl⟩ := q1
  obtain ⟨rfl, rfl, ⟨rfl, rfl, rfl⟩, rfl, rfl, rfl, rfl⟩ := q2
  exact ⟨⟨T', bs', ms', x', v', hbt, hle⟩, same_any L _ _ _ _ _ _ _ _ _ _ w2 ha hb (by omega)⟩
theorem BT.below {n : Nat} {W0 w w' : World} {t wd : Nat} {T : List (Nd (Cd n))} {bs : List Nat} {ms : List (Option Nat)} {x : Num} {t' : Nat} {v : Value} (h : BT W0 w t wd T bs ms x t' v) (b : Below w.heap.size w w') : BT W0 w' t wd T bs ms x t' v := ⟨h.ot.below b, h.rt.below b, h.own'⟩
set_option maxHeartbeats 400000 in
theorem rnew_no (wd : Int) (W : World) (hw : isW wd = false) : Calls Tryd.prog 27 #[.int .i64 wd] W (fun r w' => r = .returned (.pointer none) ∧ w' = W) := by
  by_cases h1 : wd < 64
  · go_enter Tryd.func27, Tryd.ntmps27
    clear hw
    go_wp2
    all_goals (go_ret; exact ⟨rfl, rfl⟩)
  · by_cases h2 : 1024 < wd
    · go_enter Tryd.func27, Tryd.ntmps27
      clear hw
      go_wp2
      all_goals (go_ret; exact ⟨rfl, rfl⟩)
    · have h3 : (wd % 64 == 0) = false := by rw [← isW_pos (by omega) (by omega)]; exact hw
      have e3 : (wd % 64 != 0) = true := by simpa using h3
      have e4 : (Int.tmod wd 64 != 0) = true := by rw [Int.tmod_eq_emod_of_nonneg (by omega)]; exact e3
      clear hw h3
      go_enter Tryd.func27, Tryd.ntmps27
      go_wp2
      all_goals (go_ret; exact ⟨rfl, rfl⟩)
/-- While the script is played. -/
structure EI {n : Nat} (W wr : World) (t wd t' i : Nat) (T : List (Nd (Cd n))) (bs : List Nat) (ms : List (Option Nat)) (x : Num) (v : Value) : Prop where
  bt : BT W wr t wd T bs ms x t' v
  le : T.length ≤ i
set_option maxHeartbeats 4000000 in
set_option maxRecDepth 100000 in
theorem law_exact (wd : Int) (l : List Op3) (la : Option Addr) (lc : Nat) (W : World) (ht : Tab W) (hl : OAt W la l) (hll : l.length ≤ 1048576) : Calls Tryd.prog 6 #[.int .i64 wd, .slice la l.length lc] W fun r w' => r = .returned (.bool true) ∧ Below W.heap.size W w' := by
  have hW0 : 0 < W.heap.size := World.block_lt_of_cell? W ⟨0, 0, none⟩ (ht 0 (by omega))
  have htW : ∀ (w : World), Below W.heap.size W w → Tab w := fun w b => ht.below b hW0
  have HW := Hid.mk htW
  obtain ⟨ln, hln⟩ : ∃ ln, ln = l.length := ⟨_, rfl⟩
  have HL := Hid.mk (And.intro hl hln)
  rw [← hln] at hll ⊢
  clear hl hln ht htW
  by_cases hw : isW wd = true
  · obtain ⟨w8, rfl⟩ : ∃ w8 : Nat, wd = w8 := ⟨wd.toNat, by have := isW_bd hw; omega⟩
    obtain ⟨n, hn⟩ : ∃ n, w8 = 8 * n := ⟨w8 / 8, by have h1 := isW_mod hw; omega⟩
    have hnew := new_yes w8 n W hw hn
    have HN2 := Hid.mk (fun w => rnew_yes W.heap.size w8 n w hw hn)
    clear hw hn
    go_enter Tryd.func6, Tryd.ntmps6
    go_wp2_with fail
    refine hnew.mono ?_
    rintro e w1 ⟨rfl, htr, b1⟩
    go_wp2_with fail
    refine (HN2.out w1).mono ?_
    rintro e w2 ⟨rfl, hrt, b2⟩
    obtain ⟨t, hte⟩ : ∃ t, t = W.heap.size := ⟨_, rfl⟩
    obtain ⟨t', hte'⟩ : ∃ t', t' = w1.heap.size := ⟨_, rfl⟩
    have htp : 0 < t := by omega
    have H0 := Hid.mk (show EI (n := n) W w2 t w8 t' 0 [] [] [] ⟨0, 0, 0, 0⟩ (.slice none 0 0) from ⟨⟨⟨by rw [hte]; exact htr.below b2, (fun k hk => by
      rcases hk with rfl | hk | hk
      · rw [hte]; exact Nat.le_refl _
      · cases hk
      · cases hk), chain b1 b2 (Nat.le_refl _)⟩, by rw [hte']; exact hrt, by rw [hte']; exact b1.size⟩, Nat.le_refl _⟩)
    rw [← hte, ← hte']
    clear htr b1 b2 hte hte' hrt hnew
    go_wp2_with fail
    go_loopw [7] (fun u wr => ∃ (i : Nat) (T : List (Nd (Cd n))) (bs : List Nat) (ms : List (Option Nat)) (x : Num) (v : Value), u = .int .i64 i ∧ i ≤ ln ∧ Hid (EI W wr t w8 t' i T bs ms x v)) (fun u _ => ln - (intOf u).toNat)
    case atStart => exact ⟨0, [], [], [], ⟨0, 0, 0, 0⟩, _, rfl, Nat.zero_le _, H0⟩
    case round =>
      obtain ⟨i, T, bs, ms, x, v, rfl, hi, HJ⟩ := hrel
      have hsmT : T.length < 1099511627776 := by have := HJ.out.le; omega
      by_cases hlt : i < ln
      · have i1 : (i : Int) < (ln : Int) := by omega
        have i2 : (0 : Int) ≤ (i : Int) := by omega
        have hwi : IntKind.i64.wrap ((i : Int) + 1) = ((i + 1 : Nat) : Int) := by rw [IntKind.wrap_i64]; omega
        obtain ⟨g, off, ela, o0, o1, o2⟩ := (HL.out.1.below (HJ.out.bt.ot.be)).at' i (by rw [← HL.out.2]; exact hlt)
        subst ela
        have hS0 : ∀ w', Below W.heap.size W w' → w'.cell? ⟨g, off + i * 3, none⟩ = some (.int .i64 (l[i]'(by rw [← HL.out.2]; exact hlt)).1) ∧ w'.cell? ⟨g, off + i * 3 + 1, none⟩ = some (.string (l[i]'(by rw [← HL.out.2]; exact hlt)).2.1) ∧ w'.cell? ⟨g, off + i * 3 + 2, none⟩ = some (.int .i64 (l[i]'(by rw [← HL.out.2]; exact hlt)).2.2) := fun w' b => by
          obtain ⟨g2, off2, e2, p0, p1, p2⟩ := (HL.out.1.below b).at' i (by rw [← HL.out.2]; exact hlt)
          cases e2
          exact ⟨p0, p1, p2⟩
        obtain ⟨Kd, hKd⟩ : ∃ Kd, Kd = (l[i]'(by rw [← HL.out.2]; exact hlt)).1 := ⟨_, rfl⟩
        obtain ⟨s, hs⟩ : ∃ s, s = (l[i]'(by rw [← HL.out.2]; exact hlt)).2.1 := ⟨_, rfl⟩
        obtain ⟨N, hN⟩ : ∃ N, N = (l[i]'(by rw [← HL.out.2]; exact hlt)).2.2 := ⟨_, rfl⟩
        rw [← hKd] at o0
        rw [← hs] at o1
        rw [← hN] at o2
        have HSS := Hid.mk (show ∀ w', Below W.heap.size W w' → (Below W.heap.size W w' ∧ w'.cell? ⟨g, off + i * 3, none⟩ = some (.int .i64 Kd) ∧ w'.cell? ⟨g, off + i * 3 + 1, none⟩ = some (.string s) ∧ w'.cell? ⟨g, off + i * 3 + 2, none⟩ = some (.int .i64 N)) from fun w' b => ⟨b, by rw [hKd, hs, hN]; exact hS0 w' b⟩)
        have HBT := Hid.mk (HJ.out.bt.below (Below.refl wr.heap.size wr).drew)
        have hdo := do_any Kd s N wr.drew HBT.out.ot.tr (HW.out _ HBT.out.ot.be) htp hsmT
        clear hS0 hKd hs hN o0 o1 o2
        go_wp2_with fail
        refine wp_region_held_drew (S := fun w' => Below W.heap.size W w' ∧ w'.cell? ⟨g, off + i * 3, none⟩ = some (.int .i64 Kd) ∧ w'.cell? ⟨g, off + i * 3 + 1, none⟩ = some (.string s) ∧ w'.cell? ⟨g, off + i * 3 + 2, none⟩ = some (.int .i64 N)) (by kernel_rfl) ?_ (fun hHeld => ?_)
        · exact HSS.out _ HBT.out.ot.be
        refine wpAnyH_take (i := 0) (oi := { dst := some 25, op := Op.move (Operand.tmp 5), type := 24, pos := "law.go:112", after := #[], guard := none }) (v := ?v1) rfl (by kernel_rfl) (by kernel_rfl) (by kernel_rfl) (fun _ _ _ h => h) (Or.inl ⟨by rfl, ?h1⟩) (by assumption) ?r1
        case h1 => (intro w0 hSw; (try dsimp only at hSw); go_simp; try (with_reducible rfl))
        simp only [Act.put, List.setIfInBounds_toArray, List.set_cons_zero, List.set_cons_succ]
        refine wpAnyH_take (i := 1) (oi := { dst := some 26, op := Op.move (Operand.tmp 1), type := 38, pos := "law.go:112", after := #[], guard := none }) (v := ?v2) rfl (by kernel_rfl) (by kernel_rfl) (by kernel_rfl) (fun _ _ _ h => h) (Or.inl ⟨by rfl, ?h2⟩) (by assumption) ?r2
        case h2 => (intro w0 hSw; (try dsimp only at hSw); go_simp; try (with_reducible rfl))
        simp only [Act.put, List.setIfInBounds_toArray, List.set_cons_zero, List.set_cons_succ]
        refine wpAnyH_take (i := 2) (oi := { dst := some 27, op := Op.move (Operand.tmp 7), type := 3, pos := "law.go:112", after := #[], guard := none }) (v := ?v3) rfl (by kernel_rfl) (by kernel_rfl) (by kernel_rfl) (fun _ _ _ h => h) (Or.inl ⟨by rfl, ?h3⟩) (by assumption) ?r3
        case h3 => (intro w0 hSw; (try dsimp only at hSw); go_simp; try (with_reducible rfl))
        simp only [Act.put, List.setIfInBounds_toArray, List.set_cons_zero, List.set_cons_succ]
        refine wpAnyH_take (i := 3) (oi := { dst := some 28, op := Op.indexAddr 38 (Operand.tmp 26) (Operand.tmp 27), type := 0, pos := "law.go:112", after := #[{ on := 1, ground := Ground.data }, { on := 2, ground := Ground.data }], guard := none }) (v := ?v4) rfl (by kernel_rfl) (by kernel_rfl) (by kernel_rfl) (fun _ _ _ h => h) (Or.inl ⟨by rfl, ?h4⟩) (by assumption) ?r4
        case h4 => (intro w0 hSw; (try dsimp only at hSw); go_simp; try (with_reducible rfl))
        simp only [Act.put, List.setIfInBounds_toArray, List.set_cons_zero, List.set_cons_succ]
        refine wpAnyH_take (i := 4) (oi := { dst := some 29, op := Op.load 40 (Operand.tmp 28), type := 40, pos := "law.go:112", after := #[{ on := 3, ground := Ground.data }], guard := none }) (v := ?v5) rfl (by kernel_rfl) (by kernel_rfl) (by kernel_rfl) (fun _ _ _ h => h) (Or.inl ⟨by rfl, ?h5⟩) (by assumption) ?r5
        case h5 => (intro w0 hSw; (try dsimp only at hSw); go_simp; try (with_reducible rfl))
        simp only [Act.put, List.setIfInBounds_toArray, List.set_cons_zero, List.set_cons_succ]
        refine wpAnyH_take (i := 6) (oi := { dst := some 31, op := Op.move (Operand.tmp 6), type := 51, pos := "law.go:112", after := #[], guard := none }) (v := ?v6) rfl (by kernel_rfl) (by kernel_rfl) (by kernel_rfl) (fun _ _ _ h => h) (Or.inl ⟨by rfl, ?h6⟩) (by assumption) ?r6
        case h6 => (intro w0 hSw; (try dsimp only at hSw); go_simp; try (with_reducible rfl))
        simp only [Act.put, List.setIfInBounds_toArray, List.set_cons_zero, List.set_cons_succ]
        refine wpAnyH_take (i := 7) (oi := { dst := some 32, op := Op.move (Operand.tmp 1), type := 38, pos := "law.go:112", after := #[], guard := none }) (v := ?v7) rfl (by kernel_rfl) (by kernel_rfl) (by kernel_rfl) (fun _ _ _ h => h) (Or.inl ⟨by rfl, ?h7⟩) (by assumption) ?r7
        case h7 => (intro w0 hSw; (try dsimp only at hSw); go_simp; try (with_reducible rfl))
        simp only [Act.put, List.setIfInBounds_toArray, List.set_cons_zero, List.set_cons_succ]
        refine wpAnyH_take (i := 8) (oi := { dst := some 33, op := Op.move (Operand.tmp 7), type := 3, pos := "law.go:112", after := #[], guard := none }) (v := ?v8) rfl (by kernel_rfl) (by kernel_rfl) (by kernel_rfl) (fun _ _ _ h => h) (Or.inl ⟨by rfl, ?h8⟩) (by assumption) ?r8
        case h8 => (intro w0 hSw; (try dsimp only at hSw); go_simp; try (with_reducible rfl))
        simp only [Act.put, List.setIfInBounds_toArray, List.set_cons_zero, List.set_cons_succ]
        refine wpAnyH_take (i := 9) (oi := { dst := some 34, op := Op.indexAddr 38 (Operand.tmp 32) (Operand.tmp 33), type := 0, pos := "law.go:112", after := #[{ on := 7, ground := Ground.data }, { on := 8, ground := Ground.data }], guard := none }) (v := ?v9) rfl (by kernel_rfl) (by kernel_rfl) (by kernel_rfl) (fun _ _ _ h => h) (Or.inl ⟨by rfl, ?h9⟩) (by assumption) ?r9
        case h9 => (intro w0 hSw; (try dsimp only at hSw); go_simp; try (with_reducible rfl))
        simp only [Act.put, List.setIfInBounds_toArray, List.set_cons_zero, List.set_cons_succ]
        refine wpAnyH_take (i := 10) (oi := { dst := some 35, op := Op.load 40 (Operand.tmp 34), type := 40, pos := "law.go:112", after := #[{ on := 9, ground := Ground.data }], guard := none }) (v := ?v10) rfl (by kernel_rfl) (by kernel_rfl) (by kernel_rfl) (fun _ _ _ h => h) (Or.inl ⟨by rfl, ?h10⟩) (by assumption) ?r10
        case h10 => (intro w0 hSw; (try dsimp only at hSw); go_simp; try (with_reducible rfl))
        simp only [Act.put, List.setIfInBounds_toArray, List.set_cons_zero, List.set_cons_succ]
        refine wpAnyH_ready (rs := [5]) (by kernel_rfl) (by simp) ?_
        refine AllReadyH.cons rfl (fun K hK => ?_) AllReadyH.nil
        go_simp
        go_wp2_with (go_at_call 20; refine hdo.mono ?_; rintro r1 w3 hd1; obtain ⟨y1, e1, va1, l1, c1, a1, b1, g1, d1, hr1⟩ := do_form hd1; subst hr1; have HD1 := Hid.mk hd1; have bW3 := bt_do HBT.out hd1; have hto := told_any Kd s N w3 (rt_do HBT.out.ot.tr HBT.out.rt hd1) (Nat.le_trans HBT.out.ot.be.size (do_frame hd1).size) hsmT; clear hd1; simp only [gotV])
        refine hK.out _ _ ?_ (fun hHeld => ?_)
        · exact HSS.out _ bW3
        clear hK K
        refine wpAnyH_ready (rs := [11]) (by kernel_rfl) (by simp) ?_
        refine AllReadyH.cons rfl (fun K hK => ?_) AllReadyH.nil
        go_simp
        go_wp2_with (go_at_call 29; refine hto.mono ?_; rintro r2 w4 ht2; obtain ⟨y2, e2, va2, l2, c2, a2, b2, g2, d2, hr2⟩ := told_form ht2; subst hr2; obtain ⟨hnx, hsame⟩ := step_same HBT.out HD1.out ht2 (by omega); have HNX := Hid.mk hnx; clear hnx ht2; simp only [gotV] at hsame ⊢)
        refine hK.out _ _ ?_ (fun hHeld => ?_)
        · obtain ⟨T', bs', ms', x', v', hbt', -⟩ := HNX.out; exact HSS.out _ hbt'.ot.be
        clear hK K
        refine wpAnyH_ready (rs := [12]) (by kernel_rfl) (by simp) ?_
        refine AllReadyH.cons rfl (fun K hK => ?_) AllReadyH.nil
        go_simp
        go_wp2_with (go_at_call 28; refine hsame.mono ?_; rintro e5 w5 ⟨rfl, b5⟩)
        refine hK.out _ _ ?_ (fun hHeld => ?_)
        · obtain ⟨T', bs', ms', x', v', hbt', -⟩ := HNX.out; exact HSS.out _ (chain hbt'.ot.be b5 (Nat.le_refl _))
        clear hK K
        refine wpAnyH_take (i := 13) (oi := { dst := some 38, op := Op.unOp UnOp.not 4 (Operand.tmp 37), type := 4, pos := "law.go:112", after := #[{ on := 12, ground := Ground.data }], guard := none }) (v := ?v11) rfl (by kernel_rfl) (by kernel_rfl) (by kernel_rfl) (fun _ _ _ h => h) (Or.inl ⟨by rfl, ?h11⟩) (by assumption) ?r11
        case h11 => (intro w0 hSw; (try dsimp only at hSw); go_simp; try (with_reducible rfl))
        simp only [Act.put, List.setIfInBounds_toArray, List.set_cons_zero, List.set_cons_succ]
        refine wpAnyH_done (by kernel_rfl) ?_ _
        obtain ⟨T', bs', ms', x', v', hbt', hle'⟩ := HNX.out
        have HFI := Hid.mk (show EI W w5 t w8 t' (i + 1) T' bs' ms' x' v' from ⟨hbt'.below b5, by have := HJ.out.le; omega⟩)
        clear hbt' hle'
        go_wp2_with fail
        exact ⟨⟨i + 1, T', bs', ms', x', v', by push_cast; rfl, hlt, HFI⟩, by simp only [intOf]; omega⟩
      · have i1 : ¬ (i : Int) < (ln : Int) := by omega
        have hdo := do_any 6 ⟨#[]⟩ 0 wr HJ.out.bt.ot.tr (HW.out _ HJ.out.bt.ot.be) htp hsmT
        go_wp2_with fail
        refine hdo.mono ?_
        rintro r1 w3 hd1
        obtain ⟨y1, e1, va1, l1, c1, a1, b1, g1, d1, hr1⟩ := do_form hd1
        subst hr1
        have hto := told_any 6 ⟨#[]⟩ 0 w3 (rt_do HJ.out.bt.ot.tr HJ.out.bt.rt hd1) (Nat.le_trans HJ.out.bt.ot.be.size (do_frame hd1).size) hsmT
        have HD1 := Hid.mk hd1
        clear hd1 hdo
        simp only [gotV]
        go_wp2_with fail
        refine hto.mono ?_
        rintro r2 w4 ht2
        obtain ⟨y2, e2, va2, l2, c2, a2, b2, g2, d2, hr2⟩ := told_form ht2
        subst hr2
        obtain ⟨⟨T', bs', ms', x', v', hbt', hle'⟩, hsame⟩ := step_same HJ.out.bt HD1.out ht2 (by omega)
        simp only [gotV] at hsame ⊢
        clear ht2 hto
        go_wp2_with (first
          | (go_at_call 28; refine hsame.mono ?_; rintro e5 w5 ⟨rfl, b5⟩)
          | fail)
        go_ret
        exact ⟨rfl, chain hbt'.ot.be b5 (Nat.le_refl _)⟩
  · have hw' : isW wd = false := by simpa using hw
    have hnew := new_no wd W hw'
    have hnew2 := rnew_no wd W hw'
    clear hw hw'
    go_enter Tryd.func6, Tryd.ntmps6
    go_wp2_with (first
      | (go_at_call 10; refine hnew.mono ?_; rintro e w' ⟨rfl, rfl⟩)
      | (go_at_call 27; refine hnew2.mono ?_; rintro e w' ⟨rfl, rfl⟩)
      | fail)
    go_ret
    exact ⟨rfl, Below.refl _ _⟩
end Go.Proofs.YtnnbcdfpbdmgdaaDoor
set_option linter.unusedVariables false
set_option linter.unusedSimpArgs false
namespace Go.Proofs.YtnnbcdfpbdmgdaaDoor
open Go.RowKit Go.Maps Go.Sort Go.Proofs.BitMath Go.Proofs.TreeMath
abbrev zs (n : Nat) : List UInt8 := List.replicate n 0
/-- The bytes of the code with just bit i. -/
def bitL1 (n i : Nat) : List UInt8 := flipL (zs n) i
theorem bitL1_len (n i : Nat) : (bitL1 n i).length = n := by unfold bitL1; rw [flipL_length]; simp
def bitC (n i : Nat) : Cd n := ⟨⟨(bitL1 n i).toArray⟩, by show (bitL1 n i).toArray.size = n; simp [bitL1_len]⟩
theorem bitC_bytes (n i : Nat) : (bitC n i).1.data.toList = bitL1 n i := by simp [bitC]
theorem zs_bit (n j : Nat) : bitL (zs n) j = 0 := by
  unfold bitL
  have : (zs n).getD (j / 8) 0 = 0 := by
    rw [List.getD_eq_getElem?_getD, List.getElem?_replicate]
    split <;> rfl
  rw [this]
  simp [bt]
theorem wt_zs (n : Nat) : wt (xorL (zs n) (zs n)) = 0 := xorL_self _
theorem bit_dist1 {n i : Nat} (hi : i < 8 * n) : wt (xorL (zs n) (bitL1 n i)) = 1 := by
  have := dist_flip (zs n) (zs n) i rfl (by simpa using hi)
  rw [zs_bit, wt_zs] at this
  unfold bitL1
  omega
theorem bt_pow (a b : Nat) (ha : a < 8) (hb : b < 8) : bt (2 ^ a) b = if a = b then 1 else 0 := by
  have h1 : ∀ a < 8, ∀ b < 8, bt (2 ^ a) b = if a = b then 1 else 0 := by decide
  exact h1 a ha b hb
theorem bit_other {n i j : Nat} (hi : i < 8 * n) (hij : i ≠ j) : bitL (bitL1 n i) j = 0 := by
  unfold bitL bitL1 flipL
  have hlen : i / 8 < (zs n).length := by simp; omega
  have hz : (zs n).getD (i / 8) 0 = 0 := by
    rw [List.getD_eq_getElem?_getD, List.getElem?_replicate]
    split <;> rfl
  rw [hz]
  by_cases hb : j / 8 = i / 8
  · rw [hb, List.getD_eq_getElem?_getD, List.getElem?_set_self hlen]
    have h2 : ((some ((0 : UInt8) ^^^ mk i)).getD 0).toNat = 2 ^ (7 - i % 8) := by
      show ((0 : UInt8) ^^^ mk i).toNat = _
      rw [UInt8.zero_xor, mk_toNat]
    rw [h2, bt_pow _ _ (by omega) (by omega), if_neg (by omega)]
  · rw [List.getD_eq_getElem?_getD, List.getElem?_set_ne (fun e => hb e.symm), List.getElem?_replicate]
    split <;> simp [bt]
theorem bit_two {n i j : Nat} (hi : i < 8 * n) (hj : j < 8 * n) (hij : i ≠ j) : dC (bitC n i) (bitC n j) = 2 := by
  unfold dC
  rw [bitC_bytes, bitC_bytes]
  have h1 := dist_flip (bitL1 n i) (zs n) j (by rw [bitL1_len]; simp) (by rw [bitL1_len]; exact hj)
  rw [bit_other hi hij, zs_bit, xorL_comm (bitL1 n i) (zs n), bit_dist1 hi] at h1
  have : wt (xorL (bitL1 n i) (bitL1 n j)) = wt (xorL (bitL1 n i) (flipL (zs n) j)) := rfl
  omega
theorem bitC_inj {n i j : Nat} (hi : i < 8 * n) (hj : j < 8 * n) (h : bitC n i = bitC n j) : i = j := by
  by_cases e : i = j
  · exact e
  · exfalso
    have h1 := bit_two hi hj e
    rw [h, dC_self] at h1
    cases h1
/-- The chain of the first i. -/
def chn (n i : Nat) : List (Nd (Cd n)) := (List.range i).map (fun j => ⟨bitC n j, true, if j = 0 then none else some (j - 1), if j = 0 then 0 else 2⟩)
theorem chn_len (n i : Nat) : (chn n i).length = i := by simp [chn]
theorem chn_at {n i j : Nat} (h : j < i) : (chn n i)[j]? = some ⟨bitC n j, true, if j = 0 then none else some (j - 1), if j = 0 then 0 else 2⟩ := by
  unfold chn
  rw [List.getElem?_map, List.getElem?_range h]
  rfl
theorem chn_codes (n i : Nat) : (chn n i).map Nd.code = (List.range i).map (bitC n) := by simp [chn]
theorem chn_lives (n i : Nat) : lives (chn n i) = (List.range i).map (bitC n) := by
  unfold lives
  rw [List.filter_eq_self.2 (fun a ha => by
    obtain ⟨j, -, rfl⟩ := List.mem_map.1 ha
    rfl)]
  exact chn_codes n i
/-- One more hangs at the end. -/
theorem chn_hang {n i : Nat} (hi : i < 8 * n) (wf : WF dC (chn n i)) : hang dC (chn n i) (bitC n i) = chn n (i + 1) := by
  rcases Nat.eq_zero_or_pos i with h0 | h0
  · subst h0
    show hang dC [] (bitC n 0) = _
    rw [hang_nil]
    rfl
  · obtain ⟨nd, h1, h2, h3⟩ := hang_cons wf (by rw [chn_len]; exact h0) (bitC n i)
    have hr : reach dC (chn n i) (bitC n i) (chn n i).length 0 < i := by
      exact Nat.lt_of_lt_of_eq (List.getElem?_eq_some_iff.1 h1).1 (chn_len n i)
    rw [h3]
    generalize reach dC (chn n i) (bitC n i) (chn n i).length 0 = r at *
    rw [chn_at hr] at h1
    cases h1
    have hd : dC (bitC n r) (bitC n i) = 2 := bit_two (by omega) hi (by omega)
    simp only [hd] at h2 ⊢
    have hre : r = i - 1 := by
      rcases Nat.lt_or_ge (r + 1) i with h | h
      · exfalso
        refine child_none h2 (chn_at h) ⟨?_, ?_⟩
        · simp
        · simp
      · omega
    subst hre
    unfold chn
    rw [List.range_succ, List.map_append]
    simp only [List.map_cons, List.map_nil]
    rw [if_neg (by omega), if_neg (by omega)]
theorem chn_dep {n i : Nat} (wf : WF dC (chn n i)) : ∀ j, j < i → dep (chn n i) (j + 1) j = j + 1 := by
  intro j
  induction j with
  | zero =>
    intro h
    simp [dep, chn_at h]
  | succ j ih =>
    intro h
    have h1 := chn_at (n := n) h
    rw [dep_child wf h1 (i := j) (by simp), ih (by omega)]
end Go.Proofs.YtnnbcdfpbdmgdaaDoor
set_option linter.unusedVariables false
set_option linter.unusedSimpArgs false
namespace Go.Proofs.YtnnbcdfpbdmgdaaDoor
open Go.RowKit Go.Maps Go.Sort Go.Proofs.BitMath Go.Proofs.TreeMath
theorem infB : (Tryd.prog.info? 5).map (fun i => (i.zero, i.size, i.bytes)) = some (some (.int .u8 0), 1, 1) := by kernel_rfl
set_option maxHeartbeats 4000000 in
set_option maxRecDepth 100000 in
theorem bit_any (n i : Nat) (hn : n ≤ 128) (hi : i < 8 * n) (w : World) : Calls Tryd.prog 12 #[.int .i64 ((8 * n : Nat) : Int), .int .i64 i] w fun r w' => r = .returned (.string (bitC n i).1) ∧ Below w.heap.size w w' := by
  obtain ⟨i0, hi0, hz0, hz1, hz2⟩ := info_parts infB
  have hq : ((8 * n : Nat) : Int) / 8 = (n : Int) := by omega
  have hi8 : (i : Int) / 8 = ((i / 8 : Nat) : Int) := by omega
  have hm8 : (i : Int) % 8 = ((i % 8 : Nat) : Int) := by omega
  obtain ⟨W8, hW8⟩ : ∃ W8 : Int, W8 = ((8 * n : Nat) : Int) := ⟨_, rfl⟩
  rw [← hW8] at hq ⊢
  have h1 : (0 : Int) ≤ W8 := by omega
  have h2 : W8 ≤ 1024 := by omega
  clear hW8
  have hrun := run_make w 56 5 i0 (.int .u8 0) Tryd.underlying56 hi0 hz0 .i64 .i64 (n : Int) (n : Int) (by omega) (by omega) (by rw [hz2]; omega) (by omega)
  rw [hz1, Int.toNat_natCast] at hrun
  have hrow : (w.alloc (.cells (madeCells (Value.int .u8 0).cells (n * 1)) 5)).ownsRow 0 5 1 (.slice (some ⟨w.heap.size, 0, none⟩) n n) n ((zs n).map BV) := by
    refine ⟨by simp, .inr ⟨w.heap.size, n, _, rfl, Nat.zero_le _, Array.getElem?_push_size, Nat.le_refl _, by unfold maxLen; omega, by rw [size_madeCells], ?_⟩⟩
    rw [made_bytes, List.take_of_length_le (by simp)]
  have hbel : Below w.heap.size w (w.alloc (.cells (madeCells (Value.int .u8 0).cells (n * 1)) 5)) := (Below.refl _ w).alloc (Nat.le_refl _) _
  obtain ⟨w1, hw1⟩ : ∃ w1, w1 = w.alloc (.cells (madeCells (Value.int .u8 0).cells (n * 1)) 5) := ⟨_, rfl⟩
  rw [← hw1] at hrun hrow hbel
  obtain ⟨g, hg⟩ : ∃ g, g = w.heap.size := ⟨_, rfl⟩
  rw [← hg] at hrun hrow
  have hib : i / 8 < n := by omega
  have hcell : w1.cell? ⟨g, i / 8, none⟩ = some (.int .u8 0) := by
    rw [row_cell hrow (i / 8) hib]
    simp [hib, BV]
  have hfz : w1.frozen? ⟨g, i / 8, none⟩ = false := by
    rcases hrow.2 with ⟨h0, _⟩ | ⟨g', c', cur, h0, _, hb, _⟩
    · cases h0
    · cases h0
      simp [World.frozen?, hb]
  have hset := (World.ownsRow.stored hrow (i / 8) (BV (mk i))).1
  have e1 : (((zs n).map BV).set (i / 8) (BV (mk i))) = (bitL1 n i).map BV := by
    rw [← List.map_set]
    unfold bitL1 flipL
    congr 2
    have : (zs n).getD (i / 8) 0 = 0 := by
      rw [List.getD_eq_getElem?_getD, List.getElem?_replicate]
      split <;> rfl
    rw [this, UInt8.zero_xor]
  rw [e1] at hset
  have hset2 : (w1.setCell ⟨g, i / 8, none⟩ (BV (mk i))).ownsRow 0 5 1 (.slice (some ⟨g, 0, none⟩) (bitL1 n i).length n) (bitL1 n i).length ((bitL1 n i).map BV) := by rw [bitL1_len]; exact hset
  have hconv := conv_row _ hset2
  rw [bitL1_len] at hconv
  have hmk : (BV (mk i)) = .int .u8 (128 / 2 ^ (i % 8) : Nat) := by
    unfold BV
    rw [mk_toNat, pw _ (by omega)]
  have hfin : (⟨(bitL1 n i).toArray⟩ : ByteArray) = (bitC n i).1 := rfl
  have HF := Hid.mk (And.intro hbel (And.intro hg hfin))
  rw [hmk] at hconv
  have hj8 : i % 8 < 8 := by omega
  obtain ⟨j, hj⟩ : ∃ j, j = i % 8 := ⟨_, rfl⟩
  obtain ⟨k, hk⟩ : ∃ k, k = i / 8 := ⟨_, rfl⟩
  rw [← hj] at hconv hm8 hj8
  have hpj : ((128 / 2 ^ j : Nat) : Int) = (128 : Int) / 2 ^ j := by rw [Int.natCast_ediv, Int.natCast_pow]; rfl
  rw [hpj] at hconv
  clear hpj
  rw [← hk] at hconv hi8 hcell hfz hib
  rw [← hq] at hrun
  have HR := Hid.mk hrun
  have hk2 : (k : Int) < (n : Int) := by omega
  have hk3 : (0 : Int) ≤ (k : Int) := by omega
  clear hrow hset hset2 hw1 hbel hg hmk e1 hj hk hrun hfin hi0 hz0 hz1 hz2
  go_enter Tryd.func12, Tryd.ntmps12
  go_wp2_with (first
    | (at_make; refine wpList_make_run _ rfl _ _ _ rfl _ _ HR.out ?_)
    | go_in)
  go_ret
  refine ⟨by rw [← HF.out.2.2]; rfl, HF.out.1.setCell (by show w.heap.size ≤ g; rw [HF.out.2.1]; exact Nat.le_refl _) _⟩
end Go.Proofs.YtnnbcdfpbdmgdaaDoor
set_option linter.unusedVariables false
set_option linter.unusedSimpArgs false
namespace Go.Proofs.YtnnbcdfpbdmgdaaDoor
open Go.RowKit
/-- A kind of elements: its type, that of slices of it and of slices of these, its cells. -/
structure El (α : Type) where
  ty : TypeId
  sl : TypeId
  ll : TypeId
  sz : Nat
  by' : Nat
  z : Value
  f : α → List Value
structure El.Ok {α : Type} (E : El α) (P : Program) : Prop where
  hf : ∀ x, (E.f x).length = E.sz
  one : ∀ x, ∀ u ∈ E.f x, u.oneCell' = true
  pos : 0 < E.sz
  zs : E.z.cells.size = E.sz
  by1 : E.by' ≤ 64
  info : (P.info? E.ty).map (fun i => (i.zero, i.size, i.bytes)) = some (some E.z, E.sz, E.by')
  und : P.underlying E.sl = some (.slice E.ty)
  info2 : (P.info? E.sl).map (fun i => (i.zero, i.size, i.bytes)) = some (some (.slice none 0 0), 1, 24)
  und2 : P.underlying E.ll = some (.slice E.sl)
  ne : E.ty ≠ E.sl
/-- A row of the call's own that holds these. -/
def El.Row {α : Type} (E : El α) (W : World) (v : Value) (X : List α) : Prop := W.ownsRow 0 E.ty E.sz v X.length (X.flatMap E.f)
theorem El.Ok.len {α : Type} {E : El α} {P : Program} (h : E.Ok P) (l : List α) : (l.flatMap E.f).length = l.length * E.sz := by
  induction l with
  | nil => simp
  | cons x l ih => rw [List.flatMap_cons, List.length_append, ih, h.hf, List.length_cons, Nat.succ_mul, Nat.add_comm]
theorem El.Ok.ones {α : Type} {E : El α} {P : Program} (h : E.Ok P) (l : List α) : ∀ u ∈ l.flatMap E.f, u.oneCell' = true := fun u hu => by
  obtain ⟨e, _, he⟩ := List.mem_flatMap.1 hu
  exact h.one e u he
theorem El.Row.below {α : Type} {E : El α} {w w' : World} {v : Value} {X : List α} (h : E.Row w v X) (b : Below w.heap.size w w') : E.Row w' v X := row_kept (F := fun _ => False) h (.below b) (fun _ _ h => h)
theorem El.Row.nil {α : Type} (E : El α) (W : World) : E.Row W (.slice none 0 0) [] := ⟨by simp, .inl ⟨rfl, rfl⟩⟩
theorem El.Row.form {α : Type} {E : El α} {W : World} {v : Value} {X : List α} (h : E.Row W v X) : ∃ a c, v = .slice a X.length c ∧ X.length ≤ c := slice_form h
theorem cells_new (W : World) (cs : List Value) (t : TypeId) (j : Nat) (u : Value) (hu : cs[j]? = some u) : (W.alloc (.cells cs.toArray t)).cell? ((⟨W.heap.size, 0, none⟩ : Addr).add j) = some u := by
  have e : (⟨W.heap.size, 0, none⟩ : Addr).add j = ⟨W.heap.size, j, none⟩ := by unfold Addr.add; split <;> simp_all
  rw [e, cell_of_row _ _ j _ t (0, 0) (heap_alloc_last W _)]
  simpa using hu
/-- append onto a slice of the call's own: it lies where it lay, or anew, and then all is kept. -/
theorem run_append_keep {P : Program} (w : World) (base : Nat) (t ty e : TypeId) (i : TypeInfo) (z : Value) (size bytes : Nat) (ht : P.underlying t = some (.slice e)) (hi : P.info? e = some i) (hz : i.zero = some z)
    (hsize : i.size = size) (hby : i.bytes = bytes) (hzs : z.cells.size = size) (hsz : 0 < size)
    (v : Value) (n : Nat) (xs : List Value) (hown : w.ownsRow base e size v n xs)
    (a : Addr) (m c : Nat) (news : List Value) (hl : news.length = m * size) (hnews : ∀ j u, news[j]? = some u → w.cell? (a.add j) = some u) (h1 : ∀ u ∈ news, u.oneCell' = true)
    (h63 : n + m ≤ maxLen) (hbytes : (n + m) * bytes ≤ 140737488355328) (hbase : base ≤ w.heap.size) :
    ∃ v' w', (Builtin.append_ #[t, t] ty #[v, .slice (some a) m c]).run P w = .ok v' w' ∧ w'.ownsRow base e size v' (n + m) (xs ++ news) ∧ w.grownBy w' v.ownBlock ∧
      ((∃ g cap, v = .slice (some ⟨g, 0, none⟩) n cap ∧ v' = .slice (some ⟨g, 0, none⟩) (n + m) cap) ∨ (v'.ownBlock = v.ownBlock ∧ v.ownBlock = none) ∨ (v'.ownBlock = some w.heap.size ∧ ∀ k, k < w.heap.size → w'.heap[k]? = w.heap[k]?)) := by
  obtain ⟨v', w', hr, h2, h3, h4, h5⟩ := run_append_own_at (P := P) w base t ty e i z size bytes ht hi hz hsize hby hzs hsz v n xs hown a m c news hl hnews h1 h63 hbytes hbase
  refine ⟨v', w', hr, h2, h3, ?_⟩
  subst hsize
  subst hby
  have hown' := hown
  rcases hown.2 with ⟨rfl, rfl⟩ | ⟨g, cap, cur, rfl, hbg, hg, hnc, hcm, hcs, htake⟩
  · rcases h5 with h5 | h5
    · exact .inr (.inl ⟨h5, rfl⟩)
    · exact .inr (.inr ⟨h5, fun k hk => h3.block k hk (by simp [Value.ownBlock])⟩)
  · by_cases hroom : n + m ≤ cap
    · have hfit : n * i.size + news.length ≤ cur.size := by rw [hl, hcs, ← Nat.add_mul]; exact Nat.mul_le_mul_right _ hroom
      have hr2 := run_append_room (P := P) w t ty e i ht hi g n cap cur hg a m c news hl hnews h1 hroom hfit
      rw [hr2] at hr
      cases hr
      exact .inl ⟨g, cap, rfl, rfl⟩
    · have holds : ∀ j u, xs[j]? = some u → w.cell? ((⟨g, 0, none⟩ : Addr).add j) = some u := hown'.cells (g := g) rfl
      have hr2 := run_append_grow (P := P) w t ty e i z ht hi hz ⟨g, 0, none⟩ n cap xs hown'.1 holds a m c news hl hnews (by omega) (by simp only [maxLen] at h63; omega) (growslice_fits (by omega) hbytes)
      rw [hr2] at hr
      cases hr
      exact .inr (.inr ⟨rfl, fun k hk => heap_alloc_old w.drew _ hk⟩)
/-- One element, written out in a new block, is put behind. -/
theorem El.app1 {α : Type} {E : El α} {P : Program} (ok : E.Ok P) (W : World) (X : List α) (v : Value) (h : E.Row W v X) (x : α) (hb : (X.length + 1) * E.by' ≤ 140737488355328) (hb2 : X.length < 4611686018427387904) :
    ∃ v' W', (Builtin.append_ #[E.sl, E.sl] E.sl #[v, .slice (some ⟨W.heap.size, 0, none⟩) 1 1]).run P (W.alloc (.cells (E.f x).toArray E.ty)) = .ok v' W' ∧ E.Row W' v' (X ++ [x]) ∧ Stay (fun k => v.ownBlock = some k) W W' ∧ (∀ k, v'.ownBlock = some k → v.ownBlock = some k ∨ W.heap.size ≤ k) := by
  obtain ⟨i0, hi, hz0, hz1, hz2⟩ := info_parts ok.info
  have hby := ok.by1
  have bA : Below W.heap.size W (W.alloc (.cells (E.f x).toArray E.ty)) := (Below.refl _ W).alloc (Nat.le_refl _) _
  obtain ⟨v', W', hap, ho, hg, -, hloc⟩ := run_append_own_at (P := P) (W.alloc (.cells (E.f x).toArray E.ty)) 0 E.sl E.sl E.ty i0 _ E.sz E.by' ok.und hi hz0 hz1 hz2 ok.zs ok.pos v X.length _ (El.Row.below h bA) ⟨W.heap.size, 0, none⟩ 1 1 (E.f x) (by rw [ok.hf, Nat.one_mul]) (fun j u hu => cells_new W (E.f x) E.ty j u hu) (ok.one x) (by unfold maxLen; omega) hb (Nat.zero_le _)
  refine ⟨v', W', hap, by show W'.ownsRow 0 E.ty E.sz v' (X ++ [x]).length _; rw [List.length_append, List.flatMap_append]; simpa using ho, (Stay.below bA).trans (.grown hg (fun k hk => hk)), fun k hk => ?_⟩
  rcases hloc with hl | hl
  · exact .inl (hl ▸ hk)
  · rw [hl] at hk; cases hk; exact .inr bA.size
/-- The beginning of a row. -/
theorem El.pre {α : Type} {E : El α} {P : Program} (ok : E.Ok P) {W : World} {g cap m n : Nat} {Y : List α} (h : E.Row W (.slice (some ⟨g, 0, none⟩) m cap) Y) (hm : m = Y.length) (hn : n ≤ m) : E.Row W (.slice (some ⟨g, 0, none⟩) n cap) (Y.take n) := by
  have hl : (Y.take n).length = n := by rw [List.length_take]; omega
  show W.ownsRow 0 E.ty E.sz _ (Y.take n).length _
  rw [hl]
  rcases h.2 with ⟨h0, _⟩ | ⟨g', c, cur, hv, k1, k2, k3, k4, k5, k6⟩
  · simp at h0
  · simp only [Value.slice.injEq, Option.some.injEq, Addr.mk.injEq] at hv
    obtain ⟨⟨rfl, -, -⟩, -, rfl⟩ := hv
    refine ⟨by rw [ok.len, hl], .inr ⟨g, cap, cur, rfl, k1, k2, by omega, k4, k5, ?_⟩⟩
    have e : (cur.toList.take (Y.length * E.sz)).take (n * E.sz) = cur.toList.take (n * E.sz) := by
      rw [List.take_take]; congr 1
      exact Nat.min_eq_left (Nat.mul_le_mul_right _ (by omega))
    rw [← e, k6]
    conv => lhs; rw [← List.take_append_drop n Y, List.flatMap_append]
    rw [List.take_left' (by rw [ok.len, hl])]
/-- One mark is put behind; the list that it grew from holds what it held. -/
theorem El.grow {α : Type} {E : El α} {P : Program} (ok : E.Ok P) (W : World) (n t : Nat) (s l : Value) (h : α) (B : Nat) (hB : B ≤ W.heap.size) (hs : E.Row W s (List.replicate n h)) (hl : E.Row W l (List.replicate (n + t) h))
    (hrel : (∃ g cap, s = .slice (some ⟨g, 0, none⟩) n cap ∧ l = .slice (some ⟨g, 0, none⟩) (n + t) cap) ∨ ∀ b, l.ownBlock = some b → B ≤ b) (hsB : ∀ b, s.ownBlock = some b → b < B) (hsz : n + t ≤ 1099511627776) :
    ∃ l' W', (Builtin.append_ #[E.sl, E.sl] E.sl #[l, .slice (some ⟨W.heap.size, 0, none⟩) 1 1]).run P (W.alloc (.cells (E.f h).toArray E.ty)) = .ok l' W' ∧ E.Row W' l' (List.replicate (n + (t + 1)) h) ∧ E.Row W' s (List.replicate n h) ∧
      ((∃ g cap, s = .slice (some ⟨g, 0, none⟩) n cap ∧ l' = .slice (some ⟨g, 0, none⟩) (n + (t + 1)) cap) ∨ ∀ b, l'.ownBlock = some b → B ≤ b) ∧ Stay (fun k => s.ownBlock = some k ∨ l.ownBlock = some k) W W' := by
  obtain ⟨i0, hi, hz0, hz1, hz2⟩ := info_parts ok.info
  have hby := ok.by1
  have bA : Below W.heap.size W (W.alloc (.cells (E.f h).toArray E.ty)) := (Below.refl _ W).alloc (Nat.le_refl _) _
  have hlA := El.Row.below hl bA
  have hll : (List.replicate (n + t) h).length = n + t := by simp
  have hlA' : (W.alloc (.cells (E.f h).toArray E.ty)).ownsRow 0 E.ty E.sz l (n + t) ((List.replicate (n + t) h).flatMap E.f) := by have := hlA; unfold El.Row at this; rw [hll] at this; exact this
  obtain ⟨l', W', hap, ho, hg, hk⟩ := run_append_keep (P := P) (W.alloc (.cells (E.f h).toArray E.ty)) 0 E.sl E.sl E.ty i0 _ E.sz E.by' ok.und hi hz0 hz1 hz2 ok.zs ok.pos l (n + t) _ hlA' ⟨W.heap.size, 0, none⟩ 1 1 (E.f h) (by rw [ok.hf, Nat.one_mul]) (fun j u hu => cells_new W (E.f h) E.ty j u hu) (ok.one h) (by unfold maxLen; omega) (by
    have : (n + t + 1) * E.by' ≤ (n + t + 1) * 64 := Nat.mul_le_mul_left _ hby
    omega) (Nat.zero_le _)
  have hrep : (List.replicate (n + t) h).flatMap E.f ++ E.f h = (List.replicate (n + (t + 1)) h).flatMap E.f := by
    rw [show n + (t + 1) = (n + t) + 1 by omega, List.replicate_succ', List.flatMap_append]; simp
  have hl' : E.Row W' l' (List.replicate (n + (t + 1)) h) := by
    show W'.ownsRow 0 E.ty E.sz l' _ _
    rw [List.length_replicate, ← hrep, ← Nat.add_assoc]; exact ho
  have st : Stay (fun k => l.ownBlock = some k) (W.alloc (.cells (E.f h).toArray E.ty)) W' := .grown hg (fun k hk => hk)
  have hsA := El.Row.below hs bA
  have sW : Stay (fun k => s.ownBlock = some k ∨ l.ownBlock = some k) W W' := (Stay.below bA).andThen (st.mono (fun k _ e => (show s.ownBlock = some k ∨ l.ownBlock = some k from .inr e))) (fun k _ e => e)
  refine ⟨l', W', hap, hl', ?_, ?_, sW⟩
  · rcases hk with ⟨g, cap, e1, e2⟩ | ⟨e1, e2⟩ | ⟨e1, e2⟩
    · rcases hrel with ⟨g', cap', f1, f2⟩ | f
      · rw [e1] at f2
        simp only [Value.slice.injEq, Option.some.injEq, Addr.mk.injEq] at f2
        obtain ⟨⟨rfl, -, -⟩, -, rfl⟩ := f2
        have := El.pre ok (n := n) (by rw [e2] at hl'; exact hl') (by rw [List.length_replicate, Nat.add_assoc]) (by omega)
        rw [f1]
        have e3 : (List.replicate (n + (t + 1)) h).take n = List.replicate n h := by rw [List.take_replicate, Nat.min_eq_left (by omega)]
        rw [e3] at this
        exact this
      · exact row_kept hsA st (fun k hk e => by have := f k e; have := hsB k hk; omega)
    · exact row_kept hsA st (fun k hk e => by rw [e2] at e; cases e)
    · refine row_kept (F := fun _ => False) hsA ⟨hg.os, hg.tape, hg.output, hg.size, fun k hk _ => e2 k hk⟩ (fun _ _ h => h)
  · rcases hk with ⟨g, cap, e1, e2⟩ | ⟨e1, e2⟩ | ⟨e1, e2⟩
    · rcases hrel with ⟨g', cap', f1, f2⟩ | f
      · rw [e1] at f2
        simp only [Value.slice.injEq, Option.some.injEq, Addr.mk.injEq] at f2
        obtain ⟨⟨rfl, -, -⟩, -, rfl⟩ := f2
        exact .inl ⟨g, cap, f1, by rw [e2, Nat.add_assoc]⟩
      · right; intro b hb
        refine f b ?_
        rw [e2] at hb
        rw [e1]; exact hb
    · right; intro b hb
      rw [e1, e2] at hb; cases hb
    · right; intro b hb
      rw [e1] at hb; cases hb
      exact Nat.le_trans hB bA.size
/-- A slice is put behind slices. -/
theorem El.more {α : Type} {E : El α} {P : Program} (ok : E.Ok P) (W : World) (ms : List Value) (a : Option Addr) (c : Nat) (h : W.ownsRow 0 E.sl 1 (.slice a ms.length c) ms.length ms) (hl : ms.length ≤ 2097152) (l : Value) (h1c : l.oneCell' = true) :
    ∃ a' c' W', (Builtin.append_ #[E.ll, E.ll] E.ll #[.slice a ms.length c, .slice (some ⟨W.heap.size, 0, none⟩) 1 1]).run P (W.alloc (.cells #[l] E.sl)) = .ok (.slice a' (ms.length + 1) c') W' ∧ W'.ownsRow 0 E.sl 1 (.slice a' (ms.length + 1) c') (ms ++ [l]).length (ms ++ [l]) ∧
      Stay (fun k => (Value.slice a ms.length c).ownBlock = some k) W W' ∧ ∀ b, (Value.slice a' (ms.length + 1) c').ownBlock = some b → (Value.slice a ms.length c).ownBlock = some b ∨ W.heap.size ≤ b := by
  obtain ⟨i0, hi, hz0, hz1, hz2⟩ := info_parts ok.info2
  have bA : Below W.heap.size W (W.alloc (.cells #[l] E.sl)) := (Below.refl _ W).alloc (Nat.le_refl _) _
  have h2A := row_kept h (F := fun _ => False) (.below bA) (fun _ _ h => h)
  obtain ⟨v', W', hap, ho, hg, -, hloc⟩ := run_append_own_at (P := P) (W.alloc (.cells #[l] E.sl)) 0 E.ll E.ll E.sl i0 _ 1 24 ok.und2 hi hz0 hz1 hz2 rfl (by decide) _ ms.length _ h2A ⟨W.heap.size, 0, none⟩ 1 1 [l] rfl (fun j u hu => cells_new W [l] E.sl j u hu) (fun u hu => by simp at hu; subst hu; exact h1c) (by unfold maxLen; omega) (by omega) (Nat.zero_le _)
  obtain ⟨a', c', rfl, -⟩ := slice_form ho
  have st : Stay (fun k => (Value.slice a ms.length c).ownBlock = some k) (W.alloc (.cells #[l] E.sl)) W' := .grown hg (fun k hk => hk)
  refine ⟨a', c', W', hap, by rw [List.length_append]; exact ho, (Stay.below bA).trans st, fun b hb => ?_⟩
  rcases hloc with e | e
  · exact .inl (e ▸ hb)
  · rw [e] at hb; cases hb; exact .inr bA.size
/-- The row's block and a list's are two. -/
theorem El.two {α : Type} {E : El α} {P : Program} (ok : E.Ok P) {W : World} {lv s : Value} {n : Nat} {xs : List Value} {r : List α} (h : W.ownsRow 0 E.sl 1 lv n xs) (k : E.Row W s r) {g : Nat} (h1 : lv.ownBlock = some g) : s.ownBlock ≠ some g := fun h2 => by
  obtain ⟨c1, e1⟩ := row_block h h1
  obtain ⟨c2, e2⟩ := row_block k h2
  rw [e1] at e2
  simp only [Option.some.injEq, Obj.cells.injEq] at e2
  exact ok.ne e2.2.1.symm
/-- Lists of the call's own, each in a block of its own. -/
structure El.AP {α : Type} (E : El α) (W : World) (lv : Value) (ss : List Value) (ns : List Nat) : Prop where
  len : ns.length = ss.length
  row : W.ownsRow 0 E.sl 1 lv ss.length ss
  each : ∀ (j : Nat) (s : Value) (n : Nat), ss[j]? = some s → ns[j]? = some n → ∃ X : List α, X.length = n ∧ E.Row W s X
  apart : ∀ (j l : Nat) (s u : Value) (b : Nat), ss[j]? = some s → ss[l]? = some u → s.ownBlock = some b → u.ownBlock = some b → j = l
/-- One mark is put behind; the list that it grew from holds what it held. -/
theorem El.growX {α : Type} {E : El α} {P : Program} (ok : E.Ok P) (W : World) (X : List α) (n t : Nat) (hX : X.length = n) (s l : Value) (h : α) (B : Nat) (hB : B ≤ W.heap.size) (hs : E.Row W s X) (hl : E.Row W l (X ++ List.replicate t h))
    (hrel : (∃ g cap, s = .slice (some ⟨g, 0, none⟩) n cap ∧ l = .slice (some ⟨g, 0, none⟩) (n + t) cap) ∨ ∀ b, l.ownBlock = some b → B ≤ b) (hsB : ∀ b, s.ownBlock = some b → b < B) (hsz : n + t ≤ 1099511627776) :
    ∃ l' W', (Builtin.append_ #[E.sl, E.sl] E.sl #[l, .slice (some ⟨W.heap.size, 0, none⟩) 1 1]).run P (W.alloc (.cells (E.f h).toArray E.ty)) = .ok l' W' ∧ E.Row W' l' (X ++ List.replicate (t + 1) h) ∧ E.Row W' s X ∧
      ((∃ g cap, s = .slice (some ⟨g, 0, none⟩) n cap ∧ l' = .slice (some ⟨g, 0, none⟩) (n + (t + 1)) cap) ∨ ∀ b, l'.ownBlock = some b → B ≤ b) ∧ Stay (fun k => s.ownBlock = some k ∨ l.ownBlock = some k) W W' := by
  obtain ⟨i0, hi, hz0, hz1, hz2⟩ := info_parts ok.info
  have hby := ok.by1
  have bA : Below W.heap.size W (W.alloc (.cells (E.f h).toArray E.ty)) := (Below.refl _ W).alloc (Nat.le_refl _) _
  have hlA := El.Row.below hl bA
  have hll : (X ++ List.replicate t h).length = n + t := by simp [hX]
  have hlA' : (W.alloc (.cells (E.f h).toArray E.ty)).ownsRow 0 E.ty E.sz l (n + t) ((X ++ List.replicate t h).flatMap E.f) := by have := hlA; unfold El.Row at this; rw [hll] at this; exact this
  obtain ⟨l', W', hap, ho, hg, hk⟩ := run_append_keep (P := P) (W.alloc (.cells (E.f h).toArray E.ty)) 0 E.sl E.sl E.ty i0 _ E.sz E.by' ok.und hi hz0 hz1 hz2 ok.zs ok.pos l (n + t) _ hlA' ⟨W.heap.size, 0, none⟩ 1 1 (E.f h) (by rw [ok.hf, Nat.one_mul]) (fun j u hu => cells_new W (E.f h) E.ty j u hu) (ok.one h) (by unfold maxLen; omega) (by
    have : (n + t + 1) * E.by' ≤ (n + t + 1) * 64 := Nat.mul_le_mul_left _ hby
    omega) (Nat.zero_le _)
  have hrep : (X ++ List.replicate t h).flatMap E.f ++ E.f h = (X ++ List.replicate (t + 1) h).flatMap E.f := by
    rw [List.replicate_succ', ← List.append_assoc, List.flatMap_append (ys := [h])]; simp
  have hl2 : (X ++ List.replicate (t + 1) h).length = n + t + 1 := by simp [hX]; omega
  have hl' : E.Row W' l' (X ++ List.replicate (t + 1) h) := by
    show W'.ownsRow 0 E.ty E.sz l' _ _
    rw [hl2, ← hrep]; exact ho
  have st : Stay (fun k => l.ownBlock = some k) (W.alloc (.cells (E.f h).toArray E.ty)) W' := .grown hg (fun k hk => hk)
  have hsA := El.Row.below hs bA
  have sW : Stay (fun k => s.ownBlock = some k ∨ l.ownBlock = some k) W W' := (Stay.below bA).andThen (st.mono (fun k _ e => (show s.ownBlock = some k ∨ l.ownBlock = some k from .inr e))) (fun k _ e => e)
  refine ⟨l', W', hap, hl', ?_, ?_, sW⟩
  · rcases hk with ⟨g, cap, e1, e2⟩ | ⟨e1, e2⟩ | ⟨e1, e2⟩
    · rcases hrel with ⟨g', cap', f1, f2⟩ | f
      · rw [e1] at f2
        simp only [Value.slice.injEq, Option.some.injEq, Addr.mk.injEq] at f2
        obtain ⟨⟨rfl, -, -⟩, -, rfl⟩ := f2
        have := El.pre ok (n := n) (by rw [e2] at hl'; exact hl') (by rw [hl2]) (by omega)
        rw [f1]
        have e3 : (X ++ List.replicate (t + 1) h).take n = X := by rw [List.take_left' hX]
        rw [e3] at this
        exact this
      · exact row_kept hsA st (fun k hk e => by have := f k e; have := hsB k hk; omega)
    · exact row_kept hsA st (fun k hk e => by rw [e2] at e; cases e)
    · refine row_kept (F := fun _ => False) hsA ⟨hg.os, hg.tape, hg.output, hg.size, fun k hk _ => e2 k hk⟩ (fun _ _ h => h)
  · rcases hk with ⟨g, cap, e1, e2⟩ | ⟨e1, e2⟩ | ⟨e1, e2⟩
    · rcases hrel with ⟨g', cap', f1, f2⟩ | f
      · rw [e1] at f2
        simp only [Value.slice.injEq, Option.some.injEq, Addr.mk.injEq] at f2
        obtain ⟨⟨rfl, -, -⟩, -, rfl⟩ := f2
        exact .inl ⟨g, cap, f1, by rw [e2, Nat.add_assoc]⟩
      · right; intro b hb
        refine f b ?_
        rw [e2] at hb
        rw [e1]; exact hb
    · right; intro b hb
      rw [e1, e2] at hb; cases hb
    · right; intro b hb
      rw [e1] at hb; cases hb
      exact Nat.le_trans hB bA.size
/-- While each is marked and grown. -/
structure El.AQ {α : Type} (E : El α) (X Y : Nat → List α) (w W : World) (ss : List Value) (ns : List Nat) (lv mv : Value) (ms : List Value) (i : Nat) : Prop where
  ml : ms.length = i
  len : ns.length = ss.length
  lrow : W.ownsRow 0 E.sl 1 lv ss.length ss
  mrow : W.ownsRow 0 E.sl 1 mv ms.length ms
  mnew : ∀ b, mv.ownBlock = some b → w.heap.size ≤ b
  lold : ∀ b, lv.ownBlock = some b → b < w.heap.size
  sold : ∀ (j : Nat) (s : Value) (b : Nat), ss[j]? = some s → s.ownBlock = some b → b < w.heap.size
  apart : ∀ (j l : Nat) (s u : Value) (b : Nat), ss[j]? = some s → ss[l]? = some u → s.ownBlock = some b → u.ownBlock = some b → j = l
  done : ∀ (j : Nat) (s m : Value) (n : Nat), ss[j]? = some s → ms[j]? = some m → ns[j]? = some n → E.Row W s (X j) ∧ E.Row W m (X j ++ Y j)
  left : ∀ (j : Nat) (s : Value) (n : Nat), i ≤ j → ss[j]? = some s → ns[j]? = some n → E.Row W s (X j)
  loc : ∀ (j : Nat) (s m : Value) (b : Nat), ss[j]? = some s → ms[j]? = some m → m.ownBlock = some b → s.ownBlock = some b ∨ w.heap.size ≤ b
  st : Stay (fun k => ∃ (j : Nat) (s : Value), ss[j]? = some s ∧ s.ownBlock = some k) w W
theorem El.AQ.start {α : Type} {E : El α} {X Y : Nat → List α} {w0 w : World} {lv : Value} {ss : List Value} {ns : List Nat} (hlen : ns.length = ss.length) (hrow : w.ownsRow 0 E.sl 1 lv ss.length ss) (hap : ∀ (j l : Nat) (s u : Value) (b : Nat), ss[j]? = some s → ss[l]? = some u → s.ownBlock = some b → u.ownBlock = some b → j = l) (hX : ∀ (j : Nat) (s : Value) (n : Nat), ss[j]? = some s → ns[j]? = some n → E.Row w s (X j)) : E.AQ X Y w w ss ns lv (.slice none 0 0) [] 0 :=
  ⟨rfl, hlen, hrow, ⟨rfl, .inl ⟨rfl, rfl⟩⟩, fun b hb => (by cases hb), fun b hb => row_lt hrow hb, fun j s b hs hb => by
    have hj : j < ns.length := by rw [hlen]; exact (List.getElem?_eq_some_iff.1 hs).1
    exact row_lt (hX j s _ hs (List.getElem?_eq_getElem hj)) hb, hap, fun j s m n hs hm hn => by simp at hm, fun j s n _ hs hn => hX j s n hs hn, fun j s m b hs hm => by simp at hm, .refl _ _⟩
theorem El.AQ.step {α : Type} {E : El α} {P : Program} (ok : E.Ok P) {X Y : Nat → List α} {w W W2 W3 : World} {ss : List Value} {ns : List Nat} {lv mv mv' : Value} {ms : List Value} {i n : Nat} {s l : Value} (q : E.AQ X Y w W ss ns lv mv ms i) (hs : ss[i]? = some s) (hn : ns[i]? = some n)
    (st : Stay (fun k => s.ownBlock = some k) W W2) (h1 : E.Row W2 s (X i)) (h2 : E.Row W2 l (X i ++ Y i)) (hrel : ∀ b, l.ownBlock = some b → s.ownBlock = some b ∨ W.heap.size ≤ b)
    (m3 : W3.ownsRow 0 E.sl 1 mv' (ms ++ [l]).length (ms ++ [l])) (st3 : Stay (fun k => mv.ownBlock = some k) W2 W3) (hnew : ∀ b, mv'.ownBlock = some b → mv.ownBlock = some b ∨ W2.heap.size ≤ b) : E.AQ X Y w W3 ss ns lv mv' (ms ++ [l]) (i + 1) := by
  have hWw : w.heap.size ≤ W.heap.size := q.st.size
  have hX := q.left i s n (Nat.le_refl _) hs hn
  have l2 : W2.ownsRow 0 E.sl 1 lv ss.length ss := row_kept q.lrow st (fun k hk e => El.two ok q.lrow hX hk e)
  have mr2 : W2.ownsRow 0 E.sl 1 mv ms.length ms := row_kept q.mrow st (fun k hk e => El.two ok q.mrow hX hk e)
  have k3 : ∀ {u : Value} {Y : List α}, E.Row W2 u Y → E.Row W3 u Y := fun {u Y} h => row_kept h st3 (fun k hk e => El.two ok mr2 h e hk)
  refine ⟨by simp [q.ml], q.len, row_kept l2 st3 (fun k hk e => by have := q.lold k hk; have := q.mnew k e; omega), m3, fun b hb => (hnew b hb).elim (q.mnew b) (fun h => Nat.le_trans hWw (Nat.le_trans st.size h)), q.lold, q.sold, q.apart, fun j u m n' hu hm hn' => ?_, fun j u n' hj hu hn' => ?_, fun j u m b hu hm hb => ?_, ?_⟩
  · rcases Nat.lt_or_ge j ms.length with hlt | hge
    · rw [List.getElem?_append_left hlt] at hm
      obtain ⟨d1, d2⟩ := q.done j u m n' hu hm hn'
      have hji : j ≠ i := by rw [← q.ml]; omega
      refine ⟨k3 (row_kept d1 st (fun k hk e => hji (q.apart j i u s k hu hs hk e))), k3 (row_kept d2 st (fun k hk e => ?_))⟩
      rcases q.loc j u m k hu hm hk with h | h
      · exact hji (q.apart j i u s k hu hs h e)
      · have := q.sold i s k hs e; omega
    · rw [List.getElem?_append_right hge] at hm
      obtain ⟨q1, q2⟩ := List.getElem?_eq_some_iff.1 hm
      simp at q1 q2
      have hji : j = i := by rw [← q.ml]; omega
      subst hji
      rw [hs] at hu
      rw [hn] at hn'
      cases hu; cases hn'
      rw [← q2]
      exact ⟨k3 h1, k3 h2⟩
  · have hY2 := q.left j u n' (by omega) hu hn'
    exact k3 (row_kept hY2 st (fun k hk e => by have := q.apart j i u s k hu hs hk e; omega))
  · rcases Nat.lt_or_ge j ms.length with hlt | hge
    · rw [List.getElem?_append_left hlt] at hm
      exact q.loc j u m b hu hm hb
    · rw [List.getElem?_append_right hge] at hm
      obtain ⟨q1, q2⟩ := List.getElem?_eq_some_iff.1 hm
      simp at q1 q2
      have hji : j = i := by rw [← q.ml]; omega
      subst hji
      rw [hs] at hu
      cases hu
      rw [← q2] at hb
      exact (hrel b hb).imp id (fun h => Nat.le_trans hWw h)
  · refine (q.st.andThen st (fun k _ e => ⟨i, s, hs, e⟩)).andThen st3 (fun k hk e => ?_)
    have := q.mnew k e
    omega
end Go.Proofs.YtnnbcdfpbdmgdaaDoor
set_option linter.unusedVariables false
set_option linter.unusedSimpArgs false
namespace Go.Proofs.YtnnbcdfpbdmgdaaDoor
open Go.RowKit Go.Maps Go.Sort Go.Proofs.BitMath Go.Proofs.TreeMath
abbrev Ht := Int × Int × ByteArray
def htC (x : Ht) : List Value := [.int .i64 x.1, .int .i64 x.2.1, .string x.2.2]
def eH : El Ht := ⟨36, 32, 57, 3, 32, .agg #[.int .i64 0, .int .i64 0, .string ⟨#[]⟩], htC⟩
theorem eH_ok : eH.Ok Tryd.prog := ⟨fun _ => rfl, fun x u hu => by
  simp [eH, htC] at hu
  rcases hu with rfl | rfl | rfl <;> rfl, by decide, rfl, by decide, by kernel_rfl, by kernel_rfl, by kernel_rfl, by kernel_rfl, by decide⟩
def mA (j : Nat) : Ht := (-1 - (j : Int), 0, ⟨#[]⟩)
def mB (j : Nat) : Ht := (-101 - (j : Int), 0, ⟨#[]⟩)
theorem flat_set3 : ∀ (X : List Ht) (i : Nat) (x : Ht), i < X.length → (((X.flatMap htC).set (i * 3) (.int .i64 x.1)).set (i * 3 + 1) (.int .i64 x.2.1)).set (i * 3 + 2) (.string x.2.2) = (X.set i x).flatMap htC
  | [], i, x, h => by simp at h
  | y :: X, 0, x, _ => by simp [htC]
  | y :: X, i + 1, x, h => by
    have ih := flat_set3 X i x (by simpa using h)
    rw [List.set_cons_succ, List.flatMap_cons, List.flatMap_cons, ← ih]
    have hl : (htC y).length = 3 := rfl
    rw [List.set_append_right _ _ (by omega), List.set_append_right _ _ (by omega), List.set_append_right _ _ (by omega), hl, show (i + 1) * 3 - 3 = i * 3 by omega, show (i + 1) * 3 + 1 - 3 = i * 3 + 1 by omega, show (i + 1) * 3 + 2 - 3 = i * 3 + 2 by omega]
theorem set_ht {W : World} {g cap n : Nat} {X : List Ht} (h : eH.Row W (.slice (some ⟨g, 0, none⟩) n cap) X) (hn : n = X.length) (i : Nat) (hi : i < X.length) (x : Ht) : eH.Row (set3 W g (i * 3) (.int .i64 x.1) (.int .i64 x.2.1) (.string x.2.2)) (.slice (some ⟨g, 0, none⟩) n cap) (X.set i x) := by
  subst hn
  show (set3 W g (i * 3) _ _ _).ownsRow 0 36 3 _ (X.set i x).length ((X.set i x).flatMap htC)
  rw [List.length_set, ← flat_set3 X i x hi]
  exact (World.ownsRow.stored (World.ownsRow.stored (World.ownsRow.stored h _ _).1 _ _).1 _ _).1
theorem ht_at {W : World} {v : Value} {X : List Ht} (h : eH.Row W v X) (i : Nat) (hi : i < X.length) : ∃ g cap, v = .slice (some ⟨g, 0, none⟩) X.length cap ∧ W.cell? ⟨g, i * 3, none⟩ = some (.int .i64 X[i].1) ∧ W.cell? ⟨g, i * 3 + 1, none⟩ = some (.int .i64 X[i].2.1) ∧ W.cell? ⟨g, i * 3 + 2, none⟩ = some (.string X[i].2.2) ∧ ∀ j, W.frozen? ⟨g, j, none⟩ = false := by
  rcases h.2 with ⟨h2, h3⟩ | ⟨g, cap, cur, h2, h3⟩
  · omega
  · subst h2
    have hf : ∀ j, j < 3 → (X.flatMap htC)[i * 3 + j]? = (htC X[i])[j]? := fun j hj => by
      have key : ∀ (l : List Ht) (i j : Nat) (hi : i < l.length), j < 3 → (l.flatMap htC)[i * 3 + j]? = (htC l[i])[j]? := by
        intro l
        induction l with
        | nil => intro i j hi; simp at hi
        | cons x l ih =>
          intro i j hi hj
          cases i with
          | zero => rw [List.flatMap_cons, Nat.zero_mul, Nat.zero_add, List.getElem?_append_left (by simpa [htC] using hj)]; rfl
          | succ i =>
            have := ih i j (by simpa using hi) hj
            rw [List.flatMap_cons, List.getElem?_append_right (by simp [htC]; omega), show (i + 1) * 3 + j - (htC x).length = i * 3 + j from by simp [htC]; omega, this]; rfl
      exact key X i j hi hj
    have hr : W.ownsRow 0 36 3 (.slice (some ⟨g, 0, none⟩) X.length cap) X.length (X.flatMap htC) := h
    refine ⟨g, cap, rfl, ?_, ?_, ?_, (row_at hr 0 (by omega)).2⟩
    · rw [(row_at hr (i * 3) (by omega)).1]; exact hf 0 (by omega)
    · rw [(row_at hr (i * 3 + 1) (by omega)).1]; exact hf 1 (by omega)
    · rw [(row_at hr (i * 3 + 2) (by omega)).1]; exact hf 2 (by omega)
/-- A slice of slices: its cells. -/
theorem sl_at {W : World} {v : Value} {ss : List Value} (h : W.ownsRow 0 32 1 v ss.length ss) (i : Nat) (hi : i < ss.length) : ∃ g cap, v = .slice (some ⟨g, 0, none⟩) ss.length cap ∧ W.cell? ⟨g, i, none⟩ = some ss[i] := by
  rcases h.2 with ⟨h2, h3⟩ | ⟨g, cap, cur, h2, h3⟩
  · omega
  · subst h2
    refine ⟨g, cap, rfl, ?_⟩
    rw [(row_at h i (by omega)).1, List.getElem?_eq_getElem hi]
/-- While each is marked. -/
structure AM (w W : World) (lv : Value) (ss : List Value) (ns : List Nat) (i : Nat) : Prop where
  len : ns.length = ss.length
  row : W.ownsRow 0 32 1 lv ss.length ss
  apart : ∀ (j l : Nat) (s u : Value) (b : Nat), ss[j]? = some s → ss[l]? = some u → s.ownBlock = some b → u.ownBlock = some b → j = l
  done : ∀ (j : Nat) (s : Value) (n : Nat), j < i → ss[j]? = some s → ns[j]? = some n → eH.Row W s (List.replicate n (mA j))
  left : ∀ (j : Nat) (s : Value) (n : Nat), i ≤ j → ss[j]? = some s → ns[j]? = some n → ∃ X : List Ht, X.length = n ∧ eH.Row W s X
  st : Stay (fun k => ∃ (j : Nat) (s : Value), ss[j]? = some s ∧ s.ownBlock = some k) w W
theorem AM.step {w W W2 : World} {lv : Value} {ss : List Value} {ns : List Nat} {i n : Nat} {s : Value} (q : AM w W lv ss ns i) (hs : ss[i]? = some s) (hn : ns[i]? = some n) (st : Stay (fun k => s.ownBlock = some k) W W2) (h1 : eH.Row W2 s (List.replicate n (mA i))) : AM w W2 lv ss ns (i + 1) := by
  obtain ⟨X, -, hX⟩ := q.left i s n (Nat.le_refl _) hs hn
  refine ⟨q.len, row_kept q.row st (fun k hk e => El.two eH_ok (E := eH) q.row hX hk e), q.apart, fun j u m hj hu hm => ?_, fun j u m hj hu hm => ?_, q.st.andThen st (fun k _ e => ⟨i, s, hs, e⟩)⟩
  · by_cases e : j = i
    · subst e
      rw [hs] at hu
      rw [hn] at hm
      cases hu; cases hm
      exact h1
    · exact row_kept (q.done j u m (by omega) hu hm) st (fun k hk e2 => e (q.apart j i u s k hu hs hk e2))
  · obtain ⟨Y, hY1, hY2⟩ := q.left j u m (by omega) hu hm
    exact ⟨Y, hY1, row_kept hY2 st (fun k hk e => by have := q.apart j i u s k hu hs hk e; omega)⟩
/-- A list while it is marked. -/
def MK (w1 : World) (s : Value) (n i k : Nat) (wr : World) : Prop := ∃ X : List Ht, X.length = n ∧ X.take k = List.replicate k (mA i) ∧ eH.Row wr s X ∧ Stay (fun b => s.ownBlock = some b) w1 wr
theorem MK.step {w1 wr : World} {g cap n i k : Nat} (h : MK w1 (.slice (some ⟨g, 0, none⟩) n cap) n i k wr) (hk : k < n) : MK w1 (.slice (some ⟨g, 0, none⟩) n cap) n i (k + 1) (set3 wr g (k * 3) (.int .i64 (-1 - (i : Int))) (.int .i64 0) (.string ⟨#[]⟩)) := by
  obtain ⟨X, h1, h2, h3, h4⟩ := h
  have hkX : k < X.length := by omega
  refine ⟨X.set k (mA i), by rw [List.length_set]; exact h1, ?_, set_ht h3 h1.symm k hkX (mA i), h4.andThen (Stay.setCell (F := fun b => b = g) (Stay.setCell (F := fun b => b = g) (Stay.setCell (F := fun b => b = g) (Stay.refl _ wr) (fun _ => rfl) _) (fun _ => rfl) _) (fun _ => rfl) _) (fun b _ e => by rw [e]; rfl)⟩
  rw [List.take_succ_eq_append_getElem (by rw [List.length_set]; exact hkX), List.getElem_set_self, List.take_set_of_le (Nat.le_refl _), h2, List.replicate_succ']
/-- A list while it is grown. -/
def GW (w1 : World) (s : Value) (n i t : Nat) (l : Value) (wr : World) : Prop := eH.Row wr s (List.replicate n (mA i)) ∧ eH.Row wr l (List.replicate n (mA i) ++ List.replicate t (mB i)) ∧ Stay (fun k => s.ownBlock = some k) w1 wr ∧ ((∃ g cap, s = .slice (some ⟨g, 0, none⟩) n cap ∧ l = .slice (some ⟨g, 0, none⟩) (n + t) cap) ∨ ∀ b, l.ownBlock = some b → w1.heap.size ≤ b)
theorem GW.step {w1 wr : World} {s l : Value} {n i t : Nat} (h : GW w1 s n i t l wr) (hsB : ∀ b, s.ownBlock = some b → b < w1.heap.size) (hn : n + t ≤ 1099511627776) :
    ∃ l' W', (Builtin.append_ #[32, 32] 32 #[l, .slice (some ⟨wr.heap.size, 0, none⟩) 1 1]).run Tryd.prog (wr.alloc (.cells #[.int .i64 (-101 - (i : Int)), .int .i64 0, .string ⟨#[]⟩] 36)) = .ok l' W' ∧ GW w1 s n i (t + 1) l' W' := by
  obtain ⟨h1, h2, h3, h4⟩ := h
  obtain ⟨l', W', e1, e2, e3, e4, e5⟩ := El.growX eH_ok wr (List.replicate n (mA i)) n t (by simp) s l (mB i) w1.heap.size h3.size h1 h2 h4 hsB hn
  refine ⟨l', W', e1, e3, e2, h3.andThen e5 (fun k hk e => ?_), ?_⟩
  · rcases e with e | e
    · exact e
    · rcases h4 with ⟨g, cap, f1, f2⟩ | f
      · rw [f1]; rw [f2] at e; exact e
      · have := f k e; omega
  · rcases e4 with ⟨g, cap, f1, f2⟩ | f
    · exact .inl ⟨g, cap, f1, f2⟩
    · exact .inr f
end Go.Proofs.YtnnbcdfpbdmgdaaDoor
set_option linter.unusedVariables false
set_option linter.unusedSimpArgs false
namespace Go.Proofs.YtnnbcdfpbdmgdaaDoor
open Go.RowKit Go.Maps Go.Sort Go.Proofs.BitMath Go.Proofs.TreeMath
def Xf (ns : List Nat) (j : Nat) : List Ht := List.replicate (ns.getD j 0) (mA j)
def Yf (j : Nat) : List Ht := List.replicate 64 (mB j)
theorem Xf_at {ns : List Nat} {j n : Nat} (h : ns[j]? = some n) : Xf ns j = List.replicate n (mA j) := by unfold Xf; rw [List.getD_eq_getElem?_getD, h]; rfl
set_option maxHeartbeats 4000000 in
set_option maxRecDepth 100000 in
theorem apart_any (lv : Value) (ss : List Value) (ns : List Nat) (w : World) (h : AM w w lv ss ns 0) (hN : ss.length ≤ 1048576) (hn : ∀ n ∈ ns, n ≤ 1073741824) :
    Calls Tryd.prog 30 #[lv] w fun e w' => e = .returned (.bool true) ∧ Stay (fun k => ∃ (j : Nat) (s : Value), ss[j]? = some s ∧ s.ownBlock = some k) w w' := by
  obtain ⟨a0, c0, hlv, -⟩ := slice_form h.row
  obtain ⟨NN, hNN⟩ : ∃ NN, NN = ss.length := ⟨_, rfl⟩
  rw [← hNN] at hlv hN
  have HH := Hid.mk (And.intro hn (And.intro hNN h.len))
  have H0 := Hid.mk h
  subst hlv
  clear h hn hNN
  have pick : ∀ i, i < NN → ∃ s n, ss[i]? = some s ∧ ns[i]? = some n ∧ n ≤ 1073741824 := fun i hi => by
    obtain ⟨h1, h2, h3⟩ := HH.out
    have hj : i < ns.length := by omega
    exact ⟨ss[i]'(by omega), ns[i], List.getElem?_eq_getElem (by omega), List.getElem?_eq_getElem hj, h1 _ (List.getElem_mem hj)⟩
  have HP := Hid.mk pick
  clear pick
  go_enter Tryd.func30, Tryd.ntmps30
  go_wp2
  go_loopw [3, 4] (fun u3 u4 wr => ∃ i : Nat, u3 = .int .i64 i ∧ i ≤ NN ∧ Hid (AM w wr (.slice a0 NN c0) ss ns i)) (fun u _ _ => NN - (intOf u).toNat)
  case atStart => exact ⟨0, rfl, Nat.zero_le _, H0⟩
  case round =>
    clear H0
    obtain ⟨i, rfl, hi, HQ⟩ := hrel
    by_cases hlt : i < NN
    · obtain ⟨s, n, hs, hns, hnb⟩ := HP.out i hlt
      obtain ⟨w1, hw1⟩ : ∃ w1, w1 = wr := ⟨_, rfl⟩
      subst hw1
      obtain ⟨X0, hX1, hX2⟩ := HQ.out.left i s n (Nat.le_refl _) hs hns
      obtain ⟨sa, sc, hsf, -⟩ := slice_form hX2
      rw [hX1] at hsf
      have hcell : ∀ W', Stay (fun b => s.ownBlock = some b) w1 W' → ∃ g, a0 = some ⟨g, 0, none⟩ ∧ W'.cell? ⟨g, i, none⟩ = some s := fun W' st => by
        have hr := row_kept HQ.out.row st (fun k hk e => El.two eH_ok (E := eH) HQ.out.row hX2 hk e)
        obtain ⟨g, cap, e, hc⟩ := sl_at hr i (by rw [← HH.out.2.1]; exact hlt)
        rw [← HH.out.2.1] at e
        cases e
        refine ⟨g, rfl, ?_⟩
        rw [hc, ← List.getElem?_eq_getElem, hs]
      have HC := Hid.mk hcell
      have HM := Hid.mk (show MK w1 s n i 0 w1 from ⟨X0, hX1, rfl, hX2, .refl _ _⟩)
      have HS := Hid.mk (And.intro hs hns)
      subst hsf
      have i1 : (i : Int) < (NN : Int) := by omega
      have i2 : 0 ≤ (i : Int) := by omega
      have hwi : IntKind.i64.wrap ((i : Int) + 1) = ((i + 1 : Nat) : Int) := by rw [IntKind.wrap_i64]; omega
      have hwm : IntKind.i64.wrap (-1 - (i : Int)) = -1 - (i : Int) := by rw [IntKind.wrap_i64]; omega
      clear hs hns hX1 hX2 hcell
      go_wp2
      go_loopw [4] (fun u4 wr => ∃ k : Nat, u4 = .int .i64 k ∧ k ≤ n ∧ Hid (MK w1 (.slice sa n sc) n i k wr)) (fun u _ => n - (intOf u).toNat)
      case atStart => exact ⟨0, rfl, Nat.zero_le _, HM⟩
      case round =>
        clear HM
        obtain ⟨k, rfl, hk, HK⟩ := hrel
        obtain ⟨gl, hgl, cl⟩ := HC.out wr (by obtain ⟨X, -, -, -, st⟩ := HK.out; exact st)
        subst hgl
        by_cases hkn : k < n
        · have hx : ∃ g cap v0 v1 v2, Value.slice sa n sc = .slice (some ⟨g, 0, none⟩) n cap ∧ wr.cell? ⟨g, k * 3, none⟩ = some v0 ∧ wr.cell? ⟨g, k * 3 + 1, none⟩ = some v1 ∧ wr.cell? ⟨g, k * 3 + 2, none⟩ = some v2 ∧ ∀ j, wr.frozen? ⟨g, j, none⟩ = false := by
            obtain ⟨X, x1, x2, x3, x4⟩ := HK.out
            obtain ⟨g, cap, e, p0, p1, p2, pf⟩ := ht_at x3 k (by omega)
            rw [x1] at e
            exact ⟨g, cap, _, _, _, e, p0, p1, p2, pf⟩
          obtain ⟨g, cap, v0, v1, v2, e, p0, p1, p2, pf⟩ := hx
          cases e
          have f0 := pf (k * 3)
          have f1 := pf (k * 3 + 1)
          have f2 := pf (k * 3 + 2)
          have k1 : (k : Int) < (n : Int) := by omega
          have k2 : 0 ≤ (k : Int) := by omega
          have hwk : IntKind.i64.wrap ((k : Int) + 1) = ((k + 1 : Nat) : Int) := by rw [IntKind.wrap_i64]; omega
          have hnext := HK.out.step hkn
          have HNX := Hid.mk hnext
          clear hnext pf
          go_wp2
          exact ⟨⟨k + 1, by push_cast; rfl, hkn, HNX⟩, by simp only [intOf]; omega⟩
        · have k1 : ¬ (k : Int) < (n : Int) := by omega
          have hfin : AM w wr (.slice (some ⟨gl, 0, none⟩) NN c0) ss ns (i + 1) := by
            obtain ⟨X, x1, x2, x3, x4⟩ := HK.out
            refine HQ.out.step HS.out.1 HS.out.2 x4 ?_
            have hXe : X = List.replicate n (mA i) := by
              have hkn2 : k = n := by omega
              rw [← hkn2, ← x2, hkn2, List.take_of_length_le (by omega)]
            rw [hXe] at x3
            exact x3
          have HF := Hid.mk hfin
          clear hfin
          go_wp2
          exact ⟨⟨i + 1, by push_cast; rfl, hlt, HF⟩, by simp only [intOf]; omega⟩
    · have i1 : ¬ (i : Int) < (NN : Int) := by omega
      obtain ⟨w1, hw1⟩ : ∃ w1, w1 = wr := ⟨_, rfl⟩
      subst hw1
      have Q0 := Hid.mk (show eH.AQ (Xf ns) Yf w1 w1 ss ns (.slice a0 NN c0) (.slice none 0 0) [] 0 from El.AQ.start (w0 := w1) HQ.out.len HQ.out.row HQ.out.apart (fun j s n hs hns => by
        rw [Xf_at hns]
        exact HQ.out.done j s n (by have h1 := (List.getElem?_eq_some_iff.1 hs).1; have := HH.out.2.1; omega) hs hns))
      have HST := Hid.mk HQ.out.st
      clear HQ
      go_wp2
      go_loopw [5, 6, 7, 8] (fun u5 u6 u7 u8 wr => ∃ (i : Nat) (ma : Option Addr) (mc : Nat) (ms : List Value), u5 = .slice ma i mc ∧ u6 = .int .i64 i ∧ i ≤ NN ∧ Hid (eH.AQ (Xf ns) Yf w1 wr ss ns (.slice a0 NN c0) (.slice ma i mc) ms i)) (fun _ u _ _ _ => NN - (intOf u).toNat)
      case atStart => exact ⟨0, none, 0, [], rfl, rfl, Nat.zero_le _, Q0⟩
      case round =>
        clear Q0
        obtain ⟨i, ma, mc, ms, rfl, rfl, hi, HQ⟩ := hrel
        by_cases hlt : i < NN
        · obtain ⟨s, n, hs, hns, hnb⟩ := HP.out i hlt
          obtain ⟨w2, hw2⟩ : ∃ w2, w2 = wr := ⟨_, rfl⟩
          subst hw2
          have hX2 := HQ.out.left i s n (Nat.le_refl _) hs hns
          rw [Xf_at hns] at hX2
          obtain ⟨sa, sc, hsf, -⟩ := slice_form hX2
          rw [List.length_replicate] at hsf
          obtain ⟨gl, cap, e, hc⟩ := sl_at HQ.out.lrow i (by rw [← HH.out.2.1]; exact hlt)
          rw [← HH.out.2.1] at e
          cases e
          have hcs : w2.cell? ⟨gl, i, none⟩ = some s := by rw [hc, ← List.getElem?_eq_getElem, hs]
          have hsB : ∀ b, s.ownBlock = some b → b < w2.heap.size := fun b hb => row_lt hX2 hb
          have HG := Hid.mk (show GW w2 s n i 0 s w2 from ⟨hX2, by simpa using hX2, .refl _ _, by
            rcases hX2.2 with ⟨h0, h1⟩ | ⟨g, cap, cur, h0, -⟩
            · right; intro b hb; rw [h0] at hb; cases hb
            · left; rw [List.length_replicate] at h0; exact ⟨g, cap, h0, h0⟩⟩)
          have HS := Hid.mk (And.intro hs (And.intro hns hsB))
          have i1 : (i : Int) < (NN : Int) := by omega
          have i2 : 0 ≤ (i : Int) := by omega
          have hwi : IntKind.i64.wrap ((i : Int) + 1) = ((i + 1 : Nat) : Int) := by rw [IntKind.wrap_i64]; omega
          have hwm : IntKind.i64.wrap (-101 - (i : Int)) = -101 - (i : Int) := by rw [IntKind.wrap_i64]; omega
          subst hsf
          clear hs hns hX2 hc hsB
          go_wp2
          go_loopw [7, 8] (fun u7 u8 wr => ∃ (t : Nat) (la : Option Addr) (lc : Nat), u7 = .slice la (n + t) lc ∧ u8 = .int .i64 t ∧ t ≤ 64 ∧ Hid (GW w2 (.slice sa n sc) n i t (.slice la (n + t) lc) wr)) (fun _ u _ => 64 - (intOf u).toNat)
          case atStart => exact ⟨0, sa, sc, rfl, rfl, Nat.zero_le _, HG⟩
          case round =>
            clear HG
            obtain ⟨t, la, lc, rfl, rfl, ht, HK⟩ := hrel
            by_cases htl : t < 64
            · obtain ⟨l', W', hap, hgw⟩ := HK.out.step HS.out.2.2 (by omega)
              have t1 : (t : Int) < 64 := by omega
              have hwt : IntKind.i64.wrap ((t : Int) + 1) = ((t + 1 : Nat) : Int) := by rw [IntKind.wrap_i64]; omega
              obtain ⟨l2a, l2c, hl2, -⟩ := slice_form hgw.2.1
              have hlen : (List.replicate n (mA i) ++ List.replicate (t + 1) (mB i)).length = n + (t + 1) := by simp
              rw [hlen] at hl2
              subst hl2
              have HA := Hid.mk hap
              have HN2 := Hid.mk hgw
              clear hap hgw hlen
              go_wp2_with (first
                | (at_builtin; refine wpList_append_eq rfl _ _ _ _ rfl _ _ _ _ rfl rfl HA.out ?_)
                | go_in)
              exact ⟨⟨t + 1, l2a, l2c, rfl, by push_cast; rfl, htl, HN2⟩, by simp only [intOf]; omega⟩
            · have t1 : ¬ (t : Int) < 64 := by omega
              have ht64 : t = 64 := by omega
              subst ht64
              obtain ⟨k1, k2, k3, k4⟩ := HK.out
              have hml := HQ.out.ml
              have hmr : wr.ownsRow 0 32 1 (.slice ma ms.length mc) ms.length ms := by
                have := row_kept HQ.out.mrow k3 (fun k hk e => El.two eH_ok (E := eH) HQ.out.mrow (HQ.out.left i _ n (Nat.le_refl _) HS.out.1 HS.out.2.1) hk e)
                rw [hml]
                rw [hml] at this
                exact this
              obtain ⟨a', c', W', hap, m3, st3, hnew⟩ := El.more eH_ok wr ms ma mc hmr (by omega) (.slice la (n + 64) lc) rfl
              rw [hml] at hap m3 hnew st3
              have hst := HQ.out.step eH_ok HS.out.1 HS.out.2.1 k3 (by rw [Xf_at HS.out.2.1]; exact k1) (by rw [Xf_at HS.out.2.1]; exact k2) (fun b hb => by
                rcases k4 with ⟨g, cap, f1, f2⟩ | f
                · left; rw [f1]; rw [f2] at hb; exact hb
                · exact .inr (f b hb)) m3 st3 hnew
              have HA := Hid.mk hap
              have HN2 := Hid.mk hst
              clear hap hst k1 k2 k3 k4 hmr m3 st3 hnew hml
              go_wp2_with (first
                | (at_builtin; refine wpList_append_eq rfl _ _ _ _ rfl _ _ _ _ rfl rfl HA.out ?_)
                | go_in)
              exact ⟨⟨i + 1, a', c', _, rfl, by push_cast; rfl, hlt, HN2⟩, by simp only [intOf]; omega⟩
        · have i1 : ¬ (i : Int) < (NN : Int) := by omega
          have hie : i = NN := by omega
          subst hie
          obtain ⟨w3, hw3⟩ : ∃ w3, w3 = wr := ⟨_, rfl⟩
          subst hw3
          have HFS := Hid.mk (HST.out.andThen HQ.out.st (fun k _ e => e))
          go_wp2
          go_loopw [9, 10, 11] (fun u9 u10 u11 wr => ∃ j : Nat, u9 = .int .i64 j ∧ j ≤ i ∧ Drew w3 wr) (fun u _ _ _ => i - (intOf u).toNat)
          case atStart => exact ⟨0, rfl, Nat.zero_le _, Drew.refl _⟩
          case round =>
            obtain ⟨j, rfl, hj, hd⟩ := hrel
            obtain ⟨nq, rfl⟩ := hd
            by_cases hjl : j < i
            · obtain ⟨s, n, hs, hns, hnb⟩ := HP.out j hjl
              have hjm : j < ms.length := by rw [HQ.out.ml]; exact hjl
              obtain ⟨d1, d2⟩ := HQ.out.done j s ms[j] n hs (List.getElem?_eq_getElem hjm) hns
              rw [Xf_at hns] at d1 d2
              obtain ⟨gl, cap, e, hc⟩ := sl_at HQ.out.lrow j (by rw [← HH.out.2.1]; exact hjl)
              rw [← HH.out.2.1] at e
              cases e
              have hcs : w3.cell? ⟨gl, j, none⟩ = some s := by rw [hc, ← List.getElem?_eq_getElem, hs]
              have hmrow := HQ.out.mrow
              obtain ⟨gm, capm, em, hcm⟩ := sl_at hmrow j hjm
              rw [HQ.out.ml] at em
              cases em
              obtain ⟨sa, sc, hsf, -⟩ := slice_form d1
              rw [List.length_replicate] at hsf
              obtain ⟨la, lc, hlf, -⟩ := slice_form d2
              have hl64 : (List.replicate n (mA j) ++ Yf j).length = n + 64 := by simp [Yf]
              rw [hl64] at hlf
              have hcm' : w3.cell? ⟨gm, j, none⟩ = some (.slice la (n + 64) lc) := by rw [hcm, hlf]
              subst hsf
              have HD := Hid.mk (And.intro d1 (show eH.Row w3 (.slice la (n + 64) lc) (List.replicate n (mA j) ++ Yf j) from by rw [← hlf]; exact d2))
              have j1 : (j : Int) < (i : Int) := by omega
              have j2 : 0 ≤ (j : Int) := by omega
              have hwj : IntKind.i64.wrap ((j : Int) + 1) = ((j + 1 : Nat) : Int) := by rw [IntKind.wrap_i64]; omega
              have hwa : IntKind.i64.wrap (-1 - (j : Int)) = -1 - (j : Int) := by rw [IntKind.wrap_i64]; omega
              have hwb : IntKind.i64.wrap (-101 - (j : Int)) = -101 - (j : Int) := by rw [IntKind.wrap_i64]; omega
              obtain ⟨n6, hn6⟩ : ∃ n6, n6 = n + 64 := ⟨_, rfl⟩
              rw [← hn6] at hcm' HD
              have HN6 := Hid.mk hn6
              clear d1 d2 hc hcm hlf hl64 hs hns hmrow hn6
              go_wp2
              go_loopw [11] (fun u11 wr => ∃ k : Nat, u11 = .int .i64 k ∧ k ≤ n6 ∧ Drew w3 wr) (fun u _ => n6 - (intOf u).toNat)
              case atStart => exact ⟨0, rfl, Nat.zero_le _, ⟨_, rfl⟩⟩
              case round =>
                obtain ⟨k, rfl, hk, hd⟩ := hrel
                obtain ⟨nq2, rfl⟩ := hd
                have hn6 := HN6.out
                by_cases hkl : k < n6
                · have k1 : (k : Int) < (n6 : Int) := by omega
                  have k2 : 0 ≤ (k : Int) := by omega
                  have hwk : IntKind.i64.wrap ((k : Int) + 1) = ((k + 1 : Nat) : Int) := by rw [IntKind.wrap_i64]; omega
                  obtain ⟨g2, cap2, e2, q0, -, -, -⟩ := ht_at HD.out.2 k (by simp [Yf]; omega)
                  have hl64 : (List.replicate n (mA j) ++ Yf j).length = n6 := by simp [Yf]; omega
                  rw [hl64] at e2
                  cases e2
                  by_cases hkn : k < n
                  · obtain ⟨g1, cap1, e1, p0, -, -, -⟩ := ht_at HD.out.1 k (by simpa using hkn)
                    rw [List.length_replicate] at e1
                    cases e1
                    have hq : (List.replicate n (mA j) ++ Yf j)[k]'(by rw [hl64]; exact hkl) = mA j := by rw [List.getElem_append_left (by simpa using hkn)]; simp
                    rw [hq] at q0
                    have hp : (List.replicate n (mA j))[k]'(by simpa using hkn) = mA j := by simp
                    rw [hp] at p0
                    simp only [mA] at p0 q0
                    have m1 : decide ((k : Int) < (n : Int)) = true := by simp; omega
                    have m2 : decide (k < n) = true := by simp; omega
                    have m3 : decide ((n : Int) ≤ (k : Int)) = false := by simp; omega
                    have m4 : decide (n ≤ k) = false := by simp; omega
                    have m5 : (k : Int) < (n : Int) := by omega
                    clear hn6 hq hp hl64
                    go_wp2
                    exact ⟨⟨k + 1, by push_cast; rfl, hkl, ⟨_, rfl⟩⟩, by simp only [intOf]; omega⟩
                  · have hq : (List.replicate n (mA j) ++ Yf j)[k]'(by rw [hl64]; exact hkl) = mB j := by
                      have hm : (List.replicate n (mA j) ++ Yf j)[k]? = some (mB j) := by
                        rw [List.getElem?_append_right (by rw [List.length_replicate]; omega)]
                        unfold Yf
                        rw [List.getElem?_replicate, if_pos (by rw [List.length_replicate]; omega)]
                      exact (List.getElem?_eq_some_iff.1 hm).2
                    rw [hq] at q0
                    simp only [mB] at q0
                    have m1 : decide ((k : Int) < (n : Int)) = false := by simp; omega
                    have m2 : decide (k < n) = false := by simp; omega
                    have m3 : decide ((n : Int) ≤ (k : Int)) = true := by simp; omega
                    have m4 : decide (n ≤ k) = true := by simp; omega
                    clear hn6 hq hl64
                    go_wp2
                    exact ⟨⟨k + 1, by push_cast; rfl, hkl, ⟨_, rfl⟩⟩, by simp only [intOf]; omega⟩
                · have k1 : ¬ (k : Int) < (n6 : Int) := by omega
                  clear hn6
                  go_wp2
                  exact ⟨⟨j + 1, by push_cast; rfl, hjl, ⟨_, rfl⟩⟩, by simp only [intOf]; omega⟩
            · have j1 : ¬ (j : Int) < (i : Int) := by omega
              go_wp2
              go_ret
              exact ⟨rfl, HFS.out.andThen (Stay.below (F := fun _ => False) (Drew.below (show Drew w3 (w3.drewN nq) from ⟨nq, rfl⟩) _)) (fun _ _ e => e.elim)⟩
end Go.Proofs.YtnnbcdfpbdmgdaaDoor
set_option linter.unusedVariables false
set_option linter.unusedSimpArgs false
namespace Go.Proofs.YtnnbcdfpbdmgdaaDoor
open Go.RowKit Go.Maps Go.Sort Go.Proofs.BitMath Go.Proofs.TreeMath
theorem row_mono' {w : World} {B B' e sz m : Nat} {v : Value} {xs : List Value} (h : w.ownsRow B e sz v m xs) (hB : B' ≤ B) : w.ownsRow B' e sz v m xs := by
  refine ⟨h.1, ?_⟩
  rcases h.2 with h2 | ⟨g, cap, cur, h2, h3, h4⟩
  · exact .inl h2
  · exact .inr ⟨g, cap, cur, h2, Nat.le_trans hB h3, h4⟩
/-- What the two calls leave. -/
def Step4 {n : Nat} (W0 wr w2 : World) (t wd : Nat) (T : List (Nd (Cd n))) (bs : List Nat) (ms : List (Option Nat)) (t' : Nat) (v : Value) (r1 r2 : Ending) : Prop :=
  ∃ (T' : List (Nd (Cd n))) (bs' : List Nat) (ms' : List (Option Nat)) (x' : Num) (v' : Value) (y : Bool) (e a b c d : Int) (L : List (Nat × Cd n)) (va vb : Option Addr) (ca cb : Nat),
    r1 = .returned (gotV y e (.slice va L.length ca) a b c d) ∧ r2 = .returned (gotV y e (.slice vb L.length cb) a b c d) ∧ w2.ownsRow wr.heap.size 36 3 (.slice va L.length ca) L.length (L.flatMap hV) ∧ HAt w2 vb L ∧ BT W0 w2 t wd T' bs' ms' x' t' v' ∧ T'.length ≤ T.length + 1 ∧ L.length ≤ T.length ∧ (∀ k, TFoot t bs' ms' k → TFoot t bs ms k ∨ wr.heap.size ≤ k) ∧ (∀ k, v'.ownBlock = some k → v.ownBlock = some k ∨ wr.heap.size ≤ k)
set_option maxHeartbeats 4000000 in
theorem step4 {n : Nat} {W0 wr w1 w2 : World} {t wd : Nat} {T : List (Nd (Cd n))} {bs : List Nat} {ms : List (Option Nat)} {x : Num} {t' : Nat} {v : Value} {K N : Int} {s : ByteArray} {r1 r2 : Ending} (h : BT W0 wr t wd T bs ms x t' v) (hd : DoO wr t wd T bs ms x K s N r1 w1) (ht : ToldO W0.heap.size w1 t' wd T v x.looked K s N r2 w2) : Step4 W0 wr w2 t wd T bs ms t' v r1 r2 := by
  have hfr := told_frame ht
  have hdf := do_frame hd
  have hrt1 := rt_do h.ot.tr h.rt hd
  obtain ⟨W1, wa, gb, b1, htr1, hg1, hg2, hc, hst⟩ := hd
  obtain ⟨W2, wb, gb', b2, hrt2, hg1', hg2', hc', hst'⟩ := ht
  have o1 := h.ot.below b1
  have hft : ∀ k, TFoot t bs ms k → k < wr.heap.size := fun k hk => h.ot.tr.lt hk
  have hgW : W0.heap.size ≤ gb := Nat.le_trans h.ot.be.size hg1
  have hs1 : W0.heap.size ≤ w1.heap.size := Nat.le_trans h.ot.be.size hdf.size
  -- the program's tree, behind both
  have over : ∀ {T' : List (Nd (Cd n))} {bs' : List Nat} {ms' : List (Option Nat)} {x' : Num}, OT W0 w1 t wd T' bs' ms' x' → OT W0 w2 t wd T' bs' ms' x' := fun {T' bs' ms' x'} o => by
    refine ⟨o.tr.kept hfr (fun k hk e => ?_), o.own, o.be.trans (hfr.toBelow (fun k hk e => ?_) hs1)⟩
    · rcases e with e | e | e
      · exact BT.ap (W0 := W0) o.tr hrt1 hk (.inl e)
      · exact BT.ap (W0 := W0) o.tr hrt1 hk (.inr e)
      · have := o.tr.lt hk; omega
    · rcases e with e | e | e
      · have := h.own'; omega
      · have := (h.rt.row.lt k e).1; omega
      · omega
  have same : Below W1.heap.size W1 wa → OT W0 w1 t wd T bs ms x := fun b => (o1.below b).boxed (wd1 := W0) (W1 := W0) (fun k hk e => by have := hft k hk; omega) hgW hst
  have moved : ∀ (T' : List (Nd (Cd n))), Moved W1 wa t wd T' bs ms x → ∃ bs' ms' x', OT W0 w1 t wd T' bs' ms' x' ∧ x'.looked = x.looked ∧ ∀ k, TFoot t bs' ms' k → TFoot t bs ms k ∨ wr.heap.size ≤ k := fun T' m => by
    obtain ⟨⟨bs', ms', x', m1, m2, m3⟩, m4⟩ := m
    have hf : ∀ k, TFoot t bs' ms' k → k ≠ gb := fun k hk e => by
      rcases m3 k hk with e2 | e2
      · have := hft k e2; omega
      · omega
    refine ⟨bs', ms', x', OT.boxed (wd1 := W0) (W1 := W0) ⟨m1, fun k hk => ?_, o1.be.trans (m4.toBelow (fun k hk e => by have := h.ot.own k e; omega) o1.be.size)⟩ hf hgW hst, m2, fun k hk => (m3 k hk).imp id (fun e => Nat.le_trans b1.size e)⟩
    rcases m3 k hk with e2 | e2
    · exact h.ot.own k e2
    · exact Nat.le_trans o1.be.size e2
  have hats : ∀ {u : Value} {L : List (Nat × Cd n)}, wa.ownsRow W1.heap.size 36 3 u L.length (L.flatMap hV) → ∃ va vc, u = .slice va L.length vc ∧ w2.ownsRow wr.heap.size 36 3 (.slice va L.length vc) L.length (L.flatMap hV) := fun {u L} hr => by
    have hr' := row_kept hr hst (fun k hk e => by have := (hr.lt k hk).1; omega)
    have hr'' := row_kept hr' hfr (fun k hk e => by
      obtain ⟨cur, hcur⟩ := row_block hr' hk
      rcases e with e | e | e
      · rw [e, hrt1.tree] at hcur; simp at hcur
      · obtain ⟨cur2, hc2⟩ := row_block hrt1.row e
        rw [hc2] at hcur; simp at hcur
      · have := row_lt hr' hk; omega)
    obtain ⟨a, c, e, -⟩ := slice_form hr''
    subst e
    exact ⟨a, c, rfl, row_mono' hr'' b1.size⟩
  -- the document's tree
  have hrl : ∀ k, v.ownBlock = some k → k < w1.heap.size := fun k hk => row_lt hrt1.row hk
  have same' : Drew W2 wb → RT W0.heap.size w2 t' wd T v x.looked := fun d => (hrt2.below (d.below _)).kept hst' (fun k hk e => by
    rcases hk with hk | hk
    · have := hrt1.lt; omega
    · have := hrl k hk; omega)
  have moved' : ∀ (T' : List (Nd (Cd n))), RMoved W0.heap.size W2 wb t' wd T' v x.looked → ∃ v', RT W0.heap.size w2 t' wd T' v' x.looked ∧ ∀ k, v'.ownBlock = some k → v.ownBlock = some k ∨ wr.heap.size ≤ k := fun T' m => by
    obtain ⟨⟨v', m1, m2⟩, m3⟩ := m
    refine ⟨v', m1.kept hst' (fun k hk e => ?_), fun k hk => (m2 k hk).imp id (fun e => Nat.le_trans hdf.size (Nat.le_trans b2.size e))⟩
    rcases hk with hk | hk
    · have := hrt1.lt; omega
    · rcases m2 k hk with e2 | e2
      · have := hrl k e2; omega
      · omega
  have hats' : ∀ {u : Value} {L : List (Nat × Cd n)}, wb.ownsRow W2.heap.size 36 3 u L.length (L.flatMap hV) → ∃ va vc, u = .slice va L.length vc ∧ HAt w2 va L := fun {u L} hr => by
    have hr' := row_kept hr hst' (fun k hk e => by have := (hr.lt k hk).1; omega)
    obtain ⟨a, c, e, -, ha⟩ := HAt.row hr'
    exact ⟨a, c, e, ha⟩
  have srt : ∀ (sn2 : Int), RT W0.heap.size wb t' wd T v sn2 → RT W0.heap.size w2 t' wd T v sn2 := fun sn2 m => m.kept hst' (fun k hk e => by
    rcases hk with hk | hk
    · have := hrt1.lt; omega
    · have := hrl k hk; omega)
  have bt : ∀ {T' : List (Nd (Cd n))} {bs' : List Nat} {ms' : List (Option Nat)} {x' : Num} {v' : Value}, OT W0 w1 t wd T' bs' ms' x' → RT W0.heap.size w2 t' wd T' v' x'.looked → BT W0 w2 t wd T' bs' ms' x' t' v' := fun o r => ⟨over o, r, h.own'⟩
  have wf := h.ot.tr.wf
  have nil : ∀ (T' : List (Nd (Cd n))) (bs' : List Nat) (ms' : List (Option Nat)) (x' : Num) (v' : Value) (y : Bool) (e a b c d : Int), OT W0 w1 t wd T' bs' ms' x' → RT W0.heap.size w2 t' wd T' v' x'.looked → T'.length ≤ T.length + 1 → (∀ k, TFoot t bs' ms' k → TFoot t bs ms k ∨ wr.heap.size ≤ k) → (∀ k, v'.ownBlock = some k → v.ownBlock = some k ∨ wr.heap.size ≤ k) → Step4 W0 wr w2 t wd T bs ms t' v (.returned (gotV y e nilS a b c d)) (.returned (gotV y e nilS a b c d)) := fun T' bs' ms' x' v' y e a b c d o r hl g1 g2 =>
    ⟨T', bs', ms', x', v', y, e, a, b, c, d, [], none, none, 0, 0, rfl, rfl, ⟨rfl, .inl ⟨rfl, rfl⟩⟩, hat_nil _ _, bt o r, hl, Nat.zero_le _, g1, g2⟩
  rcases hc with ⟨rfl, y, e, rfl, ho⟩ | ⟨rfl, y, rfl, ho⟩ | ⟨rfl, y, rfl, hb, hy⟩ | ⟨rfl, u, e, d, rfl, ho, x2, hx2, hd2⟩ | ⟨rfl, u, e, d, rfl, ho, x2, hx2, hd2⟩ | ⟨hK, a, b, c, d, rfl, hb, habcd⟩
  · -- Add
    rcases hc' with ⟨-, y', e', rfl, ho'⟩ | ⟨h', -⟩ | ⟨h', -⟩ | ⟨h', -⟩ | ⟨h', -⟩ | ⟨h', -⟩
    · rcases ho with ⟨n1, n2, n3⟩ | ⟨hs, (⟨n1, n2, n3⟩ | ⟨j, nd, hj, hcd, (⟨hl, n2, n3⟩ | ⟨hl, n2, n3⟩)⟩)⟩
      · rcases ho' with ⟨m1, m2, m3⟩ | ⟨m1, -⟩ | ⟨m1, -⟩
        · cases n2; cases m2
          obtain ⟨bs', ms', x', o, hx, hg⟩ := moved T n3
          exact nil T bs' ms' x' v _ _ _ _ _ _ o (by rw [hx]; exact same' m3) (by omega) hg (fun k hk => .inl hk)
        · exact absurd m1 n1
        · exact absurd m1 n1
      · rcases ho' with ⟨m1, m2, m3⟩ | ⟨m1, m2, m3, m4⟩ | ⟨-, j, nd, m1, m2, -⟩
        · exact absurd hs m1
        · cases n2; cases m3
          obtain ⟨bs', ms', x', o, hx, hg⟩ := moved _ n3
          obtain ⟨v', r, hg'⟩ := moved' _ m4
          exact nil _ bs' ms' x' v' _ _ _ _ _ _ o (by rw [hx]; exact r) (by rw [hang_len wf]; exact Nat.le_refl _) hg hg'
        · exact absurd (Subtype.ext m2) (n1 j nd m1)
      · rcases ho' with ⟨m1, m2, m3⟩ | ⟨m1, m2, m3, m4⟩ | ⟨-, j2, nd2, m1, m2, m3, m4⟩
        · exact absurd hs m1
        · exact absurd (by rw [hcd]) (m2 j nd hj)
        · have ej : j2 = j := wf.codes j2 j nd2 nd m1 hj (Subtype.ext (by rw [hcd]; exact m2))
          subst ej
          rw [hj] at m1
          cases m1
          rw [hl] at m3
          cases n2; cases m3
          obtain ⟨bs', ms', x', o, hx, hg⟩ := moved _ n3
          obtain ⟨v', r, hg'⟩ := moved' _ m4
          rw [setLive_same hj hl] at r
          exact nil _ bs' ms' x' v' _ _ _ _ _ _ o (by rw [hx]; exact r) (by omega) hg hg'
      · rcases ho' with ⟨m1, m2, m3⟩ | ⟨m1, m2, m3, m4⟩ | ⟨-, j2, nd2, m1, m2, m3, m4⟩
        · exact absurd hs m1
        · exact absurd (by rw [hcd]) (m2 j nd hj)
        · have ej : j2 = j := wf.codes j2 j nd2 nd m1 hj (Subtype.ext (by rw [hcd]; exact m2))
          subst ej
          rw [hj] at m1
          cases m1
          rw [hl] at m3
          cases n2; cases m3
          obtain ⟨bs', ms', x', o, hx, hg⟩ := moved _ n3
          obtain ⟨v', r, hg'⟩ := moved' _ m4
          exact nil _ bs' ms' x' v' _ _ _ _ _ _ o (by rw [hx]; exact r) (by rw [setLive_len]; omega) hg hg'
    all_goals (exfalso; omega)
  · -- Drop
    rcases hc' with ⟨h', -⟩ | ⟨-, y', rfl, ho'⟩ | ⟨h', -⟩ | ⟨h', -⟩ | ⟨h', -⟩ | ⟨h', -⟩
    · exfalso; omega
    · rcases ho with ⟨n0, n2, n3⟩ | ⟨j, nd, hj, hcd, hl, n2, n3⟩
      · rcases ho' with ⟨-, m2, m3⟩ | ⟨j2, nd2, m1, m2, m3, -⟩
        · cases n2; cases m2
          obtain ⟨bs', ms', x', o, hx, hg⟩ := moved _ n3
          exact nil T bs' ms' x' v _ _ _ _ _ _ o (by rw [hx]; exact same' m3) (by omega) hg (fun k hk => .inl hk)
        · exact absurd m2 (n0 _ (mem_lives.2 ⟨j2, nd2, m1, m3, rfl⟩))
      · rcases ho' with ⟨m0, -⟩ | ⟨j2, nd2, m1, m2, m3, m4, m5⟩
        · exact absurd hcd (m0 _ (mem_lives.2 ⟨j, nd, hj, hl, rfl⟩))
        · have ej : j2 = j := wf.codes j2 j nd2 nd m1 hj (Subtype.ext (by rw [m2, hcd]))
          subst ej
          cases n2; cases m4
          have hll := lives_len T j2 nd false hj
          have h1 := h.ot.tr.live
          have h2 := h.ot.tr.all
          simp [hl] at hll
          rcases n3 with ⟨hdd, n4⟩ | ⟨hdd, cs, p1, p2, n4⟩
          · rcases m5 with ⟨-, m6⟩ | ⟨hee, -⟩
            · obtain ⟨bs', ms', x', o, hx, hg⟩ := moved _ n4
              obtain ⟨v', r, hg'⟩ := moved' _ m6
              exact nil _ bs' ms' x' v' _ _ _ _ _ _ o (by rw [hx]; exact r) (by rw [setLive_len]; omega) hg hg'
            · exfalso; omega
          · rcases m5 with ⟨hee, -⟩ | ⟨-, cs', p1', p2', m6⟩
            · exfalso; omega
            · obtain rfl := rise_one p1 p1' p2 p2'
              obtain ⟨bs', ms', x', o, hx, hg⟩ := moved _ n4
              obtain ⟨v', r, hg'⟩ := moved' _ m6
              refine nil _ bs' ms' x' v' _ _ _ _ _ _ o (by rw [hx]; exact r) ?_ hg hg'
              have hnd : cs.Nodup := p1.nodup_iff.2 (wf.setLive j2 false).lives_nodup
              obtain ⟨-, -, w3⟩ := hangs_wf (d := dC) (fun a b => dC_zero a b) cs [] (WF.nil _) (by simpa using hnd)
              have hcl := p1.length_eq
              have h6 : (hangs dC [] cs).length = cs.length := by simpa using w3
              omega
    all_goals (exfalso; omega)
  · -- Has
    rcases hc' with ⟨h', -⟩ | ⟨h', -⟩ | ⟨-, y', rfl, hb', hy'⟩ | ⟨h', -⟩ | ⟨h', -⟩ | ⟨h', -⟩
    · exfalso; omega
    · exfalso; omega
    · obtain rfl : y = y' := by
        cases y <;> cases y'
        · rfl
        · exact absurd (hy.2 (hy'.1 rfl)) (by decide)
        · exact absurd (hy'.2 (hy.1 rfl)) (by decide)
        · rfl
      exact nil T bs ms x v _ _ _ _ _ _ (same hb) (same' hb') (by omega) (fun k hk => .inl hk) (fun k hk => .inl hk)
    all_goals (exfalso; omega)
  · -- Within
    rcases hc' with ⟨h', -⟩ | ⟨h', -⟩ | ⟨h', -⟩ | ⟨-, u', e', d', rfl, ho', hx2'⟩ | ⟨h', -⟩ | ⟨h', -⟩
    · exfalso; omega
    · exfalso; omega
    · exfalso; omega
    · rcases ho with ⟨n1, n2, n3⟩ | ⟨n0, n1, n2, n3⟩ | ⟨hs, fv, nv, n0, n1, n2, sr⟩
      · rcases ho' with ⟨-, m2, m3⟩ | ⟨m1, -⟩ | ⟨m1, -⟩
        · cases n2; cases m2
          have e1 := hx2.look_one (htr1.below n3)
          have e2 := hx2'.seen_one (hrt2.below (m3.below _))
          rw [← hd2, e1, e2]
          exact nil T bs ms x v _ _ _ _ _ _ (same n3) (same' m3) (by omega) (fun k hk => .inl hk) (fun k hk => .inl hk)
        · exact absurd m1 n1
        · exact absurd m1 n1
      · rcases ho' with ⟨m1, -⟩ | ⟨-, -, m2, m3⟩ | ⟨-, -, -, m1, m2, -⟩
        · exact absurd n0 m1
        · cases n2; cases m2
          have e1 := hx2.look_one (htr1.below n3)
          have e2 := hx2'.seen_one (hrt2.below (m3.below _))
          rw [← hd2, e1, e2]
          exact nil T bs ms x v _ _ _ _ _ _ (same n3) (same' m3) (by omega) (fun k hk => .inl hk) (fun k hk => .inl hk)
        · exact absurd ⟨m1, m2⟩ n1
      · rcases ho' with ⟨m1, -⟩ | ⟨-, m1, -⟩ | ⟨hs', fv', nv', m0, m1, m2, sr'⟩
        · exact absurd hs m1
        · exact absurd ⟨n0, n1⟩ m1
        · cases n2; cases m2
          obtain ⟨V, hV, hR⟩ := sr.run
          obtain ⟨V', hV', hR'⟩ := sr'.run
          obtain rfl := run_one hR hR'
          have e1 := hx2.look_one sr.tr
          have e2 := hx2'.seen_one sr'.rt
          obtain ⟨va, vc, hva, ha⟩ := hats sr.row
          obtain ⟨vb, vd, hvb, hb⟩ := hats' sr'.row
          subst hva hvb
          have e3 : d' = d := by rw [e2, ← hd2, e1, hV, hV']
          subst e3
          have o := (o1.srch sr).boxed (wd1 := W0) (W1 := W0) (fun k hk e => by have := hft k hk; omega) hgW hst
          exact ⟨T, bs, ms, _, v, false, 0, 0, 0, 0, _, _, va, vb, vc, vd, rfl, rfl, ha, hb, bt o (by show RT _ _ _ _ _ _ (lkN x.looked nv); rw [hV, ← hV']; exact srt _ sr'.rt), by omega, Nat.le_trans sr.ge sr.le, fun k hk => .inl hk, fun k hk => .inl hk⟩
    all_goals (exfalso; omega)
  · -- Nearest
    rcases hc' with ⟨h', -⟩ | ⟨h', -⟩ | ⟨h', -⟩ | ⟨h', -⟩ | ⟨-, u', e', d', rfl, ho', hx2'⟩ | ⟨h', -⟩
    · exfalso; omega
    · exfalso; omega
    · exfalso; omega
    · exfalso; omega
    · rcases ho with ⟨n1, n2, n3⟩ | ⟨n0, n1, n2, n3⟩ | ⟨n0, n1, n2, n3⟩ | ⟨hs, fv, nv, n0, n1, n2, sr⟩
      · rcases ho' with ⟨-, m2, m3⟩ | ⟨m1, -⟩ | ⟨m1, -⟩ | ⟨m1, -⟩
        · cases n2; cases m2
          have e1 := hx2.look_one (htr1.below n3)
          have e2 := hx2'.seen_one (hrt2.below (m3.below _))
          rw [← hd2, e1, e2]
          exact nil T bs ms x v _ _ _ _ _ _ (same n3) (same' m3) (by omega) (fun k hk => .inl hk) (fun k hk => .inl hk)
        · exact absurd m1 n1
        · exact absurd m1 n1
        · exact absurd m1 n1
      · rcases ho' with ⟨m1, -⟩ | ⟨-, -, m2, m3⟩ | ⟨-, m1, -⟩ | ⟨-, -, -, m1, m2, -⟩
        · exact absurd n0 m1
        · cases n2; cases m2
          have e1 := hx2.look_one (htr1.below n3)
          have e2 := hx2'.seen_one (hrt2.below (m3.below _))
          rw [← hd2, e1, e2]
          exact nil T bs ms x v _ _ _ _ _ _ (same n3) (same' m3) (by omega) (fun k hk => .inl hk) (fun k hk => .inl hk)
        · exact absurd ⟨by omega, by omega⟩ n1
        · exact absurd ⟨by omega, m2⟩ n1
      · rcases ho' with ⟨m1, -⟩ | ⟨-, m1, -⟩ | ⟨-, -, m2, m3⟩ | ⟨-, -, -, m1, m2, -⟩
        · exact absurd n0 m1
        · exact absurd ⟨by omega, by omega⟩ m1
        · cases n2; cases m2
          have e1 := hx2.look_one (htr1.below n3)
          have e2 := hx2'.seen_one (hrt2.below (m3.below _))
          rw [← hd2, e1, e2]
          exact nil T bs ms x v _ _ _ _ _ _ (same n3) (same' m3) (by omega) (fun k hk => .inl hk) (fun k hk => .inl hk)
        · exfalso; omega
      · rcases ho' with ⟨m1, -⟩ | ⟨-, m1, -⟩ | ⟨-, m1, -⟩ | ⟨hs', fv', nv', m0, m1, m2, sr'⟩
        · exact absurd hs m1
        · exact absurd ⟨by omega, n1⟩ m1
        · exfalso; omega
        · cases n2; cases m2
          obtain ⟨V, hV, hR⟩ := sr.run
          obtain ⟨V', hV', hR'⟩ := sr'.run
          obtain rfl := run_one hR hR'
          have e1 := hx2.look_one sr.tr
          have e2 := hx2'.seen_one sr'.rt
          obtain ⟨va, vc, hva, ha⟩ := hats sr.row
          obtain ⟨vb, vd, hvb, hb⟩ := hats' sr'.row
          subst hva hvb
          have e3 : d' = d := by rw [e2, ← hd2, e1, hV, hV']
          subst e3
          have o := (o1.srch sr).boxed (wd1 := W0) (W1 := W0) (fun k hk e => by have := hft k hk; omega) hgW hst
          exact ⟨T, bs, ms, _, v, false, 0, 0, 0, 0, _, _, va, vb, vc, vd, rfl, rfl, ha, hb, bt o (by show RT _ _ _ _ _ _ (lkN x.looked nv); rw [hV, ← hV']; exact srt _ sr'.rt), by omega, Nat.le_trans sr.ge sr.le, fun k hk => .inl hk, fun k hk => .inl hk⟩
    all_goals (exfalso; omega)
  · -- Tell, and the others
    rcases hc' with ⟨h', -⟩ | ⟨h', -⟩ | ⟨h', -⟩ | ⟨h', -⟩ | ⟨h', -⟩ | ⟨-, a', b', c', d', rfl, hb', habcd'⟩
    · exfalso; omega
    · exfalso; omega
    · exfalso; omega
    · exfalso; omega
    · exfalso; omega
    · rcases habcd with ⟨k6, rfl, rfl, rfl, rfl⟩ | ⟨k6, rfl, rfl, rfl, rfl⟩
      · rcases habcd' with ⟨-, rfl, rfl, ⟨kd, rfl, hkd⟩, rfl⟩ | ⟨k6', -⟩
        · rw [h.ot.tr.live, h.ot.tr.depO.one hkd]
          exact nil T bs ms x v _ _ _ _ _ _ (same hb) (same' hb') (by omega) (fun k hk => .inl hk) (fun k hk => .inl hk)
        · exact absurd k6 k6'
      · rcases habcd' with ⟨k6', -⟩ | ⟨-, rfl, rfl, rfl, rfl⟩
        · exact absurd k6' k6
        · exact nil T bs ms x v _ _ _ _ _ _ (same hb) (same' hb') (by omega) (fun k hk => .inl hk) (fun k hk => .inl hk)
/-- What a step may write. -/
theorem step_frame {n : Nat} {W0 wr w1 w2 : World} {t wd : Nat} {T : List (Nd (Cd n))} {bs : List Nat} {ms : List (Option Nat)} {x : Num} {t' : Nat} {v : Value} {K N : Int} {s : ByteArray} {r1 r2 : Ending} (hd : DoO wr t wd T bs ms x K s N r1 w1) (ht : ToldO W0.heap.size w1 t' wd T v x.looked K s N r2 w2) : Stay (fun k => TFoot t bs ms k ∨ k = t' ∨ v.ownBlock = some k ∨ wr.heap.size ≤ k) wr w2 := by
  have f1 := do_frame hd
  have f2 := told_frame ht
  exact (f1.mono (fun k _ e => e.elim .inl (fun e => .inr (.inr (.inr e))))).andThen f2 (fun k hk e => by
    rcases e with e | e | e
    · exact .inr (.inl e)
    · exact .inr (.inr (.inl e))
    · have := f1.size; omega)
/-- A block of another type is none of the trees'. -/
theorem BT.other {n : Nat} {W0 wr : World} {t wd : Nat} {T : List (Nd (Cd n))} {bs : List Nat} {ms : List (Option Nat)} {x : Num} {t' : Nat} {v : Value} (h : BT W0 wr t wd T bs ms x t' v) {k : Nat} {cs : Array Value} {ty : TypeId} {fr : Nat × Nat} (hk : wr.heap[k]? = some (.cells cs ty fr)) (h1 : ty ≠ 64) (h2 : ty ≠ 73) (h3 : ty ≠ 83) (h4 : ty ≠ 104) : ¬ (TFoot t bs ms k ∨ k = t' ∨ v.ownBlock = some k ∨ wr.heap.size ≤ k) := fun e => by
  rcases e with e | e | e | e
  · rcases h.ot.tr.kind e hk with e2 | e2
    · exact h1 e2
    · exact h2 e2
  · rw [e, h.rt.tree] at hk; simp at hk; exact h3 hk.2.1.symm
  · obtain ⟨cur, hc⟩ := row_block h.rt.row e
    rw [hc] at hk; simp at hk; exact h4 hk.2.1.symm
  · have := (Array.getElem?_eq_some_iff.1 hk).1; omega
theorem BT.blk {n : Nat} {W0 wr w2 : World} {t wd : Nat} {T : List (Nd (Cd n))} {bs : List Nat} {ms : List (Option Nat)} {x : Num} {t' : Nat} {v : Value} (h : BT W0 wr t wd T bs ms x t' v) (fr : Stay (fun k => TFoot t bs ms k ∨ k = t' ∨ v.ownBlock = some k ∨ wr.heap.size ≤ k) wr w2) {k : Nat} {cs : Array Value} {ty : TypeId} {f : Nat × Nat} (hk : wr.heap[k]? = some (.cells cs ty f)) (h1 : ty ≠ 64) (h2 : ty ≠ 73) (h3 : ty ≠ 83) (h4 : ty ≠ 104) : w2.heap[k]? = some (.cells cs ty f) :=
  (fr.block k (Array.getElem?_eq_some_iff.1 hk).1 (h.other hk h1 h2 h3 h4)).trans hk
/-- The lists that were told: each lies by itself. -/
structure LG (W0 wr : World) (lv : Value) (ss : List Value) (ns : List Nat) : Prop where
  len : ns.length = ss.length
  row : wr.ownsRow W0.heap.size 32 1 lv ss.length ss
  each : ∀ (j : Nat) (s : Value) (n : Nat), ss[j]? = some s → ns[j]? = some n → ∃ X : List Ht, X.length = n ∧ wr.ownsRow W0.heap.size 36 3 s X.length (X.flatMap htC)
  apart : ∀ (j l : Nat) (s u : Value) (b : Nat), ss[j]? = some s → ss[l]? = some u → s.ownBlock = some b → u.ownBlock = some b → j = l
theorem LG.am {W0 w : World} {lv : Value} {ss : List Value} {ns : List Nat} (h : LG W0 w lv ss ns) : AM w w lv ss ns 0 :=
  ⟨h.len, row_mono' h.row (Nat.zero_le _), h.apart, fun j s n hj => by omega, fun j s n _ hs hn => by
    obtain ⟨X, h1, h2⟩ := h.each j s n hs hn
    exact ⟨X, h1, row_mono' h2 (Nat.zero_le _)⟩, .refl _ _⟩
theorem LG.kept {W0 w w' : World} {lv : Value} {ss : List Value} {ns : List Nat} {F : Nat → Prop} (h : LG W0 w lv ss ns) (s : Stay F w w') (h1 : ∀ k, lv.ownBlock = some k → ¬ F k) (h2 : ∀ (j : Nat) (u : Value) k, ss[j]? = some u → u.ownBlock = some k → ¬ F k) : LG W0 w' lv ss ns :=
  ⟨h.len, row_kept h.row s h1, fun j u n hu hn => by
    obtain ⟨X, x1, x2⟩ := h.each j u n hu hn
    exact ⟨X, x1, row_kept x2 s (fun k hk => h2 j u k hu hk)⟩, h.apart⟩
theorem LG.step {n : Nat} {W0 wr w2 : World} {t wd : Nat} {T : List (Nd (Cd n))} {bs : List Nat} {ms : List (Option Nat)} {x : Num} {t' : Nat} {v : Value} {lv : Value} {ss : List Value} {ns : List Nat} (h : BT W0 wr t wd T bs ms x t' v) (g : LG W0 wr lv ss ns) (fr : Stay (fun k => TFoot t bs ms k ∨ k = t' ∨ v.ownBlock = some k ∨ wr.heap.size ≤ k) wr w2) : LG W0 w2 lv ss ns :=
  g.kept fr (fun k hk => by
    obtain ⟨cur, hc⟩ := row_block g.row hk
    exact h.other hc (by decide) (by decide) (by decide) (by decide)) (fun j u k hu hk => by
    have hj : j < ns.length := by rw [g.len]; exact (List.getElem?_eq_some_iff.1 hu).1
    obtain ⟨X, x1, x2⟩ := g.each j u _ hu (List.getElem?_eq_getElem hj)
    obtain ⟨cur, hc⟩ := row_block x2 hk
    exact h.other hc (by decide) (by decide) (by decide) (by decide))
/-- A list more. -/
theorem LG.more {W0 w : World} {a : Option Addr} {c : Nat} {ss : List Value} {ns : List Nat} {B : Nat} (g : LG W0 w (.slice a ss.length c) ss ns) (hl : ss.length ≤ 2097152) {l : Value} {X : List Ht} (hB : W0.heap.size ≤ B) (hr : w.ownsRow B 36 3 l X.length (X.flatMap htC)) (hnew : ∀ (j : Nat) (u : Value) b, ss[j]? = some u → u.ownBlock = some b → b < B) (hW : W0.heap.size ≤ w.heap.size) :
    ∃ a' c' w', (Builtin.append_ #[57, 57] 57 #[.slice a ss.length c, .slice (some ⟨w.heap.size, 0, none⟩) 1 1]).run Tryd.prog (w.alloc (.cells #[l] 32)) = .ok (.slice a' (ss.length + 1) c') w' ∧ LG W0 w' (.slice a' (ss.length + 1) c') (ss ++ [l]) (ns ++ [X.length]) ∧ Stay (fun k => (Value.slice a ss.length c).ownBlock = some k) w w' := by
  obtain ⟨va, vc, hlf, -⟩ := slice_form hr
  obtain ⟨a', c', w', hap, m3, st, hloc⟩ := El.more eH_ok w ss a c (row_mono' g.row (Nat.zero_le _)) hl l (by rw [hlf]; rfl)
  have hls := slice_form m3
  have eachk : ∀ {u : Value} {Y : List Ht}, w.ownsRow W0.heap.size 36 3 u Y.length (Y.flatMap htC) → w'.ownsRow W0.heap.size 36 3 u Y.length (Y.flatMap htC) := fun {u Y} hu => row_kept hu st (fun k hk e => by
    obtain ⟨c1, e1⟩ := row_block g.row e
    obtain ⟨c2, e2⟩ := row_block hu hk
    rw [e1] at e2; simp at e2)
  refine ⟨a', c', w', hap, ⟨by simp [g.len], ?_, fun j s n hs hn => ?_, fun j l' s u b hs hu hb hb' => ?_⟩, st⟩
  · have hm : w'.ownsRow 0 32 1 (.slice a' (ss.length + 1) c') (ss ++ [l]).length (ss ++ [l]) := m3
    refine ⟨hm.1, ?_⟩
    rcases hm.2 with h2 | ⟨g2, cap, cur, h2, h3, h4⟩
    · exact .inl h2
    · refine .inr ⟨g2, cap, cur, h2, ?_, h4⟩
      have hob : (Value.slice a' (ss.length + 1) c').ownBlock = some g2 := by rw [h2]; rfl
      rcases hloc g2 hob with e | e
      · exact (g.row.lt g2 e).1
      · omega
  · rcases Nat.lt_or_ge j ss.length with hlt | hge
    · rw [List.getElem?_append_left hlt] at hs
      rw [List.getElem?_append_left (by rw [g.len]; exact hlt)] at hn
      obtain ⟨Y, y1, y2⟩ := g.each j s n hs hn
      exact ⟨Y, y1, eachk y2⟩
    · have hj : j = ss.length := by have := (List.getElem?_eq_some_iff.1 hs).1; simp at this; omega
      subst hj
      rw [List.getElem?_append_right (Nat.le_refl _)] at hs
      rw [List.getElem?_append_right (by rw [g.len]; exact Nat.le_refl _)] at hn
      simp [g.len] at hs hn
      subst hs
      exact ⟨X, hn, eachk (row_mono' hr hB)⟩
  · have key : ∀ (j l' : Nat) (s u : Value), (ss ++ [l])[j]? = some s → (ss ++ [l])[l']? = some u → s.ownBlock = some b → u.ownBlock = some b → j ≤ l' → j = l' := fun j l' s u hs hu hb hb' hle => by
      rcases Nat.lt_or_ge l' ss.length with hlt | hge
      · rw [List.getElem?_append_left hlt] at hu
        rw [List.getElem?_append_left (by omega)] at hs
        exact g.apart j l' s u b hs hu hb hb'
      · have hj : l' = ss.length := by have := (List.getElem?_eq_some_iff.1 hu).1; simp at this; omega
        subst hj
        rcases Nat.lt_or_ge j ss.length with hlt | hge2
        · rw [List.getElem?_append_left hlt] at hs
          rw [List.getElem?_append_right (Nat.le_refl _)] at hu
          simp at hu
          subst hu
          have h1 := hnew j s b hs hb
          have h2 := (hr.lt b hb').1
          omega
        · omega
    rcases Nat.le_total j l' with h | h
    · exact key j l' s u hs hu hb hb' h
    · exact (key l' j u s hu hs hb' hb h).symm
theorem toHt {n : Nat} (L : List (Nat × Cd n)) : L.flatMap hV = (L.map (fun y => ((y.1 : Int), (0 : Int), y.2.1))).flatMap htC := by
  rw [List.flatMap_map]
  rfl
end Go.Proofs.YtnnbcdfpbdmgdaaDoor
set_option linter.unusedVariables false
set_option linter.unusedSimpArgs false
namespace Go.Proofs.YtnnbcdfpbdmgdaaDoor
open Go.RowKit Go.Maps Go.Sort Go.Proofs.BitMath Go.Proofs.TreeMath
theorem BT.kept' {n : Nat} {W0 wr w' : World} {t wd : Nat} {T : List (Nd (Cd n))} {bs : List Nat} {ms : List (Option Nat)} {x : Num} {t' : Nat} {v : Value} {F : Nat → Prop} (h : BT W0 wr t wd T bs ms x t' v) (s : Stay F wr w') (hF : ∀ k, F k → ¬ (TFoot t bs ms k ∨ k = t' ∨ v.ownBlock = some k) ∧ W0.heap.size ≤ k) : BT W0 w' t wd T bs ms x t' v :=
  ⟨⟨h.ot.tr.kept s (fun k hk e => (hF k e).1 (.inl hk)), h.ot.own, h.ot.be.trans (s.toBelow (fun k hk e => by have := (hF k e).2; omega) h.ot.be.size)⟩, h.rt.kept s (fun k hk e => (hF k e).1 (.inr hk)), h.own'⟩
theorem DoO.alloc {n : Nat} {wr W' : World} {t wd : Nat} {T : List (Nd (Cd n))} {bs : List Nat} {ms : List (Option Nat)} {x : Num} {K N : Int} {s : ByteArray} {r : Ending} (hd : DoO wr t wd T bs ms x K s N r W') (o : Obj) : DoO wr t wd T bs ms x K s N r (W'.alloc o) := by
  obtain ⟨W1, w1, gb, b1, htr1, hg1, hg2, hc, hst⟩ := hd
  exact ⟨W1, w1, gb, b1, htr1, hg1, hg2, hc, hst.alloc o⟩
theorem ToldO.alloc {n : Nat} {B : Nat} {w W' : World} {t wd : Nat} {T : List (Nd (Cd n))} {v : Value} {sn : Int} {K N : Int} {s : ByteArray} {r : Ending} (ht : ToldO B w t wd T v sn K s N r W') (o : Obj) : ToldO B w t wd T v sn K s N r (W'.alloc o) := by
  obtain ⟨W1, w1, gb, b1, hrt1, hg1, hg2, hc, hst⟩ := ht
  exact ⟨W1, w1, gb, b1, hrt1, hg1, hg2, hc, hst.alloc o⟩
/-- The ten questions. -/
def aks (qs z : ByteArray) (rr kk w8 : Int) : List Op3 := [(4, qs, rr), (4, qs, rr), (4, z, w8), (4, z, w8), (4, qs, rr), (5, qs, kk), (5, qs, kk), (5, z, 3), (5, z, 3), (5, qs, kk)]
def arr30 (qs z : ByteArray) (rr kk w8 : Int) : Array Value := #[.int .i64 4, .string qs, .int .i64 rr, .int .i64 4, .string qs, .int .i64 rr, .int .i64 4, .string z, .int .i64 w8, .int .i64 4, .string z, .int .i64 w8, .int .i64 4, .string qs, .int .i64 rr, .int .i64 5, .string qs, .int .i64 kk, .int .i64 5, .string qs, .int .i64 kk, .int .i64 5, .string z, .int .i64 3, .int .i64 5, .string z, .int .i64 3, .int .i64 5, .string qs, .int .i64 kk]
theorem ask_at {w : World} {ga : Nat} {qs z : ByteArray} {rr kk w8 : Int} (h : w.heap[ga]? = some (.cells (arr30 qs z rr kk w8) 40 (0, 0))) (i : Nat) (hi : i < 10) : ∃ (K : Int) (s : ByteArray) (N : Int), w.cell? ⟨ga, i * 3, none⟩ = some (.int .i64 K) ∧ w.cell? ⟨ga, i * 3 + 1, none⟩ = some (.string s) ∧ w.cell? ⟨ga, i * 3 + 2, none⟩ = some (.int .i64 N) ∧ (aks qs z rr kk w8)[i]? = some (K, s, N) := by
  have hc : ∀ j, w.cell? ⟨ga, j, none⟩ = (arr30 qs z rr kk w8)[j]? := fun j => by simp [World.cell?, h]
  match i, hi with
  | 0, _ => exact ⟨4, qs, rr, by rw [hc]; rfl, by rw [hc]; rfl, by rw [hc]; rfl, rfl⟩
  | 1, _ => exact ⟨4, qs, rr, by rw [hc]; rfl, by rw [hc]; rfl, by rw [hc]; rfl, rfl⟩
  | 2, _ => exact ⟨4, z, w8, by rw [hc]; rfl, by rw [hc]; rfl, by rw [hc]; rfl, rfl⟩
  | 3, _ => exact ⟨4, z, w8, by rw [hc]; rfl, by rw [hc]; rfl, by rw [hc]; rfl, rfl⟩
  | 4, _ => exact ⟨4, qs, rr, by rw [hc]; rfl, by rw [hc]; rfl, by rw [hc]; rfl, rfl⟩
  | 5, _ => exact ⟨5, qs, kk, by rw [hc]; rfl, by rw [hc]; rfl, by rw [hc]; rfl, rfl⟩
  | 6, _ => exact ⟨5, qs, kk, by rw [hc]; rfl, by rw [hc]; rfl, by rw [hc]; rfl, rfl⟩
  | 7, _ => exact ⟨5, z, 3, by rw [hc]; rfl, by rw [hc]; rfl, by rw [hc]; rfl, rfl⟩
  | 8, _ => exact ⟨5, z, 3, by rw [hc]; rfl, by rw [hc]; rfl, by rw [hc]; rfl, rfl⟩
  | 9, _ => exact ⟨5, qs, kk, by rw [hc]; rfl, by rw [hc]; rfl, by rw [hc]; rfl, rfl⟩
theorem ask_same {w w' : World} {ga : Nat} {qs z : ByteArray} {rr kk w8 : Int} (h : w.heap[ga]? = some (.cells (arr30 qs z rr kk w8) 40 (0, 0))) (h' : w'.heap[ga]? = some (.cells (arr30 qs z rr kk w8) 40 (0, 0))) (j : Nat) : w'.cell? ⟨ga, j, none⟩ = w.cell? ⟨ga, j, none⟩ := by simp [World.cell?, h, h']
/-- While the ten are asked. -/
structure KI {n : Nat} (W wr : World) (t w8 t' gn : Nat) (qs z : ByteArray) (rr kk : Int) (i : Nat) (T : List (Nd (Cd n))) (bs : List Nat) (ms : List (Option Nat)) (x : Num) (v : Value) (lv : Value) (ss : List Value) (ns : List Nat) : Prop where
  bt : BT W wr t w8 T bs ms x t' v
  le : T.length ≤ 1048576 + i
  hn : wr.heap[gn]? = some (.cells #[.int .i64 4, .string qs, .int .i64 rr] 40 (0, 0))
  hk : wr.heap[gn + 1]? = some (.cells #[.int .i64 5, .string qs, .int .i64 kk] 40 (0, 0))
  ha : wr.heap[gn + 4]? = some (.cells (arr30 qs z rr kk w8) 40 (0, 0))
  lg : LG W wr lv ss ns
  sl : ss.length = i
  nb : ∀ n ∈ ns, n ≤ 1073741824
/-- One of the ten. -/
theorem KI.step {n : Nat} {W wr w4 w6 w7 : World} {t w8 t' gn : Nat} {qs z : ByteArray} {rr kk : Int} {i : Nat} {T : List (Nd (Cd n))} {bs : List Nat} {ms : List (Option Nat)} {x : Num} {v : Value} {la : Option Addr} {lc : Nat} {ss : List Value} {ns : List Nat} {K N : Int} {s : ByteArray} {y1 y2 : Bool} {e1 e2 a1 a2 b1 b2 c1 c2 d1 d2 : Int} {va vb : Option Addr} {l1 l2 ca cb : Nat} (h : KI W wr t w8 t' gn qs z rr kk i T bs ms x v (.slice la i lc) ss ns) (hi : i < 10)
    (hd : DoO wr t w8 T bs ms x K s N (.returned (gotV y1 e1 (.slice va l1 ca) a1 b1 c1 d1)) w4) (ht : ToldO W.heap.size w4 t' w8 T v x.looked K s N (.returned (gotV y2 e2 (.slice vb l2 cb) a2 b2 c2 d2)) w6) :
    (Calls Tryd.prog 28 #[gotV y1 e1 (.slice va l1 ca) a1 b1 c1 d1, gotV y2 e2 (.slice vb l2 cb) a2 b2 c2 d2] w6 fun r w' => r = .returned (.bool true) ∧ Below w6.heap.size w6 w') ∧
    ∀ w7, Below w6.heap.size w6 w7 → ∃ a' c' w8', (Builtin.append_ #[57, 57] 57 #[.slice la i lc, .slice (some ⟨w7.heap.size, 0, none⟩) 1 1]).run Tryd.prog (w7.alloc (.cells #[.slice va l1 ca] 32)) = .ok (.slice a' (i + 1) c') w8' ∧ ∃ (T' : List (Nd (Cd n))) (bs' : List Nat) (ms' : List (Option Nat)) (x' : Num) (v' : Value) (ss' : List Value) (ns' : List Nat), KI W w8' t w8 t' gn qs z rr kk (i + 1) T' bs' ms' x' v' (.slice a' (i + 1) c') ss' ns' := by
  have fr := step_frame hd ht
  obtain ⟨T', bs', ms', x', v', yy, e, a, b, c, d, L, va', vb', ca', cb', q1, q2, ha, hb, hbt, hle, hLl, -, -⟩ := step4 h.bt hd ht
  simp [gotV] at q1 q2
  obtain ⟨rfl, rfl, ⟨rfl, rfl, rfl⟩, rfl, rfl, rfl, rfl⟩ := q1
  obtain ⟨rfl, rfl, ⟨rfl, rfl, rfl⟩, rfl, rfl, rfl, rfl⟩ := q2
  have hTb := h.le
  obtain ⟨aa, cc, haa, -, hat⟩ := HAt.row ha
  cases haa
  refine ⟨same_any L _ _ _ _ _ _ _ _ _ _ w6 hat hb (by omega), fun w7 b7 => ?_⟩
  have g6 := LG.step h.bt h.lg fr
  have g7 : LG W w7 (.slice la i lc) ss ns := g6.kept (F := fun _ => False) (.below b7) (fun _ _ h => h) (fun _ _ _ _ _ h => h)
  have bt7 := hbt.below b7
  have hr7 : w7.ownsRow wr.heap.size 36 3 (.slice _ L.length _) L.length (L.flatMap hV) := row_kept (F := fun _ => False) ha (.below b7) (fun _ _ h => h)
  rw [toHt] at hr7
  have hsl := h.sl
  subst hsl
  obtain ⟨a', c', w8', hap, glg, gst⟩ := g7.more (by omega) (B := wr.heap.size) (X := L.map (fun y => ((y.1 : Int), (0 : Int), y.2.1))) h.bt.ot.be.size (by rw [List.length_map]; exact hr7) (fun j u b hu hb' => by
    have hj : j < ns.length := by rw [h.lg.len]; exact (List.getElem?_eq_some_iff.1 hu).1
    obtain ⟨X, x1, x2⟩ := h.lg.each j u _ hu (List.getElem?_eq_getElem hj)
    exact row_lt x2 hb') bt7.ot.be.size
  have keep : ∀ {k : Nat} {cs : Array Value} {ty : TypeId} {f : Nat × Nat}, w7.heap[k]? = some (.cells cs ty f) → ty ≠ 32 → w8'.heap[k]? = some (.cells cs ty f) := fun {k cs ty f} hk hty => (gst.block k (Array.getElem?_eq_some_iff.1 hk).1 (fun e => by
    obtain ⟨cur, hc⟩ := row_block g7.row e
    rw [hc] at hk; simp at hk; exact hty hk.2.1.symm)).trans hk
  have up7 : ∀ {k : Nat} {cs : Array Value} {ty : TypeId} {f : Nat × Nat}, wr.heap[k]? = some (.cells cs ty f) → ty = 40 → w7.heap[k]? = some (.cells cs ty f) := fun {k cs ty f} hk hty => by
    have h6 := h.bt.blk fr hk (by rw [hty]; decide) (by rw [hty]; decide) (by rw [hty]; decide) (by rw [hty]; decide)
    exact (b7.block k (Array.getElem?_eq_some_iff.1 h6).1).trans h6
  refine ⟨a', c', w8', hap, T', bs', ms', x', v', _, _, ⟨?_, by omega, keep (up7 h.hn rfl) (by decide), keep (up7 h.hk rfl) (by decide), keep (up7 h.ha rfl) (by decide), glg, by simp, fun m hm => ?_⟩⟩
  · exact BT.kept' bt7 gst (fun k e => by
      obtain ⟨cur, hc⟩ := row_block g7.row e
      exact ⟨fun hh => bt7.other hc (by decide) (by decide) (by decide) (by decide) (hh.elim .inl (fun hh => .inr (hh.elim .inl (fun hh => .inr (.inl hh))))), (g7.row.lt k e).1⟩)
  · rcases List.mem_append.1 hm with hm | hm
    · exact h.nb m hm
    · simp at hm
      rw [hm]
      omega
end Go.Proofs.YtnnbcdfpbdmgdaaDoor
set_option linter.unusedVariables false
set_option linter.unusedSimpArgs false
namespace Go.Proofs.YtnnbcdfpbdmgdaaDoor
open Go.RowKit Go.Maps Go.Sort Go.Proofs.BitMath Go.Proofs.TreeMath
set_option maxHeartbeats 40000000 in
set_option maxRecDepth 100000 in
theorem law_lists (wd : Int) (l : List Op3) (la : Option Addr) (lc : Nat) (qs : ByteArray) (rr kk : Int) (W : World) (ht : Tab W) (hl : OAt W la l) (hll : l.length ≤ 1048576) : Calls Tryd.prog 8 #[.int .i64 wd, .slice la l.length lc, .string qs, .int .i64 rr, .int .i64 kk] W fun r w' => r = .returned (.bool true) ∧ Below W.heap.size W w' := by
  have hW0 : 0 < W.heap.size := World.block_lt_of_cell? W ⟨0, 0, none⟩ (ht 0 (by omega))
  have htW : ∀ (w : World), Below W.heap.size W w → Tab w := fun w b => ht.below b hW0
  have HW := Hid.mk htW
  obtain ⟨ln, hln⟩ : ∃ ln, ln = l.length := ⟨_, rfl⟩
  have HL := Hid.mk (And.intro hl hln)
  rw [← hln] at hll ⊢
  clear hl hln ht htW
  by_cases hw : isW wd = true
  · obtain ⟨w8, rfl⟩ : ∃ w8 : Nat, wd = w8 := ⟨wd.toNat, by have := isW_bd hw; omega⟩
    obtain ⟨n, hn⟩ : ∃ n, w8 = 8 * n := ⟨w8 / 8, by have h1 := isW_mod hw; omega⟩
    have hnew := new_yes w8 n W hw hn
    have HN2 := Hid.mk (fun w => rnew_yes W.heap.size w8 n w hw hn)
    have hw1024 : w8 ≤ 1024 := by have := isW_bd hw; omega
    have n8 : n ≤ 128 := by omega
    have hq8 : ((w8 : Nat) : Int) / 8 = (n : Int) := by omega
    clear hw hn
    go_enter Tryd.func8, Tryd.ntmps8
    go_wp2_with fail
    refine hnew.mono ?_
    rintro e w1 ⟨rfl, htr, b1⟩
    go_wp2_with fail
    refine (HN2.out w1).mono ?_
    rintro e w2 ⟨rfl, hrt, b2⟩
    obtain ⟨t, hte⟩ : ∃ t, t = W.heap.size := ⟨_, rfl⟩
    obtain ⟨t', hte'⟩ : ∃ t', t' = w1.heap.size := ⟨_, rfl⟩
    have htp : 0 < t := by omega
    have H0 := Hid.mk (show EI (n := n) W w2 t w8 t' 0 [] [] [] ⟨0, 0, 0, 0⟩ (.slice none 0 0) from ⟨⟨⟨by rw [hte]; exact htr.below b2, (fun k hk => by
      rcases hk with rfl | hk | hk
      · rw [hte]; exact Nat.le_refl _
      · cases hk
      · cases hk), chain b1 b2 (Nat.le_refl _)⟩, by rw [hte']; exact hrt, by rw [hte']; exact b1.size⟩, Nat.le_refl _⟩)
    rw [← hte, ← hte']
    clear htr b1 b2 hte hte' hrt hnew
    go_wp2_with fail
    go_loopw [13] (fun u wr => ∃ (i : Nat) (T : List (Nd (Cd n))) (bs : List Nat) (ms : List (Option Nat)) (x : Num) (v : Value), u = .int .i64 i ∧ i ≤ ln ∧ Hid (EI W wr t w8 t' i T bs ms x v)) (fun u _ => ln - (intOf u).toNat)
    case atStart => exact ⟨0, [], [], [], ⟨0, 0, 0, 0⟩, _, rfl, Nat.zero_le _, H0⟩
    case round =>
      obtain ⟨i, T, bs, ms, x, v, rfl, hi, HJ⟩ := hrel
      have hsmT : T.length < 1099511627776 := by have := HJ.out.le; omega
      by_cases hlt : i < ln
      · have i1 : (i : Int) < (ln : Int) := by omega
        have i2 : (0 : Int) ≤ (i : Int) := by omega
        have hwi : IntKind.i64.wrap ((i : Int) + 1) = ((i + 1 : Nat) : Int) := by rw [IntKind.wrap_i64]; omega
        obtain ⟨g, off, ela, o0, o1, o2⟩ := (HL.out.1.below (HJ.out.bt.ot.be)).at' i (by rw [← HL.out.2]; exact hlt)
        subst ela
        have hS0 : ∀ w', Below W.heap.size W w' → w'.cell? ⟨g, off + i * 3, none⟩ = some (.int .i64 (l[i]'(by rw [← HL.out.2]; exact hlt)).1) ∧ w'.cell? ⟨g, off + i * 3 + 1, none⟩ = some (.string (l[i]'(by rw [← HL.out.2]; exact hlt)).2.1) ∧ w'.cell? ⟨g, off + i * 3 + 2, none⟩ = some (.int .i64 (l[i]'(by rw [← HL.out.2]; exact hlt)).2.2) := fun w' b => by
          obtain ⟨g2, off2, e2, p0, p1, p2⟩ := (HL.out.1.below b).at' i (by rw [← HL.out.2]; exact hlt)
          cases e2
          exact ⟨p0, p1, p2⟩
        obtain ⟨Kd, hKd⟩ : ∃ Kd, Kd = (l[i]'(by rw [← HL.out.2]; exact hlt)).1 := ⟨_, rfl⟩
        obtain ⟨s, hs⟩ : ∃ s, s = (l[i]'(by rw [← HL.out.2]; exact hlt)).2.1 := ⟨_, rfl⟩
        obtain ⟨N, hN⟩ : ∃ N, N = (l[i]'(by rw [← HL.out.2]; exact hlt)).2.2 := ⟨_, rfl⟩
        rw [← hKd] at o0
        rw [← hs] at o1
        rw [← hN] at o2
        have HSS := Hid.mk (show ∀ w', Below W.heap.size W w' → (Below W.heap.size W w' ∧ w'.cell? ⟨g, off + i * 3, none⟩ = some (.int .i64 Kd) ∧ w'.cell? ⟨g, off + i * 3 + 1, none⟩ = some (.string s) ∧ w'.cell? ⟨g, off + i * 3 + 2, none⟩ = some (.int .i64 N)) from fun w' b => ⟨b, by rw [hKd, hs, hN]; exact hS0 w' b⟩)
        have HBT := Hid.mk (HJ.out.bt.below (Below.refl wr.heap.size wr).drew)
        have hdo := do_any Kd s N wr.drew HBT.out.ot.tr (HW.out _ HBT.out.ot.be) htp hsmT
        clear hS0 hKd hs hN o0 o1 o2
        go_wp2_with fail
        refine wp_region_held_drew (S := fun w' => Below W.heap.size W w' ∧ w'.cell? ⟨g, off + i * 3, none⟩ = some (.int .i64 Kd) ∧ w'.cell? ⟨g, off + i * 3 + 1, none⟩ = some (.string s) ∧ w'.cell? ⟨g, off + i * 3 + 2, none⟩ = some (.int .i64 N)) (by kernel_rfl) ?_ (fun hHeld => ?_)
        · exact HSS.out _ HBT.out.ot.be
        refine wpAnyH_take (i := 0) (oi := { dst := some 44, op := Op.move (Operand.tmp 11), type := 24, pos := "law.go:179", after := #[], guard := none }) (v := ?v1) rfl (by kernel_rfl) (by kernel_rfl) (by kernel_rfl) (fun _ _ _ h => h) (Or.inl ⟨by rfl, ?h1⟩) (by assumption) ?r1
        case h1 => (intro w0 hSw; (try dsimp only at hSw); go_simp; try (with_reducible rfl))
        simp only [Act.put, List.setIfInBounds_toArray, List.set_cons_zero, List.set_cons_succ]
        refine wpAnyH_take (i := 1) (oi := { dst := some 45, op := Op.move (Operand.tmp 1), type := 38, pos := "law.go:179", after := #[], guard := none }) (v := ?v2) rfl (by kernel_rfl) (by kernel_rfl) (by kernel_rfl) (fun _ _ _ h => h) (Or.inl ⟨by rfl, ?h2⟩) (by assumption) ?r2
        case h2 => (intro w0 hSw; (try dsimp only at hSw); go_simp; try (with_reducible rfl))
        simp only [Act.put, List.setIfInBounds_toArray, List.set_cons_zero, List.set_cons_succ]
        refine wpAnyH_take (i := 2) (oi := { dst := some 46, op := Op.move (Operand.tmp 13), type := 3, pos := "law.go:179", after := #[], guard := none }) (v := ?v3) rfl (by kernel_rfl) (by kernel_rfl) (by kernel_rfl) (fun _ _ _ h => h) (Or.inl ⟨by rfl, ?h3⟩) (by assumption) ?r3
        case h3 => (intro w0 hSw; (try dsimp only at hSw); go_simp; try (with_reducible rfl))
        simp only [Act.put, List.setIfInBounds_toArray, List.set_cons_zero, List.set_cons_succ]
        refine wpAnyH_take (i := 3) (oi := { dst := some 47, op := Op.indexAddr 38 (Operand.tmp 45) (Operand.tmp 46), type := 0, pos := "law.go:179", after := #[{ on := 1, ground := Ground.data }, { on := 2, ground := Ground.data }], guard := none }) (v := ?v4) rfl (by kernel_rfl) (by kernel_rfl) (by kernel_rfl) (fun _ _ _ h => h) (Or.inl ⟨by rfl, ?h4⟩) (by assumption) ?r4
        case h4 => (intro w0 hSw; (try dsimp only at hSw); go_simp; try (with_reducible rfl))
        simp only [Act.put, List.setIfInBounds_toArray, List.set_cons_zero, List.set_cons_succ]
        refine wpAnyH_take (i := 4) (oi := { dst := some 48, op := Op.load 40 (Operand.tmp 47), type := 40, pos := "law.go:179", after := #[{ on := 3, ground := Ground.data }], guard := none }) (v := ?v5) rfl (by kernel_rfl) (by kernel_rfl) (by kernel_rfl) (fun _ _ _ h => h) (Or.inl ⟨by rfl, ?h5⟩) (by assumption) ?r5
        case h5 => (intro w0 hSw; (try dsimp only at hSw); go_simp; try (with_reducible rfl))
        simp only [Act.put, List.setIfInBounds_toArray, List.set_cons_zero, List.set_cons_succ]
        refine wpAnyH_take (i := 6) (oi := { dst := some 50, op := Op.move (Operand.tmp 12), type := 51, pos := "law.go:179", after := #[], guard := none }) (v := ?v6) rfl (by kernel_rfl) (by kernel_rfl) (by kernel_rfl) (fun _ _ _ h => h) (Or.inl ⟨by rfl, ?h6⟩) (by assumption) ?r6
        case h6 => (intro w0 hSw; (try dsimp only at hSw); go_simp; try (with_reducible rfl))
        simp only [Act.put, List.setIfInBounds_toArray, List.set_cons_zero, List.set_cons_succ]
        refine wpAnyH_take (i := 7) (oi := { dst := some 51, op := Op.move (Operand.tmp 1), type := 38, pos := "law.go:179", after := #[], guard := none }) (v := ?v7) rfl (by kernel_rfl) (by kernel_rfl) (by kernel_rfl) (fun _ _ _ h => h) (Or.inl ⟨by rfl, ?h7⟩) (by assumption) ?r7
        case h7 => (intro w0 hSw; (try dsimp only at hSw); go_simp; try (with_reducible rfl))
        simp only [Act.put, List.setIfInBounds_toArray, List.set_cons_zero, List.set_cons_succ]
        refine wpAnyH_take (i := 8) (oi := { dst := some 52, op := Op.move (Operand.tmp 13), type := 3, pos := "law.go:179", after := #[], guard := none }) (v := ?v8) rfl (by kernel_rfl) (by kernel_rfl) (by kernel_rfl) (fun _ _ _ h => h) (Or.inl ⟨by rfl, ?h8⟩) (by assumption) ?r8
        case h8 => (intro w0 hSw; (try dsimp only at hSw); go_simp; try (with_reducible rfl))
        simp only [Act.put, List.setIfInBounds_toArray, List.set_cons_zero, List.set_cons_succ]
        refine wpAnyH_take (i := 9) (oi := { dst := some 53, op := Op.indexAddr 38 (Operand.tmp 51) (Operand.tmp 52), type := 0, pos := "law.go:179", after := #[{ on := 7, ground := Ground.data }, { on := 8, ground := Ground.data }], guard := none }) (v := ?v9) rfl (by kernel_rfl) (by kernel_rfl) (by kernel_rfl) (fun _ _ _ h => h) (Or.inl ⟨by rfl, ?h9⟩) (by assumption) ?r9
        case h9 => (intro w0 hSw; (try dsimp only at hSw); go_simp; try (with_reducible rfl))
        simp only [Act.put, List.setIfInBounds_toArray, List.set_cons_zero, List.set_cons_succ]
        refine wpAnyH_take (i := 10) (oi := { dst := some 54, op := Op.load 40 (Operand.tmp 53), type := 40, pos := "law.go:179", after := #[{ on := 9, ground := Ground.data }], guard := none }) (v := ?v10) rfl (by kernel_rfl) (by kernel_rfl) (by kernel_rfl) (fun _ _ _ h => h) (Or.inl ⟨by rfl, ?h10⟩) (by assumption) ?r10
        case h10 => (intro w0 hSw; (try dsimp only at hSw); go_simp; try (with_reducible rfl))
        simp only [Act.put, List.setIfInBounds_toArray, List.set_cons_zero, List.set_cons_succ]
        refine wpAnyH_ready (rs := [5]) (by kernel_rfl) (by simp) ?_
        refine AllReadyH.cons rfl (fun K hK => ?_) AllReadyH.nil
        go_simp
        go_wp2_with (go_at_call 20; refine hdo.mono ?_; rintro r1 w3 hd1; obtain ⟨y1, e1, va1, l1, c1, a1, b1, g1, d1, hr1⟩ := do_form hd1; subst hr1; have HD1 := Hid.mk hd1; have bW3 := bt_do HBT.out hd1; have hto := told_any Kd s N w3 (rt_do HBT.out.ot.tr HBT.out.rt hd1) (Nat.le_trans HBT.out.ot.be.size (do_frame hd1).size) hsmT; clear hd1; simp only [gotV])
        refine hK.out _ _ ?_ (fun hHeld => ?_)
        · exact HSS.out _ bW3
        clear hK K
        refine wpAnyH_ready (rs := [11]) (by kernel_rfl) (by simp) ?_
        refine AllReadyH.cons rfl (fun K hK => ?_) AllReadyH.nil
        go_simp
        go_wp2_with (go_at_call 29; refine hto.mono ?_; rintro r2 w4 ht2; obtain ⟨y2, e2, va2, l2, c2, a2, b2, g2, d2, hr2⟩ := told_form ht2; subst hr2; obtain ⟨hnx, hsame⟩ := step_same HBT.out HD1.out ht2 (by omega); have HNX := Hid.mk hnx; clear hnx ht2; simp only [gotV] at hsame ⊢)
        refine hK.out _ _ ?_ (fun hHeld => ?_)
        · obtain ⟨T', bs', ms', x', v', hbt', -⟩ := HNX.out; exact HSS.out _ hbt'.ot.be
        clear hK K
        refine wpAnyH_ready (rs := [12]) (by kernel_rfl) (by simp) ?_
        refine AllReadyH.cons rfl (fun K hK => ?_) AllReadyH.nil
        go_simp
        go_wp2_with (go_at_call 28; refine hsame.mono ?_; rintro e5 w5 ⟨rfl, b5⟩)
        refine hK.out _ _ ?_ (fun hHeld => ?_)
        · obtain ⟨T', bs', ms', x', v', hbt', -⟩ := HNX.out; exact HSS.out _ (chain hbt'.ot.be b5 (Nat.le_refl _))
        clear hK K
        refine wpAnyH_take (i := 13) (oi := { dst := some 57, op := Op.unOp UnOp.not 4 (Operand.tmp 56), type := 4, pos := "law.go:179", after := #[{ on := 12, ground := Ground.data }], guard := none }) (v := ?v11) rfl (by kernel_rfl) (by kernel_rfl) (by kernel_rfl) (fun _ _ _ h => h) (Or.inl ⟨by rfl, ?h11⟩) (by assumption) ?r11
        case h11 => (intro w0 hSw; (try dsimp only at hSw); go_simp; try (with_reducible rfl))
        simp only [Act.put, List.setIfInBounds_toArray, List.set_cons_zero, List.set_cons_succ]
        refine wpAnyH_done (by kernel_rfl) ?_ _
        obtain ⟨T', bs', ms', x', v', hbt', hle'⟩ := HNX.out
        have HFI := Hid.mk (show EI W w5 t w8 t' (i + 1) T' bs' ms' x' v' from ⟨hbt'.below b5, by have := HJ.out.le; omega⟩)
        clear hbt' hle'
        go_wp2_with fail
        exact ⟨⟨i + 1, T', bs', ms', x', v', by push_cast; rfl, hlt, HFI⟩, by simp only [intOf]; omega⟩
      · have i1 : ¬ (i : Int) < (ln : Int) := by omega
        have HB0 := Hid.mk HJ.out.bt
        have hT1 : T.length ≤ 1048576 := by have := HJ.out.le; omega
        obtain ⟨i0, hi0, hz0, hz1, hz2⟩ := info_parts infB
        obtain ⟨w1, hw1⟩ : ∃ w1, w1 = wr.alloc (.cells (madeCells (Value.int .u8 0).cells (n * 1)) 5) := ⟨_, rfl⟩
        have hrun := run_make wr 56 5 i0 (.int .u8 0) Tryd.underlying56 hi0 hz0 .i64 .i64 (n : Int) (n : Int) (by omega) (by omega) (by rw [hz2]; omega) (by omega)
        rw [hz1, Int.toNat_natCast, ← hw1] at hrun
        have hrow : w1.ownsRow 0 5 1 (.slice (some ⟨wr.heap.size, 0, none⟩) n n) n ((zs n).map BV) := by
          rw [hw1]
          refine ⟨by simp, .inr ⟨wr.heap.size, n, _, rfl, Nat.zero_le _, Array.getElem?_push_size, Nat.le_refl _, by unfold maxLen; omega, by rw [size_madeCells], ?_⟩⟩
          rw [made_bytes, List.take_of_length_le (by simp)]
        have hb1 : Below wr.heap.size wr w1 := by rw [hw1]; exact (Below.refl _ wr).alloc (Nat.le_refl _) _
        have hconv := conv_row (zs n) (by have : (zs n).length = n := by simp
                                          rw [this]; exact hrow)
        rw [show (zs n).length = n from by simp] at hconv
        obtain ⟨z, hz⟩ : ∃ z : ByteArray, z = ⟨(zs n).toArray⟩ := ⟨_, rfl⟩
        rw [← hz] at hconv
        have HZ := Hid.mk (And.intro hb1 hz)
        have HR2 := Hid.mk hrun
        rw [← hq8] at hrun
        have HR := Hid.mk hrun
        clear hrun hrow hb1 hz hw1
        go_wp2_with (first
          | (at_make; first | refine wpList_make_run _ rfl _ _ _ rfl _ _ HR.out ?_ | refine wpList_make_run _ rfl _ _ _ rfl _ _ HR2.out ?_)
          | go_in)
        obtain ⟨w2, hw2⟩ : ∃ w2, w2 = ((((w1.alloc (.cells #[.int .i64 4, .string qs, .int .i64 rr] 40)).alloc (.cells #[.int .i64 5, .string qs, .int .i64 kk] 40)).alloc (.cells #[.int .i64 4, .string z, .int .i64 w8] 40)).alloc (.cells #[.int .i64 5, .string z, .int .i64 3] 40)).alloc (.cells (arr30 qs z rr kk w8) 40) := ⟨_, rfl⟩
        have hsz2 : w2.heap.size = w1.heap.size + 5 := by rw [hw2]; simp
        have b12 : Below w1.heap.size w1 w2 := by rw [hw2]; exact (((((Below.refl _ w1).alloc (Nat.le_refl _) _).alloc (by simp) _).alloc (by simp; omega) _).alloc (by simp; omega) _).alloc (by simp; omega) _
        have hn2 : w2.heap[w1.heap.size]? = some (.cells #[.int .i64 4, .string qs, .int .i64 rr] 40 (0, 0)) := by
          rw [hw2, Below.heap_alloc _ _ _ (by simp; omega), Below.heap_alloc _ _ _ (by simp; omega), Below.heap_alloc _ _ _ (by simp; omega), Below.heap_alloc _ _ _ (by simp)]
          exact Array.getElem?_push_size
        have hk2 : w2.heap[w1.heap.size + 1]? = some (.cells #[.int .i64 5, .string qs, .int .i64 kk] 40 (0, 0)) := by
          rw [hw2, Below.heap_alloc _ _ _ (by simp), Below.heap_alloc _ _ _ (by simp), Below.heap_alloc _ _ _ (by simp)]
          rw [show w1.heap.size + 1 = (w1.alloc (.cells #[.int .i64 4, .string qs, .int .i64 rr] 40)).heap.size by simp]
          exact Array.getElem?_push_size
        have ha2 : w2.heap[w1.heap.size + 4]? = some (.cells (arr30 qs z rr kk w8) 40 (0, 0)) := by
          rw [hw2]
          have e : w1.heap.size + 4 = ((((w1.alloc (.cells #[.int .i64 4, .string qs, .int .i64 rr] 40)).alloc (.cells #[.int .i64 5, .string qs, .int .i64 kk] 40)).alloc (.cells #[.int .i64 4, .string z, .int .i64 w8] 40)).alloc (.cells #[.int .i64 5, .string z, .int .i64 3] 40)).heap.size := by simp
          rw [e]
          exact Array.getElem?_push_size
        unfold arr30 at hw2
        rw [← hw2]
        obtain ⟨gn, hgn⟩ : ∃ gn, gn = w1.heap.size := ⟨_, rfl⟩
        rw [← hgn] at hn2 hk2 ha2 ⊢
        obtain ⟨ga, hga⟩ : ∃ ga, ga = gn + 1 + 1 + 1 + 1 := ⟨_, rfl⟩
        rw [← hga]
        have HGA := Hid.mk (show gn + 4 = ga from by rw [hga])
        have bW2 : Below wr.heap.size wr w2 := chain HZ.out.1 b12 (Nat.le_refl _)
        have K0 := Hid.mk (show KI W w2 t w8 t' gn qs z rr kk 0 T bs ms x v (.slice none 0 0) [] [] from ⟨HB0.out.below bW2, by omega, hn2, hk2, ha2, ⟨rfl, ⟨rfl, .inl ⟨rfl, rfl⟩⟩, fun j s n hs => by simp at hs, fun j l s u b hs => by simp at hs⟩, rfl, fun n hn => by cases hn⟩)
        clear hn2 hk2 ha2 b12 bW2 hw2 hsz2 hgn hga HZ HR HR2 hconv HB0 HJ hsmT hT1 hi
        go_loopw [20, 21, 22, 23] (fun u20 u21 u22 u23 wr => ∃ (j : Nat) (la : Option Addr) (lc : Nat) (T : List (Nd (Cd n))) (bs : List Nat) (ms : List (Option Nat)) (x : Num) (v : Value) (ss : List Value) (ns : List Nat), u20 = .slice la j lc ∧ u21 = .int .i64 j ∧ j ≤ 10 ∧ Hid (KI W wr t w8 t' gn qs z rr kk j T bs ms x v (.slice la j lc) ss ns)) (fun _ u _ _ _ => 10 - (intOf u).toNat)
        case atStart => exact ⟨0, none, 0, T, bs, ms, x, v, [], [], rfl, rfl, Nat.zero_le _, K0⟩
        case round =>
          clear K0
          obtain ⟨j, ja, jc, T2, bs2, ms2, x2, v2, ss2, ns2, rfl, rfl, hj, HK⟩ := hrel
          have hsm2 : T2.length < 1099511627776 := by have := HK.out.le; omega
          have hag : wr.heap[ga]? = some (.cells (arr30 qs z rr kk w8) 40 (0, 0)) := by rw [← HGA.out]; exact HK.out.ha
          by_cases hjl : j < 10
          · obtain ⟨Kd, s, N, c0, c1, c2, -⟩ := ask_at hag j hjl
            have j1 : (j : Int) < 10 := by omega
            have j2 : (0 : Int) ≤ (j : Int) := by omega
            have hwj : IntKind.i64.wrap ((j : Int) + 1) = ((j + 1 : Nat) : Int) := by rw [IntKind.wrap_i64]; omega
            have hdo := do_any Kd s N wr HK.out.bt.ot.tr (HW.out _ HK.out.bt.ot.be) htp hsm2
            have HAG := Hid.mk hag
            clear hag
            go_wp2_with fail
            refine hdo.mono ?_
            rintro r1 w3 hd1
            obtain ⟨y1, e1, va1, l1, f1, a1, b1, g1, d1, hr1⟩ := do_form hd1
            subst hr1
            have hd4 := hd1.alloc (.cells #[.bool y1, .int .i64 e1, .slice va1 l1 f1, .int .i64 a1, .int .i64 b1, .int .i64 g1, .int .i64 d1] 42)
            obtain ⟨wg, hwg⟩ : ∃ wg, wg = w3.alloc (.cells #[.bool y1, .int .i64 e1, .slice va1 l1 f1, .int .i64 a1, .int .i64 b1, .int .i64 g1, .int .i64 d1] 42) := ⟨_, rfl⟩
            rw [← hwg] at hd4
            have hbg : wg.heap[w3.heap.size]? = some (.cells #[.bool y1, .int .i64 e1, .slice va1 l1 f1, .int .i64 a1, .int .i64 b1, .int .i64 g1, .int .i64 d1] 42 (0, 0)) := by rw [hwg]; exact Array.getElem?_push_size
            have hag4 : wg.heap[ga]? = some (.cells (arr30 qs z rr kk w8) 40 (0, 0)) := HK.out.bt.blk ((do_frame hd4).mono (fun k _ e => e.elim .inl (fun e => .inr (.inr (.inr e))))) HAG.out (by decide) (by decide) (by decide) (by decide)
            have x0 := (ask_same HAG.out hag4 (j * 3)).trans c0
            have x1 := (ask_same HAG.out hag4 (j * 3 + 1)).trans c1
            have x2' := (ask_same HAG.out hag4 (j * 3 + 2)).trans c2
            rw [hwg] at x0 x1 x2'
            have hrt4 := rt_do HK.out.bt.ot.tr HK.out.bt.rt hd4
            have hto := told_any Kd s N wg hrt4 (Nat.le_trans HK.out.bt.ot.be.size (do_frame hd4).size) hsm2
            have HD4 := Hid.mk (And.intro hd4 (And.intro hbg hrt4))
            clear hd1 hdo hd4 hbg hag4 c0 c1 c2 hrt4
            simp only [gotV]
            go_wp2_with fail
            rw [← hwg]
            refine hto.mono ?_
            rintro r2 w5 ht2
            obtain ⟨y2, e2, va2, l2, f2, a2, b2, g2, d2, hr2⟩ := told_form ht2
            subst hr2
            have ht6 := ht2.alloc (.cells #[.bool y2, .int .i64 e2, .slice va2 l2 f2, .int .i64 a2, .int .i64 b2, .int .i64 g2, .int .i64 d2] 42)
            obtain ⟨wh, hwh⟩ : ∃ wh, wh = w5.alloc (.cells #[.bool y2, .int .i64 e2, .slice va2 l2 f2, .int .i64 a2, .int .i64 b2, .int .i64 g2, .int .i64 d2] 42) := ⟨_, rfl⟩
            rw [← hwh] at ht6
            obtain ⟨gg, hgg⟩ : ∃ gg, gg = w3.heap.size := ⟨_, rfl⟩
            have hbg6 : wh.heap[gg]? = some (.cells #[.bool y1, .int .i64 e1, .slice va1 l1 f1, .int .i64 a1, .int .i64 b1, .int .i64 g1, .int .i64 d1] 42 (0, 0)) := by
              have h0 := HD4.out.2.1
              rw [← hgg] at h0
              refine ((told_frame ht6).block gg (Array.getElem?_eq_some_iff.1 h0).1 (fun e => ?_)).trans h0
              rcases e with e | e | e
              · rw [e, HD4.out.2.2.tree] at h0; simp at h0
              · obtain ⟨cur, hc⟩ := row_block HD4.out.2.2.row e
                rw [hc] at h0; simp at h0
              · have := (Array.getElem?_eq_some_iff.1 h0).1; omega
            obtain ⟨p0, p1, p2, p3, p4, p5, p6⟩ := gbox hbg6
            have HBG := Hid.mk hbg6
            obtain ⟨hsame, hmore⟩ := HK.out.step (w7 := wh) hjl HD4.out.1 ht6
            have HMO := Hid.mk hmore
            have HWH := Hid.mk hwh
            rw [hwh] at p0 p1 p2 p3 p4 p5 p6
            simp only [gotV] at hsame ⊢
            rw [← hgg]
            clear ht2 hto ht6 hbg6 hmore x0 x1 x2' hgg hwg
            go_wp2_with fail
            rw [← HWH.out]
            refine hsame.mono ?_
            rintro e7 w7 ⟨rfl, b7⟩
            obtain ⟨a8, c8, w9, hap, hnx⟩ := HMO.out w7 b7
            have q2 := (gbox ((b7.block _ (Array.getElem?_eq_some_iff.1 HBG.out).1).trans HBG.out)).2.2.1
            have HA := Hid.mk hap
            have HN := Hid.mk hnx
            clear hsame hap hnx b7 p0 p1 p2 p3 p4 p5 p6 hwh
            go_wp2_with (first
              | (at_builtin; refine wpList_append_eq rfl _ _ _ _ rfl _ _ _ _ rfl rfl HA.out ?_)
              | go_in)
            obtain ⟨T3, bs3, ms3, x3, v3, ss3, ns3, hki⟩ := HN.out
            exact ⟨⟨j + 1, a8, c8, T3, bs3, ms3, x3, v3, ss3, ns3, rfl, by push_cast; rfl, hjl, Hid.mk hki⟩, by simp only [intOf]; omega⟩
          · have hj10 : j = 10 := by omega
            subst hj10
            have hT2 : T2.length ≤ 1048586 := by have := HK.out.le; omega
            clear hag
            have hap := apart_any (.slice ja 10 jc) ss2 ns2 wr HK.out.lg.am (by rw [HK.out.sl]; omega) HK.out.nb
            go_wp2_with fail
            refine hap.mono ?_
            rintro e w3 ⟨rfl, st3⟩
            have hoth : ∀ k, (∃ (j : Nat) (s : Value), ss2[j]? = some s ∧ s.ownBlock = some k) → ∃ cur, wr.heap[k]? = some (.cells cur 36 (0, 0)) ∧ W.heap.size ≤ k := fun k ⟨j, s, hs, hb⟩ => by
              have hj : j < ns2.length := by rw [HK.out.lg.len]; exact (List.getElem?_eq_some_iff.1 hs).1
              obtain ⟨X, x1, x2⟩ := HK.out.lg.each j s _ hs (List.getElem?_eq_getElem hj)
              obtain ⟨cur, hc⟩ := row_block x2 hb
              exact ⟨cur, hc, (x2.lt k hb).1⟩
            have hbt3 : BT W w3 t w8 T2 bs2 ms2 x2 t' v2 := BT.kept' HK.out.bt st3 (fun k hk => by
              obtain ⟨cur, hc, hge⟩ := hoth k hk
              exact ⟨fun hh => HK.out.bt.other hc (by decide) (by decide) (by decide) (by decide) (hh.elim .inl (fun hh => .inr (hh.elim .inl (fun hh => .inr (.inl hh))))), hge⟩)
            have keep3 : ∀ {k : Nat} {cs : Array Value}, wr.heap[k]? = some (.cells cs 40 (0, 0)) → w3.heap[k]? = some (.cells cs 40 (0, 0)) := fun {k cs} hk => (st3.block k (Array.getElem?_eq_some_iff.1 hk).1 (fun e => by
              obtain ⟨cur, hc, -⟩ := hoth k e
              rw [hc] at hk; simp at hk)).trans hk
            have HX1 := Hid.mk (And.intro hbt3 (And.intro (keep3 HK.out.hn) (keep3 HK.out.hk)))
            clear hap st3 hoth hbt3 keep3 HK
            have HBT := Hid.mk (HX1.out.1.below (Below.refl w3.heap.size w3).drew)
            have hdo := do_any 4 qs rr w3.drew HBT.out.ot.tr (HW.out _ HBT.out.ot.be) htp hsm2
            have HSB := Hid.mk (show ∀ w' : World, w'.heap[gn]? = some (.cells #[.int .i64 4, .string qs, .int .i64 rr] 40 (0, 0)) → (w'.cell? ⟨gn, 0, none⟩ = some (.int .i64 4) ∧ w'.cell? ⟨gn, 1, none⟩ = some (.string qs) ∧ w'.cell? ⟨gn, 2, none⟩ = some (.int .i64 rr)) from fun w' h => by refine ⟨?_, ?_, ?_⟩ <;> simp [World.cell?, h])
            go_wp2_with fail
            refine wp_region_held_drew (S := fun w' => w'.cell? ⟨gn, 0, none⟩ = some (.int .i64 4) ∧ w'.cell? ⟨gn, 1, none⟩ = some (.string qs) ∧ w'.cell? ⟨gn, 2, none⟩ = some (.int .i64 rr)) (by kernel_rfl) ?_ (fun hHeld => ?_)
            · exact HSB.out _ HX1.out.2.1
            refine wpAnyH_take (i := 0) (oi := { dst := some 113, op := Op.move (Operand.tmp 11), type := 24, pos := "law.go:199", after := #[], guard := none }) (v := ?v12) rfl (by kernel_rfl) (by kernel_rfl) (by kernel_rfl) (fun _ _ _ h => h) (Or.inl ⟨by rfl, ?h12⟩) (by assumption) ?r12
            case h12 => (intro w0 hSw; (try dsimp only at hSw); go_simp; try (with_reducible rfl))
            simp only [Act.put, List.setIfInBounds_toArray, List.set_cons_zero, List.set_cons_succ]
            refine wpAnyH_take (i := 1) (oi := { dst := some 114, op := Op.load 40 (Operand.tmp 15), type := 40, pos := "law.go:199", after := #[], guard := none }) (v := ?v13) rfl (by kernel_rfl) (by kernel_rfl) (by kernel_rfl) (fun _ _ _ h => h) (Or.inl ⟨by rfl, ?h13⟩) (by assumption) ?r13
            case h13 => (intro w0 hSw; (try dsimp only at hSw); go_simp; try (with_reducible rfl))
            simp only [Act.put, List.setIfInBounds_toArray, List.set_cons_zero, List.set_cons_succ]
            refine wpAnyH_take (i := 3) (oi := { dst := some 116, op := Op.move (Operand.tmp 12), type := 51, pos := "law.go:199", after := #[], guard := none }) (v := ?v14) rfl (by kernel_rfl) (by kernel_rfl) (by kernel_rfl) (fun _ _ _ h => h) (Or.inl ⟨by rfl, ?h14⟩) (by assumption) ?r14
            case h14 => (intro w0 hSw; (try dsimp only at hSw); go_simp; try (with_reducible rfl))
            simp only [Act.put, List.setIfInBounds_toArray, List.set_cons_zero, List.set_cons_succ]
            refine wpAnyH_take (i := 4) (oi := { dst := some 117, op := Op.load 40 (Operand.tmp 15), type := 40, pos := "law.go:199", after := #[], guard := none }) (v := ?v15) rfl (by kernel_rfl) (by kernel_rfl) (by kernel_rfl) (fun _ _ _ h => h) (Or.inl ⟨by rfl, ?h15⟩) (by assumption) ?r15
            case h15 => (intro w0 hSw; (try dsimp only at hSw); go_simp; try (with_reducible rfl))
            simp only [Act.put, List.setIfInBounds_toArray, List.set_cons_zero, List.set_cons_succ]
            refine wpAnyH_ready (rs := [2]) (by kernel_rfl) (by simp) ?_
            refine AllReadyH.cons rfl (fun K hK => ?_) AllReadyH.nil
            go_simp
            go_wp2_with (go_at_call 20; refine hdo.mono ?_; rintro r1 w4 hd1; obtain ⟨y1, e1, va1, l1, f1, a1, b1, g1, d1, hr1⟩ := do_form hd1; subst hr1; have HD1 := Hid.mk hd1; have hto := told_any 4 qs rr w4 (rt_do HBT.out.ot.tr HBT.out.rt hd1) (Nat.le_trans HBT.out.ot.be.size (do_frame hd1).size) hsm2; clear hd1; simp only [gotV])
            refine hK.out _ _ ?_ (fun hHeld => ?_)
            · exact HSB.out _ (HBT.out.blk ((do_frame HD1.out).mono (fun k _ e => e.elim .inl (fun e => .inr (.inr (.inr e))))) HX1.out.2.1 (by decide) (by decide) (by decide) (by decide))
            clear hK K
            refine wpAnyH_ready (rs := [5]) (by kernel_rfl) (by simp) ?_
            refine AllReadyH.cons rfl (fun K hK => ?_) AllReadyH.nil
            go_simp
            go_wp2_with (go_at_call 29; refine hto.mono ?_; rintro r2 w5 ht2; obtain ⟨y2, e2, va2, l2, f2, a2, b2, g2, d2, hr2⟩ := told_form ht2; subst hr2; have FR := Hid.mk (step_frame HD1.out ht2); obtain ⟨hnx, hsame⟩ := step_same HBT.out HD1.out ht2 (by omega); have HNX := Hid.mk hnx; clear hnx ht2; simp only [gotV] at hsame ⊢)
            refine hK.out _ _ ?_ (fun hHeld => ?_)
            · exact HSB.out _ (HBT.out.blk FR.out HX1.out.2.1 (by decide) (by decide) (by decide) (by decide))
            clear hK K
            refine wpAnyH_ready (rs := [6]) (by kernel_rfl) (by simp) ?_
            refine AllReadyH.cons rfl (fun K hK => ?_) AllReadyH.nil
            go_simp
            go_wp2_with (go_at_call 28; refine hsame.mono ?_; rintro e6 w6 ⟨rfl, b6⟩)
            refine hK.out _ _ ?_ (fun hHeld => ?_)
            · exact HSB.out _ ((b6.block _ (Array.getElem?_eq_some_iff.1 (HBT.out.blk FR.out HX1.out.2.1 (by decide) (by decide) (by decide) (by decide))).1).trans (HBT.out.blk FR.out HX1.out.2.1 (by decide) (by decide) (by decide) (by decide)))
            clear hK K
            refine wpAnyH_take (i := 7) (oi := { dst := some 25, op := Op.assign (Operand.tmp 119), type := 4, pos := "law.go:199", after := #[{ on := 6, ground := Ground.data }, { on := 6, ground := Ground.chain }, { on := 0, ground := Ground.phase }, { on := 1, ground := Ground.phase }, { on := 2, ground := Ground.phase }, { on := 3, ground := Ground.phase }, { on := 4, ground := Ground.phase }, { on := 5, ground := Ground.phase }, { on := 6, ground := Ground.phase }], guard := none }) (v := ?v16) rfl (by kernel_rfl) (by kernel_rfl) (by kernel_rfl) (fun _ _ _ h => h) (Or.inl ⟨by rfl, ?h16⟩) (by assumption) ?r16
            case h16 => (intro w0 hSw; (try dsimp only at hSw); go_simp; try (with_reducible rfl))
            simp only [Act.put, List.setIfInBounds_toArray, List.set_cons_zero, List.set_cons_succ]
            refine wpAnyH_done (by kernel_rfl) ?_ _
            obtain ⟨T3, bs3, ms3, x3, v3, hbt3, hle3⟩ := HNX.out
            have HX2 := Hid.mk (And.intro (hbt3.below b6) (And.intro HX1.out.2.1 ((b6.block _ (Array.getElem?_eq_some_iff.1 (HBT.out.blk FR.out HX1.out.2.2 (by decide) (by decide) (by decide) (by decide))).1).trans (HBT.out.blk FR.out HX1.out.2.2 (by decide) (by decide) (by decide) (by decide)))))
            have hsm3 : T3.length < 1099511627776 := by omega
            clear hbt3 hle3 HBT hdo HSB HD1 hto FR HNX hsame b6 hsm2 HX1
            have HX1 := HX2
            have hsm2 := hsm3
            clear HX2 hsm3
            have HBT := Hid.mk (HX1.out.1.below (Below.refl w6.heap.size w6).drew)
            have hdo := do_any 5 qs kk w6.drew HBT.out.ot.tr (HW.out _ HBT.out.ot.be) htp hsm2
            have HSB := Hid.mk (show ∀ w' : World, w'.heap[(gn + 1)]? = some (.cells #[.int .i64 5, .string qs, .int .i64 kk] 40 (0, 0)) → (w'.cell? ⟨(gn + 1), 0, none⟩ = some (.int .i64 5) ∧ w'.cell? ⟨(gn + 1), 1, none⟩ = some (.string qs) ∧ w'.cell? ⟨(gn + 1), 2, none⟩ = some (.int .i64 kk)) from fun w' h => by refine ⟨?_, ?_, ?_⟩ <;> simp [World.cell?, h])
            go_wp2_with fail
            refine wp_region_held_drew (S := fun w' => w'.cell? ⟨(gn + 1), 0, none⟩ = some (.int .i64 5) ∧ w'.cell? ⟨(gn + 1), 1, none⟩ = some (.string qs) ∧ w'.cell? ⟨(gn + 1), 2, none⟩ = some (.int .i64 kk)) (by kernel_rfl) ?_ (fun hHeld => ?_)
            · exact HSB.out _ HX1.out.2.2
            refine wpAnyH_take (i := 0) (oi := { dst := some 120, op := Op.move (Operand.tmp 11), type := 24, pos := "law.go:200", after := #[], guard := none }) (v := ?v17) rfl (by kernel_rfl) (by kernel_rfl) (by kernel_rfl) (fun _ _ _ h => h) (Or.inl ⟨by rfl, ?h17⟩) (by assumption) ?r17
            case h17 => (intro w0 hSw; (try dsimp only at hSw); go_simp; try (with_reducible rfl))
            simp only [Act.put, List.setIfInBounds_toArray, List.set_cons_zero, List.set_cons_succ]
            refine wpAnyH_take (i := 1) (oi := { dst := some 121, op := Op.load 40 (Operand.tmp 16), type := 40, pos := "law.go:200", after := #[], guard := none }) (v := ?v18) rfl (by kernel_rfl) (by kernel_rfl) (by kernel_rfl) (fun _ _ _ h => h) (Or.inl ⟨by rfl, ?h18⟩) (by assumption) ?r18
            case h18 => (intro w0 hSw; (try dsimp only at hSw); go_simp; try (with_reducible rfl))
            simp only [Act.put, List.setIfInBounds_toArray, List.set_cons_zero, List.set_cons_succ]
            refine wpAnyH_take (i := 3) (oi := { dst := some 123, op := Op.move (Operand.tmp 12), type := 51, pos := "law.go:200", after := #[], guard := none }) (v := ?v19) rfl (by kernel_rfl) (by kernel_rfl) (by kernel_rfl) (fun _ _ _ h => h) (Or.inl ⟨by rfl, ?h19⟩) (by assumption) ?r19
            case h19 => (intro w0 hSw; (try dsimp only at hSw); go_simp; try (with_reducible rfl))
            simp only [Act.put, List.setIfInBounds_toArray, List.set_cons_zero, List.set_cons_succ]
            refine wpAnyH_take (i := 4) (oi := { dst := some 124, op := Op.load 40 (Operand.tmp 16), type := 40, pos := "law.go:200", after := #[], guard := none }) (v := ?v20) rfl (by kernel_rfl) (by kernel_rfl) (by kernel_rfl) (fun _ _ _ h => h) (Or.inl ⟨by rfl, ?h20⟩) (by assumption) ?r20
            case h20 => (intro w0 hSw; (try dsimp only at hSw); go_simp; try (with_reducible rfl))
            simp only [Act.put, List.setIfInBounds_toArray, List.set_cons_zero, List.set_cons_succ]
            refine wpAnyH_ready (rs := [2]) (by kernel_rfl) (by simp) ?_
            refine AllReadyH.cons rfl (fun K hK => ?_) AllReadyH.nil
            go_simp
            go_wp2_with (go_at_call 20; refine hdo.mono ?_; rintro r1 w4x hd1; obtain ⟨y1, e1, va1, l1, f1, a1, b1, g1, d1, hr1⟩ := do_form hd1; subst hr1; have HD1 := Hid.mk hd1; have hto := told_any 5 qs kk w4x (rt_do HBT.out.ot.tr HBT.out.rt hd1) (Nat.le_trans HBT.out.ot.be.size (do_frame hd1).size) hsm2; clear hd1; simp only [gotV])
            refine hK.out _ _ ?_ (fun hHeld => ?_)
            · exact HSB.out _ (HBT.out.blk ((do_frame HD1.out).mono (fun k _ e => e.elim .inl (fun e => .inr (.inr (.inr e))))) HX1.out.2.2 (by decide) (by decide) (by decide) (by decide))
            clear hK K
            refine wpAnyH_ready (rs := [5]) (by kernel_rfl) (by simp) ?_
            refine AllReadyH.cons rfl (fun K hK => ?_) AllReadyH.nil
            go_simp
            go_wp2_with (go_at_call 29; refine hto.mono ?_; rintro r2 w5x ht2; obtain ⟨y2, e2, va2, l2, f2, a2, b2, g2, d2, hr2⟩ := told_form ht2; subst hr2; have FR := Hid.mk (step_frame HD1.out ht2); obtain ⟨hnx, hsame⟩ := step_same HBT.out HD1.out ht2 (by omega); have HNX := Hid.mk hnx; clear hnx ht2; simp only [gotV] at hsame ⊢)
            refine hK.out _ _ ?_ (fun hHeld => ?_)
            · exact HSB.out _ (HBT.out.blk FR.out HX1.out.2.2 (by decide) (by decide) (by decide) (by decide))
            clear hK K
            refine wpAnyH_ready (rs := [6]) (by kernel_rfl) (by simp) ?_
            refine AllReadyH.cons rfl (fun K hK => ?_) AllReadyH.nil
            go_simp
            go_wp2_with (go_at_call 28; refine hsame.mono ?_; rintro e6 w6x ⟨rfl, b6⟩)
            refine hK.out _ _ ?_ (fun hHeld => ?_)
            · exact HSB.out _ ((b6.block _ (Array.getElem?_eq_some_iff.1 (HBT.out.blk FR.out HX1.out.2.2 (by decide) (by decide) (by decide) (by decide))).1).trans (HBT.out.blk FR.out HX1.out.2.2 (by decide) (by decide) (by decide) (by decide)))
            clear hK K
            refine wpAnyH_take (i := 7) (oi := { dst := some 26, op := Op.assign (Operand.tmp 126), type := 4, pos := "law.go:200", after := #[{ on := 6, ground := Ground.data }, { on := 6, ground := Ground.chain }, { on := 0, ground := Ground.phase }, { on := 1, ground := Ground.phase }, { on := 2, ground := Ground.phase }, { on := 3, ground := Ground.phase }, { on := 4, ground := Ground.phase }, { on := 5, ground := Ground.phase }, { on := 6, ground := Ground.phase }], guard := none }) (v := ?v21) rfl (by kernel_rfl) (by kernel_rfl) (by kernel_rfl) (fun _ _ _ h => h) (Or.inl ⟨by rfl, ?h21⟩) (by assumption) ?r21
            case h21 => (intro w0 hSw; (try dsimp only at hSw); go_simp; try (with_reducible rfl))
            simp only [Act.put, List.setIfInBounds_toArray, List.set_cons_zero, List.set_cons_succ]
            refine wpAnyH_done (by kernel_rfl) ?_ _
            obtain ⟨T3, bs3, ms3, x3, v3, hbt3, hle3⟩ := HNX.out
            have HE := Hid.mk (chain hbt3.ot.be b6 (Nat.le_refl _))
            clear hbt3 hle3 HBT hdo HSB HD1 hto FR HNX hsame b6 HX1
            go_wp2_with fail
            go_ret
            exact ⟨rfl, HE.out⟩
  · have hw' : isW wd = false := by simpa using hw
    have hnew := new_no wd W hw'
    have hnew2 := rnew_no wd W hw'
    clear hw hw'
    go_enter Tryd.func8, Tryd.ntmps8
    go_wp2_with (first
      | (go_at_call 10; refine hnew.mono ?_; rintro e w' ⟨rfl, rfl⟩)
      | (go_at_call 27; refine hnew2.mono ?_; rintro e w' ⟨rfl, rfl⟩)
      | fail)
    go_ret
    exact ⟨rfl, Below.refl _ _⟩
end Go.Proofs.YtnnbcdfpbdmgdaaDoor
set_option linter.unusedVariables false
set_option linter.unusedSimpArgs false
namespace Go.Proofs.YtnnbcdfpbdmgdaaDoor
open Go.ChangeShapes Go.WideShapes Go.ChangeAt Go.WideMaps Go.WideElems Go.RowKit Go.Deep
theorem own : ownKnob Tryd.prog.godebug = none := by kernel_rfl
theorem gTab : Tryd.prog.globalNamed "kindred/bits.halfOnes" = some 0 := by kernel_rfl
theorem tTab : (Tryd.prog.globals[0]?).map (·.type) = some 113 := by kernel_rfl
theorem cells3 : Tryd.prog.cellsOf 3 = 1 := by kernel_rfl
theorem cells9 : Tryd.prog.cellsOf 9 = 1 := by kernel_rfl
theorem cTab : Tryd.prog.cellsOf 113 = 16 := by kernel_rfl
theorem cellsOp : Tryd.prog.cellsOf 40 = 3 := by kernel_rfl
theorem laidOut : laidOutB Tryd.prog = true := by kernel_rfl
theorem add_plain (b off j : Nat) : (⟨b, off, none⟩ : Addr).add j = ⟨b, off + j, none⟩ := by unfold Addr.add; split <;> simp_all
/-- What the rows list. -/
abbrev lst : List (String × DataW Unit) := [("kindred/bits.halfOnes", Rows.laid_kindred_bits_halfOnes)]
theorem door_met (os : Os) (args : Array Value) : laidMetH Tryd.prog lst ((World.doorLaid Tryd.prog 400 os).forCall (fun _ _ => 0) ⟨#[], args, []⟩).memory :=
  laidMetH_of_parts3 (fuel := 8) (laidMet_of_run' 8 (by kernel_rfl) (by kernel_rfl)) (by kernel_rfl) (by kernel_rfl)
/-- The table, out of the condition. -/
theorem tab_of {W : World} (h : laidMetH Tryd.prog lst W) : Tab W := by
  rw [MakeChecks.laidMetH_plain _ _ _ (by kernel_rfl)] at h
  have hT := Lib.tabIs_of_head (k := .i64) (zs := [0, 1, 1, 2, 1, 2, 2, 3, 1, 2, 2, 3, 2, 3, 3, 4]) (rest := []) gTab tTab Tryd.underlying113 Tryd.underlying3 cells3 cTab h
  exact fun i hi => hT.cell gTab i hi
set_option maxRecDepth 100000 in
theorem op_trod {H : Type} {enc : TypeId × Value → H} {W : World} {base : Nat} {spare : Nat → Bool} {held : Bool} {fuel : Nat} {cs : List Value} {x : DataW H × List MemPlace}
    (h : DataW.trod enc Tryd.prog W base spare held fuel 40 cs = some x) : ∃ e : Op3, cs = oC e := by
  obtain ⟨xs, k, hk, hxy, hlen, hxl, hf⟩ := DataW.trod_struct Tryd.underlying40 h
  rw [cellsOp] at hlen
  match xs, hxl, cs, hlen with
  | [y0, y1, y2], _, [v0, v1, v2], _ =>
    have g0 := hf 0 _ rfl
    have g1 := hf 1 _ rfl
    have g2 := hf 2 _ rfl
    simp [cells3, cells9] at g0 g1 g2
    obtain ⟨z0, hz0, _⟩ := DataW.trod_int Tryd.underlying3 g0
    obtain ⟨z1, hz1, hd1, _⟩ := DataW.trod_string Tryd.underlying9 g1
    obtain ⟨z2, hz2, _⟩ := DataW.trod_int Tryd.underlying3 g2
    simp at hz0 hz1 hz2
    subst hz0 hz1 hz2
    exact ⟨(z0, z1, z2), rfl⟩
theorem bulk_pos {H : Type} (d : DataW H) : 1 ≤ Rows.uptoBulk d := by
  cases d with
  | lit l => cases l <;> simp [Rows.uptoBulk]
  | nil => simp [Rows.uptoBulk]
  | ptr d => simp [Rows.uptoBulk]
  | slice e s => simp [Rows.uptoBulk]
  | agg p => simp [Rows.uptoBulk]
  | iface t d => simp [Rows.uptoBulk]
  | map e => simp [Rows.uptoBulk]
  | held h => simp [Rows.uptoBulk]
theorem bulk_len {H : Type} : ∀ l : List (DataW H), l.length ≤ Rows.uptoBulkAll l
  | [] => Nat.zero_le _
  | d :: l => by
    have h1 := bulk_len l
    have h2 := bulk_pos d
    simp only [Rows.uptoBulkAll, List.length_cons]; omega
set_option maxRecDepth 100000 in
theorem open_ops {H : Type} {enc : TypeId × Value → H} {W : World} {base : Nat} {spare : Nat → Bool} {held : Bool} {fuel : Nat} {a0 : Option Addr} {len cap : Nat} {d : DataW H} {ps : List MemPlace}
    (h : DataW.trod enc Tryd.prog W base spare held fuel 38 [.slice a0 len cap] = some (d, ps)) :
    ∃ l : List Op3, l.length = len ∧ OAt W a0 l ∧ l.length ≤ Rows.uptoBulk d := by
  rcases open_slice Tryd.underlying38 h with ⟨hcs, _⟩ | ⟨a, len', cap', m, n, D, Pl, hcs, _, hlc, _, hm, hx, hel⟩
  · simp at hcs
    obtain ⟨rfl, rfl, rfl⟩ := hcs
    exact ⟨[], rfl, ⟨fun i hi => by simp at hi⟩, Nat.zero_le _⟩
  · simp at hcs
    obtain ⟨rfl, rfl, rfl⟩ := hcs
    have hlm : len ≤ m := by rw [hm]; split <;> omega
    simp only [Prod.mk.injEq] at hx
    obtain ⟨hd, hps⟩ := hx
    have each : ∀ i, i < len → ∃ e : Op3, ∀ j v, (oC e)[j]? = some v → W.cell? ((a.add (i * 3)).add j) = some v := by
      intro i hi
      obtain ⟨cs', h1, h2⟩ := hel i (by omega)
      rw [cellsOp] at h1
      obtain ⟨_, hlen, hcell⟩ := World.cells?_some h1
      obtain ⟨e, rfl⟩ := op_trod h2
      refine ⟨e, fun j v hv => ?_⟩
      have hj : j < 3 := by have := (List.getElem?_eq_some_iff.1 hv).1; simpa [oC] using this
      rw [hcell j hj, hv]
    have hF : ∃ F : Nat → Op3, ∀ i, i < len → ∀ j v, (oC (F i))[j]? = some v → W.cell? ((a.add (i * 3)).add j) = some v := by
      have hh : ∀ i, ∃ e : Op3, i < len → ∀ j v, (oC e)[j]? = some v → W.cell? ((a.add (i * 3)).add j) = some v := fun i => by
        by_cases hi : i < len
        · obtain ⟨e, he⟩ := each i hi
          exact ⟨e, fun _ => he⟩
        · exact ⟨(0, ⟨#[]⟩, 0), fun h => absurd h hi⟩
      exact Classical.axiomOfChoice hh
    obtain ⟨F, hF⟩ := hF
    refine ⟨(List.range len).map F, by simp, ⟨fun i hi => ?_⟩, ?_⟩
    · have hi' : i < len := by simpa using hi
      obtain ⟨b, off, spot⟩ := a
      have hsp : spot = none := by
        have := World.cell?_spot (hF 0 (by omega) 0 _ rfl)
        simpa [Addr.add] using this
      subst hsp
      have h0 := hF i hi' 0 _ rfl
      have h1 := hF i hi' 1 _ rfl
      have h2 := hF i hi' 2 _ rfl
      rw [add_plain, add_plain] at h0 h1 h2
      refine ⟨b, off, rfl, ?_, ?_, ?_⟩
      · simpa using h0
      · simpa using h1
      · simpa using h2
    · rw [hd]
      have := bulk_len ((List.range len).map D)
      simp only [Rows.uptoBulk]
      simp at this ⊢
      omega
end Go.Proofs.YtnnbcdfpbdmgdaaDoor
set_option linter.unusedVariables false
set_option linter.unusedSimpArgs false
namespace Go.Proofs.YtnnbcdfpbdmgdaaDoor
open Go.ChangeMaps (open_string shut_string)
open Go.ChangeShapes Go.WideShapes Go.ChangeAt Go.WideMaps Go.WideElems Go.RowKit
section
variable {H : Type} {enc : TypeId × Value → H} {P : Program} {w : World} {base : Nat} {spare : Nat → Bool} {held : Bool}
theorem trodAll_five {t t' t'' t3 t4 : TypeId} {args : Array Value} {ds : List (DataW H)} {ps : List MemPlace} (h : DataW.TrodAll enc P w base spare held [t, t', t'', t3, t4] args.toList ds ps) :
    ∃ v v' v'' v3 v4 d d' d'' d3 d4 p p' p'' p3 p4, args = #[v, v', v'', v3, v4] ∧ ds = [d, d', d'', d3, d4] ∧ ps = p ++ p' ++ p'' ++ p3 ++ p4 ∧ DataW.Trod enc P w base spare held t v d p ∧ DataW.Trod enc P w base spare held t' v' d' p' ∧ DataW.Trod enc P w base spare held t'' v'' d'' p'' ∧ DataW.Trod enc P w base spare held t3 v3 d3 p3 ∧ DataW.Trod enc P w base spare held t4 v4 d4 p4 := by
  obtain ⟨v, vs, d, ds', p, q, hargs, rfl, rfl, hd, hrest⟩ := trodAll_cons h
  obtain ⟨v', vs', d', ds'', p', q', rfl, rfl, rfl, hd', hrest'⟩ := trodAll_cons hrest
  obtain ⟨v'', vs'', d'', dsQ, p'', q'', rfl, rfl, rfl, hd'', hrest''⟩ := trodAll_cons hrest'
  obtain ⟨v3, vs3, d3, ds3, p3, q3, rfl, rfl, rfl, hd3, hrest3⟩ := trodAll_cons hrest''
  obtain ⟨v4, vs4, d4, ds4, p4, q4, rfl, rfl, rfl, hd4, hrest4⟩ := trodAll_cons hrest3
  obtain ⟨rfl, rfl, rfl⟩ := trodAll_nil hrest4
  exact ⟨v, v', v'', v3, v4, d, d', d'', d3, d4, p, p', p'', p3, p4, by cases args; simp_all, rfl, by simp, hd, hd', hd'', hd3, hd4⟩
theorem trodAll_mk5 {t t' t'' t3 t4 : TypeId} {v v' v'' v3 v4 : Value} {d d' d'' d3 d4 : DataW H} {p p' p'' p3 p4 : List MemPlace} (h : DataW.Trod enc P w base spare held t v d p) (h' : DataW.Trod enc P w base spare held t' v' d' p')
    (h'' : DataW.Trod enc P w base spare held t'' v'' d'' p'') (h3 : DataW.Trod enc P w base spare held t3 v3 d3 p3) (h4 : DataW.Trod enc P w base spare held t4 v4 d4 p4) : DataW.TrodAll enc P w base spare held [t, t', t'', t3, t4] [v, v', v'', v3, v4] [d, d', d'', d3, d4] (p ++ (p' ++ (p'' ++ (p3 ++ p4)))) := ⟨p, p' ++ (p'' ++ (p3 ++ p4)), h, trodAll_mk4 h' h'' h3 h4, rfl⟩
end
theorem lists_small {H : Type} {k r m : Int} {q : List UInt8} {d : DataW H} (hk : Rows.uptoSmall H [.lit (.int .i64 k), d, .lit (.string q), .lit (.int .i64 r), .lit (.int .i64 m)] = true) : Rows.uptoBulk d ≤ 1048576 := by
  have h : Rows.uptoBulkAll [DataW.lit (H := H) (.int .i64 k), d, .lit (.string q), .lit (.int .i64 r), .lit (.int .i64 m)] ≤ 1048576 := of_decide_eq_true hk
  simp only [Rows.uptoBulkAll, Rows.uptoBulk] at h
  omega
theorem lists_reads (os : Os) {H : Type} (enc : TypeId × Value → H) : ∃ places, DataW.whole enc Tryd.prog ((World.doorLaid Tryd.prog 400 os).forCall (fun _ _ => 0) ⟨#[], #[.int .i64 0, .slice none 0 0, .string ⟨#[]⟩, .int .i64 0, .int .i64 0], []⟩).memory Tryd.f8.params.toList Rows.treeListsSpec.vars false #[Value.int .i64 0, .slice none 0 0, .string ⟨#[]⟩, .int .i64 0, .int .i64 0].toList 8 = some ([.lit (.int .i64 0), .nil, .lit (.string []), .lit (.int .i64 0), .lit (.int .i64 0)], [], places) :=
  ⟨[], by kernel_rfl⟩
set_option maxRecDepth 100000 in
theorem lists_lifted (os : Os) (started : os.Started) (H : Type) (enc : TypeId × Value → H) (F : Stop.Interp) :
    ReturnsInHanded {} Tryd.checked os 8 .any ((Rows.OpenSpec.upto Rows.treeListsSpec).preRow enc Tryd.prog Tryd.f8 Rows.treeListsUptoRow.domain false Rows.treeListsUptoRow.laid) (((Rows.OpenSpec.upto Rows.treeListsSpec).at F).post enc Tryd.prog Tryd.f8 false true false false) := by
  obtain ⟨places, hx⟩ := lists_reads os enc
  refine returnsInHanded_of_row (C := Tryd.checked) (s := Rows.OpenSpec.upto Rows.treeListsSpec) own started (by kernel_rfl) Tryd.func8
    (witness_row_at (enc := enc) (C := Tryd.checked) false (World.doorLaid Tryd.prog 400 os) #[.int .i64 0, .slice none 0 0, .string ⟨#[]⟩, .int .i64 0, .int .i64 0] rfl (by kernel_rfl) (by kernel_rfl) (by kernel_rfl)
      (OpenSpec.preRow_of_cond 8 hx (by kernel_rfl) (fun k hk => by cases hk; kernel_rfl) (by kernel_rfl) (laidMet_of_run' 8 (by kernel_rfl) (by kernel_rfl)))) ?_
  intro W base args ds gs before hval0 hW0 _ hcond _ hL0 _ _
  have hL : laidMetH Tryd.prog lst W := hL0
  have hW : DataW.Whole enc Tryd.prog Tryd.f8.params.toList Rows.treeListsSpec.vars false W args.toList ds gs before := hW0
  have hk : Rows.uptoSmall H (ds ++ gs) = true := hcond _ rfl
  show Calls Tryd.prog 8 args W _
  have hval : ∀ (j : Nat) t v, Tryd.f8.params[j]? = some t → args[j]? = some v → Value.okWide Tryd.prog W .any base t v := hval0
  clear hval0 hW0 hL0 hcond
  have hW' := hW
  obtain ⟨p, q, hA0, hV, rfl, hfz, hnd⟩ := hW
  have hA : DataW.TrodAll enc Tryd.prog W 0 (fun _ => true) true Tryd.f8.params.toList args.toList ds p := hA0
  rw [Tryd.params8] at hA hval
  obtain ⟨v0, v1, v2, v3, v4, d0, d1, d2, d3, d4, p0, p1, p2, p3, p4, rfl, rfl, rfl, h0, h1, h2, h3, h4⟩ := trodAll_five hA
  obtain ⟨rfl, rfl⟩ := trodVars_none hV
  obtain ⟨k, rfl, rfl, rfl, wk⟩ := open_int Tryd.underlying3 (hval 0 3 v0 rfl rfl) h0
  obtain ⟨a1, len1, cap1, rfl⟩ := okWide_slice Tryd.underlying38 (hval 1 38 v1 rfl rfl)
  have h1k := h1
  obtain ⟨fuel1, hf1⟩ := h1
  obtain ⟨l, hl1, hL1, hB1⟩ := open_ops (by simpa [Value.cells] using hf1)
  subst hl1
  obtain ⟨q', rfl, rfl, rfl, hq'⟩ := open_string Tryd.underlying9 (hval 2 9 v2 rfl rfl) h2
  obtain ⟨r, rfl, rfl, rfl, wr⟩ := open_int Tryd.underlying3 (hval 3 3 v3 rfl rfl) h3
  obtain ⟨m, rfl, rfl, rfl, wm⟩ := open_int Tryd.underlying3 (hval 4 3 v4 rfl rfl) h4
  clear hA0
  simp only [List.append_nil, List.nil_append] at hW' hk
  have hsm := lists_small hk
  have hlt1 : ∀ x ∈ p1, x.block < W.heap.size := fun x hx => hW'.lt x (by simp [hx])
  have e1 : Rows.treeListsSpec.fn H ([.lit (.int .i64 k), d1, .lit (.string q'.data.toList), .lit (.int .i64 r), .lit (.int .i64 m)] ++ []) = { results := [.lit (.bool true)], args := [.lit (.int .i64 k), d1, .lit (.string q'.data.toList), .lit (.int .i64 r), .lit (.int .i64 m)] } := by simp [Rows.treeListsSpec]
  have fin : ∀ (e : Ending) (W' : World), (e = .returned (.bool true) ∧ Below W.heap.size W W') → ∃ v, e = .returned v ∧ ((Rows.OpenSpec.upto Rows.treeListsSpec).at F).post enc Tryd.prog Tryd.f8 false true false false W #[.int .i64 k, .slice a1 l.length cap1, .string q', .int .i64 r, .int .i64 m] v W' := by
    rintro e W' ⟨rfl, hbl⟩
    refine ⟨_, rfl, _, _, _, [], p1, [], hW', ?_, ?_, ?_, hbl.frame _, fun h => by cases h⟩
    · exact (show _ from by rw [show ((Rows.OpenSpec.upto Rows.treeListsSpec).at F).fn = Rows.treeListsSpec.fn from rfl, e1]; exact trodAll_mk1 (shut_bool Tryd.underlying4 true))
    · exact (show _ from by rw [show ((Rows.OpenSpec.upto Rows.treeListsSpec).at F).fn = Rows.treeListsSpec.fn from rfl, e1]; have h5 := trodAll_mk5 (shut_int Tryd.underlying3 wk) (Below.trod laidOut (by kernel_rfl) (of_decide_eq_true (by kernel_rfl)) h1k hbl hlt1) (shut_string Tryd.underlying9 hq') (shut_int Tryd.underlying3 wr) (shut_int Tryd.underlying3 wm); simp only [List.nil_append, List.append_nil] at h5; exact h5)
    · exact (show _ from by rw [show ((Rows.OpenSpec.upto Rows.treeListsSpec).at F).fn = Rows.treeListsSpec.fn from rfl, e1]; rfl)
  exact (law_lists k l a1 cap1 q' r m W (tab_of hL) hL1 (by omega)).mono fin
theorem lists_row : Rows.TreeListsUptoSaid :=
  OpenClaim.holds_of_cond 8 Tryd.f8 rfl rfl rfl rfl rfl rfl rfl ⟨rfl, rfl, rfl, rfl, rfl⟩ rfl rfl rfl rfl rfl (by kernel_rfl) Tryd.func8 (by kernel_rfl)
    (of_decide_eq_true (by kernel_rfl)) (by unfold Func.isWrapper; first | (rw [if_pos (by decide +kernel)]; kernel_rfl) | (rw [if_neg (by decide +kernel)]; exact ⟨rfl, rfl⟩))
    (fun os started H enc _ F => by rw [OpenClaim.pre_eq_preRow]; exact lists_lifted os started H enc F)
theorem lists_plain (f : FuncId) (fn : Func) (hf : Tryd.pinned.checked.prog.funcNamed "kindred/kindredlaw12.TreeLists" = some f) (hfn : Tryd.pinned.checked.prog.funcs[f]? = some fn) :
    false = Tryd.pinned.checked.prog.looks [] ∧ ∀ (j : Nat) t, fn.params[j]? = some t → Tryd.pinned.checked.prog.wantsStandIn t = false := by
  obtain rfl : f = 8 := Option.some.inj ((show Tryd.prog.funcNamed "kindred/kindredlaw12.TreeLists" = some 8 by kernel_rfl).symm.trans hf) |>.symm
  obtain rfl : fn = Tryd.f8 := (Option.some.inj (Tryd.func8.symm.trans hfn)).symm
  refine ⟨by kernel_rfl, fun j t ht => ?_⟩
  rw [Tryd.params8] at ht
  have hm : t ∈ [3, 38, 9, 3, 3] := by simpa using Array.mem_of_getElem? ht
  have hall : ([3, 38, 9, 3, 3].all fun u => !Tryd.prog.wantsStandIn u) = true := by kernel_rfl
  exact (show Tryd.prog.wantsStandIn t = false by simpa using List.all_eq_true.1 hall t hm)
theorem lists_holds : Rows.TreeListsUptoCardSaid :=
  Claim7.holds_tied_plain_at .later [] _ _ _ _ lists_row (fun _ h => by cases h) (by kernel_rfl) (fun _ h => by cases h) treeListsUpto_row_tie rfl ⟨rfl, rfl⟩ (by kernel_rfl) rfl lists_plain (by kernel_rfl)
#print axioms lists_holds
end Go.Proofs.YtnnbcdfpbdmgdaaDoor
