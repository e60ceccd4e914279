/-
  DERIVED. A search: what stands while it goes on.
-/
import Derived.Test.YtnnbcdfpbdmgdaaDoorTAwait
set_option linter.unusedVariables false
set_option linter.unusedSimpArgs false
namespace Go.Proofs.YtnnbcdfpbdmgdaaDoor
open Go.RowKit Go.Maps Go.Sort Go.Proofs.BitMath Go.Proofs.TreeMath
theorem own_low {w : World} {B B' e sz : Nat} {v : Value} {n : Nat} {xs : List Value} (h : w.ownsRow B e sz v n xs) (hB : B' ≤ B) : w.ownsRow B' e sz v n xs := by
  rcases h with ⟨h1, h2 | ⟨g, cap, cur, h2, h3, h4⟩⟩
  · exact ⟨h1, .inl h2⟩
  · exact ⟨h1, .inr ⟨g, cap, cur, h2, Nat.le_trans hB h3, h4⟩⟩
/-- The last step of a row. -/
theorem row_last3 {w : World} {B : Nat} {bs : List Nat} {L : List St} {s : St} {v : Value} (h : w.ownsRow B 91 3 v (L ++ [s]).length ((L ++ [s]).flatMap (stV bs))) : ∃ g cap, v = .slice (some ⟨g, 0, none⟩) (L.length + 1) cap ∧ L.length + 1 ≤ cap ∧ w.cell? ⟨g, L.length * 3, none⟩ = some (ptr bs (some s.node)) ∧ w.cell? ⟨g, L.length * 3 + 1, none⟩ = some (.int .i64 (s.edge : Nat)) ∧ w.cell? ⟨g, L.length * 3 + 2, none⟩ = some (.int .i64 (s.par : Nat)) ∧ w.ownsRow B 91 3 (.slice (some ⟨g, 0, none⟩) L.length cap) L.length (L.flatMap (stV bs)) := by
  have hl : (L ++ [s]).length = L.length + 1 := by simp
  rw [hl] at h
  rcases h with ⟨h1, ⟨h2, h3⟩ | ⟨g, cap, cur, h2, h3, h4, h5, h6, h7, h8⟩⟩
  · omega
  · have hc : ∀ j, j < 3 → w.cell? ⟨g, L.length * 3 + j, none⟩ = (stV bs s)[j]? := fun j hj => by
      have e : (cur.toList.take ((L.length + 1) * 3))[L.length * 3 + j]? = (stV bs s)[j]? := by
        rw [h8, List.flatMap_append, List.getElem?_append_right (by rw [stV_flat]; omega), stV_flat, Nat.add_sub_cancel_left]
        simp
      rw [List.getElem?_take_of_lt (by omega)] at e
      simp only [World.cell?, h4]
      rw [← e]
      simp
    refine ⟨g, cap, h2, h5, hc 0 (by omega), hc 1 (by omega), hc 2 (by omega), by rw [stV_flat], .inr ⟨g, cap, cur, rfl, h3, h4, by omega, h6, h7, ?_⟩⟩
    have e2 : (cur.toList.take ((L.length + 1) * 3)).take (L.length * 3) = cur.toList.take (L.length * 3) := by rw [List.take_take]; congr 1; omega
    rw [← e2, h8, List.flatMap_append, List.take_left' (by rw [stV_flat])]
/-- A search's distances. -/
def dqf {n : Nat} (T : List (Nd (Cd n))) (q : Cd n) (i : Nat) : Nat := match T[i]? with | some nd => dC nd.code q | none => 0
theorem dqf_eq {n : Nat} {T : List (Nd (Cd n))} {q : Cd n} {i : Nat} {nd : Nd (Cd n)} (h : T[i]? = some nd) : dqf T q i = dC nd.code q := by unfold dqf; rw [h]
/-- How far a code may be when these nodes were looked at. -/
def bdV {n : Nat} (T : List (Nd (Cd n))) (k b0 : Nat) (q : Cd n) (V : List Nat) : Nat := bdM k b0 q (lvc T V)
theorem bdV_le {n : Nat} (T : List (Nd (Cd n))) (k b0 : Nat) (q : Cd n) (V : List Nat) : bdV T k b0 q V ≤ b0 := bdM_le _ _ _ _
theorem bdV_snoc {n : Nat} {T : List (Nd (Cd n))} {k : Nat} (hk : 1 ≤ k) (b0 : Nat) (q : Cd n) (V : List Nat) (v : Nat) : bdV T k b0 q (V ++ [v]) ≤ bdV T k b0 q V := by
  unfold bdV
  cases h : T[v]? with
  | none =>
    have : lvc T (V ++ [v]) = lvc T V := by unfold lvc; rw [List.filterMap_append]; simp [h]
    rw [this]; exact Nat.le_refl _
  | some nd =>
    cases hl : nd.live with
    | true => rw [lvc_yes h hl]; exact bdM_snoc hk _ _ _ _
    | false => rw [lvc_no h hl]; exact Nat.le_refl _
/-- A number that has grown, as an int has it. -/
def lkN (a : Int) (n : Nat) : Int := IntKind.i64.wrap (a + n)
theorem lkN_succ (a : Int) (n : Nat) : IntKind.i64.wrap (lkN a n + 1) = lkN a (n + 1) := by
  unfold lkN
  rw [IntKind.wrap_i64, IntKind.wrap_i64, IntKind.wrap_i64]
  push_cast
  omega
theorem lkN_wf (a : Int) (n : Nat) : (Lit.int .i64 (lkN a n)).wf = true := by
  have e1 : IntKind.i64.min = -9223372036854775808 := rfl
  have e2 : IntKind.i64.max = 9223372036854775807 := rfl
  unfold lkN
  rw [IntKind.wrap_i64]
  simp [Lit.wf, e1, e2]
  omega
/-- The tree has looked at one more. -/
theorem TR.look1 {n : Nat} {W : World} {t wd : Nat} {T : List (Nd (Cd n))} {bs : List Nat} {ms : List (Option Nat)} {x : Num} (h : TR W t wd T bs ms x) (y : Int) (hy : (Lit.int .i64 y).wf = true) : TR (W.setCell ⟨t, 5, none⟩ (.int .i64 y)) t wd T bs ms { x with looked := y } := by
  have st : Stay (fun k => k = t) W (W.setCell ⟨t, 5, none⟩ (.int .i64 y)) := Stay.setCell (F := fun k => k = t) (p := ⟨t, 5, none⟩) (Stay.refl _ W) (fun _ => rfl) _
  refine { h with tree := ?_, node := fun j b nd m h1 h2 h3 => ?_, kids := fun j mb h1 => ?_, lk := hy }
  · rw [setCell_at h.tree]; rfl
  · have hn := h.node j b nd m h1 h2 h3
    refine (st.block b (Array.getElem?_eq_some_iff.1 hn).1 (fun e => ?_)).trans hn
    subst e
    rw [h.tree] at hn; simp at hn
  · refine (h.kids j mb h1).kept st (fun e => ?_)
    subst e
    obtain ⟨c, D, hown, -⟩ := (h.kids j mb h1).ex
    obtain ⟨es, cl, hb, -⟩ := hown
    rw [h.tree] at hb; simp at hb
/-- What stands while a search goes on. -/
structure SS {n : Nat} (B : Nat) (W wr : World) (t wd g cb bf k b0 : Nat) (q : Cd n) (T : List (Nd (Cd n))) (bs : List Nat) (ms : List (Option Nat)) (x : Num) (L0 : List St) (V : List Nat) (L : List St) (wv : Value) (cnt : Nat) (vs : List Value) : Prop where
  tr : TR wr t wd T bs ms { x with looked := lkN x.looked V.length }
  fb : FB B wr g cb k (bdV T k b0 q V) cnt (RL q (lvc T V) b0 (bdV T k b0 q V)) vs
  row : wr.ownsRow B 91 3 wv L.length (L.flatMap (stV bs))
  box : wr.heap[bf]? = some (.cells #[.pointer (some ⟨g, 0, none⟩)] 77 (0, 0))
  si : SI dC T q (bdV T k b0 q) V L
  run : Run T (dqf T q) (bdV T k b0 q) wd L0 [] L V
  st : Stay (fun j => j = t ∨ B ≤ j) W wr
theorem SI.lle {n : Nat} {T : List (Nd (Cd n))} {q : Cd n} {bd : List Nat → Nat} {V : List Nat} {L : List St} (h : SI dC T q bd V L) : L.length ≤ T.length := by
  have h1 := nodup_lt T.length (L.map St.node) (List.pairwise_map.2 (h.apart.imp fun {s t} hh (e : s.node = t.node) => hh s.node ⟨.inl rfl, by rw [e]; exact .inl rfl⟩)) (fun v hv => by
    obtain ⟨s, hs, rfl⟩ := List.mem_map.1 hv
    exact (h.ok s hs).lt)
  simpa using h1
theorem Ok.bd {n : Nat} {T : List (Nd (Cd n))} (wf : WF dC T) {q : Cd n} {s : St} (h : Ok dC T q s) (hn : n ≤ 128) : s.edge ≤ 8192 ∧ s.par ≤ 8192 := by
  rcases h with ⟨rfl, -⟩ | ⟨u, nd, m, h1, h2, h3, h4, h5⟩
  · exact ⟨Nat.zero_le _, Nat.zero_le _⟩
  · have := dist_le wf h2 h3
    have := dC_le nd.code q
    omega
theorem SS.skip {n : Nat} {B : Nat} {W wr w' : World} {t wd g cb bf k b0 : Nat} {q : Cd n} {T : List (Nd (Cd n))} {bs : List Nat} {ms : List (Option Nat)} {x : Num} {L0 : List St} {V : List Nat} {L : List St} {s : St} {wv wv' : Value} {cnt : Nat} {vs : List Value} (h : SS B W wr t wd g cb bf k b0 q T bs ms x L0 V (L ++ [s]) wv cnt vs) (hr : wr.ownsRow B 91 3 wv' L.length (L.flatMap (stV bs))) (hm : ¬ may (bdV T k b0 q V) s) (b : Below wr.heap.size wr w') : SS B W w' t wd g cb bf k b0 q T bs ms x L0 V L wv' cnt vs :=
  ⟨h.tr.below b, ((h.fb.fx.kept (F := fun _ => False) (.below b) (fun _ _ hh => hh)).fb h.fb.cnt), row_kept (F := fun _ => False) hr (.below b) (fun _ _ hh => hh), (b.block bf (Array.getElem?_eq_some_iff.1 h.box).1).trans h.box, h.si.skip dC_comm dC_tri h.tr.wf hm, h.run.trans (.skip hm (.refl _ _)), h.st.andThen (Stay.below (F := fun _ => False) b) (fun _ _ hh => hh.elim)⟩
end Go.Proofs.YtnnbcdfpbdmgdaaDoor
