/-
  DERIVED. The law's spoil: lists of groups are written over, and grown.
-/
import Derived.Test.YtmhifofeobhhgaaULaw1
set_option linter.unusedVariables false
set_option linter.unusedSimpArgs false
namespace Go.Proofs.Ytmhifofeobhhgaa
open Go.RowKit Go.Proofs.UnionMath
/-- One mark is put behind; the list that it grew from holds what it held. -/
theorem El.growX {α : Type} {E : El α} {P : Program} (ok : E.Ok P) (W : World) (X : List α) (n t : Nat) (hXn : n = X.length) (s l : Value) (h : α) (B : Nat) (hB : B ≤ W.heap.size) (hs : E.Row W s X) (hl : E.Row W l (X ++ List.replicate t h))
    (hrel : (∃ g cap, s = .slice (some ⟨g, 0, none⟩) n cap ∧ l = .slice (some ⟨g, 0, none⟩) (n + t) cap) ∨ ∀ b, l.ownBlock = some b → B ≤ b) (hsB : ∀ b, s.ownBlock = some b → b < B) (hsz : n + t ≤ 1099511627776) :
    ∃ l' W', (Builtin.append_ #[E.sl, E.sl] E.sl #[l, .slice (some ⟨W.heap.size, 0, none⟩) 1 1]).run P (W.alloc (.cells (E.f h).toArray E.ty)) = .ok l' W' ∧ E.Row W' l' (X ++ List.replicate (t + 1) h) ∧ E.Row W' s X ∧
      ((∃ g cap, s = .slice (some ⟨g, 0, none⟩) n cap ∧ l' = .slice (some ⟨g, 0, none⟩) (n + (t + 1)) cap) ∨ ∀ b, l'.ownBlock = some b → B ≤ b) ∧ Stay (fun k => s.ownBlock = some k ∨ l.ownBlock = some k) W W' := by
  obtain ⟨i0, hi, hz0, hz1, hz2⟩ := info_parts ok.info
  have hby := ok.by1
  have bA : Below W.heap.size W (W.alloc (.cells (E.f h).toArray E.ty)) := (Below.refl _ W).alloc (Nat.le_refl _) _
  have hlA := El.Row.below hl bA
  have hll : (X ++ List.replicate t h).length = n + t := by simp [hXn]
  have hlA' : (W.alloc (.cells (E.f h).toArray E.ty)).ownsRow 0 E.ty E.sz l (n + t) ((X ++ List.replicate t h).flatMap E.f) := by have := hlA; unfold El.Row at this; rw [hll] at this; exact this
  obtain ⟨l', W', hap, ho, hg, hk⟩ := run_append_keep (P := P) (W.alloc (.cells (E.f h).toArray E.ty)) 0 E.sl E.sl E.ty i0 _ E.sz E.by' ok.und hi hz0 hz1 hz2 ok.zs ok.pos l (n + t) _ hlA' ⟨W.heap.size, 0, none⟩ 1 1 (E.f h) (by rw [ok.hf, Nat.one_mul]) (fun j u hu => cells_new W (E.f h) E.ty j u hu) (ok.one h) (by unfold maxLen; omega) (by
    have : (n + t + 1) * E.by' ≤ (n + t + 1) * 64 := Nat.mul_le_mul_left _ hby
    omega) (Nat.zero_le _)
  have hrep : (X ++ List.replicate t h).flatMap E.f ++ E.f h = (X ++ List.replicate (t + 1) h).flatMap E.f := by
    rw [List.replicate_succ', ← List.append_assoc, List.flatMap_append]; simp
  have hlen' : (X ++ List.replicate (t + 1) h).length = n + t + 1 := by simp [hXn]; omega
  have hl' : E.Row W' l' (X ++ List.replicate (t + 1) h) := by
    show W'.ownsRow 0 E.ty E.sz l' _ _
    rw [hlen', ← hrep]; exact ho
  have st : Stay (fun k => l.ownBlock = some k) (W.alloc (.cells (E.f h).toArray E.ty)) W' := .grown hg (fun k hk => hk)
  have hsA := El.Row.below hs bA
  have sW : Stay (fun k => s.ownBlock = some k ∨ l.ownBlock = some k) W W' := (Stay.below bA).andThen (st.mono (fun k _ e => (show s.ownBlock = some k ∨ l.ownBlock = some k from .inr e))) (fun k _ e => e)
  refine ⟨l', W', hap, hl', ?_, ?_, sW⟩
  · rcases hk with ⟨g, cap, e1, e2⟩ | ⟨e1, e2⟩ | ⟨e1, e2⟩
    · rcases hrel with ⟨g', cap', f1, f2⟩ | f
      · rw [e1] at f2
        simp only [Value.slice.injEq, Option.some.injEq, Addr.mk.injEq] at f2
        obtain ⟨⟨rfl, -, -⟩, -, rfl⟩ := f2
        have := El.pre ok (n := n) (by rw [e2] at hl'; exact hl') (by rw [hlen']) (by omega)
        rw [f1]
        have e3 : (X ++ List.replicate (t + 1) h).take n = X := by rw [hXn, List.take_left]
        rw [e3] at this
        exact this
      · exact row_kept hsA st (fun k hk e => by have := f k e; have := hsB k hk; omega)
    · exact row_kept hsA st (fun k hk e => by rw [e2] at e; cases e)
    · refine row_kept (F := fun _ => False) hsA ⟨hg.os, hg.tape, hg.output, hg.size, fun k hk _ => e2 k hk⟩ (fun _ _ h => h)
  · rcases hk with ⟨g, cap, e1, e2⟩ | ⟨e1, e2⟩ | ⟨e1, e2⟩
    · rcases hrel with ⟨g', cap', f1, f2⟩ | f
      · rw [e1] at f2
        simp only [Value.slice.injEq, Option.some.injEq, Addr.mk.injEq] at f2
        obtain ⟨⟨rfl, -, -⟩, -, rfl⟩ := f2
        exact .inl ⟨g, cap, f1, by rw [e2, Nat.add_assoc]⟩
      · right; intro b hb
        refine f b ?_
        rw [e2] at hb
        rw [e1]; exact hb
    · right; intro b hb
      rw [e1, e2] at hb; cases hb
    · right; intro b hb
      rw [e1] at hb; cases hb
      exact Nat.le_trans hB bA.size
/-- Lists by a table. -/
def tab (n : Nat) (len : Nat → Nat) (f : Nat → Nat → Int) : List (List Int) := (List.range n).map (fun j => (List.range (len j)).map (f j))
theorem tab_len (n : Nat) (len : Nat → Nat) (f : Nat → Nat → Int) : (tab n len f).length = n := by simp [tab]
theorem tab_get (n : Nat) (len : Nat → Nat) (f : Nat → Nat → Int) (j : Nat) (h : j < (tab n len f).length) : (tab n len f)[j] = (List.range (len j)).map (f j) := by simp [tab]
def upd2 (f : Nat → Nat → Int) (i k : Nat) (x : Int) : Nat → Nat → Int := fun a b => if a = i ∧ b = k then x else f a b
theorem tab_set (n : Nat) (len : Nat → Nat) (f : Nat → Nat → Int) (i k : Nat) (x : Int) (hi : i < n) : (tab n len f).set i (((List.range (len i)).map (f i)).set k x) = tab n len (upd2 f i k x) := by
  apply List.ext_getElem
  · simp [tab]
  · intro a h1 h2
    rw [List.getElem_set, tab_get _ _ (upd2 f i k x) a h2]
    by_cases e : i = a
    · subst e
      rw [if_pos rfl]
      apply List.ext_getElem
      · simp
      · intro b h3 h4
        rw [List.getElem_set]
        by_cases e' : k = b
        · subst e'; simp [upd2]
        · have : ¬ b = k := fun q => e' q.symm
          simp [upd2, e', this]
    · rw [if_neg e, tab_get]
      apply List.map_congr_left
      intro b _
      have : ¬ a = i := fun q => e q.symm
      simp [upd2, this]
theorem tab_self (L : List (List Int)) : L = tab L.length (fun j => (L.getD j []).length) (fun j k => (L.getD j []).getD k 0) := by
  apply List.ext_getElem
  · simp [tab]
  · intro a h1 h2
    rw [tab_get _ _ _ a h2]
    apply List.ext_getElem
    · simp [List.getD, List.getElem?_eq_getElem h1]
    · intro b h3 h4
      simp [List.getD, List.getElem?_eq_getElem h1, List.getElem?_eq_getElem h3]
/-- One number of one list is written over. -/
theorem GL.setAt {B : Nat} {w : World} {v : Value} {ss : List Sl} {n : Nat} {len : Nat → Nat} {f : Nat → Nat → Int} (h : GL B w v ss (tab n len f)) (i k : Nat) (hi : i < n) (hk : k < len i) (x : Int) (b : Nat) (hb : (sV (ss[i]'(by rw [h.len, tab_len]; exact hi))).ownBlock = some b) :
    GL B (w.setCell ⟨b, k, none⟩ (.int .i64 x)) v ss (tab n len (upd2 f i k x)) ∧ Stay (inB ss) w (w.setCell ⟨b, k, none⟩ (.int .i64 x)) := by
  have hi' : i < ss.length := by rw [h.len, tab_len]; exact hi
  have r := h.each i hi' (by rw [tab_len]; exact hi)
  rw [tab_get] at r
  have s1 : Stay (fun q => q = b) w (w.setCell ⟨b, k, none⟩ (.int .i64 x)) := Stay.setCell (F := fun q => q = b) (p := ⟨b, k, none⟩) (Stay.refl _ w) (fun _ => rfl) _
  have r2 : iE.Row (w.setCell ⟨b, k, none⟩ (.int .i64 x)) (sV ss[i]) (((List.range (len i)).map (f i)).set k x) := by
    rcases hq : ss[i] with ⟨a, l, c⟩
    rw [hq] at r hb
    cases a with
    | none => cases hb
    | some ad =>
      obtain ⟨g', cap', e, -⟩ := i_cell r k (by simpa using hk)
      injection e with e1 e2 e3
      injection e1 with e1
      subst e1
      cases hb
      exact i_set r (i_len r) k (by simpa using hk) x
  refine ⟨⟨row_kept h.row s1 (fun q hq e => g_ne h.row r (by rw [hq, e]) hb), by rw [h.len, tab_len, tab_len], fun j q q' => ?_, h.lo, h.los, h.ap⟩, s1.mono (fun q _ e => ⟨i, hi', by rw [e]; exact hb⟩)⟩
  rw [tab_len] at q'
  have e5 := tab_set n len f i k x hi
  by_cases e : i = j
  · subst e
    have : (tab n len (upd2 f i k x))[i]'(by rw [tab_len]; exact hi) = ((List.range (len i)).map (f i)).set k x := by
      simp only [← e5]; rw [List.getElem_set_self]
    rw [this]; exact r2
  · have : (tab n len (upd2 f i k x))[j]'(by rw [tab_len]; exact q') = (tab n len f)[j]'(by rw [tab_len]; exact q') := by
      simp only [← e5]; rw [List.getElem_set_ne e]
    rw [this]
    exact row_kept (h.each j q (by rw [tab_len]; exact q')) s1 (fun m hm em => e (h.ap i j hi' q b hb (by rw [← em]; exact hm)))
/-- One of the lists is grown elsewhere; it holds what it held. -/
theorem GL.grew {B : Nat} {w w' : World} {v : Value} {ss : List Sl} {L : List (List Int)} (h : GL B w v ss L) (i : Nat) (hi : i < ss.length) (hi' : i < L.length) (st : Stay (fun k => (sV ss[i]).ownBlock = some k) w w') (r : iE.Row w' (sV ss[i]) L[i]) : GL B w' v ss L := by
  have r0 := h.each i hi hi'
  refine ⟨row_kept h.row st (fun q hq e => g_ne h.row r0 hq e), h.len, fun j q q' => ?_, h.lo, h.los, h.ap⟩
  by_cases e : i = j
  · subst e; exact r
  · exact row_kept (h.each j q q') st (fun m hm em => e (h.ap i j hi q m em hm))
end Go.Proofs.Ytmhifofeobhhgaa
