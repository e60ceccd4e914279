/-
  DERIVED. The laws' apart: lists of the call's own share nothing.
-/
import Derived.Test.YtecddamjolekmaaEApart0
set_option linter.unusedVariables false
set_option linter.unusedSimpArgs false
namespace Go.Proofs.Ytecddamjolekmaa
open Go.RowKit
/-- Lists of the call's own, each in a block of its own. -/
structure AP (W : World) (lv : Value) (ss : List Value) (ns : List Nat) : Prop where
  len : ns.length = ss.length
  row : W.ownsRow 0 24 1 lv ss.length ss
  each : ∀ (j : Nat) (s : Value) (n : Nat), ss[j]? = some s → ns[j]? = some n → ∃ X : List Ht, X.length = n ∧ HRow W s X
  apart : ∀ (j l : Nat) (s u : Value) (b : Nat), ss[j]? = some s → ss[l]? = some u → s.ownBlock = some b → u.ownBlock = some b → j = l
/-- While each is marked and grown. -/
structure AQ (w W : World) (ss : List Value) (ns : List Nat) (lv mv : Value) (ms : List Value) (i : Nat) : Prop where
  ml : ms.length = i
  len : ns.length = ss.length
  lrow : W.ownsRow 0 24 1 lv ss.length ss
  mrow : W.ownsRow 0 24 1 mv ms.length ms
  mnew : ∀ b, mv.ownBlock = some b → w.heap.size ≤ b
  lold : ∀ b, lv.ownBlock = some b → b < w.heap.size
  sold : ∀ (j : Nat) (s : Value) (b : Nat), ss[j]? = some s → s.ownBlock = some b → b < w.heap.size
  apart : ∀ (j l : Nat) (s u : Value) (b : Nat), ss[j]? = some s → ss[l]? = some u → s.ownBlock = some b → u.ownBlock = some b → j = l
  done : ∀ (j : Nat) (s m : Value) (n : Nat), ss[j]? = some s → ms[j]? = some m → ns[j]? = some n → HRow W s (List.replicate n (mrk j)) ∧ HRow W m (List.replicate (n + 70) (mrk j))
  left : ∀ (j : Nat) (s : Value) (n : Nat), i ≤ j → ss[j]? = some s → ns[j]? = some n → ∃ X : List Ht, X.length = n ∧ HRow W s X
  loc : ∀ (j : Nat) (s m : Value) (b : Nat), ss[j]? = some s → ms[j]? = some m → m.ownBlock = some b → s.ownBlock = some b ∨ w.heap.size ≤ b
  st : Stay (fun k => ∃ (j : Nat) (s : Value), ss[j]? = some s ∧ s.ownBlock = some k) w W
/-- A block of hits is none of slices. -/
theorem hs_apart {W : World} {lv s : Value} {n : Nat} {xs : List Value} {X : List Ht} (h : W.ownsRow 0 24 1 lv n xs) (k : HRow W s X) {b : Nat} (h1 : lv.ownBlock = some b) (h2 : s.ownBlock = some b) : False := DL.apart h k h1 h2
theorem AQ.step {w W W2 W3 : World} {ss : List Value} {ns : List Nat} {lv mv mv' : Value} {ms : List Value} {i n : Nat} {s l : Value} (q : AQ w W ss ns lv mv ms i) (hs : ss[i]? = some s) (hn : ns[i]? = some n)
    (st : Stay (fun k => s.ownBlock = some k) W W2) (h1 : HRow W2 s (List.replicate n (mrk i))) (h2 : HRow W2 l (List.replicate (n + 70) (mrk i))) (hrel : ∀ b, l.ownBlock = some b → s.ownBlock = some b ∨ W.heap.size ≤ b)
    (m3 : W3.ownsRow 0 24 1 mv' (ms ++ [l]).length (ms ++ [l])) (st3 : Stay (fun k => mv.ownBlock = some k) W2 W3) (hnew : ∀ b, mv'.ownBlock = some b → mv.ownBlock = some b ∨ W2.heap.size ≤ b) : AQ w W3 ss ns lv mv' (ms ++ [l]) (i + 1) := by
  have hWw : w.heap.size ≤ W.heap.size := q.st.size
  obtain ⟨X, -, hX⟩ := q.left i s n (Nat.le_refl _) hs hn
  have l2 : W2.ownsRow 0 24 1 lv ss.length ss := row_kept q.lrow st (fun k hk e => hs_apart q.lrow hX hk e)
  have mr2 : W2.ownsRow 0 24 1 mv ms.length ms := row_kept q.mrow st (fun k hk e => hs_apart q.mrow hX hk e)
  have k3 : ∀ {u : Value} {Y : List Ht}, HRow W2 u Y → HRow W3 u Y := fun {u Y} h => row_kept h st3 (fun k hk e => hs_apart mr2 h e hk)
  refine ⟨by simp [q.ml], q.len, row_kept l2 st3 (fun k hk e => by have := q.lold k hk; have := q.mnew k e; omega), m3, fun b hb => (hnew b hb).elim (q.mnew b) (fun h => Nat.le_trans hWw (Nat.le_trans st.size h)), q.lold, q.sold, q.apart, fun j u m n' hu hm hn' => ?_, fun j u n' hj hu hn' => ?_, fun j u m b hu hm hb => ?_, ?_⟩
  · rcases Nat.lt_or_ge j ms.length with hlt | hge
    · rw [List.getElem?_append_left hlt] at hm
      obtain ⟨d1, d2⟩ := q.done j u m n' hu hm hn'
      have hji : j ≠ i := by rw [← q.ml]; omega
      refine ⟨k3 (row_kept d1 st (fun k hk e => hji (q.apart j i u s k hu hs hk e))), k3 (row_kept d2 st (fun k hk e => ?_))⟩
      rcases q.loc j u m k hu hm hk with h | h
      · exact hji (q.apart j i u s k hu hs h e)
      · have := q.sold i s k hs e; omega
    · rw [List.getElem?_append_right hge] at hm
      obtain ⟨q1, q2⟩ := List.getElem?_eq_some_iff.1 hm
      simp at q1 q2
      have hji : j = i := by rw [← q.ml]; omega
      subst hji
      rw [hs] at hu
      rw [hn] at hn'
      cases hu; cases hn'
      rw [← q2]
      exact ⟨k3 h1, k3 h2⟩
  · obtain ⟨Y, hY1, hY2⟩ := q.left j u n' (by omega) hu hn'
    exact ⟨Y, hY1, k3 (row_kept hY2 st (fun k hk e => by have := q.apart j i u s k hu hs hk e; omega))⟩
  · rcases Nat.lt_or_ge j ms.length with hlt | hge
    · rw [List.getElem?_append_left hlt] at hm
      exact q.loc j u m b hu hm hb
    · rw [List.getElem?_append_right hge] at hm
      obtain ⟨q1, q2⟩ := List.getElem?_eq_some_iff.1 hm
      simp at q1 q2
      have hji : j = i := by rw [← q.ml]; omega
      subst hji
      rw [hs] at hu
      cases hu
      rw [← q2] at hb
      exact (hrel b hb).imp id (fun h => Nat.le_trans hWw h)
  · refine (q.st.andThen st (fun k _ e => ⟨i, s, hs, e⟩)).andThen st3 (fun k hk e => ?_)
    have := q.mnew k e
    omega
theorem set3 {W : World} {g cap n : Nat} {X : List Ht} (h : HRow W (.slice (some ⟨g, 0, none⟩) n cap) X) (hn : n = X.length) (i : Nat) (hi : i < X.length) (x : Ht) : HRow (put3 W g i x) (.slice (some ⟨g, 0, none⟩) n cap) (X.set i x) := by
  subst hn
  show (put3 W g i x).ownsRow 0 28 3 _ (X.set i x).length _
  rw [List.length_set, ← flat_set3 X i x hi]
  exact (World.ownsRow.stored (World.ownsRow.stored (World.ownsRow.stored h _ _).1 _ _).1 _ _).1
def RM (w : World) (ss : List Value) (ns : List Nat) (lv : Value) (um ui : Value) (wr : World) : Prop := ∃ (i : Nat) (a : Option Addr) (c : Nat) (ms : List Value), um = .slice a i c ∧ ui = .int .i64 i ∧ i ≤ ss.length ∧ Hid (AQ w wr ss ns lv (.slice a i c) ms i)
def RMark (w1 : World) (s : Value) (n i : Nat) (bx : Nat) (u : Value) (wr : World) : Prop := ∃ (j : Nat) (X : List Ht), u = .int .i64 j ∧ j ≤ n ∧ Hid (X.length = n ∧ X.take j = List.replicate j (mrk i) ∧ HRow wr s X ∧ wr.heap[bx]? = some (.cells (hC (mrk i)).toArray 28 (0, 0)) ∧ Stay (fun k => s.ownBlock = some k) w1 wr)
def RGrow (w1 : World) (s : Value) (n i : Nat) (bx : Nat) (ul u : Value) (wr : World) : Prop := ∃ (t : Nat) (a : Option Addr) (c : Nat), ul = .slice a (n + t) c ∧ u = .int .i64 t ∧ t ≤ 70 ∧ Hid (HRow wr s (List.replicate n (mrk i)) ∧ HRow wr (.slice a (n + t) c) (List.replicate (n + t) (mrk i)) ∧ wr.heap[bx]? = some (.cells (hC (mrk i)).toArray 28 (0, 0)) ∧ Stay (fun k => s.ownBlock = some k) w1 wr ∧
  ((∃ g cap, s = .slice (some ⟨g, 0, none⟩) n cap ∧ Value.slice a (n + t) c = .slice (some ⟨g, 0, none⟩) (n + t) cap) ∨ ∀ b, (Value.slice a (n + t) c).ownBlock = some b → w1.heap.size + 1 ≤ b))
end Go.Proofs.Ytecddamjolekmaa
