/-
  DERIVED. A request is written.
-/
import Derived.Test.YtjdknijjkjmafaaWReq
set_option linter.unusedVariables false
set_option linter.unusedSimpArgs false
namespace Go.Proofs.Ytjdknijjkjmafaa
open Go.RowKit Go.Proofs.SealMath
theorem HC.row {w : World} {g : Nat} {C : Array Value} {T : TypeId} {v : Value} {n : Nat} {xs : List Value} (h : HC w g C T) (hT : T ≠ 5) (hr : w.ownsRow 0 5 1 v n xs) : ∀ k, v.ownBlock = some k → g ≠ k := fun k hk e => by
  obtain ⟨cur, hc⟩ := row_block hr hk
  exact HC.ne h hc hT e
/-- What goes of a request. -/
structure VQ (i : Nat) (q : Rq) : Prop where
  ck : ckQ i q = (false, false)
  id : q.id ≤ 9223372036854775807
  k : q.k ≤ 9223372036854775807
  r : q.r ≤ 9223372036854775807
theorem num_cell {n : Int} (h : decide (n < 0) = false) : (.int .i64 n : Value) = .int .i64 (n.toNat : Nat) := by
  have : ¬ n < 0 := of_decide_eq_false h
  rw [Int.toNat_of_nonneg (by omega)]
theorem wn {n : Int} (h : decide (n < 0) = false) (h2 : n ≤ 9223372036854775807) : n.toNat ≤ 9223372036854775807 := by
  have : ¬ n < 0 := of_decide_eq_false h
  omega
theorem wt_fin {w w1 w2 : World} {H : Hn} {b : Nat} {v v1 v2 : Value} {l l' : List UInt8} (h1 : Wt (w.alloc H.box).drew w1 b v v1 l) (h2 : Wt w1.drew w2 b v1 v2 l') (hb : b < w.heap.size) (hv : ∀ k, v.ownBlock = some k → k < w.heap.size) : w2.heap[w.heap.size]? = some H.box ∧ Wt w w2 b v v2 l' :=
  ⟨bx_kept2 (wt_kept h1 hb hv) h2.st (fun e => by
    rcases e with e | e
    · omega
    · rcases h1.loc _ e with e | e
      · have := hv _ e; omega
      · have : (w.alloc H.box).drew.heap.size = w.heap.size + 1 := by simp
        omega), Wt.trans (wt_box h1) (wt_drew h2) hb⟩
theorem wt_cell2 {w w1 : World} {H : Hn} {b g o : Nat} {v v1 x : Value} {l : List UInt8} {C : Array Value} {T : TypeId} (h1 : Wt (w.alloc H.box).drew w1 b v v1 l) (hg : HC w g C T) (hgb : g ≠ b) (hgv : ∀ k, v.ownBlock = some k → g ≠ k) (ho : C[o]? = some x) :
    w1.drew.cell? ⟨g, o, none⟩ = some x ∧ ∀ k, v1.ownBlock = some k → g ≠ k := by
  have hc : (w.alloc H.box).drew.cell? ⟨g, o, none⟩ = some x := (HC.drew (hg.alloc _)).cell ho
  refine ⟨h1.cell hgb hgv hc, h1.apart hgv ?_⟩
  have := hg.lt
  have e : (w.alloc H.box).drew.heap.size = w.heap.size + 1 := by simp
  omega
/-- A number, then a text; a text, then a number. -/
theorem two_nt (i : Nat) (n : Int) (t : ByteArray) (on ot : Nat) (f : Nat) (w : World) (g b : Nat) (v : Value) (l : List UInt8) (C : Array Value) (hg : HC w g C 40) (hcn : C[on]? = some (.int .i64 n)) (hct : C[ot]? = some (.string t)) (h : Bd w b (Pt b) v l)
    (h1 : decide (n < 0) = false) (h2 : n ≤ 9223372036854775807) (h3 : decide (65536 < t.size) = false) (hl : l.length ≤ 1000)
    (hf : ∀ R, Calls Try.prog (wrH b).n ((wrH b).A ++ #[Pc g on]) (w.alloc (wrH b).box).drew (fun e w1 => e = Un ∧ w1.heap[w.heap.size]? = some (wrH b).box ∧ Calls Try.prog (wrH b).t ((wrH b).A ++ #[Pc g ot]) w1.drew fun e w2 => e = Un ∧ w2.heap[w.heap.size]? = some (wrH b).box ∧ R Un w2) → Calls Try.prog f #[Pt g, (wrH b).v] w R) :
    Calls Try.prog f #[Pt g, (wrH b).v] w fun e w' => e = Un ∧ ∃ v', Wt w w' b v v' (l ++ (wrN n ++ wrT t)) := by
  have hne : g ≠ b := HC.ne hg h.cells (by decide)
  have hgv := HC.row hg (by decide) h.row
  have lb := h.lt
  have lv := h.row_lt
  have ht : t.size ≤ 65536 := by have : ¬ 65536 < t.size := of_decide_eq_false h3; omega
  have hpl := (pvL_len 9 n.toNat).2
  refine hf _ ?_
  refine (wnumber_any n.toNat _ g on (Bd.drew (h.alloc _)) (wn h1 h2) (by omega) (by rw [← num_cell h1]; exact (HC.drew (hg.alloc _)).cell hcn) hne hgv).mono ?_
  rintro e w1 ⟨rfl, v1, t1⟩
  refine ⟨rfl, wt_kept t1 lb lv, ?_⟩
  obtain ⟨c1, a1⟩ := wt_cell2 t1 hg hne hgv hct
  refine (wtext_any t _ g ot (Bd.drew t1.bd) ht (by rw [List.length_append]; omega) c1 hne a1).mono ?_
  rintro e w2 ⟨rfl, v2, t2⟩
  obtain ⟨k2, tt⟩ := wt_fin t1 t2 lb lv
  rw [List.append_assoc] at tt
  exact ⟨rfl, k2, rfl, v2, tt⟩
theorem two_tn (i : Nat) (n : Int) (t : ByteArray) (on ot : Nat) (f : Nat) (w : World) (g b : Nat) (v : Value) (l : List UInt8) (C : Array Value) (hg : HC w g C 40) (hcn : C[on]? = some (.int .i64 n)) (hct : C[ot]? = some (.string t)) (h : Bd w b (Pt b) v l)
    (h1 : decide (n < 0) = false) (h2 : n ≤ 9223372036854775807) (h3 : decide (65536 < t.size) = false) (hl : l.length ≤ 1000)
    (hf : ∀ R, Calls Try.prog (wrH b).t ((wrH b).A ++ #[Pc g ot]) (w.alloc (wrH b).box).drew (fun e w1 => e = Un ∧ w1.heap[w.heap.size]? = some (wrH b).box ∧ Calls Try.prog (wrH b).n ((wrH b).A ++ #[Pc g on]) w1.drew fun e w2 => e = Un ∧ w2.heap[w.heap.size]? = some (wrH b).box ∧ R Un w2) → Calls Try.prog f #[Pt g, (wrH b).v] w R) :
    Calls Try.prog f #[Pt g, (wrH b).v] w fun e w' => e = Un ∧ ∃ v', Wt w w' b v v' (l ++ (wrT t ++ wrN n)) := by
  have hne : g ≠ b := HC.ne hg h.cells (by decide)
  have hgv := HC.row hg (by decide) h.row
  have lb := h.lt
  have lv := h.row_lt
  have ht : t.size ≤ 65536 := by have : ¬ 65536 < t.size := of_decide_eq_false h3; omega
  have hpl := (pvL_len 9 t.size).2
  have hts : t.data.toList.length = t.size := nm_size t
  refine hf _ ?_
  refine (wtext_any t _ g ot (Bd.drew (h.alloc _)) ht (by omega) ((HC.drew (hg.alloc _)).cell hct) hne hgv).mono ?_
  rintro e w1 ⟨rfl, v1, t1⟩
  refine ⟨rfl, wt_kept t1 lb lv, ?_⟩
  obtain ⟨c1, a1⟩ := wt_cell2 t1 hg hne hgv hcn
  refine (wnumber_any n.toNat _ g on (Bd.drew t1.bd) (wn h1 h2) (by rw [List.length_append, List.length_append]; omega) (by rw [← num_cell h1]; exact c1) hne a1).mono ?_
  rintro e w2 ⟨rfl, v2, t2⟩
  obtain ⟨k2, tt⟩ := wt_fin t1 t2 lb lv
  rw [List.append_assoc] at tt
  exact ⟨rfl, k2, rfl, v2, tt⟩
theorem rq_write (i : Nat) (hi : i < 9) (q : Rq) (w : World) (g b : Nat) (v : Value) (l : List UInt8) (hg : HC w g (rqV q) 40) (h : Bd w b (Pt b) v l) (hq : VQ i q) (hl : l.length ≤ 1000) :
    Calls Try.prog (rqF i) #[Pt g, (wrH b).v] w fun e w' => e = Un ∧ ∃ v', Wt w w' b v v' (l ++ wrQ i q) := by
  have E := wrH_ent b
  have hne : g ≠ b := HC.ne hg h.cells (by decide)
  have hgv := HC.row hg (by decide) h.row
  have hcc : i = 0 ∨ i = 1 ∨ i = 2 ∨ i = 3 ∨ i = 4 ∨ 5 ≤ i := by omega
  have hck := hq.ck
  rcases hcc with rfl | rfl | rfl | rfl | rfl | hi5
  · simp only [ckQ, Prod.mk.injEq] at hck
    exact two_nt 0 q.id q.c 1 2 _ w g b v l _ hg rfl rfl h hck.1 hq.id hck.2 hl (fun R h => idAndCode_g (wrH b) g w R E.1 E.2.1 h)
  · simp only [ckQ, Prod.mk.injEq] at hck
    refine id_g (wrH b) g w _ E.1 ?_
    refine (wnumber_any q.id.toNat _ g 1 (Bd.drew (h.alloc _)) (wn hck.1 hq.id) (by omega) (by rw [← num_cell hck.1]; exact (HC.drew (hg.alloc _)).cell rfl) hne hgv).mono ?_
    rintro e w1 ⟨rfl, v1, t1⟩
    exact ⟨rfl, wt_kept t1 h.lt h.row_lt, rfl, v1, wt_box t1⟩
  · simp only [ckQ, Prod.mk.injEq] at hck
    refine id_g (wrH b) g w _ E.1 ?_
    refine (wnumber_any q.id.toNat _ g 1 (Bd.drew (h.alloc _)) (wn hck.1 hq.id) (by omega) (by rw [← num_cell hck.1]; exact (HC.drew (hg.alloc _)).cell rfl) hne hgv).mono ?_
    rintro e w1 ⟨rfl, v1, t1⟩
    exact ⟨rfl, wt_kept t1 h.lt h.row_lt, rfl, v1, wt_box t1⟩
  · simp only [ckQ, Prod.mk.injEq] at hck
    exact two_tn 3 q.k q.c 3 2 _ w g b v l _ hg rfl rfl h hck.1 hq.k hck.2 hl (fun R h => codeAndK_g (wrH b) g w R E.1 E.2.1 h)
  · simp only [ckQ, Prod.mk.injEq] at hck
    exact two_tn 4 q.r q.c 4 2 _ w g b v l _ hg rfl rfl h hck.1 hq.r hck.2 hl (fun R h => codeAndR_g (wrH b) g w R E.1 E.2.1 h)
  · have e6 : wrQ i q = [] := by
      have : i = 5 ∨ i = 6 ∨ i = 7 ∨ i = 8 := by omega
      rcases this with rfl | rfl | rfl | rfl <;> rfl
    rw [rqF_none hi5, e6, List.append_nil]
    exact nothingAsked_g (wrH b) g w _ ⟨rfl, v, h.alloc _, (Stay.refl _ w).alloc _, fun k hk => .inl hk⟩
end Go.Proofs.Ytjdknijjkjmafaa
