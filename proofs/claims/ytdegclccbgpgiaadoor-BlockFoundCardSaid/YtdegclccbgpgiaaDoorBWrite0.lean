/-
  DERIVED. What holds while a file is written.
-/
import Derived.Test.YtdegclccbgpgiaaDoorBPackL
import Derived.Test.YtdegclccbgpgiaaDoorBAdd
import Derived.Test.YtdegclccbgpgiaaDoorBBytesH
import Derived.Test.YtdegclccbgpgiaaDoorHeldL
import Derived.Laws.EntriesVeiled
set_option linter.unusedVariables false
set_option linter.unusedSimpArgs false
namespace Go.Proofs.YtdegclccbgpgiaaDoor
open Go.RowKit Go.Shelf Go.Proofs.SealMath
theorem packedE_any (a : Option Addr) (n c : Nat) (fn : Fn) (w : World) :
    Calls Tryd.prog 45 #[.slice a n c, .func fn #[] #[]] w fun r w' => r = .returned (.func (.func 82) #[] #[Pt w.heap.size, Pt (w.heap.size + 1)]) ∧ w' = (w.alloc (.cells #[.slice a n c] 24)).alloc (.cells #[.func fn #[] #[]] 102) := by
  go_enter Tryd.func45, Tryd.ntmps45
  go_wp2
  go_ret
  exact ⟨rfl, rfl⟩
theorem packedL_any (a : Option Addr) (n c : Nat) (fn : Fn) (w : World) :
    Calls Tryd.prog 49 #[.slice a n c, .func fn #[] #[]] w fun r w' => r = .returned (.func (.func 84) #[] #[Pt w.heap.size, Pt (w.heap.size + 1)]) ∧ w' = (w.alloc (.cells #[.slice a n c] 96)).alloc (.cells #[.func fn #[] #[]] 109) := by
  go_enter Tryd.func49, Tryd.ntmps49
  go_wp2
  go_ret
  exact ⟨rfl, rfl⟩
theorem box_stay {F : Nat → Prop} {A B : World} {b t : Nat} {v : Value} (h : Boxed A b t v) (s : Stay F A B) (hb : ¬ F b) : Boxed B b t v := (s.block b h.lt hb).trans h
theorem box_set {A : World} {b t : Nat} {v : Value} (h : Boxed A b t v) (u : Value) : Boxed (A.setCell ⟨b, 0, none⟩ u) b t u := heap_setCell_same A b 0 _ _ _ h
/-- The blocks that are written while blocks are put into a file. -/
def WC (fb lb sb : Nat) (v lv : Value) (k : Nat) : Prop := k = fb ∨ k = lb ∨ k = sb ∨ v.ownBlock = some k ∨ lv.ownBlock = some k
structure WI (w : World) (fb ab lb sb : Nat) (K : Nat → Prop) (l : List UInt8) (ls : List Ln) (sm : Nat) (v lv : Value) (s : Option Nat) (A : World) : Prop where
  file : Bd A fb (Pt fb) v l
  add : Boxed A ab 94 (.func (.func 40) #[] #[Pt fb])
  line : Boxed A lb 96 lv
  row : A.ownsRow 0 104 7 lv ls.length (ls.flatMap lnC)
  sum : Boxed A sb 97 (.int .u32 sm)
  bel : Below w.heap.size w A
  lo : ∀ k, WC fb lb sb v lv k → w.heap.size ≤ k
  ap : ∀ k, (K k ∨ s = some k) → ¬ WC fb lb sb v lv k ∧ k ≠ ab ∧ k < A.heap.size
section
variable {w A B : World} {fb ab lb sb : Nat} {K : Nat → Prop} {l : List UInt8} {ls : List Ln} {sm : Nat} {v lv : Value} {s s' : Option Nat}
/-- Each of these blocks has a type of its own. -/
theorem WI.typ (h : WI w fb ab lb sb K l ls sm v lv s A) : ∀ k, WC fb lb sb v lv k → ∃ c t, A.heap[k]? = some (.cells c t (0, 0)) ∧ t ≠ 94 := by
  rintro k (rfl | rfl | rfl | hk | hk)
  · exact ⟨_, _, h.file.cells, by decide⟩
  · exact ⟨_, _, h.line, by decide⟩
  · exact ⟨_, _, h.sum, by decide⟩
  · obtain ⟨c, hc⟩ := row_block h.file.row hk; exact ⟨_, _, hc, by decide⟩
  · obtain ⟨c, hc⟩ := row_block h.row hk; exact ⟨_, _, hc, by decide⟩
theorem WI.lt (h : WI w fb ab lb sb K l ls sm v lv s A) {k : Nat} (hk : WC fb lb sb v lv k) : k < A.heap.size := by
  obtain ⟨c, t, hc, _⟩ := h.typ k hk
  exact (Array.getElem?_eq_some_iff.1 hc).1
theorem WI.nab (h : WI w fb ab lb sb K l ls sm v lv s A) : ¬ WC fb lb sb v lv ab := fun hk => by
  obtain ⟨c, t, hc, ht⟩ := h.typ ab hk
  have := h.add
  unfold Boxed at this
  rw [this] at hc
  cases hc
  exact ht rfl
theorem WI.stay {F : Nat → Prop} (h : WI w fb ab lb sb K l ls sm v lv s A) (st : Stay F A B) (hF : ∀ k, WC fb lb sb v lv k ∨ k = ab → ¬ F k) (hlo : ∀ k, k < w.heap.size → ¬ F k) (hs' : ∀ k, s' = some k → (s = some k ∨ A.heap.size ≤ k) ∧ k < B.heap.size) : WI w fb ab lb sb K l ls sm v lv s' B where
  file := h.file.kept st (hF _ (.inl (.inl rfl))) (fun k hk => hF k (.inl (.inr (.inr (.inr (.inl hk))))))
  add := box_stay h.add st (hF _ (.inr rfl))
  line := box_stay h.line st (hF _ (.inl (.inr (.inl rfl))))
  row := row_kept h.row st (fun k hk => hF k (.inl (.inr (.inr (.inr (.inr hk))))))
  sum := box_stay h.sum st (hF _ (.inl (.inr (.inr (.inl rfl)))))
  bel := h.bel.trans (st.toBelow hlo h.bel.size)
  lo := h.lo
  ap := by
    rintro k (hk | hk)
    · obtain ⟨h1, h2, h3⟩ := h.ap k (.inl hk)
      exact ⟨h1, h2, Nat.lt_of_lt_of_le h3 st.size⟩
    · obtain ⟨h1 | h1, h2⟩ := hs' k hk
      · obtain ⟨h3, h4, _⟩ := h.ap k (.inr h1)
        exact ⟨h3, h4, h2⟩
      · refine ⟨fun hc => ?_, fun e => ?_, h2⟩
        · have := h.lt hc; omega
        · have := h.add.lt; omega
theorem WI.tr (h : WI w fb ab lb sb K l ls sm v lv s A) (ht : TrB s A s' B) (hs : ∀ k, s = some k → w.heap.size ≤ k) : WI w fb ab lb sb K l ls sm v lv s' B :=
  h.stay ht.stay (fun k hk e => by
    rcases hk with hk | rfl
    · exact (h.ap k (.inr e)).1 hk
    · exact (h.ap _ (.inr e)).2.1 rfl) (fun k hk e => by have := hs k e; omega) (fun k hk => ⟨ht.loc k hk, ht.lt k hk⟩)
theorem WI.own {lo : Nat} {row : Option Nat} (h : WI w fb ab lb sb K l ls sm v lv s A) (hg : A.grownBy B row) (hr : ∀ r, row = some r → lo ≤ r ∧ ∃ o : Obj, A.heap[r]? = some o ∧ o.isCells = false) (hl : w.heap.size ≤ lo) : WI w fb ab lb sb K l ls sm v lv s B :=
  h.stay (F := fun k => row = some k) (.grown hg (fun k e => e)) (fun k hk e => by
    obtain ⟨_, o, ho, hc⟩ := hr k e
    rcases hk with hk | rfl
    · obtain ⟨c, t, hk, _⟩ := h.typ k hk
      rw [hk] at ho; cases ho; cases hc
    · have := h.add
      unfold Boxed at this
      rw [this] at ho; cases ho; cases hc) (fun k hk e => by have := (hr k e).1; omega) (fun k hk => ⟨.inl hk, Nat.lt_of_lt_of_le (h.ap k (.inr hk)).2.2 hg.size⟩)
/-- What the writing keeps. -/
theorem WI.kp (h : WI w fb ab lb sb K l ls sm v lv s A) (st : Stay (WC fb lb sb v lv) A B) : KpB K s A B ∧ KeepsOthers A B := by
  refine ⟨⟨st.size, fun k c t m hk hc => (st.block k (Array.getElem?_eq_some_iff.1 hc).1 (h.ap k hk).1).trans hc⟩, ⟨st.size, fun k o hk ho => (st.block k (Array.getElem?_eq_some_iff.1 hk).1 (fun hc => ?_)).trans hk⟩⟩
  obtain ⟨c, t, h1, _⟩ := h.typ k hc
  rw [hk] at h1; cases h1; cases ho
theorem WI.below (h : WI w fb ab lb sb K l ls sm v lv s A) (b : Below A.heap.size A B) : WI w fb ab lb sb K l ls sm v lv s B :=
  h.stay (F := fun _ => False) (.below b) (fun _ _ e => e) (fun _ _ e => e) (fun k hk => ⟨.inl hk, Nat.lt_of_lt_of_le (h.ap k (.inr hk)).2.2 b.size⟩)
/-- The sum is set. -/
theorem WI.sum' (h : WI w fb ab lb sb K l ls sm v lv s A) (x : Nat) : WI w fb ab lb sb K l ls x v lv s (A.setCell ⟨sb, 0, none⟩ (.int .u32 x)) ∧ Stay (WC fb lb sb v lv) A (A.setCell ⟨sb, 0, none⟩ (.int .u32 x)) := by
  have st : Stay (· = sb) A (A.setCell ⟨sb, 0, none⟩ (.int .u32 x)) := (Stay.refl (· = sb) A).setCell (p := ⟨sb, 0, none⟩) (fun _ => rfl) _
  have n1 : fb ≠ sb := fun e => by have h1 := h.file.cells; have h2 := h.sum; unfold Boxed at h2; rw [e, h2] at h1; cases h1
  have n2 : lb ≠ sb := fun e => by have h1 := h.line; have h2 := h.sum; unfold Boxed at h1 h2; rw [e, h2] at h1; cases h1
  have n3 : ∀ k, v.ownBlock = some k → k ≠ sb := fun k hk e => by obtain ⟨c, hc⟩ := row_block h.file.row hk; have h2 := h.sum; unfold Boxed at h2; rw [e, h2] at hc; cases hc
  have n4 : ∀ k, lv.ownBlock = some k → k ≠ sb := fun k hk e => by obtain ⟨c, hc⟩ := row_block h.row hk; have h2 := h.sum; unfold Boxed at h2; rw [e, h2] at hc; cases hc
  have n5 : ab ≠ sb := fun e => h.nab (.inr (.inr (.inl e)))
  refine ⟨⟨h.file.kept st n1 n3, box_stay h.add st n5, box_stay h.line st n2, row_kept h.row st n4, box_set h.sum _, h.bel.trans (st.toBelow (fun k hk e => ?_) h.bel.size), h.lo, fun k hk => ?_⟩, st.mono fun k _ e => .inr (.inr (.inl e))⟩
  · have := h.lo k (.inr (.inr (.inl e))); omega
  · obtain ⟨h1, h2, h3⟩ := h.ap k hk
    exact ⟨h1, h2, by simpa using h3⟩
/-- The file has grown. -/
theorem WI.file' {l' : List UInt8} {v' : Value} (h : WI w fb ab lb sb K l ls sm v lv s A) (hB : Bd B fb (Pt fb) v' l') (hw : Wrote A B fb v v') : WI w fb ab lb sb K l' ls sm v' lv s B ∧ Stay (WC fb lb sb v lv) A B := by
  have st := hw.stay
  have n2 : lb ≠ fb := fun e => by have h1 := h.line; have h2 := h.file.cells; unfold Boxed at h1; rw [e, h2] at h1; cases h1
  have n2' : v.ownBlock ≠ some lb := fun e => by obtain ⟨c, hc⟩ := row_block h.file.row e; have h2 := h.line; unfold Boxed at h2; rw [h2] at hc; cases hc
  have n3 : sb ≠ fb := fun e => by have h1 := h.sum; have h2 := h.file.cells; unfold Boxed at h1; rw [e, h2] at h1; cases h1
  have n3' : v.ownBlock ≠ some sb := fun e => by obtain ⟨c, hc⟩ := row_block h.file.row e; have h2 := h.sum; unfold Boxed at h2; rw [h2] at hc; cases hc
  have n4 : ∀ k, lv.ownBlock = some k → ¬ (k = fb ∨ v.ownBlock = some k) := fun k hk e => by
    obtain ⟨c, hc⟩ := row_block h.row hk
    rcases e with e | e
    · rw [e, h.file.cells] at hc; cases hc
    · obtain ⟨c', hc'⟩ := row_block h.file.row e; rw [hc'] at hc; cases hc
  have n5 : ¬ (ab = fb ∨ v.ownBlock = some ab) := fun e => h.nab (e.elim .inl (fun e => .inr (.inr (.inr (.inl e)))))
  refine ⟨⟨hB, box_stay h.add st n5, box_stay h.line st (fun e => e.elim n2 n2'), row_kept h.row st n4, box_stay h.sum st (fun e => e.elim n3 n3'), h.bel.trans (st.toBelow (fun k hk e => ?_) h.bel.size), fun k hk => ?_, fun k hk => ?_⟩, st.mono fun k _ e => e.elim .inl (fun e => .inr (.inr (.inr (.inl e))))⟩
  · have := h.lo k (e.elim .inl (fun e => .inr (.inr (.inr (.inl e))))); omega
  · rcases hk with e | e | e | e | e
    · exact h.lo k (.inl e)
    · exact h.lo k (.inr (.inl e))
    · exact h.lo k (.inr (.inr (.inl e)))
    · rcases hw.loc k e with e | e
      · exact h.lo k (.inr (.inr (.inr (.inl e))))
      · have := h.bel.size; omega
    · exact h.lo k (.inr (.inr (.inr (.inr e))))
  · obtain ⟨h1, h2, h3⟩ := h.ap k hk
    refine ⟨fun hc => ?_, h2, Nat.lt_of_lt_of_le h3 st.size⟩
    rcases hc with e | e | e | e | e
    · exact h1 (.inl e)
    · exact h1 (.inr (.inl e))
    · exact h1 (.inr (.inr (.inl e)))
    · rcases hw.loc k e with e | e
      · exact h1 (.inr (.inr (.inr (.inl e))))
      · omega
    · exact h1 (.inr (.inr (.inr (.inr e))))
/-- A line has been put behind. -/
theorem WI.line' {ls' : List Ln} {lv' : Value} (h : WI w fb ab lb sb K l ls sm v lv s A) (hr : B.ownsRow 0 104 7 lv' ls'.length (ls'.flatMap lnC)) (st : Stay (fun k => lv.ownBlock = some k) A B) (hloc : ∀ k, lv'.ownBlock = some k → lv.ownBlock = some k ∨ A.heap.size ≤ k) :
    WI w fb ab lb sb K l ls' sm v lv' s (B.setCell ⟨lb, 0, none⟩ lv') ∧ Stay (WC fb lb sb v lv) A (B.setCell ⟨lb, 0, none⟩ lv') := by
  have st2 : Stay (fun k => k = lb ∨ lv.ownBlock = some k) A (B.setCell ⟨lb, 0, none⟩ lv') := (st.mono fun k _ e => .inr e).setCell (p := ⟨lb, 0, none⟩) (fun _ => .inl rfl) _
  have n1 : ¬ (fb = lb ∨ lv.ownBlock = some fb) := fun e => by
    rcases e with e | e
    · have h1 := h.file.cells; have h2 := h.line; unfold Boxed at h2; rw [e, h2] at h1; cases h1
    · obtain ⟨c, hc⟩ := row_block h.row e; rw [h.file.cells] at hc; cases hc
  have n3 : ¬ (sb = lb ∨ lv.ownBlock = some sb) := fun e => by
    have h1 := h.sum
    unfold Boxed at h1
    rcases e with e | e
    · have h2 := h.line; unfold Boxed at h2; rw [e, h2] at h1; cases h1
    · obtain ⟨c, hc⟩ := row_block h.row e; rw [h1] at hc; cases hc
  have n4 : ∀ k, v.ownBlock = some k → ¬ (k = lb ∨ lv.ownBlock = some k) := fun k hk e => by
    obtain ⟨c, hc⟩ := row_block h.file.row hk
    rcases e with e | e
    · have h2 := h.line; unfold Boxed at h2; rw [e, h2] at hc; cases hc
    · obtain ⟨c', hc'⟩ := row_block h.row e; rw [hc'] at hc; cases hc
  have n5 : ¬ (ab = lb ∨ lv.ownBlock = some ab) := fun e => h.nab (e.elim (fun e => .inr (.inl e)) (fun e => .inr (.inr (.inr (.inr e)))))
  have hbl : Boxed B lb 96 lv := box_stay h.line st (fun e => by obtain ⟨c, hc⟩ := row_block h.row e; have h2 := h.line; unfold Boxed at h2; rw [h2] at hc; cases hc)
  have n6 : ∀ k, lv'.ownBlock = some k → k ≠ lb := fun k hk e => by obtain ⟨c, hc⟩ := row_block hr hk; unfold Boxed at hbl; rw [e, hbl] at hc; cases hc
  have st3 : Stay (· = lb) B (B.setCell ⟨lb, 0, none⟩ lv') := (Stay.refl (· = lb) B).setCell (p := ⟨lb, 0, none⟩) (fun _ => rfl) _
  refine ⟨⟨h.file.kept st2 n1 n4, box_stay h.add st2 n5, box_set hbl _, row_kept hr st3 n6, box_stay h.sum st2 n3, h.bel.trans (st2.toBelow (fun k hk e => ?_) h.bel.size), fun k hk => ?_, fun k hk => ?_⟩, st2.mono fun k _ e => e.elim (fun e => .inr (.inl e)) (fun e => .inr (.inr (.inr (.inr e))))⟩
  · have := h.lo k (e.elim (fun e => .inr (.inl e)) (fun e => .inr (.inr (.inr (.inr e))))); omega
  · rcases hk with e | e | e | e | e
    · exact h.lo k (.inl e)
    · exact h.lo k (.inr (.inl e))
    · exact h.lo k (.inr (.inr (.inl e)))
    · exact h.lo k (.inr (.inr (.inr (.inl e))))
    · rcases hloc k e with e | e
      · exact h.lo k (.inr (.inr (.inr (.inr e))))
      · have := h.bel.size; omega
  · obtain ⟨h1, h2, h3⟩ := h.ap k hk
    refine ⟨fun hc => ?_, h2, Nat.lt_of_lt_of_le h3 st2.size⟩
    rcases hc with e | e | e | e | e
    · exact h1 (.inl e)
    · exact h1 (.inr (.inl e))
    · exact h1 (.inr (.inr (.inl e)))
    · exact h1 (.inr (.inr (.inr (.inl e))))
    · rcases hloc k e with e | e
      · exact h1 (.inr (.inr (.inr (.inr e))))
      · omega
end
end Go.Proofs.YtdegclccbgpgiaaDoor
