/-
  DERIVED. HeldL, BWrite0, BWrite1, BWrite2, BString, as one text.
-/
import Derived.Test.YtjdpolhjbkpnlaaGreatDoorLzAE
import Derived.Test.YtjdpolhjbkpnlaaGreatDoorLzAF
import Derived.Laws.EntriesVeiled
import Derived.Deep.RegionHeld
namespace Go.Proofs.YtjdpolhjbkpnlaaGreatDoor
section
variable {F : Fence} {n : Nat} {P : Program} {ops : Array Oper} {Q : Exit → Act → World → Prop} {md : Region.Mode} {S : World → Prop} {L : List Nat}
/-- Whatever order is picked; behind every operation outside L S holds. -/
def AnyL (F : Fence) (n : Nat) (P : Program) (md : Region.Mode) (ops : Array Oper) (Q : Exit → Act → World → Prop) (S : World → Prop) (L : List Nat) : Nat → Array Bool → Act → World → Prop
  | 0, listed, a, w => Region.ready md ops listed = [] ∧ Q .normal a w
  | fuel + 1, listed, a, w => (Region.ready md ops listed = [] → Q .normal a w) ∧
      ∀ i ∈ Region.ready md ops listed, wpOpIn F n P ops Q i (fun a' w' => (i ∉ L → S w') ∧ AnyL F n P md ops Q S L fuel (listed.setIfInBounds i true) a' w') a w
theorem AnyL.any : ∀ (fuel : Nat) (listed : Array Bool) (a : Act) (w : World), AnyL F n P md ops Q S L fuel listed a w → wpAnyIn F n P md ops Q fuel listed a w
  | 0, _, _, _, h => h
  | fuel + 1, _, _, _, h => ⟨h.1, fun i hi => wpOpIn_mono (fun a' w' k => AnyL.any fuel _ a' w' k.2) (h.2 i hi)⟩
theorem AnyL.first {i : Nat} {oi : Oper} {v : Value} (hd : ∀ (j : Nat) o, ops[j]? = some o → ∀ c, o.op ≠ .defer c) (hi : ops[i]? = some oi) (hsel : ∀ (j : Nat) (o : Oper) cs b, ops[j]? = some o → o.op ≠ .select cs b)
    (hQ : ∀ c a w, Q (.panic c) (a.put oi.dst v) w → Q (.panic c) a w) (hL : ∀ j ∈ L, ∀ oj, ops[j]? = some oj → ∃ e ∈ oj.after, Region.binds md e = true ∧ e.on = i) :
    ∀ (fuel : Nat) (listed : Array Bool) (a : Act) (w : World),
      (∀ j oj, ops[j]? = some oj → j ≠ i → listed.getD j true = false → (∀ e ∈ oj.after, Region.binds md e = true → e.on ≠ i) → oi.apart ops oj = true) →
      i ∈ Region.ready md ops listed → YldS P ops S oi v a → S w →
      AnyL F n P md ops Q S L fuel (listed.setIfInBounds i true) (a.put oi.dst v) w → AnyL F n P md ops Q S L (fuel + 1) listed a w := by
  intro fuel
  induction fuel with
  | zero =>
    intro listed a w _ hr hy hS H
    refine ⟨fun h => (by rw [h] at hr; cases hr), fun j hj => ?_⟩
    by_cases e : j = i
    · subst e; exact hy.op (hd _ _ hi) hi hS ⟨fun _ => hS, H⟩
    · have := ready_mono hj e; rw [H.1] at this; cases this
  | succ fuel ih =>
    intro listed a w hf hr hy hS H
    refine ⟨fun h => (by rw [h] at hr; cases hr), fun j hj => ?_⟩
    by_cases e : j = i
    · subst e; exact hy.op (hd _ _ hi) hi hS ⟨fun _ => hS, H⟩
    · obtain ⟨un, oj, hoj, all⟩ := mem_ready.1 hj
      have un' := (mem_ready.1 hr).1
      have hno : ∀ e ∈ oj.after, Region.binds md e = true → e.on ≠ i := fun e he hb heq => by
        have k := all e he hb
        rw [heq] at k
        rw [Array.getD_eq_getD_getElem?] at k un'
        cases hq : listed[i]? <;> simp [hq] at k un'
        rw [k] at un'; cases un'
      have hjL : j ∉ L := fun hm => by
        obtain ⟨e, he, hb, heq⟩ := hL j hm oj hoj
        exact hno e he hb heq
      have step := op_apart (hd _ _ hoj) hoj (hf j oj hoj e un hno) (fun cs b => hsel i oi cs b hi) (fun cs b => hsel j oj cs b hoj) hQ hy (H.2 j (ready_mono hj e))
      refine wpOpIn_mono (fun a' w' k => ⟨k.2.1, ih _ a' w' (fun q oq hq hqi hun hno' => hf q oq hq hqi ?_ hno') (ready_mono hr (Ne.symm e)) k.1 (k.2.1 hjL) ?_⟩) step
      · by_cases hjq : j = q
        · subst hjq; exact un
        · rw [getD_set_ne true hjq] at hun; exact hun
      · rw [Array.setIfInBounds_comm _ _ e]; exact k.2.2
/-- Each of L waits for i. -/
def waits (md : Region.Mode) (ops : Array Oper) (L : List Nat) (i : Nat) : Bool := L.all fun j => match ops[j]? with | some oj => oj.after.any fun e => Region.binds md e && e.on == i | none => true
theorem waits_spec {i : Nat} (h : waits md ops L i = true) : ∀ j ∈ L, ∀ oj, ops[j]? = some oj → ∃ e ∈ oj.after, Region.binds md e = true ∧ e.on = i := fun j hj oj ho => by
  have := List.all_eq_true.1 h j hj
  rw [ho] at this
  obtain ⟨e, he, hb⟩ := Array.any_eq_true'.1 this
  simp at hb
  exact ⟨e, he, hb.1, hb.2⟩
theorem AnyL.take {i : Nat} {oi : Oper} {v : Value} {fuel : Nat} {listed : Array Bool} {a : Act} {w : World} (hd : noDefer ops = true) (hi : ops[i]? = some oi)
    (hs : Region.noSelect ops = true) (hf : Region.free md ops listed i = true) (hr : (Region.ready md ops listed).contains i = true) (hL : waits md ops L i = true)
    (hQ : ∀ c a w, Q (.panic c) (a.put oi.dst v) w → Q (.panic c) a w) (hy : YldS P ops S oi v a) (hS : S w)
    (h : AnyL F n P md ops Q S L fuel (listed.setIfInBounds i true) (a.put oi.dst v) w) : AnyL F n P md ops Q S L (fuel + 1) listed a w :=
  AnyL.first (noDefer_spec hd) hi (Region.noSelect_spec hs) hQ (waits_spec hL) fuel listed a w (Region.free_spec hi hf) (by simpa using hr) hy hS h
theorem AnyL.one {i : Nat} {fuel : Nat} {listed : Array Bool} {a : Act} {w : World} (hr : Region.ready md ops listed = [i])
    (h : wpOpIn F n P ops Q i (fun a' w' => (i ∉ L → S w') ∧ AnyL F n P md ops Q S L fuel (listed.setIfInBounds i true) a' w') a w) : AnyL F n P md ops Q S L (fuel + 1) listed a w :=
  ⟨fun h0 => (by rw [hr] at h0; cases h0), fun j hj => (by rw [hr] at hj; cases List.mem_singleton.1 hj; exact h)⟩
theorem AnyL.done {fuel : Nat} {listed : Array Bool} {a : Act} {w : World} (hr : Region.ready md ops listed = []) (h : Q .normal a w) : AnyL F n P md ops Q S L fuel listed a w := by
  cases fuel with
  | zero => exact ⟨hr, h⟩
  | succ f => exact ⟨fun _ => h, by rw [hr]; simp⟩
theorem region_late {id : Nat} {a : Act} {w : World} (hm : P.follows .mixedOrders = true) (k : Nat) (hk : ops.size = k)
    (h : AnyL F n P .any ops Q S L k (Array.replicate k false) a { w with drawn := w.drawn + 1 }) : (Code.region id ops true).wpIn F n P Q a w := by
  subst hk; exact wpIn_region_any hm (AnyL.any _ _ _ _ h)
/-- Without a panic. -/
def NP (Q : Exit → Act → World → Prop) : Exit → Act → World → Prop
  | .panic _, _, _ => False
  | e, a, w => Q e a w
theorem NP_normal (a : Act) (w : World) : NP Q .normal a w = Q .normal a w := rfl
theorem NP_to : ∀ (e : Exit) (a : Act) (w : World), NP Q e a w → Q e a w
  | .normal, _, _, h => h
  | .ret, _, _, h => h
  | .exit _, _, _, h => h
  | .goto _, _, _, h => h
  | .panic _, _, _, h => h.elim
  | .outgrown, _, _, h => h
theorem region_heldP {id : Nat} {a : Act} {w : World} (hm : P.follows .mixedOrders = true) (k : Nat) (hk : ops.size = k)
    (h : AnyS F n P .any ops (NP Q) S k (Array.replicate k false) a { w with drawn := w.drawn + 1 }) : (Code.region id ops true).wpIn F n P Q a w :=
  wpIn_mono (region_held hm k hk h) NP_to
theorem region_lateP {id : Nat} {a : Act} {w : World} (hm : P.follows .mixedOrders = true) (k : Nat) (hk : ops.size = k)
    (h : AnyL F n P .any ops (NP Q) S L k (Array.replicate k false) a { w with drawn := w.drawn + 1 }) : (Code.region id ops true).wpIn F n P Q a w :=
  wpIn_mono (region_late hm k hk h) NP_to
end
end Go.Proofs.YtjdpolhjbkpnlaaGreatDoor
set_option linter.unusedVariables false
set_option linter.unusedSimpArgs false
namespace Go.Proofs.YtjdpolhjbkpnlaaGreatDoor
open Go.RowKit Go.Shelf Go.Proofs.SealMath
theorem packedE_any (a : Option Addr) (n c : Nat) (fn : Fn) (w : World) :
    Calls Tryz.prog 70 #[.slice a n c, .func fn #[] #[]] w fun r w' => r = .returned (.func (.func 97) #[] #[Pt w.heap.size, Pt (w.heap.size + 1)]) ∧ w' = (w.alloc (.cells #[.slice a n c] 34)).alloc (.cells #[.func fn #[] #[]] 97) := by
  go_enter Tryz.func70, Tryz.ntmps70
  go_wp2
  go_ret
  exact ⟨rfl, rfl⟩
theorem packedL_any (a : Option Addr) (n c : Nat) (fn : Fn) (w : World) :
    Calls Tryz.prog 73 #[.slice a n c, .func fn #[] #[]] w fun r w' => r = .returned (.func (.func 99) #[] #[Pt w.heap.size, Pt (w.heap.size + 1)]) ∧ w' = (w.alloc (.cells #[.slice a n c] 129)).alloc (.cells #[.func fn #[] #[]] 139) := by
  go_enter Tryz.func73, Tryz.ntmps73
  go_wp2
  go_ret
  exact ⟨rfl, rfl⟩
theorem box_stay {F : Nat → Prop} {A B : World} {b t : Nat} {v : Value} (h : Boxed A b t v) (s : Stay F A B) (hb : ¬ F b) : Boxed B b t v := (s.block b h.lt hb).trans h
theorem box_set {A : World} {b t : Nat} {v : Value} (h : Boxed A b t v) (u : Value) : Boxed (A.setCell ⟨b, 0, none⟩ u) b t u := heap_setCell_same A b 0 _ _ _ h
/-- The blocks that are written while blocks are put into a file. -/
def WC (fb lb sb : Nat) (v lv : Value) (k : Nat) : Prop := k = fb ∨ k = lb ∨ k = sb ∨ v.ownBlock = some k ∨ lv.ownBlock = some k
structure WI (w : World) (fb ab lb sb : Nat) (K : Nat → Prop) (l : List UInt8) (ls : List Ln) (sm : Nat) (v lv : Value) (s : Option Nat) (A : World) : Prop where
  file : Bd A fb (Pt fb) v l
  add : Boxed A ab 127 (.func (.func 65) #[] #[Pt fb])
  line : Boxed A lb 129 lv
  row : A.ownsRow 0 135 7 lv ls.length (ls.flatMap lnC)
  sum : Boxed A sb 102 (.int .u32 sm)
  bel : Below w.heap.size w A
  lo : ∀ k, WC fb lb sb v lv k → w.heap.size ≤ k
  ap : ∀ k, (K k ∨ s = some k) → ¬ WC fb lb sb v lv k ∧ k ≠ ab ∧ k < A.heap.size
section
variable {w A B : World} {fb ab lb sb : Nat} {K : Nat → Prop} {l : List UInt8} {ls : List Ln} {sm : Nat} {v lv : Value} {s s' : Option Nat}
/-- Each of these blocks has a type of its own. -/
theorem WI.typ (h : WI w fb ab lb sb K l ls sm v lv s A) : ∀ k, WC fb lb sb v lv k → ∃ c t, A.heap[k]? = some (.cells c t (0, 0)) ∧ t ≠ 127 := by
  rintro k (rfl | rfl | rfl | hk | hk)
  · exact ⟨_, _, h.file.cells, by decide⟩
  · exact ⟨_, _, h.line, by decide⟩
  · exact ⟨_, _, h.sum, by decide⟩
  · obtain ⟨c, hc⟩ := row_block h.file.row hk; exact ⟨_, _, hc, by decide⟩
  · obtain ⟨c, hc⟩ := row_block h.row hk; exact ⟨_, _, hc, by decide⟩
theorem WI.lt (h : WI w fb ab lb sb K l ls sm v lv s A) {k : Nat} (hk : WC fb lb sb v lv k) : k < A.heap.size := by
  obtain ⟨c, t, hc, _⟩ := h.typ k hk
  exact (Array.getElem?_eq_some_iff.1 hc).1
theorem WI.nab (h : WI w fb ab lb sb K l ls sm v lv s A) : ¬ WC fb lb sb v lv ab := fun hk => by
  obtain ⟨c, t, hc, ht⟩ := h.typ ab hk
  have := h.add
  unfold Boxed at this
  rw [this] at hc
  cases hc
  exact ht rfl
theorem WI.stay {F : Nat → Prop} (h : WI w fb ab lb sb K l ls sm v lv s A) (st : Stay F A B) (hF : ∀ k, WC fb lb sb v lv k ∨ k = ab → ¬ F k) (hlo : ∀ k, k < w.heap.size → ¬ F k) (hs' : ∀ k, s' = some k → (s = some k ∨ A.heap.size ≤ k) ∧ k < B.heap.size) : WI w fb ab lb sb K l ls sm v lv s' B where
  file := h.file.kept st (hF _ (.inl (.inl rfl))) (fun k hk => hF k (.inl (.inr (.inr (.inr (.inl hk))))))
  add := box_stay h.add st (hF _ (.inr rfl))
  line := box_stay h.line st (hF _ (.inl (.inr (.inl rfl))))
  row := row_kept h.row st (fun k hk => hF k (.inl (.inr (.inr (.inr (.inr hk))))))
  sum := box_stay h.sum st (hF _ (.inl (.inr (.inr (.inl rfl)))))
  bel := h.bel.trans (st.toBelow hlo h.bel.size)
  lo := h.lo
  ap := by
    rintro k (hk | hk)
    · obtain ⟨h1, h2, h3⟩ := h.ap k (.inl hk)
      exact ⟨h1, h2, Nat.lt_of_lt_of_le h3 st.size⟩
    · obtain ⟨h1 | h1, h2⟩ := hs' k hk
      · obtain ⟨h3, h4, _⟩ := h.ap k (.inr h1)
        exact ⟨h3, h4, h2⟩
      · refine ⟨fun hc => ?_, fun e => ?_, h2⟩
        · have := h.lt hc; omega
        · have := h.add.lt; omega
theorem WI.tr (h : WI w fb ab lb sb K l ls sm v lv s A) (ht : TrB s A s' B) (hs : ∀ k, s = some k → w.heap.size ≤ k) : WI w fb ab lb sb K l ls sm v lv s' B :=
  h.stay ht.stay (fun k hk e => by
    rcases hk with hk | rfl
    · exact (h.ap k (.inr e)).1 hk
    · exact (h.ap _ (.inr e)).2.1 rfl) (fun k hk e => by have := hs k e; omega) (fun k hk => ⟨ht.loc k hk, ht.lt k hk⟩)
theorem WI.own {lo : Nat} {row : Option Nat} (h : WI w fb ab lb sb K l ls sm v lv s A) (hg : A.grownBy B row) (hr : ∀ r, row = some r → lo ≤ r ∧ ∃ o : Obj, A.heap[r]? = some o ∧ o.isCells = false) (hl : w.heap.size ≤ lo) : WI w fb ab lb sb K l ls sm v lv s B :=
  h.stay (F := fun k => row = some k) (.grown hg (fun k e => e)) (fun k hk e => by
    obtain ⟨_, o, ho, hc⟩ := hr k e
    rcases hk with hk | rfl
    · obtain ⟨c, t, hk, _⟩ := h.typ k hk
      rw [hk] at ho; cases ho; cases hc
    · have := h.add
      unfold Boxed at this
      rw [this] at ho; cases ho; cases hc) (fun k hk e => by have := (hr k e).1; omega) (fun k hk => ⟨.inl hk, Nat.lt_of_lt_of_le (h.ap k (.inr hk)).2.2 hg.size⟩)
/-- What the writing keeps. -/
theorem WI.kp (h : WI w fb ab lb sb K l ls sm v lv s A) (st : Stay (WC fb lb sb v lv) A B) : KpB K s A B ∧ KeepsOthers A B := by
  refine ⟨⟨st.size, fun k c t m hk hc => (st.block k (Array.getElem?_eq_some_iff.1 hc).1 (h.ap k hk).1).trans hc⟩, ⟨st.size, fun k o hk ho => (st.block k (Array.getElem?_eq_some_iff.1 hk).1 (fun hc => ?_)).trans hk⟩⟩
  obtain ⟨c, t, h1, _⟩ := h.typ k hc
  rw [hk] at h1; cases h1; cases ho
theorem WI.below (h : WI w fb ab lb sb K l ls sm v lv s A) (b : Below A.heap.size A B) : WI w fb ab lb sb K l ls sm v lv s B :=
  h.stay (F := fun _ => False) (.below b) (fun _ _ e => e) (fun _ _ e => e) (fun k hk => ⟨.inl hk, Nat.lt_of_lt_of_le (h.ap k (.inr hk)).2.2 b.size⟩)
/-- The sum is set. -/
theorem WI.sum' (h : WI w fb ab lb sb K l ls sm v lv s A) (x : Nat) : WI w fb ab lb sb K l ls x v lv s (A.setCell ⟨sb, 0, none⟩ (.int .u32 x)) ∧ Stay (WC fb lb sb v lv) A (A.setCell ⟨sb, 0, none⟩ (.int .u32 x)) := by
  have st : Stay (· = sb) A (A.setCell ⟨sb, 0, none⟩ (.int .u32 x)) := (Stay.refl (· = sb) A).setCell (p := ⟨sb, 0, none⟩) (fun _ => rfl) _
  have n1 : fb ≠ sb := fun e => by have h1 := h.file.cells; have h2 := h.sum; unfold Boxed at h2; rw [e, h2] at h1; cases h1
  have n2 : lb ≠ sb := fun e => by have h1 := h.line; have h2 := h.sum; unfold Boxed at h1 h2; rw [e, h2] at h1; cases h1
  have n3 : ∀ k, v.ownBlock = some k → k ≠ sb := fun k hk e => by obtain ⟨c, hc⟩ := row_block h.file.row hk; have h2 := h.sum; unfold Boxed at h2; rw [e, h2] at hc; cases hc
  have n4 : ∀ k, lv.ownBlock = some k → k ≠ sb := fun k hk e => by obtain ⟨c, hc⟩ := row_block h.row hk; have h2 := h.sum; unfold Boxed at h2; rw [e, h2] at hc; cases hc
  have n5 : ab ≠ sb := fun e => h.nab (.inr (.inr (.inl e)))
  refine ⟨⟨h.file.kept st n1 n3, box_stay h.add st n5, box_stay h.line st n2, row_kept h.row st n4, box_set h.sum _, h.bel.trans (st.toBelow (fun k hk e => ?_) h.bel.size), h.lo, fun k hk => ?_⟩, st.mono fun k _ e => .inr (.inr (.inl e))⟩
  · have := h.lo k (.inr (.inr (.inl e))); omega
  · obtain ⟨h1, h2, h3⟩ := h.ap k hk
    exact ⟨h1, h2, by simpa using h3⟩
/-- The file has grown. -/
theorem WI.file' {l' : List UInt8} {v' : Value} (h : WI w fb ab lb sb K l ls sm v lv s A) (hB : Bd B fb (Pt fb) v' l') (hw : Wrote A B fb v v') : WI w fb ab lb sb K l' ls sm v' lv s B ∧ Stay (WC fb lb sb v lv) A B := by
  have st := hw.stay
  have n2 : lb ≠ fb := fun e => by have h1 := h.line; have h2 := h.file.cells; unfold Boxed at h1; rw [e, h2] at h1; cases h1
  have n2' : v.ownBlock ≠ some lb := fun e => by obtain ⟨c, hc⟩ := row_block h.file.row e; have h2 := h.line; unfold Boxed at h2; rw [h2] at hc; cases hc
  have n3 : sb ≠ fb := fun e => by have h1 := h.sum; have h2 := h.file.cells; unfold Boxed at h1; rw [e, h2] at h1; cases h1
  have n3' : v.ownBlock ≠ some sb := fun e => by obtain ⟨c, hc⟩ := row_block h.file.row e; have h2 := h.sum; unfold Boxed at h2; rw [h2] at hc; cases hc
  have n4 : ∀ k, lv.ownBlock = some k → ¬ (k = fb ∨ v.ownBlock = some k) := fun k hk e => by
    obtain ⟨c, hc⟩ := row_block h.row hk
    rcases e with e | e
    · rw [e, h.file.cells] at hc; cases hc
    · obtain ⟨c', hc'⟩ := row_block h.file.row e; rw [hc'] at hc; cases hc
  have n5 : ¬ (ab = fb ∨ v.ownBlock = some ab) := fun e => h.nab (e.elim .inl (fun e => .inr (.inr (.inr (.inl e)))))
  refine ⟨⟨hB, box_stay h.add st n5, box_stay h.line st (fun e => e.elim n2 n2'), row_kept h.row st n4, box_stay h.sum st (fun e => e.elim n3 n3'), h.bel.trans (st.toBelow (fun k hk e => ?_) h.bel.size), fun k hk => ?_, fun k hk => ?_⟩, st.mono fun k _ e => e.elim .inl (fun e => .inr (.inr (.inr (.inl e))))⟩
  · have := h.lo k (e.elim .inl (fun e => .inr (.inr (.inr (.inl e))))); omega
  · rcases hk with e | e | e | e | e
    · exact h.lo k (.inl e)
    · exact h.lo k (.inr (.inl e))
    · exact h.lo k (.inr (.inr (.inl e)))
    · rcases hw.loc k e with e | e
      · exact h.lo k (.inr (.inr (.inr (.inl e))))
      · have := h.bel.size; omega
    · exact h.lo k (.inr (.inr (.inr (.inr e))))
  · obtain ⟨h1, h2, h3⟩ := h.ap k hk
    refine ⟨fun hc => ?_, h2, Nat.lt_of_lt_of_le h3 st.size⟩
    rcases hc with e | e | e | e | e
    · exact h1 (.inl e)
    · exact h1 (.inr (.inl e))
    · exact h1 (.inr (.inr (.inl e)))
    · rcases hw.loc k e with e | e
      · exact h1 (.inr (.inr (.inr (.inl e))))
      · omega
    · exact h1 (.inr (.inr (.inr (.inr e))))
/-- A line has been put behind. -/
theorem WI.line' {ls' : List Ln} {lv' : Value} (h : WI w fb ab lb sb K l ls sm v lv s A) (hr : B.ownsRow 0 135 7 lv' ls'.length (ls'.flatMap lnC)) (st : Stay (fun k => lv.ownBlock = some k) A B) (hloc : ∀ k, lv'.ownBlock = some k → lv.ownBlock = some k ∨ A.heap.size ≤ k) :
    WI w fb ab lb sb K l ls' sm v lv' s (B.setCell ⟨lb, 0, none⟩ lv') ∧ Stay (WC fb lb sb v lv) A (B.setCell ⟨lb, 0, none⟩ lv') := by
  have st2 : Stay (fun k => k = lb ∨ lv.ownBlock = some k) A (B.setCell ⟨lb, 0, none⟩ lv') := (st.mono fun k _ e => .inr e).setCell (p := ⟨lb, 0, none⟩) (fun _ => .inl rfl) _
  have n1 : ¬ (fb = lb ∨ lv.ownBlock = some fb) := fun e => by
    rcases e with e | e
    · have h1 := h.file.cells; have h2 := h.line; unfold Boxed at h2; rw [e, h2] at h1; cases h1
    · obtain ⟨c, hc⟩ := row_block h.row e; rw [h.file.cells] at hc; cases hc
  have n3 : ¬ (sb = lb ∨ lv.ownBlock = some sb) := fun e => by
    have h1 := h.sum
    unfold Boxed at h1
    rcases e with e | e
    · have h2 := h.line; unfold Boxed at h2; rw [e, h2] at h1; cases h1
    · obtain ⟨c, hc⟩ := row_block h.row e; rw [h1] at hc; cases hc
  have n4 : ∀ k, v.ownBlock = some k → ¬ (k = lb ∨ lv.ownBlock = some k) := fun k hk e => by
    obtain ⟨c, hc⟩ := row_block h.file.row hk
    rcases e with e | e
    · have h2 := h.line; unfold Boxed at h2; rw [e, h2] at hc; cases hc
    · obtain ⟨c', hc'⟩ := row_block h.row e; rw [hc'] at hc; cases hc
  have n5 : ¬ (ab = lb ∨ lv.ownBlock = some ab) := fun e => h.nab (e.elim (fun e => .inr (.inl e)) (fun e => .inr (.inr (.inr (.inr e)))))
  have hbl : Boxed B lb 129 lv := box_stay h.line st (fun e => by obtain ⟨c, hc⟩ := row_block h.row e; have h2 := h.line; unfold Boxed at h2; rw [h2] at hc; cases hc)
  have n6 : ∀ k, lv'.ownBlock = some k → k ≠ lb := fun k hk e => by obtain ⟨c, hc⟩ := row_block hr hk; unfold Boxed at hbl; rw [e, hbl] at hc; cases hc
  have st3 : Stay (· = lb) B (B.setCell ⟨lb, 0, none⟩ lv') := (Stay.refl (· = lb) B).setCell (p := ⟨lb, 0, none⟩) (fun _ => rfl) _
  refine ⟨⟨h.file.kept st2 n1 n4, box_stay h.add st2 n5, box_set hbl _, row_kept hr st3 n6, box_stay h.sum st2 n3, h.bel.trans (st2.toBelow (fun k hk e => ?_) h.bel.size), fun k hk => ?_, fun k hk => ?_⟩, st2.mono fun k _ e => e.elim (fun e => .inr (.inl e)) (fun e => .inr (.inr (.inr (.inr e))))⟩
  · have := h.lo k (e.elim (fun e => .inr (.inl e)) (fun e => .inr (.inr (.inr (.inr e))))); omega
  · rcases hk with e | e | e | e | e
    · exact h.lo k (.inl e)
    · exact h.lo k (.inr (.inl e))
    · exact h.lo k (.inr (.inr (.inl e)))
    · exact h.lo k (.inr (.inr (.inr (.inl e))))
    · rcases hloc k e with e | e
      · exact h.lo k (.inr (.inr (.inr (.inr e))))
      · have := h.bel.size; omega
  · obtain ⟨h1, h2, h3⟩ := h.ap k hk
    refine ⟨fun hc => ?_, h2, Nat.lt_of_lt_of_le h3 st2.size⟩
    rcases hc with e | e | e | e | e
    · exact h1 (.inl e)
    · exact h1 (.inr (.inl e))
    · exact h1 (.inr (.inr (.inl e)))
    · exact h1 (.inr (.inr (.inr (.inl e))))
    · rcases hloc k e with e | e
      · exact h1 (.inr (.inr (.inr (.inr e))))
      · omega
end
end Go.Proofs.YtjdpolhjbkpnlaaGreatDoor
set_option linter.unusedVariables false
set_option linter.unusedSimpArgs false
namespace Go.Proofs.YtjdpolhjbkpnlaaGreatDoor
open Go.RowKit Go.Shelf Go.Proofs.SealMath
theorem stepIn_append_eq {F : Fence} {n : Nat} {P : Program} {ops : Array Oper} {o : Oper} {a : Act} {w : World} {K : Act → World → Prop} {Q : Exit → Act → World → Prop} {E : Prop} (hgd : o.guard = none) (s x : Operand) (t u : TypeId)
    (ho : o.op = .call { callee := .builtin .append, args := #[s, x], argTypes := #[t, u] }) (v xv v' : Value) (w' : World) (hs : a.eval s = v) (hx : a.eval x = xv) (hr : (Builtin.append_ #[t, u] o.type #[v, xv]).run P w = .ok v' w')
    (h : K (a.put o.dst v') w') : if Region.wanted o (yielded ops a.tmps) = true then Oper.wpIn F n P o a w K Q else E := by
  have hw : Region.wanted o (yielded ops a.tmps) = true := by simp [Region.wanted, hgd]
  rw [if_pos hw]
  unfold Oper.wpIn
  refine ⟨by simp [Oper.about, ho, resolve, Target.leads, Sem.run_pure], ?_⟩
  rw [Oper.semAt_plain F _ _ (by rw [ho]; intro c hc'; cases hc')]
  unfold execOp
  simp only [ho, resolve, invoke, builtin, Sem.run_bind, Sem.run_pure, Result.andThen_ok, List.map_toArray, List.map_cons, List.map_nil, hs, hx, hr, Oper.uponIn]
  exact h
theorem infoLn : (Tryz.prog.info? 135).map (fun i => (i.zero, i.size, i.bytes)) = some (some (.agg #[.int .i64 0, .string ⟨#[]⟩, .int .i64 0, .int .i64 0, .bool false, .int .i64 0, .int .i64 0]), 7, 64) := by kernel_rfl
theorem new_cells (W : World) (cs : List Value) (t : TypeId) (j : Nat) (u : Value) (hu : cs[j]? = some u) : (W.alloc (.cells cs.toArray t)).cell? ((⟨W.heap.size, 0, none⟩ : Addr).add j) = some u := by
  have e : (⟨W.heap.size, 0, none⟩ : Addr).add j = ⟨W.heap.size, j, none⟩ := by unfold Addr.add; split <;> simp_all
  rw [e, cell_of_row _ _ j _ t (0, 0) (heap_alloc_last W _)]
  simpa using hu
theorem line_app (W : World) (ls : List Ln) (lv : Value) (h : W.ownsRow 0 135 7 lv ls.length (ls.flatMap lnC)) (y : Ln) (hb : ls.length + 1 ≤ 4194304) :
    ∃ v' w', (Builtin.append_ #[129, 129] 129 #[lv, .slice (some ⟨W.heap.size, 0, none⟩) 1 1]).run Tryz.prog (W.alloc (.cells (lnC y).toArray 135)) = .ok v' w' ∧ w'.ownsRow 0 135 7 v' (ls ++ [y]).length ((ls ++ [y]).flatMap lnC) ∧ Stay (fun k => lv.ownBlock = some k) W w' ∧
      (∀ k, v'.ownBlock = some k → lv.ownBlock = some k ∨ W.heap.size ≤ k) := by
  obtain ⟨i0, hi, hz0, hz1, hz2⟩ := info_parts infoLn
  have st0 : Stay (fun k => lv.ownBlock = some k) W (W.alloc (.cells (lnC y).toArray 135)) := (Stay.refl _ W).alloc _
  have h' : (W.alloc (.cells (lnC y).toArray 135)).ownsRow 0 135 7 lv ls.length (ls.flatMap lnC) := h.alloc _
  have h1c : ∀ u ∈ lnC y, u.oneCell' = true := fun u hu => by
    simp [lnC, enC] at hu
    rcases hu with rfl | rfl | rfl | rfl | rfl | rfl | rfl <;> rfl
  obtain ⟨v', w', hr, ho, hg, _, hloc⟩ := run_append_own_at (P := Tryz.prog) (W.alloc (.cells (lnC y).toArray 135)) 0 129 129 135 i0 _ 7 64 Tryz.underlying129 hi hz0 hz1 hz2 rfl (by decide) lv ls.length _ h' ⟨W.heap.size, 0, none⟩ 1 1 (lnC y) rfl (new_cells W (lnC y) 135) h1c (by unfold maxLen; omega) (by omega) (Nat.zero_le _)
  refine ⟨v', w', hr, by rw [List.length_append, List.flatMap_append]; simpa using ho, st0.trans (.grown hg (fun k hk => hk)), fun k hk => ?_⟩
  rcases hloc with hl | hl
  · exact .inl (hl ▸ hk)
  · rw [hl] at hk; cases hk; exact .inr (by simp)
theorem WC_mono {fb lb sb : Nat} {v lv v' lv' : Value} {N : Nat} (h1 : ∀ k, v'.ownBlock = some k → v.ownBlock = some k ∨ N ≤ k) (h2 : ∀ k, lv'.ownBlock = some k → lv.ownBlock = some k ∨ N ≤ k) : ∀ k, k < N → WC fb lb sb v' lv' k → WC fb lb sb v lv k := by
  rintro k hk (e | e | e | e | e)
  · exact .inl e
  · exact .inr (.inl e)
  · exact .inr (.inr (.inl e))
  · rcases h1 k e with e | e
    · exact .inr (.inr (.inr (.inl e)))
    · omega
  · rcases h2 k e with e | e
    · exact .inr (.inr (.inr (.inr e)))
    · omega
/-- The first of a part. -/
theorem part_first {l : List En} {p : List (Nat × List En)} {x : Nat × List En} (h : p ++ [x] <+: pk enB l) (hok : ∀ e ∈ l, Ok e) : ∃ hx : x.1 < l.length, x.2.headD e0 = l[x.1] ∧ 0 < x.2.length ∧ x.1 + x.2.length ≤ l.length ∧ ln enB x.2 ≤ 4096 := by
  have hm : x ∈ pk enB l := h.subset (by simp)
  obtain ⟨h1, h2, h3, h4⟩ := pk_spec enB l (fun e he => by have := (enB_len e).1; have := (hok e he).c; omega) x hm
  have hp : 0 < x.2.length := List.length_pos_iff.2 h1
  refine ⟨by omega, ?_, hp, h3, h2⟩
  have hd : l.drop x.1 = l[x.1]'(by omega) :: l.drop (x.1 + 1) := List.drop_eq_getElem_cons (by omega)
  rw [hd] at h4
  obtain ⟨m, hm⟩ : ∃ m, x.2.length = m + 1 := ⟨x.2.length - 1, by omega⟩
  rw [hm, List.take_succ_cons] at h4
  rw [← h4]; rfl
/-- The sum over what was put. -/
def smP (pre : List (Nat × List En)) : Nat := crc 0 (pre.flatMap fun p => p.2.flatMap enB)
theorem smP_snoc (pre : List (Nat × List En)) (x : Nat × List En) : smP (pre ++ [x]) = crc (smP pre) (x.2.flatMap enB) := by unfold smP; rw [List.flatMap_append, crc_append]; simp
theorem smP_lt (pre : List (Nat × List En)) : smP pre < 4294967296 := crc_lt _ (by omega)
theorem smP_all (l : List En) : smP (pk enB l) = crc 0 (l.flatMap enB) := by
  unfold smP
  congr 1
  have h := pk_flat enB l
  have e : ∀ ps : List (Nat × List En), (ps.flatMap fun p => p.2.flatMap enB) = ((ps.map (·.2)).flatten).flatMap enB := fun ps => by
    induction ps with
    | nil => rfl
    | cons p ps ih => simp [ih]
  rw [e, h]
attribute [local go_sem] Oper.semAt_some
set_option maxRecDepth 100000 in
set_option maxHeartbeats 1000000 in
theorem packE_nil (la : Option Addr) (g off cap Bl Bf n : Nat) (K : Nat → Prop) (w : World) (hl : w.heap[Bl]? = some (.cells #[.slice la 0 cap] 34 (0, 0))) :
    SeqSt Fence.wide n Tryz.prog 97 #[Pt Bl, Pt Bf] (encP enB g off 5 cap) (fun p x => p ++ [x] <+: pk enB []) TrB (KpB K) (fun p => p = pk enB []) (fun _ => True) none w := fun lp J Jx W hW hJ hJx hY h0 => by
  have hX := box_cell hl (hW.block Bl (Array.getElem?_eq_some_iff.1 hl).1)
  refine callsIn_of_wp Tryz.func97 rfl trivial ?_ rfl
  simp only [Tryz.ntmps97, List.size_toArray, List.length_cons, List.length_nil, Nat.reduceAdd, Nat.reduceSub, Array.replicate_succ, Array.replicate_zero, List.push_toArray, List.append_toArray, List.nil_append, List.cons_append]
  gi_wp2
  gi_loopw [4, 5, 11] (fun pv fv iv wr => fv = .int .i64 0 ∧ iv = .int .i64 0 ∧ wr = W) (fun _ _ iv _ => 0)
  case atStart => exact ⟨rfl, rfl, rfl⟩
  case round =>
    obtain ⟨rfl, rfl, rfl⟩ := hrel
    gi_wp2
    go_end0
    exact ⟨⟨_, rfl⟩, .inl ⟨[], none, rfl, h0⟩⟩
theorem packL_nil (la : Option Addr) (g off cap Bl Bf n : Nat) (K : Nat → Prop) (w : World) (hl : w.heap[Bl]? = some (.cells #[.slice la 0 cap] 129 (0, 0))) :
    SeqSt Fence.wide n Tryz.prog 99 #[Pt Bl, Pt Bf] (encP lnB g off 7 cap) (fun p x => p ++ [x] <+: pk lnB []) TrB (KpB K) (fun p => p = pk lnB []) (fun _ => True) none w := fun lp J Jx W hW hJ hJx hY h0 => by
  have hX := box_cell hl (hW.block Bl (Array.getElem?_eq_some_iff.1 hl).1)
  refine callsIn_of_wp Tryz.func99 rfl trivial ?_ rfl
  simp only [Tryz.ntmps99, List.size_toArray, List.length_cons, List.length_nil, Nat.reduceAdd, Nat.reduceSub, Array.replicate_succ, Array.replicate_zero, List.push_toArray, List.append_toArray, List.nil_append, List.cons_append]
  gi_wp2
  gi_loopw [4, 5, 11] (fun pv fv iv wr => fv = .int .i64 0 ∧ iv = .int .i64 0 ∧ wr = W) (fun _ _ iv _ => 0)
  case atStart => exact ⟨rfl, rfl, rfl⟩
  case round =>
    obtain ⟨rfl, rfl, rfl⟩ := hrel
    gi_wp2
    go_end0
    exact ⟨⟨_, rfl⟩, .inl ⟨[], none, rfl, h0⟩⟩
end Go.Proofs.YtjdpolhjbkpnlaaGreatDoor
set_option linter.unusedVariables false
set_option linter.unusedSimpArgs false
namespace Go.Proofs.YtjdpolhjbkpnlaaGreatDoor
open Go.RowKit Go.Shelf Go.Proofs.SealMath
structure WJ (w : World) (fb ab lb sb D : Nat) (K : Nat → Prop) (l : List UInt8) (sm : Nat) (v lv : Value) (s : Option Nat) (A : World) : Prop where
  file : Bd A fb (Pt fb) v l
  add : Boxed A ab 127 (.func (.func 65) #[] #[Pt fb])
  line : Boxed A lb 129 lv
  sum : Boxed A sb 102 (.int .u32 sm)
  bel : Below w.heap.size w A
  dfr : A.heap[D]? = some (.deferred (some []))
  lo : ∀ k, (k = fb ∨ v.ownBlock = some k) → w.heap.size ≤ k
  apK : ∀ k, K k → ¬ (k = fb ∨ v.ownBlock = some k) ∧ k < A.heap.size
  apS : ∀ k, s = some k → ¬ (k = fb ∨ v.ownBlock = some k ∨ k = ab ∨ k = lb ∨ k = sb ∨ k = D) ∧ k < A.heap.size
section
variable {w A B : World} {fb ab lb sb D : Nat} {K : Nat → Prop} {l : List UInt8} {sm : Nat} {v lv : Value} {s s' : Option Nat}
theorem WJ.cells (h : WJ w fb ab lb sb D K l sm v lv s A) : ∀ k, (k = fb ∨ v.ownBlock = some k) → ∃ c t, A.heap[k]? = some (.cells c t (0, 0)) ∧ t ≠ 127 ∧ t ≠ 129 ∧ t ≠ 102 := by
  rintro k (rfl | hk)
  · exact ⟨_, _, h.file.cells, by decide, by decide, by decide⟩
  · obtain ⟨c, hc⟩ := row_block h.file.row hk; exact ⟨_, _, hc, by decide, by decide, by decide⟩
theorem WJ.lt (h : WJ w fb ab lb sb D K l sm v lv s A) {k : Nat} (hk : k = fb ∨ v.ownBlock = some k ∨ k = ab ∨ k = lb ∨ k = sb ∨ k = D) : k < A.heap.size := by
  rcases hk with e | e | rfl | rfl | rfl | rfl
  · obtain ⟨c, t, hc, _⟩ := h.cells k (.inl e); exact (Array.getElem?_eq_some_iff.1 hc).1
  · obtain ⟨c, t, hc, _⟩ := h.cells k (.inr e); exact (Array.getElem?_eq_some_iff.1 hc).1
  · exact h.add.lt
  · exact h.line.lt
  · exact h.sum.lt
  · exact (Array.getElem?_eq_some_iff.1 h.dfr).1
theorem WJ.stay {F : Nat → Prop} (h : WJ w fb ab lb sb D K l sm v lv s A) (st : Stay F A B) (hF : ∀ k, (k = fb ∨ v.ownBlock = some k ∨ k = ab ∨ k = lb ∨ k = sb ∨ k = D) → ¬ F k) (hlo : ∀ k, k < w.heap.size → ¬ F k) (hs' : ∀ k, s' = some k → (s = some k ∨ A.heap.size ≤ k) ∧ k < B.heap.size) : WJ w fb ab lb sb D K l sm v lv s' B where
  file := h.file.kept st (hF _ (.inl rfl)) (fun k hk => hF k (.inr (.inl hk)))
  add := box_stay h.add st (hF _ (.inr (.inr (.inl rfl))))
  line := box_stay h.line st (hF _ (.inr (.inr (.inr (.inl rfl)))))
  sum := box_stay h.sum st (hF _ (.inr (.inr (.inr (.inr (.inl rfl))))))
  bel := h.bel.trans (st.toBelow hlo h.bel.size)
  dfr := (st.block D (h.lt (.inr (.inr (.inr (.inr (.inr rfl)))))) (hF _ (.inr (.inr (.inr (.inr (.inr rfl))))))).trans h.dfr
  lo := h.lo
  apK := fun k hk => ⟨(h.apK k hk).1, Nat.lt_of_lt_of_le (h.apK k hk).2 st.size⟩
  apS := fun k hk => by
    obtain ⟨h1 | h1, h2⟩ := hs' k hk
    · exact ⟨(h.apS k h1).1, h2⟩
    · exact ⟨fun hc => by have := h.lt hc; omega, h2⟩
theorem WJ.tr (h : WJ w fb ab lb sb D K l sm v lv s A) (ht : TrB s A s' B) (hs : ∀ k, s = some k → w.heap.size ≤ k) : WJ w fb ab lb sb D K l sm v lv s' B :=
  h.stay ht.stay (fun k hk e => (h.apS k e).1 hk) (fun k hk e => by have := hs k e; omega) (fun k hk => ⟨ht.loc k hk, ht.lt k hk⟩)
theorem WJ.own {lo : Nat} {row : Option Nat} (h : WJ w fb ab lb sb D K l sm v lv s A) (hg : A.grownBy B row) (hr : ∀ r, row = some r → lo ≤ r ∧ ∃ o : Obj, A.heap[r]? = some o ∧ o.isCells = false) (hl : w.heap.size ≤ lo) (hD : D < lo) : WJ w fb ab lb sb D K l sm v lv s B :=
  h.stay (F := fun k => row = some k) (.grown hg (fun k e => e)) (fun k hk e => by
    obtain ⟨h0, o, ho, hc⟩ := hr k e
    have key : ∀ c t m, A.heap[k]? = some (.cells c t m) → False := fun c t m h1 => by rw [h1] at ho; cases ho; cases hc
    rcases hk with e | e | rfl | rfl | rfl | rfl
    · obtain ⟨c, t, h1, _⟩ := h.cells k (.inl e); exact key _ _ _ h1
    · obtain ⟨c, t, h1, _⟩ := h.cells k (.inr e); exact key _ _ _ h1
    · exact key _ _ _ h.add
    · exact key _ _ _ h.line
    · exact key _ _ _ h.sum
    · omega) (fun k hk e => by have := (hr k e).1; omega) (fun k hk => ⟨.inl hk, Nat.lt_of_lt_of_le (h.apS k hk).2 hg.size⟩)
theorem WJ.kp (h : WJ w fb ab lb sb D K l sm v lv s A) (st : Stay (fun k => k = fb ∨ v.ownBlock = some k) A B) : KpB K s A B ∧ KeepsOthers A B := by
  refine ⟨⟨st.size, fun k c t m hk hc => (st.block k (Array.getElem?_eq_some_iff.1 hc).1 (fun e => ?_)).trans hc⟩, ⟨st.size, fun k o hk ho => (st.block k (Array.getElem?_eq_some_iff.1 hk).1 (fun hc => ?_)).trans hk⟩⟩
  · rcases hk with hk | hk
    · exact (h.apK k hk).1 e
    · exact (h.apS k hk).1 (e.elim .inl (fun e => .inr (.inl e)))
  · obtain ⟨c, t, h1, _⟩ := h.cells k hc
    rw [hk] at h1; cases h1; cases ho
theorem WJ.below (h : WJ w fb ab lb sb D K l sm v lv s A) (b : Below A.heap.size A B) : WJ w fb ab lb sb D K l sm v lv s B :=
  h.stay (F := fun _ => False) (.below b) (fun _ _ e => e) (fun _ _ e => e) (fun k hk => ⟨.inl hk, Nat.lt_of_lt_of_le (h.apS k hk).2 b.size⟩)
theorem WJ.file' {l' : List UInt8} {v' : Value} (h : WJ w fb ab lb sb D K l sm v lv s A) (hB : Bd B fb (Pt fb) v' l') (hw : Wrote A B fb v v') : WJ w fb ab lb sb D K l' sm v' lv s B := by
  have st := hw.stay
  have nt : ∀ k c t, A.heap[k]? = some (.cells c t (0, 0)) → (t = 127 ∨ t = 129 ∨ t = 102) → ¬ (k = fb ∨ v.ownBlock = some k) := fun k c t hc ht e => by
    obtain ⟨c', t', h1, n1, n2, n3⟩ := h.cells k e
    rw [hc] at h1; cases h1
    rcases ht with e | e | e
    · exact n1 e
    · exact n2 e
    · exact n3 e
  refine ⟨hB, box_stay h.add st (nt ab _ _ h.add (.inl rfl)), box_stay h.line st (nt lb _ _ h.line (.inr (.inl rfl))), box_stay h.sum st (nt sb _ _ h.sum (.inr (.inr rfl))), h.bel.trans (st.toBelow (fun k hk e => ?_) h.bel.size), ?_, fun k hk => ?_, fun k hk => ?_, fun k hk => ?_⟩
  · have := h.lo k e; omega
  · refine (st.block D (h.lt (.inr (.inr (.inr (.inr (.inr rfl)))))) (fun e => ?_)).trans h.dfr
    obtain ⟨c, t, h1, _⟩ := h.cells D e
    rw [h.dfr] at h1; cases h1
  · rcases hk with e | e
    · exact h.lo k (.inl e)
    · rcases hw.loc k e with e | e
      · exact h.lo k (.inr e)
      · have := h.bel.size; omega
  · obtain ⟨h1, h3⟩ := h.apK k hk
    refine ⟨fun hc => ?_, Nat.lt_of_lt_of_le h3 st.size⟩
    rcases hc with e | e
    · exact h1 (.inl e)
    · rcases hw.loc k e with e | e
      · exact h1 (.inr e)
      · omega
  · obtain ⟨h1, h3⟩ := h.apS k hk
    refine ⟨fun hc => ?_, Nat.lt_of_lt_of_le h3 st.size⟩
    rcases hc with e | e | e
    · exact h1 (.inl e)
    · rcases hw.loc k e with e | e
      · exact h1 (.inr (.inl e))
      · omega
    · exact h1 (.inr (.inr e))
end
theorem lns_mem : ∀ (ps : List (Nat × List En)) (off : Nat) (y : Ln), y ∈ lns off ps → ∃ p ∈ ps, y.e = p.2.headD e0 ∧ y.k = p.2.length ∧ y.p ≤ off + (blkL enB 5 ps).length
  | [], _, _, h => by simp [lns] at h
  | p :: ps, off, y, h => by
    rw [lns] at h
    have hl : (blkL enB 5 (p :: ps)).length = ln enB p.2 + 14 + (blkL enB 5 ps).length := by rw [blkL_len, blkL_len]; simp [ln]; omega
    rcases List.mem_cons.1 h with rfl | h
    · exact ⟨p, by simp, rfl, rfl, by dsimp only; omega⟩
    · obtain ⟨q, hq, h1, h2, h3⟩ := lns_mem ps _ y h
      exact ⟨q, List.mem_cons_of_mem _ hq, h1, h2, by omega⟩
/-- Sizes of a file's parts. -/
theorem hbT_len (h : Hd) (l : List En) (hok : ∀ e ∈ l, Ok e) (hn : l.length ≤ 2097152) : (hbT h l).length ≤ 400000000 ∧ (idx h l).length ≤ l.length ∧ ∀ y ∈ idx h l, OkL y := by
  have hln : ∀ q ∈ l, (enB q).length ≤ 153 := fun q hq => by have := (enB_len q).1; have := (hok q hq).c; omega
  have h1 := pre_len enB 5 153 l hln (by omega) (pk enB l) (List.prefix_refl _)
  have h2 : (hdF h l).length ≤ 74 := by unfold hdF; rw [frL_len]; have := hdB_len h l.length; omega
  have h3 : (153 + 14) * l.length ≤ 167 * 2097152 := Nat.mul_le_mul (by omega) hn
  have h4 : (hbT h l).length ≤ 400000000 := by unfold hbT; rw [List.length_append]; omega
  refine ⟨h4, ?_, fun y hy => ?_⟩
  · unfold idx; rw [lns_len]; exact pk_len enB l (fun q hq => Nat.le_trans (hln q hq) (by omega))
  · obtain ⟨p, hp, e1, e2, e3⟩ := lns_mem _ _ y hy
    obtain ⟨s1, s2, s3, s4⟩ := pk_spec enB l (fun q hq => Nat.le_trans (hln q hq) (by omega)) p hp
    have hm : p.2.headD e0 ∈ l := by
      obtain ⟨z, zs, hz⟩ := List.exists_cons_of_ne_nil s1
      rw [hz]
      have : z ∈ p.2 := by rw [hz]; simp
      rw [← s4] at this
      exact List.mem_of_mem_drop (List.mem_of_mem_take this)
    refine ⟨e1 ▸ hok _ hm, by omega, ?_⟩
    unfold hbT at h4
    rw [List.length_append] at h4
    omega
end Go.Proofs.YtjdpolhjbkpnlaaGreatDoor
set_option linter.unusedVariables false
set_option linter.unusedSimpArgs false
namespace Go.Proofs.YtjdpolhjbkpnlaaGreatDoor
open Go.RowKit
theorem stay_freeze {F : Nat → Prop} {a w : World} (h : Stay F a w) {p : Addr} (hp : F p.block) (n : Nat) : Stay F a (w.freeze p n) := by
  refine h.trans ?_
  unfold World.freeze
  split
  · exact Stay.refl F w
  · exact ⟨rfl, rfl, rfl, by simp, fun k hk hF => by
      simp only [Array.getElem?_modify]
      rw [if_neg (fun e : p.block = k => hF (e ▸ hp))]⟩
set_option maxHeartbeats 1000000 in
set_option maxRecDepth 100000 in
theorem string_any {b : Nat} {p v : Value} {l : List UInt8} (w : World) (h : Bd w b p v l) (h0 : l ≠ []) :
    Calls Tryz.prog 77 #[Pt b] w fun r w' => r = .returned (.string ⟨l.toArray⟩) ∧ Stay (fun k => v.ownBlock = some k) w w' := by
  have hl0 : 0 < l.length := List.length_pos_iff.2 h0
  obtain ⟨g, cap, cur, rfl, hbg, hg, hnc, hcm, hcs, htake⟩ : ∃ g cap cur, v = .slice (some ⟨g, 0, none⟩) l.length cap ∧ 0 ≤ g ∧ w.heap[g]? = some (.cells cur 5 (0, 0)) ∧ l.length ≤ cap ∧ cap ≤ maxLen ∧ cur.size = cap * 1 ∧ cur.toList.take (l.length * 1) = l.map BV := by
    rcases h.row.2 with ⟨_, hz⟩ | ⟨g, cap, cur, hv, r⟩
    · omega
    · exact ⟨g, cap, cur, hv, r⟩
  have hbk := h.cells
  have c1 : w.drew.cell? ⟨b, 1, none⟩ = some (.slice (some ⟨g, 0, none⟩) l.length cap) := by
    have : w.drew.heap[b]? = some (.cells #[p, .slice (some ⟨g, 0, none⟩) l.length cap] 121 (0, 0)) := hbk
    rw [Lib.cell_of_heap this]; rfl
  have hSD : (Builtin.unsafeSliceData_ #[98] 158 #[.slice (some ⟨g, 0, none⟩) l.length cap]).run Tryz.prog w.drew = .ok (.pointer (some ⟨g, 0, none⟩)) w.drew :=
    Lib.run_unsafeSliceData_row _ _ _ _ _ _ (by omega)
  have hUS : (Builtin.unsafeString_ #[158, 3] 9 #[.pointer (some ⟨g, 0, none⟩), .int .i64 l.length]).run Tryz.prog w.drew = .ok (.string ⟨l.toArray⟩) (w.drew.freeze ⟨g, 0, none⟩ l.length) := by
    refine Lib.run_unsafeString_row w.drew 158 3 9 5 Tryz.underlying158 (by kernel_rfl) g cur.size (by have hg' : w.drew.heap[g]? = some (.cells cur 5 (0, 0)) := hg; simp [World.shape?, hg']) l h0 (by omega) (by unfold maxLen at hcm; omega) ?_
    intro j x hx
    exact h.row.cells (g := g) rfl j (.int .u8 x.toNat) (by simp [BV, hx])
  have HS := Hid.mk (stay_freeze (F := fun k => Value.ownBlock (.slice (some ⟨g, 0, none⟩) l.length cap) = some k) (Stay.drew (Stay.refl _ w)) (p := ⟨g, 0, none⟩) rfl l.length)
  have mixed : Tryz.prog.follows .mixedOrders = true := by kernel_rfl
  clear h hbk
  go_enter Tryz.func77, Tryz.ntmps77
  go_wp2
  go_region_o
  all_goals (go_wp2; go_ret; exact ⟨rfl, HS.out⟩)
end Go.Proofs.YtjdpolhjbkpnlaaGreatDoor
