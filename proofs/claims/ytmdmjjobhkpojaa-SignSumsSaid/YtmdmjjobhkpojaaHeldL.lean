/-
  DERIVED. A region that draws its order, inside a fence: as in Held, but behind the operations of a list L, each of which waits for what is taken first, nothing is asked of the world: so a cell that is loaded early may be stored late.
-/
import Derived.Test.YtmdmjjobhkpojaaHeld
namespace Go.Proofs.Ytmdmjjobhkpojaa
section
variable {F : Fence} {n : Nat} {P : Program} {ops : Array Oper} {Q : Exit → Act → World → Prop} {md : Region.Mode} {S : World → Prop} {L : List Nat}
/-- Whatever order is picked; behind every operation outside L S holds. -/
def AnyL (F : Fence) (n : Nat) (P : Program) (md : Region.Mode) (ops : Array Oper) (Q : Exit → Act → World → Prop) (S : World → Prop) (L : List Nat) : Nat → Array Bool → Act → World → Prop
  | 0, listed, a, w => Region.ready md ops listed = [] ∧ Q .normal a w
  | fuel + 1, listed, a, w => (Region.ready md ops listed = [] → Q .normal a w) ∧
      ∀ i ∈ Region.ready md ops listed, wpOpIn F n P ops Q i (fun a' w' => (i ∉ L → S w') ∧ AnyL F n P md ops Q S L fuel (listed.setIfInBounds i true) a' w') a w
theorem AnyL.any : ∀ (fuel : Nat) (listed : Array Bool) (a : Act) (w : World), AnyL F n P md ops Q S L fuel listed a w → wpAnyIn F n P md ops Q fuel listed a w
  | 0, _, _, _, h => h
  | fuel + 1, _, _, _, h => ⟨h.1, fun i hi => wpOpIn_mono (fun a' w' k => AnyL.any fuel _ a' w' k.2) (h.2 i hi)⟩
theorem AnyL.first {i : Nat} {oi : Oper} {v : Value} (hd : ∀ (j : Nat) o, ops[j]? = some o → ∀ c, o.op ≠ .defer c) (hi : ops[i]? = some oi) (hsel : ∀ (j : Nat) (o : Oper) cs b, ops[j]? = some o → o.op ≠ .select cs b)
    (hQ : ∀ c a w, Q (.panic c) (a.put oi.dst v) w → Q (.panic c) a w) (hL : ∀ j ∈ L, ∀ oj, ops[j]? = some oj → ∃ e ∈ oj.after, Region.binds md e = true ∧ e.on = i) :
    ∀ (fuel : Nat) (listed : Array Bool) (a : Act) (w : World),
      (∀ j oj, ops[j]? = some oj → j ≠ i → listed.getD j true = false → (∀ e ∈ oj.after, Region.binds md e = true → e.on ≠ i) → oi.apart ops oj = true) →
      i ∈ Region.ready md ops listed → YldS P ops S oi v a → S w →
      AnyL F n P md ops Q S L fuel (listed.setIfInBounds i true) (a.put oi.dst v) w → AnyL F n P md ops Q S L (fuel + 1) listed a w := by
  intro fuel
  induction fuel with
  | zero =>
    intro listed a w _ hr hy hS H
    refine ⟨fun h => (by rw [h] at hr; cases hr), fun j hj => ?_⟩
    by_cases e : j = i
    · subst e; exact hy.op (hd _ _ hi) hi hS ⟨fun _ => hS, H⟩
    · have := ready_mono hj e; rw [H.1] at this; cases this
  | succ fuel ih =>
    intro listed a w hf hr hy hS H
    refine ⟨fun h => (by rw [h] at hr; cases hr), fun j hj => ?_⟩
    by_cases e : j = i
    · subst e; exact hy.op (hd _ _ hi) hi hS ⟨fun _ => hS, H⟩
    · obtain ⟨un, oj, hoj, all⟩ := mem_ready.1 hj
      have un' := (mem_ready.1 hr).1
      have hno : ∀ e ∈ oj.after, Region.binds md e = true → e.on ≠ i := fun e he hb heq => by
        have k := all e he hb
        rw [heq] at k
        rw [Array.getD_eq_getD_getElem?] at k un'
        cases hq : listed[i]? <;> simp [hq] at k un'
        rw [k] at un'; cases un'
      have hjL : j ∉ L := fun hm => by
        obtain ⟨e, he, hb, heq⟩ := hL j hm oj hoj
        exact hno e he hb heq
      have step := op_apart (hd _ _ hoj) hoj (hf j oj hoj e un hno) (fun cs b => hsel i oi cs b hi) (fun cs b => hsel j oj cs b hoj) hQ hy (H.2 j (ready_mono hj e))
      refine wpOpIn_mono (fun a' w' k => ⟨k.2.1, ih _ a' w' (fun q oq hq hqi hun hno' => hf q oq hq hqi ?_ hno') (ready_mono hr (Ne.symm e)) k.1 (k.2.1 hjL) ?_⟩) step
      · by_cases hjq : j = q
        · subst hjq; exact un
        · rw [getD_set_ne true hjq] at hun; exact hun
      · rw [Array.setIfInBounds_comm _ _ e]; exact k.2.2
/-- Each of L waits for i. -/
def waits (md : Region.Mode) (ops : Array Oper) (L : List Nat) (i : Nat) : Bool := L.all fun j => match ops[j]? with | some oj => oj.after.any fun e => Region.binds md e && e.on == i | none => true
theorem waits_spec {i : Nat} (h : waits md ops L i = true) : ∀ j ∈ L, ∀ oj, ops[j]? = some oj → ∃ e ∈ oj.after, Region.binds md e = true ∧ e.on = i := fun j hj oj ho => by
  have := List.all_eq_true.1 h j hj
  rw [ho] at this
  obtain ⟨e, he, hb⟩ := Array.any_eq_true'.1 this
  simp at hb
  exact ⟨e, he, hb.1, hb.2⟩
theorem AnyL.take {i : Nat} {oi : Oper} {v : Value} {fuel : Nat} {listed : Array Bool} {a : Act} {w : World} (hd : noDefer ops = true) (hi : ops[i]? = some oi)
    (hs : Region.noSelect ops = true) (hf : Region.free md ops listed i = true) (hr : (Region.ready md ops listed).contains i = true) (hL : waits md ops L i = true)
    (hQ : ∀ c a w, Q (.panic c) (a.put oi.dst v) w → Q (.panic c) a w) (hy : YldS P ops S oi v a) (hS : S w)
    (h : AnyL F n P md ops Q S L fuel (listed.setIfInBounds i true) (a.put oi.dst v) w) : AnyL F n P md ops Q S L (fuel + 1) listed a w :=
  AnyL.first (noDefer_spec hd) hi (Region.noSelect_spec hs) hQ (waits_spec hL) fuel listed a w (Region.free_spec hi hf) (by simpa using hr) hy hS h
theorem AnyL.one {i : Nat} {fuel : Nat} {listed : Array Bool} {a : Act} {w : World} (hr : Region.ready md ops listed = [i])
    (h : wpOpIn F n P ops Q i (fun a' w' => (i ∉ L → S w') ∧ AnyL F n P md ops Q S L fuel (listed.setIfInBounds i true) a' w') a w) : AnyL F n P md ops Q S L (fuel + 1) listed a w :=
  ⟨fun h0 => (by rw [hr] at h0; cases h0), fun j hj => (by rw [hr] at hj; cases List.mem_singleton.1 hj; exact h)⟩
theorem AnyL.done {fuel : Nat} {listed : Array Bool} {a : Act} {w : World} (hr : Region.ready md ops listed = []) (h : Q .normal a w) : AnyL F n P md ops Q S L fuel listed a w := by
  cases fuel with
  | zero => exact ⟨hr, h⟩
  | succ f => exact ⟨fun _ => h, by rw [hr]; simp⟩
theorem region_late {id : Nat} {a : Act} {w : World} (hm : P.follows .mixedOrders = true) (k : Nat) (hk : ops.size = k)
    (h : AnyL F n P .any ops Q S L k (Array.replicate k false) a { w with drawn := w.drawn + 1 }) : (Code.region id ops true).wpIn F n P Q a w := by
  subst hk; exact wpIn_region_any hm (AnyL.any _ _ _ _ h)
/-- Without a panic. -/
def NP (Q : Exit → Act → World → Prop) : Exit → Act → World → Prop
  | .panic _, _, _ => False
  | e, a, w => Q e a w
theorem NP_normal (a : Act) (w : World) : NP Q .normal a w = Q .normal a w := rfl
theorem NP_to : ∀ (e : Exit) (a : Act) (w : World), NP Q e a w → Q e a w
  | .normal, _, _, h => h
  | .ret, _, _, h => h
  | .exit _, _, _, h => h
  | .goto _, _, _, h => h
  | .panic _, _, _, h => h.elim
  | .outgrown, _, _, h => h
theorem region_heldP {id : Nat} {a : Act} {w : World} (hm : P.follows .mixedOrders = true) (k : Nat) (hk : ops.size = k)
    (h : AnyS F n P .any ops (NP Q) S k (Array.replicate k false) a { w with drawn := w.drawn + 1 }) : (Code.region id ops true).wpIn F n P Q a w :=
  wpIn_mono (region_held hm k hk h) NP_to
theorem region_lateP {id : Nat} {a : Act} {w : World} (hm : P.follows .mixedOrders = true) (k : Nat) (hk : ops.size = k)
    (h : AnyL F n P .any ops (NP Q) S L k (Array.replicate k false) a { w with drawn := w.drawn + 1 }) : (Code.region id ops true).wpIn F n P Q a w :=
  wpIn_mono (region_late hm k hk h) NP_to
end
end Go.Proofs.Ytmdmjjobhkpojaa
