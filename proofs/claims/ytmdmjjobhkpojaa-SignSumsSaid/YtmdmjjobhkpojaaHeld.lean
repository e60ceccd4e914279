/-
  DERIVED. A region that draws its order, inside a fence and inside a round too: a load may be taken first where nothing in the region writes its cell. One condition S on the world is held behind each operation that is carried out; what yields its value in every world that meets S is taken first. Of regions without a defer statement.
-/
import Derived.OrdersHeld
import Derived.OrdersIn
import Derived.OwnWalkIn
namespace Go.Proofs.Ytmdmjjobhkpojaa
section
variable {F : Fence} {n : Nat} {P : Program} {ops : Array Oper} {Q : Exit → Act → World → Prop} {md : Region.Mode} {S : World → Prop}

/-- In every world that meets S the operation yields v, and it is about to make no call. -/
def YldS (P : Program) (ops : Array Oper) (S : World → Prop) (o : Oper) (v : Value) (a : Act) : Prop := YieldsIf P ops S o v a ∧ ∀ w, o.about P w a.eval = none

/-- What an operation comes to does not hang on a temporary that it does not look at. -/
theorem upon_apart {o : Oper} {a : Act} {x : Option Tmp} {v : Value} {K : Act → World → Prop} {R : Act → Prop}
    (hc : ∀ (b : Act) u, (b.put x v).put o.dst u = (b.put o.dst u).put x v) (hR : ∀ u, R (a.put o.dst u)) (hD : ∀ d, R (({ a with defers := d :: a.defers } : Act).put o.dst undef))
    (hQ : ∀ c a w, Q (.panic c) (a.put x v) w → Q (.panic c) a w) (r : Result Next)
    (h : o.uponIn F n P (a.put x v) K Q r) : o.uponIn F n P a (fun a' w' => R a' ∧ K (a'.put x v) w') Q r := by
  have go : ∀ u w', K ((a.put x v).put o.dst u) w' → R (a.put o.dst u) ∧ K ((a.put o.dst u).put x v) w' := fun u w' hk => ⟨hR u, by rw [← hc]; exact hk⟩
  rcases r with ⟨k, w'⟩ | ⟨k, w'⟩
  · rcases k with u | _ | d | ⟨f, args⟩ | ⟨row, args⟩ | ⟨l, f, t, s, b⟩
    all_goals simp only [Oper.uponIn] at h ⊢
    all_goals first
      | exact go _ _ h
      | (refine ⟨hD _, ?_⟩; rw [← hc, ← Act.put_defers]; exact h)
      | (refine ⟨h.1, CallsIn.mono h.2 ?_⟩; rintro (u | c | _) w'' he; exact go _ _ he; exact hQ _ _ _ he; exact he)
      | exact ⟨h.1, RowsIn.mono h.2 fun u w'' he => go _ _ he⟩
      | (refine ⟨h.1, RoundIn.mono h.2 ?_⟩; rintro (u | c | _) w'' he; exact go _ _ he; exact hQ _ _ _ he; exact he)
  · rcases k with u | _
    all_goals simp only [Oper.uponIn] at h ⊢
    all_goals first | exact hQ _ _ _ h | exact h

theorem op_apart {j : Nat} {oi oj : Oper} {v : Value} (hd : ∀ c, oj.op ≠ .defer c) (hj : ops[j]? = some oj) (hap : oi.apart ops oj = true)
    (hsi : ∀ cs b, oi.op ≠ .select cs b) (hsj : ∀ cs b, oj.op ≠ .select cs b)
    (hQ : ∀ c a w, Q (.panic c) (a.put oi.dst v) w → Q (.panic c) a w) {K : Act → World → Prop} {a : Act} {w : World}
    (hy : YldS P ops S oi v a) (h : wpOpIn F n P ops Q j K (a.put oi.dst v) w) :
    wpOpIn F n P ops Q j (fun a' w' => YldS P ops S oi v a' ∧ K (a'.put oi.dst v) w') a w := by
  obtain ⟨h1, h2, h3⟩ := Oper.apart_spec hap
  have keep : ∀ b : Act, b.tmps = a.tmps → ∀ u, YldS P ops S oi v (b.put oj.dst u) := fun b hb u => by
    have e0 : b.eval = a.eval := by funext x; cases x <;> simp [Act.eval, hb]
    refine ⟨hy.1.of_same ?_ ?_, fun w => ?_⟩
    · rw [execOp_put oi hsi b oj.dst u h3, e0]
    · rw [wanted_put oi b oj.dst u h3, hb]
    · rw [about_put oi w b oj.dst u h3, e0]; exact hy.2 w
  have hcomm : ∀ (b : Act) u, (b.put oi.dst v).put oj.dst u = (b.put oj.dst u).put oi.dst v := fun b u => Act.put_comm b v u h2
  unfold wpOpIn at h ⊢
  rw [hj] at h ⊢
  simp only at h ⊢
  rw [wanted_put oj a oi.dst v h1, about_put oj w a oi.dst v h1] at h
  cases hw : Region.wanted oj (yielded ops a.tmps)
  · rw [hw] at h
    simp only [Bool.false_eq_true, if_false] at h ⊢
    exact ⟨h.1, keep a rfl _, by rw [← hcomm]; exact h.2⟩
  · rw [hw] at h
    simp only [if_true] at h ⊢
    unfold Oper.wpIn at h ⊢
    rw [Oper.semAt_plain F _ _ hd] at h ⊢
    rw [execOp_put oj hsj a oi.dst v h1, about_put oj w a oi.dst v h1] at h
    exact ⟨h.1, upon_apart hcomm (keep a rfl) (fun d => keep ({ a with defers := d :: a.defers } : Act) rfl undef) hQ _ h.2⟩

/-- Whatever order is picked; behind every operation S holds. -/
def AnyS (F : Fence) (n : Nat) (P : Program) (md : Region.Mode) (ops : Array Oper) (Q : Exit → Act → World → Prop) (S : World → Prop) : Nat → Array Bool → Act → World → Prop
  | 0, listed, a, w => Region.ready md ops listed = [] ∧ Q .normal a w
  | fuel + 1, listed, a, w => (Region.ready md ops listed = [] → Q .normal a w) ∧
      ∀ i ∈ Region.ready md ops listed, wpOpIn F n P ops Q i (fun a' w' => S w' ∧ AnyS F n P md ops Q S fuel (listed.setIfInBounds i true) a' w') a w

theorem AnyS.any : ∀ (fuel : Nat) (listed : Array Bool) (a : Act) (w : World), AnyS F n P md ops Q S fuel listed a w → wpAnyIn F n P md ops Q fuel listed a w
  | 0, _, _, _, h => h
  | fuel + 1, _, _, _, h => ⟨h.1, fun i hi => wpOpIn_mono (fun a' w' k => AnyS.any fuel _ a' w' k.2) (h.2 i hi)⟩

theorem YldS.op {i : Nat} {o : Oper} {v : Value} {a : Act} {K : Act → World → Prop} {w : World} (hd : ∀ c, o.op ≠ .defer c) (hi : ops[i]? = some o) (hy : YldS P ops S o v a) (hS : S w) (h : K (a.put o.dst v) w) : wpOpIn F n P ops Q i K a w := by
  have hab : ∀ f, o.about P w a.eval = some f → F.fn f := fun f hf => by rw [hy.2 w] at hf; cases hf
  unfold wpOpIn
  rw [hi]
  rcases hy.1 with ⟨hw, hv⟩ | ⟨hw, rfl⟩
  · simp only [hw, if_true, Oper.wpIn, Oper.semAt_plain F _ _ hd, hv w hS, Oper.uponIn]; exact ⟨hab, h⟩
  · simp only [hw, Bool.false_eq_true, if_false]; exact ⟨hab, h⟩

theorem AnyS.first {i : Nat} {oi : Oper} {v : Value} (hd : ∀ (j : Nat) o, ops[j]? = some o → ∀ c, o.op ≠ .defer c) (hi : ops[i]? = some oi) (hsel : ∀ (j : Nat) (o : Oper) cs b, ops[j]? = some o → o.op ≠ .select cs b)
    (hQ : ∀ c a w, Q (.panic c) (a.put oi.dst v) w → Q (.panic c) a w) :
    ∀ (fuel : Nat) (listed : Array Bool) (a : Act) (w : World),
      (∀ j oj, ops[j]? = some oj → j ≠ i → listed.getD j true = false → (∀ e ∈ oj.after, Region.binds md e = true → e.on ≠ i) → oi.apart ops oj = true) →
      i ∈ Region.ready md ops listed → YldS P ops S oi v a → S w →
      AnyS F n P md ops Q S fuel (listed.setIfInBounds i true) (a.put oi.dst v) w → AnyS F n P md ops Q S (fuel + 1) listed a w := by
  intro fuel
  induction fuel with
  | zero =>
    intro listed a w _ hr hy hS H
    refine ⟨fun h => (by rw [h] at hr; cases hr), fun j hj => ?_⟩
    by_cases e : j = i
    · subst e; exact hy.op (hd _ _ hi) hi hS ⟨hS, H⟩
    · have := ready_mono hj e; rw [H.1] at this; cases this
  | succ fuel ih =>
    intro listed a w hf hr hy hS H
    refine ⟨fun h => (by rw [h] at hr; cases hr), fun j hj => ?_⟩
    by_cases e : j = i
    · subst e; exact hy.op (hd _ _ hi) hi hS ⟨hS, H⟩
    · obtain ⟨un, oj, hoj, all⟩ := mem_ready.1 hj
      have un' := (mem_ready.1 hr).1
      have hno : ∀ e ∈ oj.after, Region.binds md e = true → e.on ≠ i := fun e he hb heq => by
        have k := all e he hb
        rw [heq] at k
        rw [Array.getD_eq_getD_getElem?] at k un'
        cases hq : listed[i]? <;> simp [hq] at k un'
        rw [k] at un'; cases un'
      have step := op_apart (hd _ _ hoj) hoj (hf j oj hoj e un hno) (fun cs b => hsel i oi cs b hi) (fun cs b => hsel j oj cs b hoj) hQ hy (H.2 j (ready_mono hj e))
      refine wpOpIn_mono (fun a' w' k => ⟨k.2.1, ih _ a' w' (fun q oq hq hqi hun hno' => hf q oq hq hqi ?_ hno') (ready_mono hr (Ne.symm e)) k.1 k.2.1 ?_⟩) step
      · by_cases hjq : j = q
        · subst hjq; exact un
        · rw [getD_set_ne true hjq] at hun; exact hun
      · rw [Array.setIfInBounds_comm _ _ e]; exact k.2.2

/-- The region bears no defer statement. -/
def noDefer (ops : Array Oper) : Bool := ops.all fun o => match o.op with | .defer _ => false | _ => true
theorem noDefer_spec (h : noDefer ops = true) (j : Nat) (o : Oper) (ho : ops[j]? = some o) : ∀ c, o.op ≠ .defer c := by
  intro c e
  have := Array.all_eq_true_iff_forall_mem.1 h o (Array.mem_of_getElem? ho)
  rw [e] at this; cases this

theorem AnyS.take {i : Nat} {oi : Oper} {v : Value} {fuel : Nat} {listed : Array Bool} {a : Act} {w : World} (hd : noDefer ops = true) (hi : ops[i]? = some oi)
    (hs : Region.noSelect ops = true) (hf : Region.free md ops listed i = true) (hr : (Region.ready md ops listed).contains i = true)
    (hQ : ∀ c a w, Q (.panic c) (a.put oi.dst v) w → Q (.panic c) a w) (hy : YldS P ops S oi v a) (hS : S w)
    (h : AnyS F n P md ops Q S fuel (listed.setIfInBounds i true) (a.put oi.dst v) w) : AnyS F n P md ops Q S (fuel + 1) listed a w :=
  AnyS.first (noDefer_spec hd) hi (Region.noSelect_spec hs) hQ fuel listed a w (Region.free_spec hi hf) (by simpa using hr) hy hS h
/-- One alone may come up. -/
theorem AnyS.one {i : Nat} {fuel : Nat} {listed : Array Bool} {a : Act} {w : World} (hr : Region.ready md ops listed = [i])
    (h : wpOpIn F n P ops Q i (fun a' w' => S w' ∧ AnyS F n P md ops Q S fuel (listed.setIfInBounds i true) a' w') a w) : AnyS F n P md ops Q S (fuel + 1) listed a w :=
  ⟨fun h0 => (by rw [hr] at h0; cases h0), fun j hj => (by rw [hr] at hj; cases List.mem_singleton.1 hj; exact h)⟩
theorem AnyS.done {fuel : Nat} {listed : Array Bool} {a : Act} {w : World} (hr : Region.ready md ops listed = []) (h : Q .normal a w) : AnyS F n P md ops Q S fuel listed a w := by
  cases fuel with
  | zero => exact ⟨hr, h⟩
  | succ f => exact ⟨fun _ => h, by rw [hr]; simp⟩
theorem region_held {id : Nat} {a : Act} {w : World} (hm : P.follows .mixedOrders = true) (k : Nat) (hk : ops.size = k)
    (h : AnyS F n P .any ops Q S k (Array.replicate k false) a { w with drawn := w.drawn + 1 }) : (Code.region id ops true).wpIn F n P Q a w := by
  subst hk; exact wpIn_region_any hm (AnyS.any _ _ _ _ h)
end
end Go.Proofs.Ytmdmjjobhkpojaa
