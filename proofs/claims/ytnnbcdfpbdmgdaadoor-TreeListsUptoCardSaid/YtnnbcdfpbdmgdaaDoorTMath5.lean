/-
  DERIVED. A search with a list of what waits looks at the same nodes, in the same order, as one with calls within calls.
-/
import Derived.Test.YtnnbcdfpbdmgdaaDoorTMath4
set_option linter.unusedVariables false
namespace Go.Proofs.TreeMath
variable {α : Type}
theorem may_mono {b b' : Nat} (h : b ≤ b') {s : St} (hm : may b s) : may b' s := by unfold may at *; omega
/-- The step to the child of i at e, if it may be looked at. -/
def kid (T : List (Nd α)) (dq : Nat → Nat) (b i e : Nat) : Option St := match child T i e with
  | none => none
  | some c => if may b ⟨c, e, dq i⟩ then some ⟨c, e, dq i⟩ else none
/-- The children from n + 1 to n + k that may be looked at, the furthest first. -/
def kids (T : List (Nd α)) (dq : Nat → Nat) (b i n : Nat) : Nat → List St
  | 0 => []
  | k + 1 => (kid T dq b i (n + k + 1)).toList ++ kids T dq b i n k
theorem kids_last (T : List (Nd α)) (dq : Nat → Nat) (b i : Nat) : ∀ (k n : Nat), kids T dq b i n (k + 1) = kids T dq b i (n + 1) k ++ (kid T dq b i (n + 1)).toList
  | 0, n => by simp [kids]
  | k + 1, n => by
    rw [kids, kids_last T dq b i k n, kids, ← List.append_assoc]
    rw [show n + (k + 1) + 1 = n + 1 + k + 1 by omega]
/-- What is done with what waits. -/
def Run (T : List (Nd α)) (dq : Nat → Nat) (bd : List Nat → Nat) (w : Nat) (L : List St) (V : List Nat) (L' : List St) (V' : List Nat) : Prop :=
  ∀ C : List St → List Nat → List St → List Nat → Prop, (∀ L V, C L V L V) → (∀ L L' V V' (s : St), ¬ may (bd V) s → C L V L' V' → C (L ++ [s]) V L' V') → (∀ L L' V V' (s : St), may (bd V) s → C (L ++ kids T dq (bd (V ++ [s.node])) s.node 0 w) (V ++ [s.node]) L' V' → C (L ++ [s]) V L' V') → C L V L' V'
section
variable {T : List (Nd α)} {dq : Nat → Nat} {bd : List Nat → Nat} {w : Nat}
theorem Run.refl (L : List St) (V : List Nat) : Run T dq bd w L V L V := fun C a b c => a L V
theorem Run.skip {L L' : List St} {V V' : List Nat} {s : St} (h : ¬ may (bd V) s) (r : Run T dq bd w L V L' V') : Run T dq bd w (L ++ [s]) V L' V' := fun C a b c => b L L' V V' s h (r C a b c)
theorem Run.look {L L' : List St} {V V' : List Nat} {s : St} (h : may (bd V) s) (r : Run T dq bd w (L ++ kids T dq (bd (V ++ [s.node])) s.node 0 w) (V ++ [s.node]) L' V') : Run T dq bd w (L ++ [s]) V L' V' := fun C a b c => c L L' V V' s h (r C a b c)
theorem Run.ind {M : (L : List St) → (V : List Nat) → (L' : List St) → (V' : List Nat) → Run T dq bd w L V L' V' → Prop} (refl : ∀ (L : List St) (V : List Nat), M L V L V (.refl L V))
    (skip : ∀ {L L' : List St} {V V' : List Nat} {s : St} (h : ¬ may (bd V) s) (r : Run T dq bd w L V L' V'), M L V L' V' r → M (L ++ [s]) V L' V' (.skip h r))
    (look : ∀ {L L' : List St} {V V' : List Nat} {s : St} (h : may (bd V) s) (r : Run T dq bd w (L ++ kids T dq (bd (V ++ [s.node])) s.node 0 w) (V ++ [s.node]) L' V'), M _ _ L' V' r → M (L ++ [s]) V L' V' (.look h r))
    {L : List St} {V : List Nat} {L' : List St} {V' : List Nat} (r : Run T dq bd w L V L' V') : M L V L' V' r :=
  (r (fun L V L' V' => ∃ h : Run T dq bd w L V L' V', M L V L' V' h) (fun L V => ⟨_, refl L V⟩) (fun L L' V V' s h k => k.elim fun r m => ⟨_, skip h r m⟩) (fun L L' V V' s h k => k.elim fun r m => ⟨_, look h r m⟩)).elim fun _ h => h
end
theorem Run.trans {T : List (Nd α)} {dq : Nat → Nat} {bd : List Nat → Nat} {w : Nat} {L1 L2 L3 : List St} {V1 V2 V3 : List Nat} (a : Run T dq bd w L1 V1 L2 V2) (b : Run T dq bd w L2 V2 L3 V3) : Run T dq bd w L1 V1 L3 V3 := by
  induction a using Run.ind with
  | refl => exact b
  | skip h r ih => exact .skip h (ih b)
  | look h r ih => exact .look h (ih b)
/-- Calls within calls: k children, from n + 1 on. -/
def gone (T : List (Nd α)) (dq : Nat → Nat) (bd : List Nat → Nat) (pre : List Nat → Nat → List Nat) (i : Nat) : Nat → Nat → List Nat → List Nat
  | 0, n, V => V
  | k + 1, n, V => gone T dq bd pre i k (n + 1) (match child T i (n + 1) with
    | none => V
    | some c => if may (bd V) ⟨c, n + 1, dq i⟩ then pre V c else V)
def pre (T : List (Nd α)) (dq : Nat → Nat) (bd : List Nat → Nat) (w : Nat) : Nat → List Nat → Nat → List Nat
  | 0, V, i => V ++ [i]
  | f + 1, V, i => gone T dq bd (pre T dq bd w f) i w 0 (V ++ [i])
theorem bd_app {bd : List Nat → Nat} (hbd : ∀ V v, bd (V ++ [v]) ≤ bd V) : ∀ (X V : List Nat), bd (V ++ X) ≤ bd V
  | [], V => by simp
  | x :: X, V => by
    have h1 := bd_app hbd X (V ++ [x])
    have h2 := hbd V x
    have e : V ++ x :: X = V ++ [x] ++ X := by simp
    rw [e]; omega
theorem gone_app {T : List (Nd α)} {dq : Nat → Nat} {bd : List Nat → Nat} {p : List Nat → Nat → List Nat} (hp : ∀ V i, ∃ X, p V i = V ++ X) (i : Nat) : ∀ (k n : Nat) (V : List Nat), ∃ X, gone T dq bd p i k n V = V ++ X
  | 0, n, V => ⟨[], by simp [gone]⟩
  | k + 1, n, V => by
    unfold gone
    cases hc : child T i (n + 1) with
    | none => exact gone_app hp i k (n + 1) V
    | some c =>
      simp only
      split
      · obtain ⟨X, hX⟩ := hp V c
        obtain ⟨Y, hY⟩ := gone_app hp i k (n + 1) (p V c)
        exact ⟨X ++ Y, by rw [hY, hX]; simp⟩
      · exact gone_app hp i k (n + 1) V
theorem pre_app (T : List (Nd α)) (dq : Nat → Nat) (bd : List Nat → Nat) (w : Nat) : ∀ (f : Nat) (V : List Nat) (i : Nat), ∃ X, pre T dq bd w f V i = V ++ X
  | 0, V, i => ⟨[i], rfl⟩
  | f + 1, V, i => by
    obtain ⟨X, hX⟩ := gone_app (T := T) (dq := dq) (bd := bd) (pre_app T dq bd w f) i w 0 (V ++ [i])
    exact ⟨[i] ++ X, by rw [pre, hX]; simp⟩
/-- What waits is gone through as the calls within calls go. -/
theorem run_gone {T : List (Nd α)} {dq : Nat → Nat} {bd : List Nat → Nat} (hbd : ∀ V v, bd (V ++ [v]) ≤ bd V) {w : Nat} {p : List Nat → Nat → List Nat} (hp : ∀ V i, ∃ X, p V i = V ++ X) {i : Nat} (ih : ∀ (e c : Nat) (L : List St) (V : List Nat), child T i e = some c → may (bd V) ⟨c, e, dq i⟩ → Run T dq bd w (L ++ [⟨c, e, dq i⟩]) V L (p V c)) {b : Nat} :
    ∀ (k n : Nat) (L : List St) (V : List Nat), bd V ≤ b → Run T dq bd w (L ++ kids T dq b i n k) V L (gone T dq bd p i k n V)
  | 0, n, L, V, _ => by simp only [kids, gone, List.append_nil]; exact .refl L V
  | k + 1, n, L, V, hV => by
    rw [kids_last, gone]
    have go : ∀ V', (∃ X, V' = V ++ X) → Run T dq bd w (L ++ kids T dq b i (n + 1) k) V' L (gone T dq bd p i k (n + 1) V') := fun V' ⟨X, e⟩ => run_gone hbd hp ih k (n + 1) L V' (by rw [e]; exact Nat.le_trans (bd_app hbd X V) hV)
    cases hc : child T i (n + 1) with
    | none =>
      simp only [kid, hc, Option.toList_none, List.append_nil]
      exact go V ⟨[], by simp⟩
    | some c =>
      by_cases hm : may b ⟨c, n + 1, dq i⟩
      · simp only [kid, hc, if_pos hm, Option.toList_some]
        rw [← List.append_assoc]
        by_cases hm2 : may (bd V) ⟨c, n + 1, dq i⟩
        · rw [if_pos hm2]
          exact (ih (n + 1) c _ V hc hm2).trans (go _ (hp V c))
        · rw [if_neg hm2]
          exact .skip hm2 (go V ⟨[], by simp⟩)
      · have hm2 : ¬ may (bd V) ⟨c, n + 1, dq i⟩ := fun h => hm (may_mono hV h)
        simp only [kid, hc, if_neg hm, if_neg hm2, Option.toList_none, List.append_nil]
        exact go V ⟨[], by simp⟩
theorem run_pre {d : α → α → Nat} {T : List (Nd α)} (h : WF d T) {dq : Nat → Nat} {bd : List Nat → Nat} (hbd : ∀ V v, bd (V ++ [v]) ≤ bd V) {w : Nat} : ∀ (f : Nat) (s : St) (L : List St) (V : List Nat), T.length - s.node ≤ f → s.node < T.length → may (bd V) s → Run T dq bd w (L ++ [s]) V L (pre T dq bd w f V s.node)
  | 0, s, L, V, hf, hs, _ => by omega
  | f + 1, s, L, V, hf, hs, hm => by
    refine .look hm ?_
    rw [pre]
    refine run_gone hbd (pre_app T dq bd w f) (fun e c L' V' hc hm' => ?_) w 0 L (V ++ [s.node]) (Nat.le_refl _)
    obtain ⟨k1, k2⟩ := h.child_lt hc
    exact run_pre h hbd f ⟨c, e, dq s.node⟩ L' V' (by simp only; omega) k2 hm'
/-- The children are all that may be looked at. -/
theorem kids_mem {T : List (Nd α)} {dq : Nat → Nat} {b i : Nat} : ∀ {k n : Nat} {t : St}, t ∈ kids T dq b i n k ↔ ∃ e, n < e ∧ e ≤ n + k ∧ child T i e = some t.node ∧ t = ⟨t.node, e, dq i⟩ ∧ may b t
  | 0, n, t => by
    simp only [kids, List.not_mem_nil, false_iff]
    rintro ⟨e, h1, h2, -⟩
    omega
  | k + 1, n, t => by
    rw [kids, List.mem_append, kids_mem (k := k)]
    have hk : t ∈ (kid T dq b i (n + k + 1)).toList ↔ child T i (n + k + 1) = some t.node ∧ t = ⟨t.node, n + k + 1, dq i⟩ ∧ may b t := by
      rw [Option.mem_toList]
      unfold kid
      cases hc : child T i (n + k + 1) with
      | none => simp
      | some c =>
        simp only
        split
        · rename_i hm
          constructor
          · intro h
            cases h
            exact ⟨rfl, rfl, hm⟩
          · rintro ⟨h1, h2, -⟩
            cases h1
            rw [h2]
        · rename_i hm
          constructor
          · intro h; cases h
          · rintro ⟨h1, h2, h3⟩
            cases h1
            rw [h2] at h3
            exact absurd h3 hm
    rw [hk]
    constructor
    · rintro (⟨h1, h2, h3⟩ | ⟨e, h1, h2, h3⟩)
      · exact ⟨n + k + 1, by omega, by omega, h1, h2, h3⟩
      · exact ⟨e, h1, by omega, h3⟩
    · rintro ⟨e, h1, h2, h3⟩
      rcases Nat.lt_or_ge e (n + k + 1) with h | h
      · exact .inr ⟨e, h1, by omega, h3⟩
      · obtain rfl : e = n + k + 1 := by omega
        exact .inl h3
theorem kids_nodup (T : List (Nd α)) (dq : Nat → Nat) (b i n : Nat) : ∀ (k : Nat), ((kids T dq b i n k).map St.node).Nodup
  | 0 => by simp [kids]
  | k + 1 => by
    rw [kids, List.map_append]
    refine List.nodup_append.2 ⟨?_, kids_nodup T dq b i n k, fun x hx y hy e => ?_⟩
    · cases kid T dq b i (n + k + 1) <;> simp
    · obtain ⟨t, ht, rfl⟩ := List.mem_map.1 hy
      obtain ⟨e', h1, h2, h3, -⟩ := kids_mem.1 ht
      obtain ⟨s, hs, rfl⟩ := List.mem_map.1 hx
      have hs' : s ∈ kids T dq b i (n + k) 1 := by
        rw [kids, List.mem_append]
        exact .inl hs
      obtain ⟨e2, g1, g2, g3, -⟩ := kids_mem.1 hs'
      obtain ⟨m, a1, -, a3⟩ := child_some h3
      obtain ⟨m', b1, -, b3⟩ := child_some g3
      rw [e, a1] at b1
      cases b1
      omega
/-- The list of those that wait is what a look at a node asks for. -/
theorem kids_kids {d : α → α → Nat} {T : List (Nd α)} (h : WF d T) {q : α} {dq : Nat → Nat} {w b u : Nat} {n : Nd α} (hq : dq u = d n.code q) (hw : ∀ (j : Nat) (m : Nd α), T[j]? = some m → m.dist ≤ w) : Kids d T q b u n (kids T dq b u 0 w) := by
  refine ⟨fun t ht => ?_, fun j m hm ho hmay => ?_, kids_nodup T dq b u 0 w⟩
  · obtain ⟨e, -, -, h3, h4, -⟩ := kids_mem.1 ht
    obtain ⟨m, a1, a2, a3⟩ := child_some h3
    exact ⟨m, a1, a2, by rw [a3, h4], by rw [h4]; exact hq⟩
  · have h0 : 0 < j := by have := h.lt hm ho; omega
    have hp := h.pos j m hm h0
    have hc : child T u m.dist = some j := by
      cases hcc : child T u m.dist with
      | none => exact absurd ⟨ho, rfl⟩ (child_none hcc hm)
      | some c =>
        obtain ⟨x, c1, c2, c3⟩ := child_some hcc
        rw [h.one c j x m u c1 hm c2 ho c3]
    exact kids_mem.2 ⟨m.dist, hp, by have := hw j m hm; omega, hc, by rw [← hq], hmay⟩
/-- What was looked at when nothing waits any more. -/
theorem Run.si {d : α → α → Nat} (hs : ∀ a b, d a b = d b a) (ht : ∀ a b c, d a c ≤ d a b + d b c) {T : List (Nd α)} (h : WF d T) {q : α} {dq : Nat → Nat} (hq : ∀ (i : Nat) (n : Nd α), T[i]? = some n → dq i = d n.code q) {bd : List Nat → Nat} (hbd : ∀ V v, bd (V ++ [v]) ≤ bd V) {w : Nat} (hw : ∀ (j : Nat) (m : Nd α), T[j]? = some m → m.dist ≤ w) {L L' : List St} {V V' : List Nat} (r : Run T dq bd w L V L' V') (i : SI d T q bd V L) : SI d T q bd V' L' := by
  induction r using Run.ind with
  | refl => exact i
  | skip hm r ih => exact ih (i.skip hs ht h hm)
  | @look L0 L1 V0 V1 s hm r ih =>
    have hl := (i.ok s (by simp)).lt
    have hn : T[s.node]? = some T[s.node] := List.getElem?_eq_getElem hl
    exact ih (i.visit hs ht h hbd hn (kids_kids h (hq _ _ hn) hw))
end Go.Proofs.TreeMath
