/-
  DERIVED. A node is made live or dead: the tree in memory.
-/
import Derived.Test.YtnnbcdfpbdmgdaaDoorTHang
set_option linter.unusedVariables false
set_option linter.unusedSimpArgs false
namespace Go.Proofs.YtnnbcdfpbdmgdaaDoor
open Go.RowKit Go.Maps Go.Proofs.BitMath Go.Proofs.TreeMath
theorem findIdx_modify {α : Type} (p : α → Bool) (f : α → α) (hp : ∀ a, p (f a) = p a) : ∀ (l : List α) (i : Nat), (l.modify i f).findIdx? p = l.findIdx? p
  | [], i => by simp
  | a :: l, 0 => by simp [List.findIdx?_cons, hp]
  | a :: l, i + 1 => by
    simp only [List.modify_succ_cons, List.findIdx?_cons]
    rw [findIdx_modify p f hp l i]
theorem child_live {α : Type} (T : List (Nd α)) (i : Nat) (v : Bool) (j e : Nat) : child (setLive T i v) j e = child T j e := by
  unfold child setLive
  exact findIdx_modify (fun n => n.over == some j && n.dist == e) (fun n => ⟨n.code, v, n.over, n.dist⟩) (fun a => rfl) T i
theorem dep_live {α : Type} (T : List (Nd α)) (i : Nat) (v : Bool) : ∀ (f j : Nat), dep (setLive T i v) f j = dep T f j
  | 0, _ => rfl
  | f + 1, j => by
    unfold dep
    cases h : (setLive T i v)[j]? with
    | none =>
      have : T[j]? = none := by
        rw [List.getElem?_eq_none_iff] at h ⊢
        rw [setLive_len] at h; exact h
      rw [this]
    | some n =>
      obtain ⟨m, h1, -, h3, -, -⟩ := setLive_at h
      rw [h1]
      dsimp only
      rw [h3]
      cases m.over with
      | none => rfl
      | some u => dsimp only; rw [dep_live T i v f u]
theorem lives_len {α : Type} : ∀ (T : List (Nd α)) (i : Nat) (n : Nd α) (v : Bool), T[i]? = some n → (lives (setLive T i v)).length + (if n.live then 1 else 0) = (lives T).length + (if v then 1 else 0)
  | [], i, n, v, h => by simp at h
  | a :: T, 0, n, v, h => by
    simp at h
    subst h
    unfold lives setLive
    cases hv : v <;> cases ha : a.live <;> simp [ha]
  | a :: T, i + 1, n, v, h => by
    have ih := lives_len T i n v (by simpa using h)
    unfold lives setLive at *
    cases ha : a.live <;> simp [ha] at * <;> omega
/-- Where the new node's code comes from. -/
theorem live_at {α : Type} {T : List (Nd α)} {i : Nat} {n : Nd α} {v : Bool} (h : T[i]? = some n) : (setLive T i v)[i]? = some ⟨n.code, v, n.over, n.dist⟩ := by
  unfold setLive
  rw [List.getElem?_modify, h]
  simp
theorem live_ne {α : Type} {T : List (Nd α)} {i j : Nat} {v : Bool} (h : i ≠ j) : (setLive T i v)[j]? = T[j]? := by
  unfold setLive
  rw [List.getElem?_modify]
  simp [h]
theorem TR.relive {n t wd : Nat} {T : List (Nd (Cd n))} {bs : List Nat} {ms : List (Option Nat)} {x : Num} {W W' : World} (h : TR W t wd T bs ms x) {j : Nat} {nd : Nd (Cd n)} (hj : T[j]? = some nd) {b : Nat} {m : Option Nat} (hb : bs[j]? = some b) (hm : ms[j]? = some m) (v : Bool) (lv dd : Nat) (hlv : lv = (lives (setLive T j v)).length) (hdd : lv + dd = T.length)
    (hs : Stay (fun k => k = t ∨ k = b) W W')
    (htree : W'.heap[t]? = some (.cells #[.int .i64 wd, ptr bs (if T.length = 0 then none else some 0), .int .i64 lv, .int .i64 dd, .int .i64 x.dep, .int .i64 x.looked] 64 (0, 0)))
    (hnode : W'.heap[b]? = some (.cells #[.string nd.code.1, .bool v, .map m] 73 (0, 0))) :
    TR W' t wd (setLive T j v) bs ms ⟨lv, dd, x.dep, x.looked⟩ := by
  have hl : (setLive T j v).length = T.length := setLive_len T j v
  have hbm : b ∈ bs := List.mem_of_getElem? hb
  refine { wid := h.wid, eight := h.eight, wf := h.wf.setLive j v, lb := by rw [hl]; exact h.lb, lm := by rw [hl]; exact h.lm, tree := by rw [hl]; exact htree, node := ?_, kids := ?_, bare := ?_, nodup := h.nodup, msep := h.msep, live := hlv, all := by rw [hl]; exact hdd, small := by rw [hl]; exact h.small, dep := ?_, depT := by rw [hl]; exact h.depT, depE := ?_, lk := h.lk }
  · intro i b' nd' m' hi hb' hm'
    by_cases hij : j = i
    · subst hij
      rw [live_at hj] at hi
      have e1 := Option.some.inj hi
      have e2 : b = b' := Option.some.inj (hb.symm.trans hb')
      have e3 : m = m' := Option.some.inj (hm.symm.trans hm')
      rw [← e1, ← e2, ← e3]
      exact hnode
    · rw [live_ne hij] at hi
      have hb'm : b' ∈ bs := List.mem_of_getElem? hb'
      have hne : b' ≠ b := fun e => hij (by
        obtain ⟨p1, p2⟩ := List.getElem?_eq_some_iff.1 hb'
        obtain ⟨p3, p4⟩ := List.getElem?_eq_some_iff.1 hb
        exact ((List.getElem_inj h.nodup).1 (by rw [p2, p4, e])).symm)
      exact (hs.block b' (h.lt (.inr (.inl hb'm))) (fun hh => hh.elim (h.tn hb'm).1 hne)).trans (h.node i b' nd' m' hi hb' hm')
  · intro i mb hmi
    obtain ⟨cc, D, h1, h2, h3⟩ := (h.kids i mb hmi).ex
    have hmm : some mb ∈ ms := List.mem_of_getElem? hmi
    refine ⟨cc, D, map_kept h1 hs (fun hh => hh.elim (h.tm hmm) (fun e => (h.tn hbm).2 mb hmm e.symm)), by rw [hl]; exact h2, fun z zd => ?_⟩
    rw [h3 z zd, child_live]
  · intro i hmi e
    rw [child_live]
    exact h.bare i hmi e
  · intro i hi
    rw [hl] at hi
    rw [dep_live]
    exact h.dep i hi
  · rcases h.depE with e | ⟨i, hi, e⟩
    · exact .inl e
    · exact .inr ⟨i, by rw [hl]; exact hi, by rw [dep_live]; exact e⟩
end Go.Proofs.YtnnbcdfpbdmgdaaDoor
