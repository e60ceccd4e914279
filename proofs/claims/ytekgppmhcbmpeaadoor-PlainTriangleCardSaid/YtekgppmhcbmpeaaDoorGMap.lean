/-
  DERIVED. Pairs by their ids, as a map of the program's.
-/
import Derived.Test.YtekgppmhcbmpeaaDoorEMap
import Derived.Maps.RangeWalk
set_option linter.unusedVariables false
set_option linter.unusedSimpArgs false
namespace Go.Proofs.YtekgppmhcbmpeaaDoor
open Go.RowKit Go.Maps Go.ChangeMaps Go.MapKept Go.WideShapes
/-- A pair. -/
structure Pr where
  i : Int
  c : ByteArray
/-- Are two pairs one? -/
def Pr.dec (a b : Pr) : Decidable (a = b) := if h : a.i = b.i ∧ a.c = b.c then .isTrue (by obtain ⟨h1, h2⟩ := h; cases a; cases b; simp only at h1 h2; rw [h1, h2]) else .isFalse (fun e => h (by subst e; exact ⟨rfl, rfl⟩))
def pC (p : Pr) : List Value := [.int .i64 p.i, .string p.c]
/-- What a pair reads as. -/
def enP (p : Pr) : DataW Unit := .agg [.lit (.int .i64 p.i), .lit (.string p.c.data.toList)]
def prE : Value → Option (DataW Unit × List MemPlace)
  | .agg cs => match cs.toList with
    | [.int .i64 n, .string s] => some (enP ⟨n, s⟩, [])
    | _ => none
  | _ => none
theorem prE_mk (p : Pr) : prE (.agg (pC p).toArray) = some (enP p, []) := by simp [prE, pC]
theorem prE_inv {v : Value} {y : DataW Unit × List MemPlace} (h : prE v = some y) : ∃ p : Pr, v = .agg (pC p).toArray := by
  cases v <;> try (simp [prE] at h; done)
  rename_i cs
  simp only [prE] at h
  split at h
  · rename_i l n s e
    refine ⟨⟨n, s⟩, ?_⟩
    have : cs = #[Value.int .i64 n, Value.string s] := Array.toList_inj.1 e
    rw [this]; rfl
  · simp at h
theorem enP_inj {p q : Pr} (h : enP p = enP q) : p = q := by
  obtain ⟨i, c⟩ := p
  obtain ⟨j, d⟩ := q
  simp [enP] at h
  obtain ⟨rfl, h⟩ := h
  have : c = d := ba_ext (by simp [h])
  rw [this]
theorem prE_eq {v : Value} {p : Pr} {ps : List MemPlace} (h : prE v = some (enP p, ps)) : v = .agg (pC p).toArray := by
  obtain ⟨q, rfl⟩ := prE_inv h
  rw [prE_mk] at h
  have : enP q = enP p := by simp at h; exact h.1
  rw [enP_inj this]
theorem law3 : Keyed Tryd.prog 3 := int_keyed Tryd.underlying3
def zP : Pr := ⟨0, ⟨#[]⟩⟩
theorem zeroPr (w : World) : (zeroValue 56).run Tryd.prog w = .ok (.agg (pC zP).toArray) w := by kernel_rfl
/-- Of this id. -/
def getP (xs : List Pr) (i : Int) : Option Pr := xs.find? (fun p => p.i == i)
theorem getP_mem {xs : List Pr} {i : Int} {p : Pr} (h : getP xs i = some p) : p ∈ xs ∧ p.i = i := ⟨List.mem_of_find?_eq_some h, by have := List.find?_some h; simpa using this⟩
theorem getP_none {xs : List Pr} {i : Int} (h : getP xs i = none) : ∀ p ∈ xs, p.i ≠ i := fun p hp e => by
  have := List.find?_eq_none.1 h p hp
  simp [e] at this
theorem nd_eq {xs : List Pr} (h : (xs.map Pr.i).Nodup) {p q : Pr} (hp : p ∈ xs) (hq : q ∈ xs) (e : p.i = q.i) : p = q := by
  induction xs with
  | nil => simp at hp
  | cons x xs ih =>
    rw [List.map_cons, List.nodup_cons] at h
    rcases List.mem_cons.1 hp with rfl | hp' <;> rcases List.mem_cons.1 hq with rfl | hq'
    · rfl
    · exact absurd (e ▸ List.mem_map_of_mem hq') h.1
    · exact absurd (e ▸ List.mem_map_of_mem hp') h.1
    · exact ih h.2 hp' hq'
theorem nodup_of_map {xs : List Pr} (h : (xs.map Pr.i).Nodup) : xs.Nodup := by
  induction xs with
  | nil => simp
  | cons x xs ih =>
    rw [List.map_cons, List.nodup_cons] at h
    exact List.nodup_cons.2 ⟨fun hm => h.1 (List.mem_map_of_mem hm), ih h.2⟩
theorem getP_of {xs : List Pr} (h : (xs.map Pr.i).Nodup) {p : Pr} (hp : p ∈ xs) : getP xs p.i = some p := by
  cases hg : getP xs p.i with
  | none => exact absurd rfl (getP_none hg p hp)
  | some q => rw [nd_eq h (getP_mem hg).1 hp (getP_mem hg).2]
/-- The map in block mb holds just these. -/
def PM (W : World) (mb : Nat) (xs : List Pr) : Prop := ∃ D : DataW Unit, W.ownsMap Tryd.prog 3 prE mb xs.length D ∧ (∀ kl, Maps.has D kl = true ↔ ∃ p ∈ xs, kl = .int .i64 p.i) ∧ (∀ p ∈ xs, ∀ zd, D.atKey (.int .i64 p.i) zd = enP p) ∧ Maps.size D = xs.length ∧ (xs.map Pr.i).Nodup
theorem tightP {W : World} {mb n : Nat} {D : DataW Unit} (h : W.ownsMap Tryd.prog 3 prE mb n D) : W.ownsMap Tryd.prog 3 prE mb (Maps.size D) D := by
  obtain ⟨es, clock, hb, F, hs, rfl⟩ := h
  exact ⟨es, clock, hb, F, by simp [Maps.size, length_sorted], rfl⟩
theorem PM.lt {W : World} {mb : Nat} {xs : List Pr} (h : PM W mb xs) : mb < W.heap.size := by
  obtain ⟨D, h1, _⟩ := h
  exact h1.lt
theorem PM.nd {W : World} {mb : Nat} {xs : List Pr} (h : PM W mb xs) : (xs.map Pr.i).Nodup := by
  obtain ⟨D, h1, h2, h3, h4, h5⟩ := h
  exact h5
theorem PM.block {W W' : World} {mb : Nat} {xs : List Pr} (h : PM W mb xs) (e : W'.heap[mb]? = W.heap[mb]?) : PM W' mb xs := by
  obtain ⟨D, ⟨es, clock, hb, r⟩, h2⟩ := h
  exact ⟨D, ⟨es, clock, e.trans hb, r⟩, h2⟩
theorem PM.kept {W W' : World} {mb : Nat} {xs : List Pr} {F : Nat → Prop} (h : PM W mb xs) (s : Stay F W W') (hF : ¬ F mb) : PM W' mb xs := h.block (s.block mb h.lt hF)
theorem PM.made (W : World) : PM (W.alloc (.map #[] 0)) W.heap.size [] := ⟨_, World.ownsMap_made (H := Unit) W Tryd.prog 3 prE, fun kl => by simp [Maps.has_eq], fun p hp => by simp at hp, rfl, by simp⟩
theorem PM.isMap {W : World} {mb : Nat} {xs : List Pr} (h : PM W mb xs) : ∃ es c, W.heap[mb]? = some (.map es c) := by
  obtain ⟨D, ⟨es, clock, hb, r⟩, h2⟩ := h
  exact ⟨es, clock, hb⟩
theorem has_iff {xs : List Pr} {D : DataW Unit} (h2 : ∀ kl, Maps.has D kl = true ↔ ∃ p ∈ xs, kl = .int .i64 p.i) (i : Int) : Maps.has D (.int .i64 i) = (getP xs i).isSome := by
  cases hg : getP xs i with
  | none =>
    cases hh : Maps.has D (.int .i64 i) with
    | false => rfl
    | true =>
      obtain ⟨p, hp, e⟩ := (h2 _).1 hh
      exact absurd (by simpa using e.symm) (getP_none hg p hp)
  | some p => exact (h2 _).2 ⟨p, (getP_mem hg).1, by rw [(getP_mem hg).2]⟩
theorem PM.look {W : World} {mb : Nat} {xs : List Pr} (h : PM W mb xs) {i : Int} (hi : I64 i) : (Instr.lookup 65 (.map (some mb)) (.int .i64 i) true).run Tryd.prog W = .ok (.tuple #[.agg (pC ((getP xs i).getD zP)).toArray, .bool (getP xs i).isSome]) W := by
  obtain ⟨D, h1, h2, h3, h4, h5⟩ := h
  obtain ⟨v, ps, hr, hv⟩ := h1.look_ok law3 Tryd.underlying65 (zeroPr W) (prE_mk zP) (keyOf_int_mk Tryd.underlying3 (wf_i64 hi))
  rw [has_iff h2 i] at hr
  rw [hr]
  cases hg : getP xs i with
  | none =>
    have hn : Maps.has D (.int .i64 i) = false := by rw [has_iff h2 i, hg]; rfl
    rw [Maps.atKey_of_not_has hn] at hv
    rw [prE_eq hv]; rfl
  | some p =>
    have := h3 p (getP_mem hg).1 (enP zP)
    rw [(getP_mem hg).2] at this
    rw [this] at hv
    rw [prE_eq hv]; rfl
theorem PM.len {W : World} {mb : Nat} {xs : List Pr} (h : PM W mb xs) (ty : TypeId) : (Builtin.len_ #[65] ty #[.map (some mb)]).run Tryd.prog W = .ok (.int .i64 xs.length) W := by
  obtain ⟨D, h1, h2, h3, h4, h5⟩ := h
  have := h1.len Tryd.underlying65 ty
  rw [h4] at this
  exact this
theorem PM.put {W : World} {mb : Nat} {xs : List Pr} (h : PM W mb xs) {a : Pr} (ha : I64 a.i) (hn : getP xs a.i = none) (hl : xs.length < maxLen) :
    ∃ W', (Instr.mapUpdate 65 (.map (some mb)) (.int .i64 a.i) (.agg (pC a).toArray)).run Tryd.prog W = .ok () W' ∧ PM W' mb (a :: xs) ∧ Stay (fun k => k = mb) W W' ∧ W'.heap.size = W.heap.size := by
  obtain ⟨D, h1, h2, h3, h4, h5⟩ := h
  obtain ⟨W', hr, ho, ht⟩ := h1.store law3 Tryd.underlying65 hl (keyOf_int_mk Tryd.underlying3 (wf_i64 ha)) (prE_mk a)
  have hnot : Maps.has D (.int .i64 a.i) = false := by rw [has_iff h2, hn]; rfl
  have hsz : W'.heap.size = W.heap.size := by
    obtain ⟨es, cl, es', cl', hb, rfl⟩ := ht
    simp [setBlock]
  refine ⟨W', hr, ⟨_, ho, fun kl => ?_, fun p hp zd => ?_, ?_, ?_⟩, .grown ht.grown (fun k e => by cases e; rfl), hsz⟩
  · by_cases e : kl = .int .i64 a.i
    · subst e
      rw [Maps.has_put_same h1.isMap (by trivial)]
      exact ⟨fun _ => ⟨a, List.mem_cons_self, rfl⟩, fun _ => rfl⟩
    · rw [Maps.has_put_other e, h2]
      constructor
      · rintro ⟨x, hx', e'⟩; exact ⟨x, List.mem_cons_of_mem _ hx', e'⟩
      · rintro ⟨x, hx', e'⟩
        rcases List.mem_cons.1 hx' with rfl | hx'
        · exact absurd e' e
        · exact ⟨x, hx', e'⟩
  · rcases List.mem_cons.1 hp with rfl | hp'
    · exact Maps.atKey_put_same h1.isMap (by trivial) _ _
    · have hne : p.i ≠ a.i := getP_none hn p hp'
      rw [Maps.atKey_put_other (fun e => hne (by simpa using e))]
      exact h3 p hp' zd
  · rw [Maps.size_put (h1.tidy law3), hnot, h4]; rfl
  · rw [List.map_cons, List.nodup_cons]
    refine ⟨fun hm => ?_, h5⟩
    obtain ⟨p, hp, e⟩ := List.mem_map.1 hm
    exact getP_none hn p hp e
/-- Without the one of this id. -/
def delP (xs : List Pr) (i : Int) : List Pr := xs.filter (fun p => p.i != i)
theorem delP_mem {xs : List Pr} {i : Int} {p : Pr} : p ∈ delP xs i ↔ p ∈ xs ∧ p.i ≠ i := by simp [delP]
theorem PM.del {W : World} {mb : Nat} {xs : List Pr} (h : PM W mb xs) {i : Int} (hi : I64 i) :
    ∃ W', (∀ ty, (Builtin.delete_ #[65, 3] ty #[.map (some mb), .int .i64 i]).run Tryd.prog W = .ok (.tuple #[]) W') ∧ PM W' mb (delP xs i) ∧ Stay (fun k => k = mb) W W' ∧ W'.heap.size = W.heap.size := by
  obtain ⟨D, h1, h2, h3, h4, h5⟩ := h
  obtain ⟨W', hr, ho, ht⟩ := h1.drop law3 Tryd.underlying65 (keyOf_int_mk Tryd.underlying3 (wf_i64 hi)) 0
  have hsz : W'.heap.size = W.heap.size := by
    obtain ⟨es, cl, es', cl', hb, rfl⟩ := ht
    simp [setBlock]
  have hlen : Maps.size (D.del (.int .i64 i)) = (delP xs i).length := by
    have := Maps.size_del (k := .int .i64 i) (h1.tidy law3)
    rw [has_iff h2, h4] at this
    cases hg : getP xs i with
    | none =>
      rw [hg] at this
      have e : delP xs i = xs := List.filter_eq_self.2 (fun p hp => by simpa using getP_none hg p hp)
      rw [e]; simpa using this
    | some p =>
      rw [hg] at this
      have hp := getP_mem hg
      have hc : xs.Perm (p :: delP xs i) := by
        refine (List.perm_ext_iff_of_nodup (nodup_of_map h5) ?_).2 fun q => ?_
        · rw [List.nodup_cons]
          exact ⟨fun hm => (delP_mem.1 hm).2 hp.2, (nodup_of_map h5).filter _⟩
        · rw [List.mem_cons, delP_mem]
          constructor
          · intro hq
            by_cases e : q.i = i
            · exact .inl (nd_eq h5 hq hp.1 (e.trans hp.2.symm))
            · exact .inr ⟨hq, e⟩
          · rintro (rfl | hq)
            · exact hp.1
            · exact hq.1
      have := hc.length_eq
      simp at *; omega
  refine ⟨W', fun ty => hr, ⟨_, by have := tightP ho; rw [hlen] at this; exact this, fun kl => ?_, fun p hp zd => ?_, hlen, ?_⟩, .grown ht.grown (fun k e => by cases e; rfl), hsz⟩
  · by_cases e : kl = .int .i64 i
    · subst e
      rw [Maps.has_del_same]
      refine ⟨fun h => by simp at h, fun ⟨x, hx', e'⟩ => absurd (by simpa using e'.symm) (delP_mem.1 hx').2⟩
    · rw [Maps.has_del_other e, h2]
      constructor
      · rintro ⟨x, hx', e'⟩; exact ⟨x, delP_mem.2 ⟨hx', fun h => e (by rw [e', h])⟩, e'⟩
      · rintro ⟨x, hx', e'⟩; exact ⟨x, (delP_mem.1 hx').1, e'⟩
  · obtain ⟨hp1, hp2⟩ := delP_mem.1 hp
    rw [Maps.atKey_del_other (fun e => hp2 (by simpa using e))]
    exact h3 p hp1 zd
  · exact h5.sublist (List.filter_sublist.map _)
/-- What was seen in a range over a map. -/
structure Seen (xs seen : List Pr) (left : Lit → Bool) : Prop where
  sub : ∀ p ∈ seen, p ∈ xs
  nd : seen.Nodup
  lft : ∀ kl, left kl = true ↔ ∃ p ∈ xs, p ∉ seen ∧ kl = .int .i64 p.i
theorem Seen.start {xs : List Pr} {D : DataW Unit} (h2 : ∀ kl, Maps.has D kl = true ↔ ∃ p ∈ xs, kl = .int .i64 p.i) : Seen xs [] (Maps.has D) := ⟨fun p hp => by simp at hp, by simp, fun kl => by simp [h2]⟩
theorem Seen.step {xs seen : List Pr} {left : Lit → Bool} (h : Seen xs seen left) (hx : (xs.map Pr.i).Nodup) {p : Pr} (hp : p ∈ xs) (hl : left (.int .i64 p.i) = true) : Seen xs (seen ++ [p]) (fun z => left z && !z.sameKey (.int .i64 p.i)) := by
  have hn : p ∉ seen := fun hs => by
    obtain ⟨q, hq, hq2, e⟩ := (h.lft _).1 hl
    exact hq2 (nd_eq hx hp hq (by simpa using e) ▸ hs)
  refine ⟨fun q hq => ?_, ?_, fun kl => ?_⟩
  · rcases List.mem_append.1 hq with h1 | h1
    · exact h.sub q h1
    · rw [List.mem_singleton.1 h1]; exact hp
  · rw [List.nodup_append]
    exact ⟨h.nd, by simp, fun a ha b hb e => by rw [List.mem_singleton.1 hb] at e; exact hn (e ▸ ha)⟩
  · rw [Bool.and_eq_true, h.lft]
    constructor
    · rintro ⟨⟨q, hq, hq2, e⟩, hs⟩
      refine ⟨q, hq, fun hm => ?_, e⟩
      rcases List.mem_append.1 hm with h1 | h1
      · exact hq2 h1
      · rw [List.mem_singleton.1 h1] at e
        rw [e] at hs
        simp [Lit.sameKey] at hs
    · rintro ⟨q, hq, hq2, e⟩
      refine ⟨⟨q, hq, fun hm => hq2 (List.mem_append_left _ hm), e⟩, ?_⟩
      have hne : q.i ≠ p.i := fun e' => hq2 (by rw [nd_eq hx hq hp e']; simp)
      rw [e]
      have := Maps.sameKey_ne (a := Lit.int .i64 q.i) (b := .int .i64 p.i) (fun e' => hne (by simpa using e'))
      rw [this]; rfl
theorem Seen.perm {xs seen : List Pr} {left : Lit → Bool} (h : Seen xs seen left) (hx : (xs.map Pr.i).Nodup) (hl : ∀ kl, left kl = false) : seen.Perm xs := by
  refine (List.perm_ext_iff_of_nodup h.nd (nodup_of_map hx)).2 fun p => ⟨h.sub p, fun hp => ?_⟩
  by_cases hs : p ∈ seen
  · exact hs
  · have := (h.lft (.int .i64 p.i)).2 ⟨p, hp, hs, rfl⟩
    rw [hl] at this; simp at this
end Go.Proofs.YtekgppmhcbmpeaaDoor
