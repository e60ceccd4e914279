/-
  DERIVED. A node is hung: the tree in memory grows by one.
-/
import Derived.Test.YtnnbcdfpbdmgdaaDoorTFind
set_option linter.unusedVariables false
set_option linter.unusedSimpArgs false
namespace Go.Proofs.YtnnbcdfpbdmgdaaDoor
open Go.RowKit Go.Maps Go.Proofs.BitMath Go.Proofs.TreeMath
theorem child_snoc {α : Type} (T : List (Nd α)) (x : Nd α) (i e : Nat) : child (T ++ [x]) i e = match child T i e with | some k => some k | none => if x.over = some i ∧ x.dist = e then some T.length else none := by
  unfold child
  rw [List.findIdx?_append]
  cases h : List.findIdx? (fun n => n.over == some i && n.dist == e) T with
  | some k => rfl
  | none =>
    simp only [Option.none_or, List.findIdx?_cons, List.findIdx?_nil]
    by_cases hc : x.over = some i ∧ x.dist = e
    · rw [if_pos hc, if_pos (by simp [hc.1, hc.2])]
      simp
    · rw [if_neg hc, if_neg (by simpa using hc)]
      rfl
theorem dep_snoc {α : Type} {d : α → α → Nat} {T : List (Nd α)} (wf : WF d T) (x : Nd α) : ∀ (f j : Nat), j < T.length → dep (T ++ [x]) f j = dep T f j
  | 0, _, _ => rfl
  | f + 1, j, hj => by
    unfold dep
    rw [List.getElem?_append_left hj, List.getElem?_eq_getElem hj]
    dsimp only
    cases ho : (T[j]).over with
    | none => rfl
    | some i =>
      have := wf.lt (List.getElem?_eq_getElem hj) ho
      dsimp only
      rw [dep_snoc wf x f i (by omega)]
theorem TR.tn {n : Nat} {W : World} {t wd : Nat} {T : List (Nd (Cd n))} {bs : List Nat} {ms : List (Option Nat)} {x : Num} (h : TR W t wd T bs ms x) {b : Nat} (hb : b ∈ bs) : b ≠ t ∧ ∀ m, some m ∈ ms → b ≠ m := by
  obtain ⟨j, hj, rfl⟩ := List.getElem_of_mem hb
  have h1 : j < T.length := by rw [← h.lb]; exact hj
  have h2 : j < ms.length := by rw [h.lm]; exact h1
  have hc := h.node j _ _ _ (List.getElem?_eq_getElem h1) (List.getElem?_eq_getElem hj) (List.getElem?_eq_getElem h2)
  refine ⟨fun e => ?_, fun m hm e => ?_⟩
  · rw [e, h.tree] at hc
    simp at hc
  · obtain ⟨i, hi, he⟩ := List.getElem_of_mem hm
    obtain ⟨c, D, ⟨es, cl, hq, -⟩, -⟩ := (h.kids i m (by rw [List.getElem?_eq_getElem hi, he])).ex
    rw [e, hq] at hc
    cases hc
theorem TR.tm {n : Nat} {W : World} {t wd : Nat} {T : List (Nd (Cd n))} {bs : List Nat} {ms : List (Option Nat)} {x : Num} (h : TR W t wd T bs ms x) {m : Nat} (hm : some m ∈ ms) : m ≠ t := fun e => by
  obtain ⟨i, hi, he⟩ := List.getElem_of_mem hm
  obtain ⟨c, D, ⟨es, cl, hq, -⟩, -⟩ := (h.kids i m (by rw [List.getElem?_eq_getElem hi, he])).ex
  rw [e, h.tree] at hq
  cases hq
theorem getD_old {bs : List Nat} {nb k : Nat} (h : k < bs.length) : (bs ++ [nb]).getD k 0 = bs.getD k 0 := by
  simp [List.getD, List.getElem?_append_left h]
theorem kidP_old {bs : List Nat} {nb : Nat} {o : Option Nat} {zd : DataW Unit} (h : ∀ k, o = some k → k < bs.length) : kidP (bs ++ [nb]) o zd = kidP bs o zd := by
  cases o with
  | none => rfl
  | some k =>
    show DataW.lit (.int .i64 ((bs ++ [nb]).getD k 0 : Nat)) = DataW.lit (.int .i64 (bs.getD k 0 : Nat))
    rw [getD_old (h k rfl)]
theorem TR.hang1 {n t wd : Nat} {T : List (Nd (Cd n))} {bs : List Nat} {ms : List (Option Nat)} {x : Num} {W W' : World} (h : TR W t wd T bs ms x) (c : Cd n) (hc : ∀ (j : Nat) nd, T[j]? = some nd → nd.code ≠ c)
    {f : Nat} (hf : f = reach dC T c T.length 0) {nd : Nd (Cd n)} (hnd : T[f]? = some nd) (hch : child T f (dC nd.code c) = none) {b : Nat} {m0 : Option Nat} (hb : bs[f]? = some b) (hm : ms[f]? = some m0) (nb m' : Nat)
    (hs : Stay (fun k => k = t ∨ k = b ∨ m0 = some k) W W') (hnb : W.heap.size ≤ nb) (hm' : m0 = some m' ∨ (m0 = none ∧ W.heap.size ≤ m'))
    (htree : W'.heap[t]? = some (.cells #[.int .i64 wd, ptr (bs ++ [nb]) (some 0), .int .i64 (x.live + 1 : Nat), .int .i64 x.dead, .int .i64 (max x.dep (TreeMath.dep T (f + 1) f + 1) : Nat), .int .i64 x.looked] 64 (0, 0)))
    (hnode : W'.heap[b]? = some (.cells #[.string nd.code.1, .bool nd.live, .map (some m')] 73 (0, 0))) (hnew : W'.heap[nb]? = some (.cells #[.string c.1, .bool true, .map none] 73 (0, 0)))
    (hmap : ∃ cc D, W'.ownsMap Tryd.prog 3 ptrE m' cc D ∧ cc ≤ T.length + 1 ∧ ∀ (z : Int) (zd : DataW Unit), D.atKey (.int .i64 z) zd = if z = (dC nd.code c : Nat) then .lit (.int .i64 nb) else if 0 ≤ z then kidP bs (child T f z.toNat) zd else zd) (hsm : T.length < 1099511627776) :
    TR W' t wd (TreeMath.hang dC T c) (bs ++ [nb]) (ms.set f (some m') ++ [none]) ⟨x.live + 1, x.dead, max x.dep (TreeMath.dep T (f + 1) f + 1), x.looked⟩ := by
  have hfT : f < T.length := (List.getElem?_eq_some_iff.1 hnd).1
  have hwf' : WF dC (TreeMath.hang dC T c) := hang_wf dC_zero h.wf (fun n hn => by obtain ⟨j, hj, rfl⟩ := List.getElem_of_mem hn; exact hc j _ (List.getElem?_eq_getElem hj))
  have hlv := hang_lives h.wf c
  have hT : TreeMath.hang dC T c = T ++ [⟨c, true, some f, dC nd.code c⟩] := by
    unfold TreeMath.hang
    rw [← hf, hnd]
  rw [hT] at hwf' hlv ⊢
  have hlb := h.lb
  have hlm := h.lm
  have hkb : ∀ (i e k : Nat), child T i e = some k → k < bs.length := fun i e k hk => by rw [hlb]; exact (h.wf.child_lt hk).2
  have hbm : b ∈ bs := List.mem_of_getElem? hb
  have hlen' : (T ++ [⟨c, true, some f, dC nd.code c⟩] : List (Nd (Cd n))).length = T.length + 1 := by simp
  have hcd8 : dC nd.code c ≤ 8192 := Nat.le_trans (dC_le _ _) (by have := isW_bd h.wid; have := h.eight; omega)
  have hkid : ∀ (j : Nat), j ≠ f → ∀ e, child (T ++ [⟨c, true, some f, dC nd.code c⟩] : List (Nd (Cd n))) j e = child T j e := fun j hj e => by
    rw [child_snoc]
    cases child T j e with
    | some k => rfl
    | none =>
      have : ¬ ((some f : Option Nat) = some j ∧ dC nd.code c = e) := fun hh => hj (by have := hh.1; simp at this; exact this.symm)
      show (if (some f : Option Nat) = some j ∧ dC nd.code c = e then some T.length else none) = none
      rw [if_neg this]
  have hkf : ∀ e zd, kidP (bs ++ [nb]) (child (T ++ [⟨c, true, some f, dC nd.code c⟩] : List (Nd (Cd n))) f e) zd = if e = dC nd.code c then .lit (.int .i64 nb) else kidP bs (child T f e) zd := fun e zd => by
    rw [child_snoc]
    by_cases he : e = dC nd.code c
    · subst he
      rw [hch, if_pos rfl]
      show kidP (bs ++ [nb]) (if (some f : Option Nat) = some f ∧ dC nd.code c = dC nd.code c then some T.length else none) zd = _
      rw [if_pos ⟨rfl, rfl⟩]
      show DataW.lit (.int .i64 ((bs ++ [nb]).getD T.length 0 : Nat)) = _
      rw [← hlb]
      simp [List.getD]
    · rw [if_neg he]
      cases hcc : child T f e with
      | some k => exact kidP_old (fun k' hk' => by cases hk'; exact hkb f e k hcc)
      | none =>
        show kidP (bs ++ [nb]) (if (some f : Option Nat) = some f ∧ dC nd.code c = e then some T.length else none) zd = _
        rw [if_neg (fun hh => he hh.2.symm)]
        rfl
  have hsame : ∀ k, k < W.heap.size → k ≠ t → k ≠ b → m0 ≠ some k → W'.heap[k]? = W.heap[k]? := fun k h1 h2 h3 h4 => hs.block k h1 (fun hh => hh.elim h2 (fun hh => hh.elim h3 h4))
  refine { wid := h.wid, eight := h.eight, wf := hwf', lb := by simp [hlb], lm := by simp [hlm], tree := ?_, node := ?_, kids := ?_, bare := ?_, nodup := ?_, msep := ?_, live := ?_, all := ?_, small := by rw [hlen']; omega, dep := ?_, depT := ?_, depE := ?_, lk := h.lk }
  · rw [hlen', if_neg (by omega)]; exact htree
  · intro j b' nd' m hj hb' hmj
    by_cases hjl : j < T.length
    · rw [List.getElem?_append_left hjl] at hj
      rw [List.getElem?_append_left (by rw [hlb]; exact hjl)] at hb'
      rw [List.getElem?_append_left (by rw [List.length_set, hlm]; exact hjl)] at hmj
      by_cases hjf : j = f
      · subst hjf
        have e1 : nd = nd' := Option.some.inj (hnd.symm.trans hj)
        have e2 : b = b' := Option.some.inj (hb.symm.trans hb')
        rw [List.getElem?_set_self (by rw [hlm]; exact hjl)] at hmj
        have e3 : some m' = m := Option.some.inj hmj
        rw [← e1, ← e2, ← e3]
        exact hnode
      · rw [List.getElem?_set_ne (fun e => hjf e.symm)] at hmj
        have hb'm : b' ∈ bs := List.mem_of_getElem? hb'
        have hx := h.tn hb'm
        have hne : b' ≠ b := fun e => hjf (by
          have h1 := List.getElem?_eq_some_iff.1 hb'
          have h2 := List.getElem?_eq_some_iff.1 hb
          obtain ⟨p1, p2⟩ := h1
          obtain ⟨p3, p4⟩ := h2
          exact (List.getElem_inj h.nodup).1 (by rw [p2, p4, e]))
        refine (hsame b' (h.lt (.inr (.inl hb'm))) hx.1 hne (fun e => hx.2 b' (by rw [← e]; exact List.mem_of_getElem? hm) rfl)).trans (h.node j b' nd' m hj hb' hmj)
    · have hje : j = T.length := by have := (List.getElem?_eq_some_iff.1 hj).1; rw [hlen'] at this; omega
      subst hje
      rw [List.getElem?_append_right (Nat.le_refl _)] at hj
      rw [List.getElem?_append_right (by rw [hlb]; exact Nat.le_refl _)] at hb'
      rw [List.getElem?_append_right (by rw [List.length_set, hlm]; exact Nat.le_refl _)] at hmj
      simp at hj
      rw [hlb] at hb'
      rw [List.length_set, hlm] at hmj
      simp at hb' hmj
      rw [← hj, ← hb', ← hmj]
      exact hnew
  · intro j mb hmj
    by_cases hjl : j < T.length
    · rw [List.getElem?_append_left (by rw [List.length_set, hlm]; exact hjl)] at hmj
      by_cases hjf : j = f
      · subst hjf
        rw [List.getElem?_set_self (by rw [hlm]; exact hjl)] at hmj
        have e3 : m' = mb := by simpa using hmj
        subst e3
        obtain ⟨cc, D, h1, h2, h3⟩ := hmap
        refine ⟨cc, D, h1, by rw [hlen']; exact h2, fun z zd => ?_⟩
        rw [h3 z zd]
        by_cases hz : 0 ≤ z
        · obtain ⟨e, rfl⟩ : ∃ e : Nat, z = e := ⟨z.toNat, by omega⟩
          rw [if_pos hz, if_pos hz, Int.toNat_natCast, hkf e zd]
          by_cases he : e = dC nd.code c
          · rw [if_pos (by omega), if_pos he]
          · rw [if_neg (by omega), if_neg he]
        · rw [if_neg hz, if_neg hz, if_neg (by omega)]
      · rw [List.getElem?_set_ne (fun e => hjf e.symm)] at hmj
        obtain ⟨cc, D, h1, h2, h3⟩ := (h.kids j mb hmj).ex
        have hmm : some mb ∈ ms := List.mem_of_getElem? hmj
        refine ⟨cc, D, map_kept h1 hs (fun hh => ?_), by rw [hlen']; omega, fun z zd => ?_⟩
        · rcases hh with hh | hh | hh
          · exact h.tm hmm hh
          · exact (h.tn hbm).2 mb hmm hh.symm
          · exact hjf (h.msep j f mb hmj (by rw [hm, hh]))
        · rw [h3 z zd, hkid j hjf z.toNat, kidP_old (fun k hk => hkb j z.toNat k hk)]
    · rw [List.getElem?_append_right (by rw [List.length_set, hlm]; omega)] at hmj
      have : j - (ms.set f (some m')).length = 0 ∨ 0 < j - (ms.set f (some m')).length := by omega
      rcases this with e | e
      · rw [e] at hmj; simp at hmj
      · rw [List.getElem?_eq_none (by show 1 ≤ _; omega)] at hmj; cases hmj
  · intro j hmj e
    by_cases hjl : j < T.length
    · rw [List.getElem?_append_left (by rw [List.length_set, hlm]; exact hjl)] at hmj
      by_cases hjf : j = f
      · subst hjf
        rw [List.getElem?_set_self (by rw [hlm]; exact hjl)] at hmj
        simp at hmj
      · rw [List.getElem?_set_ne (fun e => hjf e.symm)] at hmj
        rw [hkid j hjf e]
        exact h.bare j hmj e
    · cases hcc : child (T ++ [⟨c, true, some f, dC nd.code c⟩] : List (Nd (Cd n))) j e with
      | none => rfl
      | some k =>
        have := hwf'.child_lt hcc
        rw [hlen'] at this
        omega
  · refine List.nodup_append.2 ⟨h.nodup, by simp, fun a ha b hb e => ?_⟩
    simp at hb
    have := h.lt (.inr (.inl ha))
    omega
  · intro i j a h1 h2
    have key : ∀ i, (ms.set f (some m') ++ [none])[i]? = some (some a) → i < T.length ∧ ((i = f ∧ a = m') ∨ (i ≠ f ∧ ms[i]? = some (some a))) := fun i hi => by
      by_cases hil : i < T.length
      · rw [List.getElem?_append_left (by rw [List.length_set, hlm]; exact hil)] at hi
        by_cases hif : i = f
        · subst hif
          rw [List.getElem?_set_self (by rw [hlm]; exact hil)] at hi
          exact ⟨hil, .inl ⟨rfl, by simpa using hi.symm⟩⟩
        · rw [List.getElem?_set_ne (fun e => hif e.symm)] at hi
          exact ⟨hil, .inr ⟨hif, hi⟩⟩
      · rw [List.getElem?_append_right (by rw [List.length_set, hlm]; omega)] at hi
        have : i - (ms.set f (some m')).length = 0 ∨ 0 < i - (ms.set f (some m')).length := by omega
        rcases this with e | e
        · rw [e] at hi; simp at hi
        · rw [List.getElem?_eq_none (by show 1 ≤ _; omega)] at hi; cases hi
    have hfm : ∀ i, i ≠ f → ms[i]? = some (some m') → False := fun i hi hmi => by
      rcases hm' with e | ⟨-, e⟩
      · exact hi (h.msep i f m' hmi (by rw [hm, e]))
      · have := h.lt (.inr (.inr (List.mem_of_getElem? hmi))); omega
    rcases (key i h1).2 with ⟨rfl, e1⟩ | ⟨k1, e1⟩ <;> rcases (key j h2).2 with ⟨rfl, e2⟩ | ⟨k2, e2⟩
    · rfl
    · exact (hfm j k2 (by rw [← e1]; exact e2)).elim
    · exact (hfm i k1 (by rw [← e2]; exact e1)).elim
    · exact h.msep i j a e1 e2
  · show x.live + 1 = _
    rw [hlv, List.length_append, ← h.live]; rfl
  · show x.live + 1 + x.dead = _
    rw [hlen']; have := h.all; omega
  · intro j hj
    rw [hlen'] at hj
    show _ ≤ max x.dep (TreeMath.dep T (f + 1) f + 1)
    by_cases hjl : j < T.length
    · rw [dep_snoc h.wf _ _ _ hjl]
      exact Nat.le_trans (h.dep j hjl) (Nat.le_max_left _ _)
    · have hje : j = T.length := by omega
      subst hje
      rw [dep_child hwf' (i := f) (n := ⟨c, true, some f, dC nd.code c⟩) (by simp) rfl, dep_snoc h.wf _ _ _ hfT]
      exact Nat.le_max_right _ _
  · show max x.dep (TreeMath.dep T (f + 1) f + 1) ≤ _
    rw [hlen']
    have h1 := h.dep f hfT
    have h2 := h.depT
    omega
  · show max x.dep (TreeMath.dep T (f + 1) f + 1) = 0 ∨ ∃ j, j < _ ∧ TreeMath.dep _ (j + 1) j = max x.dep (TreeMath.dep T (f + 1) f + 1)
    by_cases hle : x.dep ≤ TreeMath.dep T (f + 1) f + 1
    · refine .inr ⟨T.length, by rw [hlen']; omega, ?_⟩
      rw [dep_child hwf' (i := f) (n := ⟨c, true, some f, dC nd.code c⟩) (by simp) rfl, dep_snoc h.wf _ _ _ hfT, Nat.max_eq_right hle]
    · rcases h.depE with e | ⟨j, hj, e⟩
      · omega
      · refine .inr ⟨j, by rw [hlen']; omega, ?_⟩
        rw [dep_snoc h.wf _ _ _ hj, Nat.max_eq_left (by omega), e]
end Go.Proofs.YtnnbcdfpbdmgdaaDoor
