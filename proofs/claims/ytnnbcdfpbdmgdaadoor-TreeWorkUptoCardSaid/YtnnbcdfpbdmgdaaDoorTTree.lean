/-
  DERIVED. A tree in memory: its struct, its nodes, their maps, as the flat list of nodes.
-/
import Derived.Test.YtnnbcdfpbdmgdaaDoorDist
import Derived.Test.YtnnbcdfpbdmgdaaDoorJBits
import Derived.Test.YtnnbcdfpbdmgdaaDoorBStay
import Derived.Test.YtnnbcdfpbdmgdaaDoorTMath5
import Derived.Maps.OwnOps
import Derived.Maps.OwnSet
import Derived.Maps.Views
set_option linter.unusedVariables false
set_option linter.unusedSimpArgs false
namespace Go.Proofs.YtnnbcdfpbdmgdaaDoor
open Go.RowKit Go.Maps Go.Proofs.BitMath Go.Proofs.TreeMath
/-- Codes of one length. -/
abbrev Cd (n : Nat) := { c : ByteArray // c.size = n }
theorem Cd.len {n : Nat} (a : Cd n) : a.1.data.toList.length = n := (Array.length_toList).trans a.2
/-- Their distance. -/
def dC {n : Nat} (a b : Cd n) : Nat := wt (xorL a.1.data.toList b.1.data.toList)
theorem dC_self {n : Nat} (a : Cd n) : dC a a = 0 := xorL_self _
theorem dC_comm {n : Nat} (a b : Cd n) : dC a b = dC b a := by unfold dC; rw [xorL_comm]
theorem dC_tri {n : Nat} (a b c : Cd n) : dC a c ≤ dC a b + dC b c := xorL_tri _ _ _ (by rw [a.len, c.len]) (by rw [a.len, b.len])
theorem dC_zero {n : Nat} (a b : Cd n) (h : dC a b = 0) : a = b := by
  have := xorL_zero _ _ (by rw [a.len, b.len]) h
  apply Subtype.ext
  apply ByteArray.ext
  exact Array.toList_inj.1 this
theorem dC_le {n : Nat} (a b : Cd n) : dC a b ≤ 8 * n := by
  have hl : (xorL a.1.data.toList b.1.data.toList).length = n := (xorL_length _ _ (by rw [a.len, b.len])).trans a.len
  have := wt_take_le (xorL a.1.data.toList b.1.data.toList) n (by rw [hl]; exact Nat.le_refl _)
  rw [List.take_of_length_le (by rw [hl]; exact Nat.le_refl _)] at this
  exact this
/-- How an element of a map reads: a pointer to a node is its block's number. -/
def ptrE : Value → Option (DataW Unit × List MemPlace)
  | .pointer none => some (.nil, [])
  | .pointer (some a) => if a.off = 0 ∧ a.spot = none then some (.lit (.int .i64 a.block), []) else none
  | _ => none
theorem ptrE_mk (b : Nat) : ptrE (.pointer (some ⟨b, 0, none⟩)) = some (.lit (.int .i64 b), []) := by simp [ptrE]
theorem ptrE_block {v : Value} {b : Nat} {ps : List MemPlace} (h : ptrE v = some (.lit (.int .i64 b), ps)) : v = .pointer (some ⟨b, 0, none⟩) := by
  cases v <;> try (simp [ptrE] at h; done)
  rename_i a
  cases a with
  | none => simp [ptrE] at h
  | some a =>
    simp only [ptrE] at h
    split at h
    · rename_i hc
      obtain ⟨bk, off, sp⟩ := a
      simp at hc h
      obtain ⟨rfl, rfl⟩ := hc
      simp
    · cases h
theorem ptrE_nil {v : Value} {ps : List MemPlace} (h : ptrE v = some (.nil, ps)) : v = .pointer none := by
  cases v <;> try (simp [ptrE] at h; done)
  rename_i a
  cases a with
  | none => rfl
  | some a =>
    simp only [ptrE] at h
    split at h
    · simp at h
    · cases h
theorem law3 : Keyed Tryd.prog 3 := int_keyed Tryd.underlying3
theorem zeroP (w : World) : (zeroValue 62).run Tryd.prog w = .ok (.pointer none) w := by kernel_rfl
theorem wf_e {e : Nat} (h : e ≤ 8192) : (Lit.int .i64 (e : Int)).wf = true := by
  have e1 : IntKind.i64.min = -9223372036854775808 := rfl
  have e2 : IntKind.i64.max = 9223372036854775807 := rfl
  simp [Lit.wf, e1, e2]
  omega
/-- A pointer to a node of the list, or none. -/
def ptr (bs : List Nat) (o : Option Nat) : Value := match o with | some k => .pointer (some ⟨bs.getD k 0, 0, none⟩) | none => .pointer none
/-- What a node's map says. -/
def kidP (bs : List Nat) (o : Option Nat) (zd : DataW Unit) : DataW Unit := match o with | some k => .lit (.int .i64 (bs.getD k 0 : Nat)) | none => zd
def KidD {n : Nat} (T : List (Nd (Cd n))) (bs : List Nat) (j : Nat) (D : DataW Unit) : Prop := ∀ (z : Int) (zd : DataW Unit), D.atKey (.int .i64 z) zd = if 0 ≤ z then kidP bs (child T j z.toNat) zd else zd
theorem KidD.nat {n : Nat} {T : List (Nd (Cd n))} {bs : List Nat} {j : Nat} {D : DataW Unit} (h : KidD T bs j D) (e : Nat) (zd : DataW Unit) : D.atKey (.int .i64 (e : Int)) zd = kidP bs (child T j e) zd := by
  have := h (e : Int) zd
  rw [if_pos (by omega), Int.toNat_natCast] at this
  exact this
structure MapAt {n : Nat} (W : World) (m : Nat) (T : List (Nd (Cd n))) (bs : List Nat) (j : Nat) : Prop where
  ex : ∃ c D, W.ownsMap Tryd.prog 3 ptrE m c D ∧ c ≤ T.length ∧ KidD T bs j D
theorem map_kept {w w' : World} {mb c : Nat} {D : DataW Unit} {F : Nat → Prop} (h : w.ownsMap Tryd.prog 3 ptrE mb c D) (s : Stay F w w') (hn : ¬ F mb) : w'.ownsMap Tryd.prog 3 ptrE mb c D := by
  have hlt := h.lt
  obtain ⟨es, cl, hb, r⟩ := h
  exact ⟨es, cl, (s.block mb hlt hn).trans hb, r⟩
theorem MapAt.kept {n : Nat} {w w' : World} {m : Nat} {T : List (Nd (Cd n))} {bs : List Nat} {j : Nat} {F : Nat → Prop} (h : MapAt w m T bs j) (s : Stay F w w') (hn : ¬ F m) : MapAt w' m T bs j := by
  obtain ⟨c, D, h1, h2, h3⟩ := h.ex
  exact ⟨c, D, map_kept h1 s hn, h2, h3⟩
theorem MapAt.lt {n : Nat} {w : World} {m : Nat} {T : List (Nd (Cd n))} {bs : List Nat} {j : Nat} (h : MapAt w m T bs j) : m < w.heap.size := by
  obtain ⟨c, D, h1, -⟩ := h.ex
  exact h1.lt
theorem MapAt.look {n : Nat} {w : World} {m : Nat} {T : List (Nd (Cd n))} {bs : List Nat} {j : Nat} (h : MapAt w m T bs j) (e : Nat) (he : e ≤ 8192) :
    (Instr.lookup 71 (.map (some m)) (.int .i64 e) false).run Tryd.prog w = .ok (ptr bs (child T j e)) w := by
  obtain ⟨c, D, h1, -, h3⟩ := h.ex
  obtain ⟨v, ps, hr, hv⟩ := h1.lookup law3 Tryd.underlying71 (zeroP w) (zd := .nil) (zp := []) rfl (keyOf_int_mk Tryd.underlying3 (wf_e he))
  rw [hr]
  rw [h3.nat e .nil] at hv
  unfold ptr
  unfold kidP at hv
  cases hc : child T j e with
  | none => rw [hc] at hv; rw [ptrE_nil hv]
  | some k => rw [hc] at hv; rw [ptrE_block hv]
/-- The numbers of a tree. -/
structure Num where
  live : Nat
  dead : Nat
  dep : Nat
  looked : Int
/-- A tree. -/
structure TR {n : Nat} (W : World) (t wd : Nat) (T : List (Nd (Cd n))) (bs : List Nat) (ms : List (Option Nat)) (x : Num) : Prop where
  wid : isW wd = true
  eight : wd = 8 * n
  wf : WF dC T
  lb : bs.length = T.length
  lm : ms.length = T.length
  tree : W.heap[t]? = some (.cells #[.int .i64 wd, ptr bs (if T.length = 0 then none else some 0), .int .i64 x.live, .int .i64 x.dead, .int .i64 x.dep, .int .i64 x.looked] 64 (0, 0))
  node : ∀ (j b : Nat) (nd : Nd (Cd n)) (m : Option Nat), T[j]? = some nd → bs[j]? = some b → ms[j]? = some m → W.heap[b]? = some (.cells #[.string nd.code.1, .bool nd.live, .map m] 73 (0, 0))
  kids : ∀ (j mb : Nat), ms[j]? = some (some mb) → MapAt W mb T bs j
  bare : ∀ j : Nat, ms[j]? = some none → ∀ e, child T j e = none
  nodup : bs.Nodup
  msep : ∀ i j a : Nat, ms[i]? = some (some a) → ms[j]? = some (some a) → i = j
  live : x.live = (lives T).length
  all : x.live + x.dead = T.length
  small : T.length ≤ 1099511627776
  dep : ∀ j, j < T.length → dep T (j + 1) j ≤ x.dep
  depT : x.dep ≤ T.length
  depE : x.dep = 0 ∨ ∃ j, j < T.length ∧ TreeMath.dep T (j + 1) j = x.dep
  lk : (Lit.int .i64 x.looked).wf = true
/-- The blocks of a tree. -/
def TFoot (t : Nat) (bs : List Nat) (ms : List (Option Nat)) (k : Nat) : Prop := k = t ∨ k ∈ bs ∨ some k ∈ ms
theorem TR.lt {n : Nat} {W : World} {t wd : Nat} {T : List (Nd (Cd n))} {bs : List Nat} {ms : List (Option Nat)} {x : Num} (h : TR W t wd T bs ms x) {k : Nat} (hk : TFoot t bs ms k) : k < W.heap.size := by
  rcases hk with rfl | hk | hk
  · exact (Array.getElem?_eq_some_iff.1 h.tree).1
  · obtain ⟨j, hj, rfl⟩ := List.getElem_of_mem hk
    have h1 : j < T.length := by rw [← h.lb]; exact hj
    have h2 : j < ms.length := by rw [h.lm]; exact h1
    exact (Array.getElem?_eq_some_iff.1 (h.node j _ _ _ (List.getElem?_eq_getElem h1) (List.getElem?_eq_getElem hj) (List.getElem?_eq_getElem h2))).1
  · obtain ⟨j, hj, he⟩ := List.getElem_of_mem hk
    exact (h.kids j k (by rw [List.getElem?_eq_getElem hj, he])).lt
/-- It is as it was while other blocks are written. -/
theorem TR.kept {n : Nat} {W W' : World} {t wd : Nat} {T : List (Nd (Cd n))} {bs : List Nat} {ms : List (Option Nat)} {x : Num} {F : Nat → Prop} (h : TR W t wd T bs ms x) (s : Stay F W W') (hn : ∀ k, TFoot t bs ms k → ¬ F k) : TR W' t wd T bs ms x :=
  { h with
    tree := (s.block t (h.lt (.inl rfl)) (hn t (.inl rfl))).trans h.tree
    node := fun j b nd m h1 h2 h3 => (s.block b (h.lt (.inr (.inl (List.mem_of_getElem? h2)))) (hn b (.inr (.inl (List.mem_of_getElem? h2))))).trans (h.node j b nd m h1 h2 h3)
    kids := fun j mb h1 => (h.kids j mb h1).kept s (hn mb (.inr (.inr (List.mem_of_getElem? h1)))) }
theorem TR.below {n : Nat} {W W' : World} {t wd : Nat} {T : List (Nd (Cd n))} {bs : List Nat} {ms : List (Option Nat)} {x : Num} (h : TR W t wd T bs ms x) (b : Below W.heap.size W W') : TR W' t wd T bs ms x :=
  h.kept (F := fun _ => False) (.below b) (fun _ _ hf => hf)
theorem TR.cell {n : Nat} {W : World} {t wd : Nat} {T : List (Nd (Cd n))} {bs : List Nat} {ms : List (Option Nat)} {x : Num} (h : TR W t wd T bs ms x) :
    W.cell? ⟨t, 0, none⟩ = some (.int .i64 wd) ∧ W.cell? ⟨t, 1, none⟩ = some (ptr bs (if T.length = 0 then none else some 0)) ∧ W.cell? ⟨t, 2, none⟩ = some (.int .i64 x.live) ∧ W.cell? ⟨t, 3, none⟩ = some (.int .i64 x.dead) ∧ W.cell? ⟨t, 4, none⟩ = some (.int .i64 x.dep) ∧ W.cell? ⟨t, 5, none⟩ = some (.int .i64 x.looked) := by
  have := h.tree
  refine ⟨?_, ?_, ?_, ?_, ?_, ?_⟩ <;> simp [World.cell?, this]
theorem TR.frz {n : Nat} {W : World} {t wd : Nat} {T : List (Nd (Cd n))} {bs : List Nat} {ms : List (Option Nat)} {x : Num} (h : TR W t wd T bs ms x) (k : Nat) : W.frozen? ⟨t, k, none⟩ = false := by
  simp [World.frozen?, h.tree]
/-- A node's three cells. -/
theorem TR.at_ {n : Nat} {W : World} {t wd : Nat} {T : List (Nd (Cd n))} {bs : List Nat} {ms : List (Option Nat)} {x : Num} (h : TR W t wd T bs ms x) {j : Nat} {nd : Nd (Cd n)} (hj : T[j]? = some nd) :
    ∃ b m, bs[j]? = some b ∧ ms[j]? = some m ∧ bs.getD j 0 = b ∧ W.cell? ⟨b, 0, none⟩ = some (.string nd.code.1) ∧ W.cell? ⟨b, 1, none⟩ = some (.bool nd.live) ∧ W.cell? ⟨b, 2, none⟩ = some (.map m) ∧ (∀ k, W.frozen? ⟨b, k, none⟩ = false) ∧ b < W.heap.size := by
  have h1 : j < T.length := (List.getElem?_eq_some_iff.1 hj).1
  have hb : j < bs.length := by rw [h.lb]; exact h1
  have hm : j < ms.length := by rw [h.lm]; exact h1
  have hc := h.node j _ _ _ hj (List.getElem?_eq_getElem hb) (List.getElem?_eq_getElem hm)
  refine ⟨bs[j], ms[j], List.getElem?_eq_getElem hb, List.getElem?_eq_getElem hm, by simp [List.getD, hb], ?_, ?_, ?_, fun k => ?_, (Array.getElem?_eq_some_iff.1 hc).1⟩ <;> simp [World.cell?, World.frozen?, hc]
/-- The look into a node's map, whether there is one or not. -/
theorem TR.look {n : Nat} {W : World} {t wd : Nat} {T : List (Nd (Cd n))} {bs : List Nat} {ms : List (Option Nat)} {x : Num} (h : TR W t wd T bs ms x) {j : Nat} {m : Option Nat} (hm : ms[j]? = some m) (e : Nat) (he : e ≤ 8192) :
    (Instr.lookup 71 (.map m) (.int .i64 e) false).run Tryd.prog W = .ok (ptr bs (child T j e)) W := by
  cases m with
  | none =>
    rw [h.bare j hm e]
    have := Maps.look_nil (w := W) (P := Tryd.prog) (t := 71) (k := 3) (e := 62) false law3 Tryd.underlying71 (zeroP W) (keyOf_int_mk Tryd.underlying3 (wf_e he))
    exact this
  | some mb => exact (h.kids j mb hm).look e he
end Go.Proofs.YtnnbcdfpbdmgdaaDoor
