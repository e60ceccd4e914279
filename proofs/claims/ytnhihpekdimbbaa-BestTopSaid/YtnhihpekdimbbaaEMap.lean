/-
  DERIVED. A set of hits as a map of the program's.
-/
import Derived.Test.YtnhihpekdimbbaaEHeap3
import Derived.Maps.OwnSet
import Derived.Maps.OwnOps
import Derived.Maps.Views
import Derived.DeepKeys4
set_option linter.unusedVariables false
set_option linter.unusedSimpArgs false
namespace Go.Proofs.Ytnhihpekdimbbaa
open Classical
open Go.RowKit Go.Maps Go.ChangeMaps Go.MapKept Go.WideShapes
abbrev I64 (n : Int) : Prop := -9223372036854775808 ≤ n ∧ n ≤ 9223372036854775807
/-- Numbers that an int holds, and a text that a string does. -/
def HtW (h : Ht) : Prop := I64 h.d ∧ I64 h.i ∧ h.c.size ≤ 140737488355328
theorem wf_i64 {n : Int} (h : I64 n) : (Lit.int .i64 n).wf = true := by
  have e1 : IntKind.i64.min = -9223372036854775808 := rfl
  have e2 : IntKind.i64.max = 9223372036854775807 := rfl
  simp [Lit.wf, e1, e2]
  omega
theorem rowH : (31 : TypeId) < Try.prog.types.size := of_decide_eq_true (by kernel_rfl)
theorem wideH : (match Try.prog.underlying 31 with | some (.array _ _) | some (.struct _) => true | _ => false) = true := by kernel_rfl
theorem laidH : laidOutB Try.prog = true := by kernel_rfl
theorem deepH : Try.prog.keyTypeAt 2 31 = true := by kernel_rfl
set_option maxRecDepth 100000 in
theorem lawH : Keyed Try.prog 31 := Keyed.of_law (deep_law_laid laidH (m := 2) (by omega) rowH deepH wideH)
/-- What a hit reads as, as a key. -/
def kK (h : Ht) : Lit := .string (keyBytes [.int .i64 h.d, .int .i64 h.i, .string h.c.data.toList])
theorem key_lits {h : Ht} (hw : HtW h) : Try.prog.keyLits (Try.prog.types.size + 1) 31 (hC h) = some [.int .i64 h.d, .int .i64 h.i, .string h.c.data.toList] := by
  have e1 := wf_i64 hw.1
  have e2 := wf_i64 hw.2.1
  have e3 : h.c.size ≤ maxLen := by have := hw.2.2; unfold maxLen; omega
  have u1 := Try.underlying31
  have c0 : Try.prog.cellsOf 31 = 3 := by kernel_rfl
  have c1 : Try.prog.cellsOf 3 = 1 := by kernel_rfl
  have c2 : Try.prog.cellsOf 9 = 1 := by kernel_rfl
  have gen : ∀ d, Try.prog.keyLits (d + 2) 31 (hC h) = some [.int .i64 h.d, .int .i64 h.i, .string h.c.data.toList] := fun d => by
    simp [Program.keyLits, hC, u1, Try.underlying3, Try.underlying9, c0, c1, c2, e1, e2, e3]
  have hs : ∃ d, Try.prog.types.size + 1 = d + 2 := by
    have h1 : 31 < Try.prog.types.size := rowH
    exact ⟨Try.prog.types.size - 1, by omega⟩
  obtain ⟨d, hd⟩ := hs
  rw [hd]
  exact gen d
theorem key_h {h : Ht} (hw : HtW h) : keyOf Try.prog 31 (.agg (hC h).toArray) = some (kK h) := by
  have hf : (Value.agg (hC h).toArray).formed Try.prog 31 = true := by
    have c0 : Try.prog.cellsOf 31 = 3 := by kernel_rfl
    simp [Value.formed, Try.underlying31, c0, hC]
  have hk : Try.prog.keyType 31 = true := by kernel_rfl
  have hl := key_lits hw
  unfold keyOf
  rw [Try.underlying31]
  simp only [hk, hf, Bool.and_self, if_true]
  have e : (Value.agg (hC h).toArray).cells.toList = hC h := by simp [Value.cells]
  rw [e, hl]
  rfl
theorem kK_inj {a b : Ht} (ha : HtW a) (hb : HtW b) (h : kK a = kK b) : a = b := by
  have h1 := key_h ha
  have h2 := key_h hb
  rw [h] at h1
  have := lawH.inj h1 h2
  obtain ⟨d, i, c⟩ := a
  obtain ⟨d', i', c'⟩ := b
  simp [hC] at this
  obtain ⟨rfl, rfl, rfl⟩ := this
  rfl
/-- The map in block mb holds just these. -/
def MS (W : World) (mb : Nat) (xs : List Ht) : Prop := ∃ D : DataW Unit, W.ownsMap Try.prog 31 unitElem mb xs.length D ∧ (∀ kl, Maps.has D kl = true ↔ ∃ x ∈ xs, kK x = kl) ∧ Maps.size D = xs.length
theorem tight {W : World} {mb n : Nat} {D : DataW Unit} {R : Value → Option (DataW Unit × List MemPlace)} {k : TypeId} (h : W.ownsMap Try.prog k R mb n D) : W.ownsMap Try.prog k R mb (Maps.size D) D := by
  obtain ⟨es, clock, hb, F, hs, rfl⟩ := h
  exact ⟨es, clock, hb, F, by simp [Maps.size, length_sorted], rfl⟩
theorem MS.perm {W : World} {mb : Nat} {xs ys : List Ht} (h : MS W mb xs) (p : xs.Perm ys) : MS W mb ys := by
  obtain ⟨D, h1, h2, h3⟩ := h
  refine ⟨D, by rw [← p.length_eq]; exact h1, fun kl => by rw [h2]; exact ⟨fun ⟨x, hx, e⟩ => ⟨x, p.mem_iff.1 hx, e⟩, fun ⟨x, hx, e⟩ => ⟨x, p.mem_iff.2 hx, e⟩⟩, by rw [h3, p.length_eq]⟩
theorem MS.lt {W : World} {mb : Nat} {xs : List Ht} (h : MS W mb xs) : mb < W.heap.size := by
  obtain ⟨D, h1, _⟩ := h
  exact h1.lt
theorem MS.block {W W' : World} {mb : Nat} {xs : List Ht} (h : MS W mb xs) (e : W'.heap[mb]? = W.heap[mb]?) : MS W' mb xs := by
  obtain ⟨D, ⟨es, clock, hb, r⟩, h2⟩ := h
  exact ⟨D, ⟨es, clock, e.trans hb, r⟩, h2⟩
theorem MS.kept {W W' : World} {mb : Nat} {xs : List Ht} {F : Nat → Prop} (h : MS W mb xs) (s : Stay F W W') (hF : ¬ F mb) : MS W' mb xs := h.block (s.block mb h.lt hF)
theorem MS.made (W : World) : MS (W.alloc (.map #[] 0)) W.heap.size [] := ⟨_, World.ownsMap_made (H := Unit) W Try.prog 31 unitElem, fun kl => by simp [Maps.has_eq], rfl⟩
theorem zeroU (w : World) : (zeroValue 77).run Try.prog w = .ok (.agg #[]) w := by kernel_rfl
theorem MS.look {W : World} {mb : Nat} {xs : List Ht} (h : MS W mb xs) (hx : ∀ x ∈ xs, HtW x) {a : Ht} (ha : HtW a) : (Instr.lookup 60 (.map (some mb)) (.agg (hC a).toArray) true).run Try.prog W = .ok (.tuple #[.agg #[], .bool (decide (a ∈ xs))]) W := by
  obtain ⟨D, h1, h2, h3⟩ := h
  obtain ⟨v, ps, hr, hv⟩ := h1.look_ok lawH Try.underlying60 (zeroU W) (unitElem_mk (H := Unit)) (key_h ha)
  obtain ⟨rfl, _⟩ := unitElem_inv hv
  have e : Maps.has D (kK a) = decide (a ∈ xs) := by
    by_cases hm : a ∈ xs
    · rw [decide_eq_true hm]; exact (h2 _).2 ⟨a, hm, rfl⟩
    · rw [decide_eq_false hm]
      cases hh : Maps.has D (kK a) with
      | false => rfl
      | true =>
        obtain ⟨x, hx', e⟩ := (h2 _).1 hh
        exact absurd (kK_inj (hx x hx') ha e ▸ hx') hm
  rw [← e]
  exact hr
theorem MS.put {W : World} {mb : Nat} {xs : List Ht} (h : MS W mb xs) (hx : ∀ x ∈ xs, HtW x) {a : Ht} (ha : HtW a) (hn : a ∉ xs) (hl : xs.length < maxLen) :
    ∃ W', (Instr.mapUpdate 60 (.map (some mb)) (.agg (hC a).toArray) (.agg #[])).run Try.prog W = .ok () W' ∧ MS W' mb (a :: xs) ∧ Stay (fun k => k = mb) W W' := by
  obtain ⟨D, h1, h2, h3⟩ := h
  obtain ⟨W', hr, ho, ht⟩ := h1.store lawH Try.underlying60 hl (key_h ha) (unitElem_mk (H := Unit))
  have hnot : Maps.has D (kK a) = false := by
    cases hh : Maps.has D (kK a) with
    | false => rfl
    | true =>
      obtain ⟨x, hx', e⟩ := (h2 _).1 hh
      exact absurd (kK_inj (hx x hx') ha e ▸ hx') hn
  refine ⟨W', hr, ⟨_, ho, fun kl => ?_, ?_⟩, .grown ht.grown (fun k e => by cases e; rfl)⟩
  · by_cases e : kl = kK a
    · subst e
      rw [Maps.has_put_same h1.isMap (by trivial)]
      exact ⟨fun _ => ⟨a, List.mem_cons_self, rfl⟩, fun _ => rfl⟩
    · rw [Maps.has_put_other e, h2]
      constructor
      · rintro ⟨x, hx', e'⟩; exact ⟨x, List.mem_cons_of_mem _ hx', e'⟩
      · rintro ⟨x, hx', e'⟩
        rcases List.mem_cons.1 hx' with rfl | hx'
        · exact absurd e'.symm e
        · exact ⟨x, hx', e'⟩
  · rw [Maps.size_put (h1.tidy lawH), hnot, h3]; rfl
theorem MS.del {W : World} {mb : Nat} {xs ys : List Ht} {a : Ht} (h : MS W mb xs) (hx : ∀ x ∈ xs, HtW x) (hp : (a :: ys).Perm xs) (hn : a ∉ ys) :
    ∃ W', (∀ ty, (Builtin.delete_ #[60, 31] ty #[.map (some mb), .agg (hC a).toArray]).run Try.prog W = .ok (.tuple #[]) W') ∧ MS W' mb ys ∧ Stay (fun k => k = mb) W W' := by
  have hax : a ∈ xs := hp.mem_iff.1 List.mem_cons_self
  have ha := hx a hax
  obtain ⟨D, h1, h2, h3⟩ := h
  obtain ⟨W', hr, ho, ht⟩ := h1.drop lawH Try.underlying60 (key_h ha) 0
  have hin : Maps.has D (kK a) = true := (h2 _).2 ⟨a, hax, rfl⟩
  have hsz := Maps.size_del (k := kK a) (h1.tidy lawH)
  rw [hin, h3, ← hp.length_eq] at hsz
  simp at hsz
  refine ⟨W', fun ty => hr, ⟨_, by have := tight ho; rw [hsz] at this; exact this, fun kl => ?_, hsz⟩, .grown ht.grown (fun k e => by cases e; rfl)⟩
  by_cases e : kl = kK a
  · subst e
    rw [Maps.has_del_same]
    refine ⟨fun h => by simp at h, fun ⟨x, hx', e'⟩ => ?_⟩
    have : x = a := kK_inj (hx x (hp.mem_iff.1 (List.mem_cons_of_mem _ hx'))) ha e'
    exact absurd (this ▸ hx') hn
  · rw [Maps.has_del_other e, h2]
    constructor
    · rintro ⟨x, hx', e'⟩
      rcases List.mem_cons.1 (hp.mem_iff.2 hx') with rfl | hy
      · exact absurd e'.symm e
      · exact ⟨x, hy, e'⟩
    · rintro ⟨x, hx', e'⟩; exact ⟨x, hp.mem_iff.1 (List.mem_cons_of_mem _ hx'), e'⟩
theorem MS.clear {W : World} {mb : Nat} {xs : List Ht} (h : MS W mb xs) :
    ∃ W', (∀ ty, (Builtin.clear_ #[60] ty #[.map (some mb)]).run Try.prog W = .ok (.tuple #[]) W') ∧ MS W' mb [] ∧ Stay (fun k => k = mb) W W' := by
  obtain ⟨D, ⟨es, clock, hb, F, hs, hD⟩, h2⟩ := h
  refine ⟨setBlock W mb (.map #[] clock), fun ty => ?_, ⟨.map [], ⟨#[], clock, heap_setBlock_same hb _, ⟨by simp, ?_, by simp⟩, by simp, rfl⟩, fun kl => by simp [Maps.has_eq], rfl⟩, ⟨rfl, rfl, rfl, by simp [setBlock], fun k hk hne => heap_setBlock_other hb _ hne⟩⟩
  · simp [Builtin.clear_, run_underlying Try.underlying60, MapKept.run_getObj_map hb, setBlock, run_setObj_map _ hb, Result.andThen]
  · exact stamped_empty clock
end Go.Proofs.Ytnhihpekdimbbaa
