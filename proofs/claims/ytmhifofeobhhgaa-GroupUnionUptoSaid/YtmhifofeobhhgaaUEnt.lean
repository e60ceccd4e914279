/-
  DERIVED. An entry of a map that is there is looked up and written.
-/
import Derived.Test.YtmhifofeobhhgaaUSort
import Derived.WideKeyEntry
set_option linter.unusedVariables false
set_option linter.unusedSimpArgs false
namespace Go.Proofs.Ytmhifofeobhhgaa
open Go.RowKit Go.Maps Go.ChangeMaps Go.MapKept Go.WideShapes Go.WideElems Go.Proofs.UnionMath
theorem IM.entry {W : World} {mb n : Nat} {f : Int → Option Int} (h : IM W mb n f) {z v : Int} (hz : I64 z) (hv : I64 v) (hn : n < maxLen) (hf : (f z).isSome = true) :
    ∃ v0 st W1 W', (Instr.mapEntry 41 (.map (some mb)) (.int .i64 z)).run Try.prog W = .ok (.tuple #[v0, .int .i64 (st : Nat)]) W1 ∧ (Instr.entryStore 41 (.map (some mb)) (.int .i64 (st : Nat)) (.int .i64 v)).run Try.prog W1 = .ok () W' ∧
      IM W' mb (n + 1) (fun y => if y = z then some v else f y) ∧ Stay (fun k => k = mb) W W1 ∧ Stay (fun k => k = mb) W W' := by
  obtain ⟨W', hput, hIM, hst, hsz⟩ := h.put hz hv hn
  have hlook := h.look hz
  obtain ⟨D, ⟨es, clock, hb, F, hs, hD⟩, h2⟩ := h.ex
  obtain ⟨s1, s2, -⟩ := F.stamped
  have hkey := keyOf_int_mk Try.underlying3 (wf_i64 hz)
  rcases law3.find W hkey es.toList F.keys with ⟨h1, -⟩ | ⟨j, e0, h1, hj, hk⟩
  · exfalso
    simp [Instr.lookup, run_underlying Try.underlying41, MapKept.run_getObj_map hb, law3.check W es.isEmpty hkey, h1, zero3, Result.andThen] at hlook
    simp [hlook] at hf
  · have hj' : es[j]? = some e0 := by simpa using hj
    have hl := (Array.getElem?_eq_some_iff.1 hb).1
    have hsame : es.modify j (fun e => { e with key := .int .i64 z }) = es := by
      apply Array.ext'
      rw [Array.toList_modify, modify_eq_set _ _ _ _ hj, ← hk]
      exact set_self _ _ _ hj
    have hm : (Instr.mapEntry 41 (.map (some mb)) (.int .i64 z)).run Try.prog W = .ok (.tuple #[e0.val, .int .i64 (e0.born : Nat)]) (setBlock W mb (.map es clock)) := by
      simp [Instr.mapEntry, run_underlying Try.underlying41, MapKept.run_getObj_map hb, law3.check W false hkey, h1, hj', hk, law3.stays W hkey, hsame, MapKept.run_setObj_map _ hb, Result.andThen, setBlock, goInt]
    have hb1 : (setBlock W mb (.map es clock)).heap[mb]? = some (.map es clock) := heap_setBlock_same hb _
    have hix : es.findIdx? (fun e => ((e.born : Nat) : Int) == ((e0.born : Nat) : Int)) = some j := by
      rw [findIdx_arr]
      exact findIdx_born s2 hj
    have he : (Instr.entryStore 41 (.map (some mb)) (.int .i64 (e0.born : Nat)) (.int .i64 v)).run Try.prog (setBlock W mb (.map es clock)) = .ok () W' := by
      simp [Instr.mapUpdate, run_underlying Try.underlying41, MapKept.run_getObj_map hb, law3.check W false hkey, h1, hj', hk, law3.stays W hkey, MapKept.run_setObj_map _ hb, Result.andThen] at hput
      have hmod : es.modify j (fun e => { e with val := .int .i64 v }) = es.modify j (fun e' => { e' with key := .int .i64 z, val := .int .i64 v }) := by
        apply Array.ext'
        rw [Array.toList_modify, Array.toList_modify, modify_eq_set _ _ _ _ hj, modify_eq_set _ _ _ _ hj, ← hk]
      have hgen : ∀ W1 : World, W1.heap[mb]? = some (.map es clock) → (Instr.entryStore 41 (.map (some mb)) (.int .i64 (e0.born : Nat)) (.int .i64 v)).run Try.prog W1 = .ok () (setBlock W1 mb (.map (es.modify j (fun e' => { e' with key := .int .i64 z, val := .int .i64 v })) clock)) := fun W1 q => by
        simp [Instr.entryStore, MapKept.run_getObj_map q, asInt, asIntOf, goInt, hix, hmod, MapKept.run_setObj_map _ q, Result.andThen, setBlock]
      rw [hgen _ hb1, ← hput]
      simp [setBlock]
    refine ⟨e0.val, e0.born, _, W', hm, he, hIM, ?_, hst⟩
    exact .grown (World.mapTurned.grown ⟨es, clock, es, clock, hb, rfl⟩) (fun k e => by cases e; rfl)
end Go.Proofs.Ytmhifofeobhhgaa
