/-
  DERIVED. A plain map's Copy; the laws' sameInts.
-/
import Derived.Test.YtekgppmhcbmpeaaDoorGHist
set_option linter.unusedVariables false
set_option linter.unusedSimpArgs false
namespace Go.Proofs.YtekgppmhcbmpeaaDoor
open Go.RowKit
theorem map2_some (w : World) (b : Nat) : (binOp BinOp.eql 65 (.map (some b)) (.map none)).run Tryd.prog w = .ok (.bool false) w := by kernel_rfl
theorem clone_run {w : World} {mb : Nat} {es : Array MapEntry} {c : Nat} (t : TypeId) (h : w.heap[mb]? = some (.map es c)) : (Extern.MapsClone.clone #[.iface t (.map (some mb))]).run Tryd.prog w = .ok (.iface t (.map (some w.heap.size))) (w.alloc (.map es c)) := by
  have e : Extern.MapsClone.clone #[.iface t (.map (some mb))] = (getObj mb >>= fun o => match o with
      | .map en cl => (newObj (.map en cl) >>= fun n => pure (.iface t (.map (some n))))
      | _ => stuck "maps.clone: a map expected") := rfl
  rw [e]
  simp [MapKept.run_getObj_map h, Result.andThen, go_sem]
theorem assert_run (w : World) (b : Nat) : (Instr.typeAssert (.iface 65 (.map (some b))) 20 65 false).run Tryd.prog w = .ok (.map (some b)) w := by
  simp [Instr.typeAssert, run_underlying Tryd.underlying65, go_sem, Result.andThen]
set_option maxHeartbeats 2000000 in
set_option maxRecDepth 100000 in
theorem mclone_any {w : World} {mb : Nat} {es : Array MapEntry} {c : Nat} (h : w.heap[mb]? = some (.map es c)) :
    Calls Tryd.prog 45 #[.map (some mb)] w fun e w' => e = .returned (.map (some w.heap.size)) ∧ w' = w.alloc (.map es c) := by
  have hr := clone_run 65 h
  have hq := map2_some w mb
  have hta := assert_run (w.alloc (.map es c)) w.heap.size
  go_enter Tryd.func45, Tryd.ntmps45
  go_wp2_with fail
  rw [run_callFunc_extern Tryd.func58 (by kernel_rfl) (by kernel_rfl) (by kernel_rfl) (e := Extern.MapsClone.clone) (by kernel_rfl), hr]
  simp only [Result.andThen]
  rw [Oper.upon_value]
  go_wp2_with fail
  go_ret
  exact ⟨rfl, rfl⟩
set_option maxHeartbeats 2000000 in
set_option maxRecDepth 100000 in
theorem copy_any (p mb : Nat) (wd n : Int) (xs : List Pr) (w : World) (h : MP w p mb wd xs n) :
    Calls Tryd.prog 23 #[Pt p] w fun e w' => ∃ p2 mb2, e = .returned (Pt p2) ∧ MP w' p2 mb2 wd xs n ∧ w.heap.size ≤ p2 ∧ w.heap.size ≤ mb2 ∧ Below w.heap.size w w' := by
  obtain ⟨c0, c1, c2⟩ := h.at'.cells
  obtain ⟨es, cl, hm⟩ := h.pm.isMap
  have hcl := mclone_any (w := w.drew) hm
  have HP := Hid.mk (And.intro h hm)
  clear h hm
  go_enter Tryd.func23, Tryd.ntmps23
  go_wp2_with fail
  go_region_held (fun w' => Below w.heap.size w w' ∧ w'.cell? ⟨p, 0, none⟩ = some (.int .i64 wd) ∧ w'.cell? ⟨p, 1, none⟩ = some (.map (some mb)) ∧ w'.cell? ⟨p, 2, none⟩ = some (.int .i64 n))
    ((refine (fun hb => ⟨hb, cell_lat hb c0, cell_lat hb c1, cell_lat hb c2⟩) ?_; first | exact b_drew w | exact b4 | exact b4.alloc b4.size _))
    ((go_at_call 45; refine hcl.mono ?_; clear hcl; rintro e w4 ⟨rfl, h4⟩; have b4 : Below w.heap.size w w4 := (by rw [h4]; exact (b_drew w).alloc (Nat.le_refl _) _); have hb4 : Hid (w4.heap[w.heap.size]? = some (.map es cl)) := (by rw [h4]; exact heap_alloc_new w.drew _); clear h4))
  all_goals
    have HF : Hid (MP (w4.alloc (.cells #[.int .i64 wd, .map (some w.heap.size), .int .i64 n] 67)) w4.heap.size w.heap.size wd xs n ∧ Below w.heap.size w (w4.alloc (.cells #[.int .i64 wd, .map (some w.heap.size), .int .i64 n] 67)) ∧ w.heap.size ≤ w4.heap.size) := by
      have bB := (Below.refl w4.heap.size w4).alloc (Nat.le_refl _) (.cells #[.int .i64 wd, .map (some w.heap.size), .int .i64 n] 67)
      have hlt : w.heap.size < w4.heap.size := (Array.getElem?_eq_some_iff.1 hb4.out).1
      refine ⟨⟨heap_alloc_last w4 _, ?_, HP.out.1.fit, HP.out.1.isW⟩, b4.alloc b4.size _, b4.size⟩
      obtain ⟨D, ⟨es', cl', hb', F, hs, hD⟩, r⟩ := HP.out.1.pm
      have hee : es' = es ∧ cl' = cl := by
        have := hb'.symm.trans HP.out.2
        simpa using this
      obtain ⟨rfl, rfl⟩ := hee
      exact ⟨D, ⟨es', cl', (bB.block _ hlt).trans hb4.out, F, hs, hD⟩, r⟩
    clear hb4
    go_wp2_with fail
    go_ret
    exact ⟨_, _, rfl, HF.out.1, HF.out.2.2, Nat.le_refl _, HF.out.2.1⟩
end Go.Proofs.YtekgppmhcbmpeaaDoor
