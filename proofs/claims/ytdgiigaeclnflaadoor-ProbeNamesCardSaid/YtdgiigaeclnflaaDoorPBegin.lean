/-
  DERIVED. A search that begins.
-/
import Derived.Test.YtdgiigaeclnflaaDoorSplit
import Derived.Test.YtdgiigaeclnflaaDoorMBase
set_option linter.unusedVariables false
set_option linter.unusedSimpArgs false
namespace Go.Proofs.YtdgiigaeclnflaaDoor
open Go.RowKit Go.Proofs.BitMath
/-- A source's five cells. -/
def srcC (x m : Nat) (codes : Int) (vf af : Value) : List Value := [.int .i64 x, .int .i64 m, .int .i64 codes, vf, af]
/-- A search's fourteen. -/
def seaC (x m : Nat) (codes : Int) (vf af : Value) (q : ByteArray) (gc gv : Nat) (asks : Int) (mb : Nat) (s0 s1 s2 s3 : Int) : List Value :=
  [.int .i64 x, .int .i64 m, .int .i64 codes, vf, af, .string q, .slice (some ⟨gc, 0, none⟩) m m, .slice (some ⟨gv, 0, none⟩) m m, .int .i64 asks, .map (some mb), .int .i64 s0, .int .i64 s1, .int .i64 s2, .int .i64 s3]
/-- A search as begin makes it. -/
structure Bgn (w W : World) (x m : Nat) (codes : Int) (vf af : Value) (q : ByteArray) (b gc gv mb : Nat) : Prop where
  at' : W.heap[b]? = some (.cells (seaC x m codes vf af q gc gv 0 mb 0 0 0 0).toArray 57 (0, 0))
  cs : ∃ cs, RowIs W gc 76 cs ∧ HasCh x m cs (List.range m)
  vs : ∃ vs, RowIs W gv 3 vs ∧ HasV q.data.toList x m vs (List.range m)
  mp : W.heap[mb]? = some (.map #[] 0)
  below : Below w.heap.size w W
  nb : w.heap.size ≤ b
  nc : w.heap.size ≤ gc
  nv : w.heap.size ≤ gv
  nm : w.heap.size ≤ mb
theorem eql_nilV (f : Fn) (a c : Array Value) (W : World) : (binOp .eql 22 (.func f a c) .nilFunc).run Tryd.prog W = .ok (.bool false) W := by kernel_rfl
theorem eql_nilA (f : Fn) (a c : Array Value) (W : World) : (binOp .eql 23 (.func f a c) .nilFunc).run Tryd.prog W = .ok (.bool false) W := by kernel_rfl
set_option maxHeartbeats 2000000 in
set_option maxRecDepth 100000 in
theorem begin_yes (x m : Nat) (h : OkC x m) (codes : Int) (h0 : 0 ≤ codes) (f1 f2 : Fn) (a1 a2 c1 c2 : Array Value) (q : ByteArray) (hq : q.size = x / 8) (w : World) :
    Calls Tryd.prog 10 #[.agg (srcC x m codes (.func f1 a1 c1) (.func f2 a2 c2)).toArray, .string q] w fun e w' => ∃ b gc gv mb : Nat, e = .returned (.tuple #[.pointer (some ⟨b, 0, none⟩), .int .i64 0]) ∧ Bgn w w' x m codes (.func f1 a1 c1) (.func f2 a2 c2) q b gc gv mb := by
  have hc := fun W => chunks_yes x m W h
  have hs := fun W => split_yes x m q W h hq
  have hn : ¬ codes < 0 := by omega
  obtain ⟨W0, hW0⟩ : ∃ W0, W0 = w.alloc (.cells (srcC x m codes (.func f1 a1 c1) (.func f2 a2 c2)).toArray 25) := ⟨_, rfl⟩
  have bA : Below w.heap.size w W0 := by rw [hW0]; exact (Below.refl _ w).alloc (Nat.le_refl _) _
  have S0 : SAt W0 w.heap.size (srcC x m codes (.func f1 a1 c1) (.func f2 a2 c2)) := by rw [hW0]; exact SAt.new w _ _
  have sz0 : W0.heap.size = w.heap.size + 1 := by rw [hW0]; simp
  have hw' := hW0.symm
  have z0 := S0 0 _ rfl
  have z1 := S0 1 _ rfl
  have z2 := S0 2 _ rfl
  have z3 := S0 3 _ rfl
  have z4 := S0 4 _ rfl
  simp only [srcC] at hw' ⊢
  have HS := Hid.mk (And.intro S0 (And.intro bA sz0))
  clear h hq h0 hW0 S0 bA sz0
  have hmm := @run_makeMap Tryd.prog
  have he1 := eql_nilV f1 a1 c1
  have he2 := eql_nilA f2 a2 c2
  go_enter Tryd.func10, Tryd.ntmps10
  go_wp2_with first
    | (go_at_call 18; refine (hc _).mono ?_; clear hc; rintro e w1 ⟨⟨g, cs, hg, hr, hh, rfl⟩, b1⟩; replace z0 := cell_lat b1 z0; replace z1 := cell_lat b1 z1; replace z2 := cell_lat b1 z2; replace z3 := cell_lat b1 z3; replace z4 := cell_lat b1 z4)
    | (go_at_call 19; refine (hs _).mono ?_; clear hs; rintro e w2 ⟨⟨g2, vs, hg2, hr2, hh2, rfl⟩, b2⟩; replace z0 := cell_lat b2 z0; replace z1 := cell_lat b2 z1; replace z2 := cell_lat b2 z2; replace z3 := cell_lat b2 z3; replace z4 := cell_lat b2 z4)
  have b3 : Below w2.heap.size w2 (w2.alloc (.map #[] 0)) := (Below.refl _ w2).alloc (Nat.le_refl _) _
  have l3 := heap_alloc_last w2 (.map #[] 0)
  obtain ⟨W3, hW3⟩ : ∃ W3, W3 = w2.alloc (.map #[] 0) := ⟨_, rfl⟩
  have sz3 : W3.heap.size = w2.heap.size + 1 := by rw [hW3]; simp
  rw [← hW3] at b3 l3 ⊢
  have b4 := (Below.refl W3.heap.size W3).alloc (Nat.le_refl _) (.cells (seaC x m codes (.func f1 a1 c1) (.func f2 a2 c2) q g g2 0 w2.heap.size 0 0 0 0).toArray 57)
  have l4 := heap_alloc_last W3 (.cells (seaC x m codes (.func f1 a1 c1) (.func f2 a2 c2) q g g2 0 w2.heap.size 0 0 0 0).toArray 57)
  have s0 := HS.out.2.2
  have s1 := b1.size
  have s2 := b2.size
  have HE : Hid (Bgn w (W3.alloc (.cells (seaC x m codes (.func f1 a1 c1) (.func f2 a2 c2) q g g2 0 w2.heap.size 0 0 0 0).toArray 57)) x m codes (.func f1 a1 c1) (.func f2 a2 c2) q (w2.heap.size + 1) g g2 w2.heap.size) := by
    refine ⟨by rw [← sz3]; exact l4, ⟨cs, ?_, hh⟩, ⟨vs, ?_, hh2⟩, (b4.block _ (by omega)).trans l3, ?_, by omega, by omega, by omega, by omega⟩
    · exact hr.below ((b2.trans (b3.mono s2)).trans (b4.mono (by omega))) hr.lt
    · exact hr2.below (b3.trans (b4.mono (by omega))) hr2.lt
    · exact HS.out.2.1.trans ((b1.mono (by omega)).trans ((b2.mono (by omega)).trans ((b3.mono (by omega)).trans (b4.mono (by omega)))))
  simp only [seaC] at HE
  clear b1 b2 b3 b4 l3 l4 hr hr2 hh hh2 hW3 sz3
  go_ret2
  exact ⟨_, _, _, _, rfl, HE.out⟩
end Go.Proofs.YtdgiigaeclnflaaDoor
