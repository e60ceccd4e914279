/-
  DERIVED. The iterator places: its maker, its contract.
-/
import Derived.Test.YtnmhpbgiljchkaaGreatDoorBit
import Derived.RangeFuncNested
import Derived.RangeFuncBound
import Derived.RangeFuncCalls
import Derived.RangeFuncLeaves
import Derived.Shelf.Abstract
import Derived.Shelf.RegionOpen
import Derived.OwnWalkIn
import Derived.TacticsInMore
import Derived.LoopNIn
import Derived.LoopIn
namespace Go.Proofs.YtnmhpbgiljchkaaGreatDoor
open Go.RowKit Go.Shelf Go.Proofs.BitMath
attribute [local go_sem] Oper.semAt_some
/-- A place of a bit, of which p is known. -/
abbrev Pos (p : Nat → Prop) := { j : Nat // p j }
/-- What places hands on for it. -/
def encP {p : Nat → Prop} (x : Pos p) : Array Value := #[.int .i64 (x.1 / 8 : Nat), .int .u8 (mkN x.1)]
/-- The places by themselves. -/
def vals {p : Nat → Prop} (l : List (Pos p)) : List Nat := l.map (·.1)
theorem vals_snoc {p : Nat → Prop} (l : List (Pos p)) (x : Pos p) : vals (l ++ [x]) = vals l ++ [x.1] := by simp [vals]
theorem vals_length {p : Nat → Prop} (l : List (Pos p)) : (vals l).length = l.length := by simp [vals]
/-- One block lies as it lay. -/
def KeepB (b : Nat) (W W' : World) : Prop := W'.heap[b]? = W.heap[b]?
theorem KeepB.cell {b : Nat} {W W' : World} (h : KeepB b W W') (o : Nat) : W'.cell? ⟨b, o, none⟩ = W.cell? ⟨b, o, none⟩ := World.cell?_of_block h
theorem keepB_t {b : Nat} {A B C : World} (h : KeepB b A B) (k : KeepB b B C) : KeepB b A C := Eq.trans k h
theorem keepB_b {b : Nat} {w : World} (hb : b < w.heap.size) (W : World) (l : Nat) (o o' : Obj) (hl : w.heap.size ≤ l) (_ : W.heap[l]? = some o) (_ : o.isCells = false) (_ : o.isWalk = false) : KeepB b W (W.putObj l o') :=
  World.putObj_heap_other (by omega)
theorem grown_drew {w w' : World} (h : Drew w w') : w.grownBy w' none := by
  have hb := h.below w.heap.size
  exact ⟨hb.os, hb.tape, hb.output, hb.size, fun k hk _ => hb.block k hk⟩
set_option maxRecDepth 100000 in
set_option maxHeartbeats 1000000 in
theorem places_stops (p : Nat → Prop) (fr cnt bF bN n : Nat) (w : World) (hF : w.cell? ⟨bF, 0, none⟩ = some (.int .i64 fr)) (hN : w.cell? ⟨bN, 0, none⟩ = some (.int .i64 cnt))
    (hbd : fr + cnt ≤ 9000000000000000) (hp : ∀ i, i < cnt → p (fr + i)) :
    SeqStopsK Fence.wide n Tryz.prog 107 #[.pointer (some ⟨bN, 0, none⟩), .pointer (some ⟨bF, 0, none⟩)] (encP (p := p)) (KeepB bF) (fun xs => vals xs = (List.range cnt).map (fr + ·)) (fun _ => True) cnt w := fun l J Jx W hW hJ _ hY h0 => by
  have hF' : W.cell? ⟨bF, 0, none⟩ = some (.int .i64 fr) := (hW.cell (World.block_lt_of_cell? w _ hF)).trans hF
  have hN' : W.cell? ⟨bN, 0, none⟩ = some (.int .i64 cnt) := (hW.cell (World.block_lt_of_cell? w _ hN)).trans hN
  refine callsIn_of_wp Tryz.func107 rfl trivial ?_ rfl
  simp only [Tryz.ntmps107, List.size_toArray, List.length_cons, List.length_nil, Nat.reduceAdd, Nat.reduceSub, Array.replicate_succ, Array.replicate_zero, List.push_toArray, List.append_toArray, List.nil_append, List.cons_append]
  gi_wp2
  gi_loopw [6] (fun i wr => ∃ (k : Nat) (pre : List (Pos p)), k ≤ cnt ∧ i = .int .i64 k ∧ vals pre = (List.range k).map (fr + ·) ∧ J pre wr ∧ wr.cell? ⟨bF, 0, none⟩ = some (.int .i64 fr)) (fun i _ => cnt - (intOf i).toNat)
  case atStart => exact ⟨0, [], Nat.zero_le _, rfl, rfl, h0, hF'⟩
  case round =>
    obtain ⟨k, pre, hk, rfl, hpre, hJk, hc⟩ := hrel
    have HP : Hid _ := hpre
    have hlen : pre.length = k := by have := congrArg List.length hpre; rw [vals_length] at this; simpa using this
    clear hpre hF' hN'
    by_cases hlt : k < cnt
    · have hl : pre.length < cnt := by rw [hlen]; exact hlt
      clear hlen
      gi_wp2_with fail
      refine ⟨trivial, fun h => (by cases h), ?_⟩
      rw [show ((fr : Int) + (k : Int)) = ((fr + k : Nat) : Int) from by omega]
      refine (callsIn_wide.2 (place_any (fr + k) wr (by omega))).mono ?_
      rintro e w1 ⟨rfl, hd⟩
      have hJ1 := hJ pre wr w1 none hJk (grown_drew hd) (fun r e => by cases e)
      have hc1 : w1.cell? ⟨bF, 0, none⟩ = some (.int .i64 fr) := ((hd.below (bF + 1)).cell (p := ⟨bF, 0, none⟩) (by simp)).trans hc
      obtain ⟨fn, tmps, assign, body, hy, hR⟩ := hY pre ⟨fr + k, hp k hlt⟩ w1 hJ1 hl
      dsimp only [encP] at hy
      rw [show (((fr + k) / 8 : Nat) : Int) = ((fr : Int) + (k : Int)) / 8 from by omega] at hy
      clear hc hJk
      gi_wp2
      refine ⟨fun h => (by cases h), hR.mono ?_⟩
      rintro e W3 (⟨rfl, hJ3, hk3⟩ | ⟨rfl, hJx3⟩)
      · have hc3 := (hk3.cell 0).trans hc1
        gi_wp2
        go_roundw
        case rel => exact ⟨k + 1, pre ++ [⟨fr + k, hp k hlt⟩], hlt, by go_num, by rw [vals_snoc, HP.out, List.range_succ, List.map_append]; rfl, hJ3, hc3⟩
        case measure => simp [intOf]; omega
      · gi_wp2
        refine bodyPost_ret (results_none rfl _ _ _) rfl ?_
        exact ⟨⟨_, rfl⟩, .inr ⟨_, trivial, hJx3⟩⟩
    · have e : k = cnt := by omega
      have H2 : Hid (vals pre = (List.range cnt).map (fr + ·)) := by rw [← e]; exact HP.out
      clear e HP
      gi_wp2
      go_end0
      exact ⟨⟨_, rfl⟩, .inl ⟨pre, H2.out, hJk⟩⟩
set_option maxHeartbeats 400000 in
theorem places_any (fr cnt : Nat) (w : World) :
    Calls Tryz.prog 97 #[.int .i64 fr, .int .i64 cnt] w fun e w' => e = .returned (.func (.func 107) #[] #[.pointer (some ⟨w.heap.size + 1, 0, none⟩), .pointer (some ⟨w.heap.size, 0, none⟩)]) ∧ w' = (w.alloc (.cells #[.int .i64 fr] 3)).alloc (.cells #[.int .i64 cnt] 3) := by
  go_enter Tryz.func97, Tryz.ntmps97
  go_wp2
  go_ret
  exact ⟨rfl, rfl⟩
end Go.Proofs.YtnmhpbgiljchkaaGreatDoor
