/-
  DERIVED. What a builder holds, as a text.
-/
import Derived.Test.YtjdknijjkjmafaaWBuild
import Derived.Deep.RegionHeld
import Derived.Shelf.RegionOpenPlain
import Derived.Shelf.RegionOpen
import Derived.Lib.UnsafeStr
set_option linter.unusedVariables false
set_option linter.unusedSimpArgs false
namespace Go.Proofs.Ytjdknijjkjmafaa
open Go.RowKit
theorem stay_freeze {F : Nat → Prop} {a w : World} (h : Stay F a w) {p : Addr} (hp : F p.block) (n : Nat) : Stay F a (w.freeze p n) := by
  refine h.trans ?_
  unfold World.freeze
  split
  · exact Stay.refl F w
  · exact ⟨rfl, rfl, rfl, by simp, fun k hk hF => by
      simp only [Array.getElem?_modify]
      rw [if_neg (fun e : p.block = k => hF (e ▸ hp))]⟩
set_option maxHeartbeats 1000000 in
set_option maxRecDepth 100000 in
theorem string_any {b : Nat} {p v : Value} {l : List UInt8} (w : World) (h : Bd w b p v l) (h0 : l ≠ []) :
    Calls Try.prog 40 #[Pt b] w fun r w' => r = .returned (.string ⟨l.toArray⟩) ∧ Stay (fun k => v.ownBlock = some k) w w' := by
  have hl0 : 0 < l.length := List.length_pos_iff.2 h0
  obtain ⟨g, cap, cur, rfl, hbg, hg, hnc, hcm, hcs, htake⟩ : ∃ g cap cur, v = .slice (some ⟨g, 0, none⟩) l.length cap ∧ 0 ≤ g ∧ w.heap[g]? = some (.cells cur 5 (0, 0)) ∧ l.length ≤ cap ∧ cap ≤ maxLen ∧ cur.size = cap * 1 ∧ cur.toList.take (l.length * 1) = l.map BV := by
    rcases h.row.2 with ⟨_, hz⟩ | ⟨g, cap, cur, hv, r⟩
    · omega
    · exact ⟨g, cap, cur, hv, r⟩
  have hbk := h.cells
  have c1 : w.drew.cell? ⟨b, 1, none⟩ = some (.slice (some ⟨g, 0, none⟩) l.length cap) := by
    have : w.drew.heap[b]? = some (.cells #[p, .slice (some ⟨g, 0, none⟩) l.length cap] 94 (0, 0)) := hbk
    rw [Lib.cell_of_heap this]; rfl
  have hSD : (Builtin.unsafeSliceData_ #[54] 113 #[.slice (some ⟨g, 0, none⟩) l.length cap]).run Try.prog w.drew = .ok (.pointer (some ⟨g, 0, none⟩)) w.drew :=
    Lib.run_unsafeSliceData_row _ _ _ _ _ _ (by omega)
  have hUS : (Builtin.unsafeString_ #[113, 3] 9 #[.pointer (some ⟨g, 0, none⟩), .int .i64 l.length]).run Try.prog w.drew = .ok (.string ⟨l.toArray⟩) (w.drew.freeze ⟨g, 0, none⟩ l.length) := by
    refine Lib.run_unsafeString_row w.drew 113 3 9 5 Try.underlying113 (by kernel_rfl) g cur.size (by have hg' : w.drew.heap[g]? = some (.cells cur 5 (0, 0)) := hg; simp [World.shape?, hg']) l h0 (by omega) (by unfold maxLen at hcm; omega) ?_
    intro j x hx
    exact h.row.cells (g := g) rfl j (.int .u8 x.toNat) (by simp [BV, hx])
  have HS := Hid.mk (stay_freeze (F := fun k => Value.ownBlock (.slice (some ⟨g, 0, none⟩) l.length cap) = some k) (Stay.drew (Stay.refl _ w)) (p := ⟨g, 0, none⟩) rfl l.length)
  have mixed : Try.prog.follows .mixedOrders = true := by kernel_rfl
  clear h hbk
  go_enter Try.func40, Try.ntmps40
  go_wp2
  go_region_o
  all_goals (go_wp2; go_ret; exact ⟨rfl, HS.out⟩)
end Go.Proofs.Ytjdknijjkjmafaa
