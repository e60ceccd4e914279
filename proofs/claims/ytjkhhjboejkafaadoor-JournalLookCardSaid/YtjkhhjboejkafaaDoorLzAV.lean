/-
  DERIVED. RDk5, RDk6, RDk7, as one text.
-/
import Derived.Test.YtjkhhjboejkafaaDoorLzAU
import Derived.BigQuiet
set_option linter.unusedVariables false
set_option linter.unusedSimpArgs false
namespace Go.Proofs.YtjkhhjboejkafaaDoor.Dk
open Go.RowKit Go.Maps Go.Proofs.DiskMath
theorem bl_self : ∀ l : List UInt8, Op.bytesLess l l = false
  | [] => by unfold Op.bytesLess; rfl
  | x :: l => by unfold Op.bytesLess; simp [bl_self l]
set_option maxHeartbeats 4000000 in
set_option maxRecDepth 100000 in
theorem rwith_one (fn fd gd : ByteArray) (fu gu : Int) (g c : Nat) (w : World) (z0 : w.cell? ⟨g, 0, none⟩ = some (.string fn)) (z1 : w.cell? ⟨g, 1, none⟩ = some (.string gd)) (z2 : w.cell? ⟨g, 2, none⟩ = some (.int .i64 gu)) :
    Calls Tryd.prog 23 #[.slice (some ⟨g, 0, none⟩) 1 c, .agg #[.string fn, .string fd, .int .i64 fu]] w fun e w' => ∃ a c', e = .returned (.slice a 1 c') ∧ w'.ownsRow 0 61 3 (.slice a 1 c') 1 ([(⟨fn, fd, fu⟩ : Fi)].flatMap fiC) ∧ (∀ k, (Value.slice a 1 c').ownBlock = some k → w.heap.size ≤ k) ∧ Below w.heap.size w w' := by
  have hls : Op.bytesLess fn.toList fn.toList = false := by
    exact bl_self _
  have heq : (fn.toList == fn.toList) = true := by simp
  go_enter Tryd.func23, Tryd.ntmps23
  go_wp2
  go_loopw [5, 6, 7] (fun u5 u6 u7 wr => (u5 = .slice none 0 0 ∧ u6 = .bool false ∧ u7 = .int .i64 0 ∧ wr = w.alloc (.cells #[.string fn, .string fd, .int .i64 fu] 61)) ∨ (u6 = .bool true ∧ u7 = .int .i64 1 ∧ ∃ a c', u5 = .slice a 1 c' ∧ Hid (wr.ownsRow 0 61 3 (.slice a 1 c') 1 ([(⟨fn, fd, fu⟩ : Fi)].flatMap fiC) ∧ (∀ k, (Value.slice a 1 c').ownBlock = some k → w.heap.size ≤ k) ∧ Below w.heap.size w wr))) (fun _ _ u _ => 1 - (intOf u).toNat)
  case atStart => exact .inl ⟨rfl, rfl, rfl, rfl⟩
  case round =>
    rcases hrel with ⟨rfl, rfl, rfl, rfl⟩ | ⟨rfl, rfl, a, c', rfl, HF⟩
    · have bW : Below w.heap.size w (w.alloc (.cells #[.string fn, .string fd, .int .i64 fu] 61)) := (Below.refl _ w).alloc (Nat.le_refl _) _
      have x0 : (w.alloc (.cells #[.string fn, .string fd, .int .i64 fu] 61)).cell? ⟨g, 0, none⟩ = some (.string fn) := cell_lat bW z0
      have x1 : (w.alloc (.cells #[.string fn, .string fd, .int .i64 fu] 61)).cell? ⟨g, 1, none⟩ = some (.string gd) := cell_lat bW z1
      have x2 : (w.alloc (.cells #[.string fn, .string fd, .int .i64 fu] 61)).cell? ⟨g, 2, none⟩ = some (.int .i64 gu) := cell_lat bW z2
      have hB := heap_alloc_last w (.cells #[.string fn, .string fd, .int .i64 fu] 61)
      have b0 : (w.alloc (.cells #[.string fn, .string fd, .int .i64 fu] 61)).cell? ⟨w.heap.size, 0, none⟩ = some (.string fn) := by rw [cell_of_row _ _ 0 _ _ (0, 0) hB]; rfl
      have b1 : (w.alloc (.cells #[.string fn, .string fd, .int .i64 fu] 61)).cell? ⟨w.heap.size, 1, none⟩ = some (.string fd) := by rw [cell_of_row _ _ 1 _ _ (0, 0) hB]; rfl
      have b2 : (w.alloc (.cells #[.string fn, .string fd, .int .i64 fu] 61)).cell? ⟨w.heap.size, 2, none⟩ = some (.int .i64 fu) := by rw [cell_of_row _ _ 2 _ _ (0, 0) hB]; rfl
      obtain ⟨V, hV⟩ : ∃ V, V = w.alloc (.cells #[.string fn, .string fd, .int .i64 fu] 61) := ⟨_, rfl⟩
      have hs : V.heap.size = w.heap.size + 1 := by rw [hV]; simp
      rw [← hV] at x0 x1 x2 b0 b1 b2 bW ⊢
      obtain ⟨v', V5, hap, ho5, st5, loc5⟩ := fi_app V.drew [] (.slice none 0 0) ⟨rfl, .inl ⟨rfl, rfl⟩⟩ ⟨fn, fd, fu⟩ (by simp)
      obtain ⟨a, c', rfl, -⟩ := slice_form ho5
      have hap' : (Builtin.append_ #[45, 45] 45 #[.slice none 0 0, .slice (some ⟨V.heap.size, 0, none⟩) 1 1]).run Tryd.prog (V.alloc (.cells #[.string fn, .string fd, .int .i64 fu] 61)).drew = .ok (.slice a 1 c') V5 := hap
      have sV : Stay (fun _ => False) V V5 := ⟨st5.os, st5.tape, st5.output, st5.size, fun k hk _ => st5.block k hk (fun e => by simp [Value.ownBlock] at e)⟩
      have bV : Below V.heap.size V V5 := sV.toBelow (fun _ _ e => e) (Nat.le_refl _)
      have q0 : V5.cell? ⟨g, 0, none⟩ = some (.string fn) := cell_lat bV x0
      have q1 : V5.cell? ⟨w.heap.size, 0, none⟩ = some (.string fn) := cell_lat bV b0
      have hl5 : ∀ k, (Value.slice a 1 c').ownBlock = some k → w.heap.size ≤ k := fun k hk => by
        rcases loc5 k hk with e | e
        · simp [Value.ownBlock] at e
        · have e' : V.heap.size ≤ k := e
          omega
      have HV := Hid.mk (And.intro hV (And.intro hs (And.intro ho5 (And.intro hl5 (chain bW bV (by omega))))))
      clear z0 z1 z2 hB hV hs hap ho5 st5 loc5 sV bV hl5 bW
      go_wp2_with fail
      go_region
      all_goals go_wp2_with (first | (at_builtin; refine wpList_append_eq rfl _ _ _ _ rfl _ _ _ _ rfl rfl hap' ?_) | go_in)
      all_goals go_region
      all_goals go_wp2_with fail
      exact ⟨.inr ⟨rfl, rfl, a, c', rfl, row_kept (F := fun _ => False) HV.out.2.2.1 (.below (b_drew V5)) (fun _ _ h => h), HV.out.2.2.2.1, chain HV.out.2.2.2.2 (b_drew V5) (Nat.le_refl _)⟩, by simp only [intOf]; decide⟩
    · go_wp2
      go_ret
      exact ⟨a, c', rfl, HF.out⟩
end Go.Proofs.YtjkhhjboejkafaaDoor.Dk
set_option linter.unusedVariables false
set_option linter.unusedSimpArgs false
namespace Go.Proofs.YtjkhhjboejkafaaDoor.Dk
open Go.RowKit Go.Maps Go.Proofs.DiskMath
set_option maxHeartbeats 4000000 in
set_option maxRecDepth 100000 in
theorem rcreate0 {d : Nat} {cap cuts cnt : Int} {dn : Bool} (s : ByteArray) (w : World) (h : RD4 w d [] (.slice none 0 0) cap false 0 dn cuts cnt) (hn : isNm s.data.toList = true) (hc : 0 ≤ cnt ∧ cnt ≤ 1152921504606846976) :
    Calls Tryd.prog 8 #[Pt d, .string s] w fun e w' => e = .returned (.int .i64 0) ∧ (∃ a c, RD4 w' d [⟨s, ⟨#[]⟩, 0⟩] (.slice a 1 c) cap false 0 dn cuts (cnt + 1) ∧ ∀ k, (Value.slice a 1 c).ownBlock = some k → w.heap.size ≤ k) ∧ Stay (fun k => k = d) w w' := by
  have h1 := rlook_any s w h (by simp)
  have e1 : lkD false s [] = (0, 42) := by unfold lkD; rw [if_neg (by simp), if_pos hn, if_pos (by unfold fdI; omega)]
  rw [e1] at h1
  have h2 := rwith_nil ⟨s, ⟨#[]⟩, 0⟩ w
  obtain ⟨y0, y1, -, -, -, -, -⟩ := h.cell
  have hz : d < w.heap.size := World.block_lt_of_cell? w _ y0
  have HH := Hid.mk (And.intro h hc)
  simp only [fiV] at h2
  clear h hn hc e1 y0
  go_enter Tryd.func8, Tryd.ntmps8
  go_wp2_with fail
  refine h1.mono ?_
  clear h1
  rintro r w1 ⟨rfl, rfl⟩
  go_wp2_with fail
  refine h2.mono ?_
  clear h2
  rintro r w2 ⟨a, c, rfl, k1, k2, b2⟩
  have hD : RD4 w2 d [] (.slice none 0 0) cap false 0 dn cuts cnt := ⟨(b2.block d hz).trans HH.out.1.box, ⟨rfl, .inl ⟨rfl, rfl⟩⟩⟩
  have h3 := rstep0 (fs' := [⟨s, ⟨#[]⟩, 0⟩]) (a := a) (c := c) w2 hD HH.out.2 k1
  simp only [List.length_singleton] at h3
  have HF := Hid.mk (And.intro k2 b2)
  clear k1 k2 b2 hD
  go_wp2_with fail
  refine h3.mono ?_
  clear h3
  rintro r w3 ⟨rfl, hR, st⟩
  have HG := Hid.mk (And.intro hR st)
  clear hR st
  go_wp2
  go_ret
  exact ⟨rfl, ⟨a, c, HG.out.1, HF.out.1⟩, (Stay.below (F := fun k => k = d) HF.out.2).trans HG.out.2⟩
end Go.Proofs.YtjkhhjboejkafaaDoor.Dk
set_option linter.unusedVariables false
set_option linter.unusedSimpArgs false
namespace Go.Proofs.YtjkhhjboejkafaaDoor.Dk
open Go.RowKit Go.Maps Go.Proofs.DiskMath
theorem wrapZ (n : Nat) (h : n ≤ 1152921504606846976) : wrap64 (0 + (n : Int)) = (n : Int) := by unfold wrap64; omega
set_option maxHeartbeats 4000000 in
set_option maxRecDepth 100000 in
theorem rused1 {d : Nat} {f : Fi} {fv : Value} {cap left cuts cnt : Int} {off dn : Bool} (w : World) (h : RD4 w d [f] fv cap off left dn cuts cnt) (hs : f.d.size ≤ 1152921504606846976) :
    Calls Tryd.prog 24 #[Pt d] w fun e w' => e = .returned (.int .i64 (f.d.size : Nat)) ∧ w' = w := by
  obtain ⟨y0, y1, -, -, -, -, -⟩ := h.cell
  obtain ⟨g, c, rfl, z0, z1, z2⟩ := h.file 0 (by simp)
  simp only [List.getElem_cons_zero, Nat.zero_mul, Nat.zero_add, List.length_singleton] at z0 z1 z2 y1
  have hw := wrapZ f.d.size hs
  have hz : d < w.heap.size := World.block_lt_of_cell? w _ y0
  generalize f.d = D at z1 hw hs ⊢
  have hw2 : wrap64 ((D.size : Int)) = (D.size : Int) := by
    have := wrapZ D.size hs
    rw [Int.zero_add] at this
    exact this
  clear h y0 z0 z2 hs
  go_enter Tryd.func24, Tryd.ntmps24
  go_wp2
  go_loopw [3, 4] (fun u3 u4 wr => ((u3 = .int .i64 0 ∧ u4 = .int .i64 0) ∨ (u3 = .int .i64 (D.size : Nat) ∧ u4 = .int .i64 1)) ∧ wr = w) (fun _ u _ => 1 - (intOf u).toNat)
  case atStart => exact ⟨.inl ⟨rfl, rfl⟩, rfl⟩
  case round =>
    obtain ⟨⟨rfl, rfl⟩ | ⟨rfl, rfl⟩, rfl⟩ := hrel
    · go_wp2
      try rw [hw2]
      exact ⟨⟨.inr ⟨rfl, rfl⟩, trivial⟩, by simp only [intOf]; decide⟩
    · go_wp2
      go_ret
      exact ⟨rfl, rfl⟩
end Go.Proofs.YtjkhhjboejkafaaDoor.Dk
