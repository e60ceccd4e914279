/-
  DERIVED. The tree's little questions: New, Len, Depth, Nodes, Looked, takes.
-/
import Derived.Test.YtnnbcdfpbdmgdaaDoorTReach
set_option linter.unusedVariables false
set_option linter.unusedSimpArgs false
namespace Go.Proofs.YtnnbcdfpbdmgdaaDoor
open Go.RowKit Go.Maps Go.Proofs.BitMath Go.Proofs.TreeMath
set_option maxRecDepth 100000 in
theorem len_any {n t wd : Nat} {T : List (Nd (Cd n))} {bs : List Nat} {ms : List (Option Nat)} {x : Num} (W : World) (h : TR W t wd T bs ms x) :
    Calls Tryd.prog 18 #[.pointer (some ⟨t, 0, none⟩)] W (fun r w' => r = .returned (.int .i64 x.live) ∧ w' = W) := by
  obtain ⟨t0, t1, t2, t3, t4, t5⟩ := h.cell
  clear h
  go_enter Tryd.func18, Tryd.ntmps18
  go_wp2
  go_ret
  exact ⟨rfl, rfl⟩
set_option maxRecDepth 100000 in
theorem depth_any {n t wd : Nat} {T : List (Nd (Cd n))} {bs : List Nat} {ms : List (Option Nat)} {x : Num} (W : World) (h : TR W t wd T bs ms x) :
    Calls Tryd.prog 13 #[.pointer (some ⟨t, 0, none⟩)] W (fun r w' => r = .returned (.int .i64 x.dep) ∧ w' = W) := by
  obtain ⟨t0, t1, t2, t3, t4, t5⟩ := h.cell
  clear h
  go_enter Tryd.func13, Tryd.ntmps13
  go_wp2
  go_ret
  exact ⟨rfl, rfl⟩
set_option maxRecDepth 100000 in
theorem looked_any {n t wd : Nat} {T : List (Nd (Cd n))} {bs : List Nat} {ms : List (Option Nat)} {x : Num} (W : World) (h : TR W t wd T bs ms x) :
    Calls Tryd.prog 19 #[.pointer (some ⟨t, 0, none⟩)] W (fun r w' => r = .returned (.int .i64 x.looked) ∧ w' = W) := by
  obtain ⟨t0, t1, t2, t3, t4, t5⟩ := h.cell
  clear h
  go_enter Tryd.func19, Tryd.ntmps19
  go_wp2
  go_ret
  exact ⟨rfl, rfl⟩
set_option maxRecDepth 100000 in
theorem nodes_any {n t wd : Nat} {T : List (Nd (Cd n))} {bs : List Nat} {ms : List (Option Nat)} {x : Num} (W : World) (h : TR W t wd T bs ms x) :
    Calls Tryd.prog 21 #[.pointer (some ⟨t, 0, none⟩)] W (fun r w' => r = .returned (.int .i64 (T.length : Nat)) ∧ Below W.heap.size W w') := by
  obtain ⟨t0, t1, t2, t3, t4, t5⟩ := h.cell
  have hal := h.all
  have hsm := h.small
  have HA : Hid ((x.live : Int) + (x.dead : Int) = (T.length : Int)) := by show _ = _; omega
  have h1 : x.live ≤ 1099511627776 := by omega
  have h2 : x.dead ≤ 1099511627776 := by omega
  clear h hal hsm
  go_enter Tryd.func21, Tryd.ntmps21
  go_wp2
  all_goals try go_region
  all_goals try go_wp2
  all_goals
    go_ret
    exact ⟨ret_int HA.out, by first | exact Below.refl _ _ | exact (Below.refl _ _).drew⟩
/-- Is it a code of the tree's length? -/
theorem chk_n {wd n : Nat} (hw : isW wd = true) (h8 : wd = 8 * n) (s : ByteArray) : (chk wd s.size = 0) ↔ s.size = n := by
  unfold chk
  rw [if_pos hw]
  have e1 : ((wd : Nat) : Int) / 8 = n := by omega
  rw [e1]
  by_cases h : s.size = n
  · simp [h]
  · have : ¬ ((s.size : Int) = n) := by omega
    simp [h, this]
set_option maxRecDepth 100000 in
theorem takes_any {n t wd : Nat} {T : List (Nd (Cd n))} {bs : List Nat} {ms : List (Option Nat)} {x : Num} (s : ByteArray) (W : World) (h : TR W t wd T bs ms x) :
    Calls Tryd.prog 33 #[.pointer (some ⟨t, 0, none⟩), .string s] W (fun r w' => r = .returned (.bool (decide (s.size = n))) ∧ w' = W) := by
  obtain ⟨t0, t1, t2, t3, t4, t5⟩ := h.cell
  have hk := chk_n h.wid h.eight s
  have hc := bcheck_any wd s W
  clear h
  by_cases hs : s.size = n
  · have e1 := hk.2 hs
    have HD : Hid (decide (s.size = n) = true) := decide_eq_true hs
    rw [e1] at hc
    clear hk hs e1
    go_enter Tryd.func33, Tryd.ntmps33
    go_wp2_with (go_at_call 32; refine hc.mono ?_; rintro r w' ⟨rfl, rfl⟩)
    go_ret
    exact ⟨ret_bool HD.out.symm, rfl⟩
  · have e1 : ¬ chk wd s.size = 0 := fun e => hs (hk.1 e)
    have HD : Hid (decide (s.size = n) = false) := decide_eq_false hs
    generalize chk wd s.size = E at *
    have g1 : (E == 0) = false := by simpa using e1
    clear hk hs e1
    go_enter Tryd.func33, Tryd.ntmps33
    go_wp2_with (go_at_call 32; refine hc.mono ?_; rintro r w' ⟨rfl, rfl⟩)
    go_ret
    exact ⟨ret_bool HD.out.symm, rfl⟩
/-- A new tree. -/
theorem new_tr (W : World) (wd n : Nat) (hw : isW wd = true) (h8 : wd = 8 * n) :
    TR (n := n) (W.alloc (.cells #[.int .i64 wd, .pointer none, .int .i64 0, .int .i64 0, .int .i64 0, .int .i64 0] 64)) W.heap.size wd [] [] [] ⟨0, 0, 0, 0⟩ :=
  { wid := hw, eight := h8, wf := WF.nil _, lb := rfl, lm := rfl
    tree := heap_alloc_new W _
    node := fun j b nd m h1 => by simp at h1
    kids := fun j mb h1 => by simp at h1
    bare := fun j h1 => by simp at h1
    nodup := List.nodup_nil
    msep := fun i j a h1 => by simp at h1
    live := rfl, all := rfl, small := Nat.zero_le _, dep := fun j hj => by simp at hj
    depT := Nat.le_refl _, depE := .inl rfl, lk := by decide }
set_option maxRecDepth 100000 in
theorem new_yes (wd n : Nat) (W : World) (hw : isW wd = true) (h8 : wd = 8 * n) :
    Calls Tryd.prog 10 #[.int .i64 wd] W (fun r w' => r = .returned (.pointer (some ⟨W.heap.size, 0, none⟩)) ∧ TR (n := n) w' W.heap.size wd [] [] [] ⟨0, 0, 0, 0⟩ ∧ Below W.heap.size W w') := by
  have hT := new_tr W wd n hw h8
  have hb : Below W.heap.size W (W.alloc (.cells #[.int .i64 wd, .pointer none, .int .i64 0, .int .i64 0, .int .i64 0, .int .i64 0] 64)) := (Below.refl _ W).alloc (Nat.le_refl _) _
  have hc := bcheck_any wd ⟨#[]⟩ W
  have e1 : chk wd (⟨#[]⟩ : ByteArray).size = 11 := by
    unfold chk
    have hbd := isW_bd hw
    rw [if_pos hw, if_neg]
    show ¬ ((0 : Nat) : Int) = (wd : Int) / 8
    omega
  rw [e1] at hc
  have HT := Hid.mk (And.intro hT hb)
  clear hT hb e1 hw h8
  go_enter Tryd.func10, Tryd.ntmps10
  go_wp2_with (go_at_call 32; refine hc.mono ?_; rintro r w' ⟨rfl, rfl⟩)
  go_ret
  exact ⟨rfl, HT.out⟩
set_option maxRecDepth 100000 in
theorem new_no (x : Int) (W : World) (hw : isW x = false) :
    Calls Tryd.prog 10 #[.int .i64 x] W (fun r w' => r = .returned (.pointer none) ∧ w' = W) := by
  have hc := bcheck_any x ⟨#[]⟩ W
  have e1 : chk x (⟨#[]⟩ : ByteArray).size = 10 := by unfold chk; rw [if_neg (by rw [hw]; simp)]
  rw [e1] at hc
  clear e1 hw
  go_enter Tryd.func10, Tryd.ntmps10
  go_wp2_with (go_at_call 32; refine hc.mono ?_; rintro r w' ⟨rfl, rfl⟩)
  go_ret
  exact ⟨rfl, rfl⟩
end Go.Proofs.YtnnbcdfpbdmgdaaDoor
