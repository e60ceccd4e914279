/-
  DERIVED. slices.DeleteFunc at groups, by the least number.
-/
import Derived.Test.YtmhifofeobhhgaaUGrp
import Derived.Lib.SliceRun
set_option linter.unusedVariables false
set_option linter.unusedSimpArgs false
namespace Go.Proofs.Ytmhifofeobhhgaa
open Go.RowKit Go.Proofs.UnionMath
theorem zero_group (w : World) : (zeroValue 53).run Try.prog w = .ok (.agg #[.slice none 0 0]) w := by kernel_rfl
theorem clear_groups (w : World) (ty : TypeId) (b o n c : Nat) (hn : 0 < n) (hc : ∀ j, j < n → (w.cell? ⟨b, o + j, none⟩).isSome = true) (hf : ∀ j, j < n → w.frozen? ⟨b, o + j, none⟩ = false) :
    (Builtin.clear_ #[33] ty #[.slice (some ⟨b, o, none⟩) n c]).run Try.prog w = .ok (.tuple #[]) (w.setCells b o (List.replicate n (.slice none 0 0))) := by
  have h0 : (Builtin.zeroCells (Value.agg #[.slice none 0 0]).cells n).toList = List.replicate n (.slice none 0 0) := by
    apply List.ext_getElem
    · simp [Builtin.zeroCells, Value.cells]
    · intro i h1 h2
      simp [Builtin.zeroCells, Value.cells, Nat.mod_one]
  have hst := run_storeCells_cells (P := Try.prog) b o (List.replicate n (.slice none 0 0)) 0 w (by simpa using hc) (by simpa using hf) (by intro v hv'; rw [List.eq_of_mem_replicate hv']; rfl)
  simp only [Nat.add_zero] at hst
  have hz := zero_group
  obtain ⟨m, rfl⟩ : ∃ m, n = m + 1 := ⟨n - 1, by omega⟩
  simp [Builtin.clear_, run_underlying Try.underlying33, hz, h0, hst]
/-- Does a group stay? -/
def kp (least : Int) (s : Sl) : Bool := !decide ((s.2.1 : Int) < least)
set_option maxHeartbeats 2000000 in
theorem small_any (least : Int) (s : Sl) (lb : Nat) (w : World) (h : w.cell? ⟨lb, 0, none⟩ = some (.int .i64 least)) :
    Calls Try.prog 18 #[.agg #[sV s], Pt lb] w fun e w' => e = .returned (.bool (!kp least s)) ∧ Below w.heap.size w w' := by
  obtain ⟨a, l, c⟩ := s
  have bA : Below w.heap.size w (w.alloc (.cells #[.slice a l c] 53)) := (Below.refl _ w).alloc (Nat.le_refl _) _
  have h' := cell_lat bA h
  have HB := Hid.mk bA
  have hlt := World.block_lt_of_cell? _ _ h
  simp only at hlt
  unfold kp
  simp only [Bool.not_not, sV]
  clear bA
  go_enter Try.func18, Try.ntmps18
  go_wp2
  go_ret
  exact ⟨rfl, HB.out⟩
/-- What IndexFunc comes to. -/
def IxO (w : World) (least : Int) (ss : List Sl) (e : Ending) (w' : World) : Prop := ∃ r : Int, e = .returned (.int .i64 r) ∧ ((r = -1 ∧ ∀ s ∈ ss, kp least s = true) ∨ ∃ (j : Nat) (h : j < ss.length), r = (j : Int) ∧ kp least ss[j] = false ∧ ∀ s ∈ ss.take j, kp least s = true) ∧ Below w.heap.size w w'
abbrev delF (lb : Nat) : Value := .func (.func 18) #[] #[Pt lb]
theorem g_cell {w : World} {g n c : Nat} {X : List Sl} (h : gE.Row w (.slice (some ⟨g, 0, none⟩) n c) X) (j : Nat) (hj : j < X.length) : w.cell? ⟨g, j, none⟩ = some (sV X[j]) ∧ w.frozen? ⟨g, j, none⟩ = false := by
  obtain ⟨g', cap', e', hc, hf⟩ := El.cells gOk h j hj
  injection e' with e1 e2 e3
  injection e1 with e1
  injection e1 with e1
  subst e1
  have := hc 0 (sV X[j]) rfl
  exact ⟨by simpa [gE] using this, hf j⟩
theorem take_mem {ss : List Sl} {j : Nat} (hj : j < ss.length) {least : Int} (h : ∀ s ∈ ss.take j, kp least s = true) (k : kp least ss[j] = true) : ∀ s ∈ ss.take (j + 1), kp least s = true := fun s hs => by
  rw [List.take_succ_eq_append_getElem hj] at hs
  rcases List.mem_append.1 hs with q | q
  · exact h s q
  · rw [List.mem_singleton.1 q]; exact k
set_option maxHeartbeats 4000000 in
set_option maxRecDepth 100000 in
theorem index_any (least : Int) (lb : Nat) (v : Value) (ss : List Sl) (w : World) (hr : gE.Row w v ss) (h : w.cell? ⟨lb, 0, none⟩ = some (.int .i64 least)) (hf : ss.length ≤ 1048577) :
    Calls Try.prog 24 #[v, delF lb] w (IxO w least ss) := by
  obtain ⟨a, c, hv, -⟩ := hr.form
  obtain ⟨n, hn⟩ : ∃ n, ss.length = n := ⟨_, rfl⟩
  rw [hn] at hv hf
  subst hv
  have HR := Hid.mk (And.intro hr (And.intro hn h))
  clear hr hn h
  go_enter Try.func24, Try.ntmps24
  go_wp2
  go_loopw [8] (fun u wr => ∃ j : Nat, u = .int .i64 j ∧ j ≤ n ∧ Hid ((∀ s ∈ ss.take j, kp least s = true) ∧ Below w.heap.size w wr)) (fun u _ => n - (intOf u).toNat)
  case atStart => exact ⟨0, rfl, Nat.zero_le _, fun s hs => by simp at hs, Below.refl _ _⟩
  case round =>
    obtain ⟨j, rfl, hjn, HI⟩ := hrel
    by_cases hlt : j < n
    · have hlt' : (j : Int) < (n : Int) := by omega
      have hjl : j < ss.length := by rw [HR.out.2.1]; exact hlt
      obtain ⟨g, hg⟩ : ∃ g, a = some ⟨g, 0, none⟩ := by
        obtain ⟨g', cap', e', -⟩ := El.cells gOk HR.out.1 j hjl
        injection e' with e1; exact ⟨g', e1⟩
      subst hg
      have c0 := (g_cell (El.Row.below HR.out.1 (HI.out.2.mono (Nat.le_refl _))) j hjl).1
      have hS := small_any least ss[j] lb wr (cell_lat HI.out.2 HR.out.2.2)
      have wj : IntKind.i64.wrap ((j : Int) + 1) = ((j + 1 : Nat) : Int) := i64_in _ (by omega) (by omega)
      obtain ⟨x, hx⟩ : ∃ x, x = ss[j] := ⟨_, rfl⟩
      rw [← hx] at c0 hS
      obtain ⟨xa, xl, xc⟩ := x
      cases hk : kp least (xa, xl, xc) with
      | true =>
        rw [hk] at hS
        have HN : Hid (∀ s ∈ ss.take (j + 1), kp least s = true) := Hid.mk (take_mem hjl HI.out.1 (by rw [← hx]; exact hk))
        simp only [sV, Bool.not_true] at hS c0
        clear hk hx hlt hjl
        go_wp2_with (go_at_call 18; refine hS.mono ?_; clear hS; rintro e w1 ⟨rfl, b1⟩; have HB := Hid.mk (chain HI.out.2 b1 (Nat.le_refl _)); clear b1)
        go_roundw
        case rel => exact ⟨j + 1, by go_num, by omega, HN.out, HB.out⟩
        case measure => simp [intOf]; omega
      | false =>
        rw [hk] at hS
        have HN : Hid (∃ (h : j < ss.length), kp least ss[j] = false) := Hid.mk ⟨hjl, by rw [← hx]; exact hk⟩
        simp only [sV, Bool.not_false] at hS c0
        clear hk hx hlt hjl
        go_wp2_with (go_at_call 18; refine hS.mono ?_; clear hS; rintro e w1 ⟨rfl, b1⟩; have HB := Hid.mk (chain HI.out.2 b1 (Nat.le_refl _)); clear b1)
        go_ret
        unfold IxO
        obtain ⟨q1, q2⟩ := HN.out
        exact ⟨(j : Int), rfl, .inr ⟨j, q1, rfl, q2, HI.out.1⟩, HB.out⟩
    · have hlt' : ¬ (j : Int) < (n : Int) := by omega
      have HN : Hid (∀ s ∈ ss, kp least s = true) := Hid.mk (by have := HI.out.1; rw [List.take_of_length_le (by rw [HR.out.2.1]; omega)] at this; exact this)
      clear hlt
      go_wp2
      go_ret
      unfold IxO
      exact ⟨-1, rfl, .inl ⟨rfl, HN.out⟩, HI.out.2⟩
end Go.Proofs.Ytmhifofeobhhgaa
