/-
  DERIVED. A plain map in its block; its little questions; a new one.
-/
import Derived.Test.YtekgppmhcbmpeaaDoorGMath
import Derived.Test.YtekgppmhcbmpeaaDoorJBits
import Derived.Test.YtekgppmhcbmpeaaDoorDClone
set_option linter.unusedVariables false
set_option linter.unusedSimpArgs false
namespace Go.Proofs.YtekgppmhcbmpeaaDoor
open Go.RowKit
/-- A map's struct in its block. -/
def MapAt (W : World) (p mb : Nat) (wd n : Int) : Prop := W.heap[p]? = some (.cells #[.int .i64 wd, .map (some mb), .int .i64 n] 67 (0, 0))
theorem MapAt.cells {W : World} {p mb : Nat} {wd n : Int} (h : MapAt W p mb wd n) : W.cell? ⟨p, 0, none⟩ = some (.int .i64 wd) ∧ W.cell? ⟨p, 1, none⟩ = some (.map (some mb)) ∧ W.cell? ⟨p, 2, none⟩ = some (.int .i64 n) :=
  ⟨by rw [cell_of_row _ _ 0 _ _ (0, 0) h]; rfl, by rw [cell_of_row _ _ 1 _ _ (0, 0) h]; rfl, by rw [cell_of_row _ _ 2 _ _ (0, 0) h]; rfl⟩
theorem MapAt.lt {W : World} {p mb : Nat} {wd n : Int} (h : MapAt W p mb wd n) : p < W.heap.size := (Array.getElem?_eq_some_iff.1 h).1
/-- A pair that a map of this width may keep. -/
def PrW (wd : Int) (x : Pr) : Prop := 0 ≤ x.i ∧ x.i ≤ 281474976710656 ∧ (x.c.size : Int) = wd / 8
/-- A map keeps these pairs; its Seq is n. -/
structure MP (W : World) (p mb : Nat) (wd : Int) (xs : List Pr) (n : Int) : Prop where
  at' : MapAt W p mb wd n
  pm : PM W mb xs
  fit : ∀ x ∈ xs, PrW wd x
  isW : isW wd = true
theorem MP.ne {W : World} {p mb : Nat} {wd n : Int} {xs : List Pr} (h : MP W p mb wd xs n) : p ≠ mb := fun e => by
  obtain ⟨es, c, hb⟩ := h.pm.isMap
  have := h.at'
  unfold MapAt at this
  rw [e, hb] at this; simp at this
theorem MP.keep {W W' : World} {p mb : Nat} {wd n : Int} {xs : List Pr} {F : Nat → Prop} (h : MP W p mb wd xs n) (s : Stay F W W') (h1 : ¬ F p) (h2 : ¬ F mb) : MP W' p mb wd xs n :=
  ⟨(s.block p h.at'.lt h1).trans h.at', h.pm.kept s h2, h.fit, h.isW⟩
theorem MP.below {W W' : World} {p mb : Nat} {wd n : Int} {xs : List Pr} (h : MP W p mb wd xs n) (b : Below W.heap.size W W') : MP W' p mb wd xs n := h.keep (F := fun _ => False) (.below b) (fun h => h) (fun h => h)
theorem MP.perm {W : World} {p mb : Nat} {wd n : Int} {xs ys : List Pr} (h : MP W p mb wd xs n) (e : xs.Perm ys) : MP W p mb wd ys n := by
  refine ⟨h.at', ?_, fun x hx => h.fit x (e.mem_iff.2 hx), h.isW⟩
  obtain ⟨D, h1, h2, h3, h4, h5⟩ := h.pm
  exact ⟨D, by rw [← e.length_eq]; exact h1, fun kl => by rw [h2]; exact ⟨fun ⟨x, hx, e'⟩ => ⟨x, e.mem_iff.1 hx, e'⟩, fun ⟨x, hx, e'⟩ => ⟨x, e.mem_iff.2 hx, e'⟩⟩, fun x hx => h3 x (e.mem_iff.2 hx), by rw [h4, e.length_eq], (e.map _).nodup_iff.1 h5⟩
set_option maxRecDepth 100000 in
theorem isID_any' (x : Int) (w : World) :
    Calls Tryd.prog 39 #[.int .i64 x] w fun e w' => e = .returned (.bool (decide (0 ≤ x ∧ x ≤ 281474976710656))) ∧ w' = w := by
  go_enter Tryd.func39, Tryd.ntmps39
  go_wp2
  all_goals go_ret
  all_goals exact ⟨ret_bool (by simp; omega), rfl⟩
set_option maxRecDepth 100000 in
theorem takes_any (p mb : Nat) (wd n : Int) (xs : List Pr) (q : ByteArray) (w : World) (h : MP w p mb wd xs n) :
    Calls Tryd.prog 28 #[Pt p, .string q] w fun e w' => e = .returned (.bool (decide ((q.size : Int) = wd / 8))) ∧ w' = w := by
  obtain ⟨c0, -⟩ := h.at'.cells
  have hc := bcheck_any wd q w
  have he : (chk wd q.size == 0) = decide ((q.size : Int) = wd / 8) := by
    unfold chk
    rw [if_pos h.isW]
    by_cases e : (q.size : Int) = wd / 8
    · rw [if_pos e, decide_eq_true e]; rfl
    · rw [if_neg e, decide_eq_false e]; rfl
  clear h
  rw [← he]
  obtain ⟨x, hx⟩ : ∃ x, x = chk wd q.size := ⟨_, rfl⟩
  rw [← hx] at hc ⊢
  clear he hx
  go_enter Tryd.func28, Tryd.ntmps28
  go_wp2_with (go_at_call 46; refine hc.mono ?_; clear hc; rintro e w' ⟨rfl, rfl⟩)
  go_ret
  exact ⟨rfl, rfl⟩
set_option maxRecDepth 100000 in
theorem pnew_yes (wd : Int) (hW : isW wd = true) (w : World) :
    Calls Tryd.prog 24 #[.int .i64 wd] w fun e w' => ∃ p mb, e = .returned (.tuple #[Pt p, .int .i64 0]) ∧ MP w' p mb wd [] 0 ∧ Below w.heap.size w w' ∧ w.heap.size ≤ p ∧ w.heap.size ≤ mb := by
  have hc := bcheck_any wd ⟨#[]⟩ w
  have he : chk wd (ByteArray.mk #[]).size = 11 := by
    have := isW_bd hW
    unfold chk
    rw [if_pos hW, if_neg]
    show ¬ ((0 : Nat) : Int) = wd / 8
    omega
  rw [he] at hc
  clear he
  have hmm := @run_makeMap Tryd.prog
  have HW : Hid (isW wd = true) := hW
  clear hW
  go_enter Tryd.func24, Tryd.ntmps24
  go_wp2_with (go_at_call 46; refine hc.mono ?_; clear hc; rintro e w' ⟨rfl, rfl⟩)
  go_ret2
  have b1 : Below w'.heap.size w' (w'.alloc (.map #[] 0)) := (Below.refl _ w').alloc (Nat.le_refl _) _
  have b2 := (Below.refl (w'.alloc (.map #[] 0)).heap.size (w'.alloc (.map #[] 0))).alloc (Nat.le_refl _) (.cells #[.int .i64 wd, .map (some w'.heap.size), .int .i64 0] 67)
  have hk : MapAt ((w'.alloc (.map #[] 0)).alloc (.cells #[.int .i64 wd, .map (some w'.heap.size), .int .i64 0] 67)) (w'.heap.size + 1) w'.heap.size wd 0 := by
    have := heap_alloc_last (w'.alloc (.map #[] 0)) (.cells #[.int .i64 wd, .map (some w'.heap.size), .int .i64 0] 67)
    rw [show (w'.alloc (.map #[] 0)).heap.size = w'.heap.size + 1 by simp] at this
    exact this
  exact ⟨w'.heap.size + 1, w'.heap.size, rfl, ⟨hk, (PM.made w').block (b2.block _ (by simp)), fun x hx => by simp at hx, HW.out⟩, chain b1 b2 (Nat.le_refl _), by omega, Nat.le_refl _⟩
set_option maxRecDepth 100000 in
theorem count_any (p mb : Nat) (wd n : Int) (xs : List Pr) (w : World) (h : MP w p mb wd xs n) :
    Calls Tryd.prog 26 #[Pt p] w fun e w' => e = .returned (.int .i64 xs.length) ∧ w' = w := by
  obtain ⟨-, c1, -⟩ := h.at'.cells
  have hl := fun ty => h.pm.len ty
  clear h
  go_enter Tryd.func26, Tryd.ntmps26
  go_wp2
  go_ret
  exact ⟨rfl, rfl⟩
set_option maxRecDepth 100000 in
theorem seq_any (p mb : Nat) (wd n : Int) (xs : List Pr) (w : World) (h : MP w p mb wd xs n) :
    Calls Tryd.prog 18 #[Pt p] w fun e w' => e = .returned (.int .i64 n) ∧ w' = w := by
  obtain ⟨-, -, c2⟩ := h.at'.cells
  clear h
  go_enter Tryd.func18, Tryd.ntmps18
  go_wp2
  go_ret
  exact ⟨rfl, rfl⟩
/-- What Get answers. -/
def getE (xs : List Pr) (i : Int) : ByteArray × Int := if 0 ≤ i ∧ i ≤ 281474976710656 then (match getP xs i with | some x => (x.c, 0) | none => (⟨#[]⟩, 131)) else (⟨#[]⟩, 60)
set_option maxRecDepth 100000 in
theorem get_any (p mb : Nat) (wd n i : Int) (xs : List Pr) (w : World) (h : MP w p mb wd xs n) (hi : I64 i) :
    Calls Tryd.prog 15 #[Pt p, .int .i64 i] w fun e w' => e = .returned (.tuple #[.string (getE xs i).1, .int .i64 (getE xs i).2]) ∧ Below w.heap.size w w' := by
  obtain ⟨-, c1, -⟩ := h.at'.cells
  have hd := isID_any' i w
  by_cases hid : 0 ≤ i ∧ i ≤ 281474976710656
  · rw [decide_eq_true hid] at hd
    have hlk := h.pm.look hi
    cases hg : getP xs i with
    | none =>
      have e : getE xs i = (⟨#[]⟩, 131) := by unfold getE; rw [if_pos hid, hg]
      rw [e]
      rw [hg] at hlk
      simp only [pC, zP, Option.getD_none, Option.isSome_none] at hlk
      clear hg e h hid
      go_enter Tryd.func15, Tryd.ntmps15
      go_wp2_with (go_at_call 39; refine hd.mono ?_; clear hd; rintro e w' ⟨rfl, rfl⟩)
      go_ret2
      exact ⟨rfl, (Below.refl _ _).alloc (Nat.le_refl _) _⟩
    | some x =>
      have e : getE xs i = (x.c, 0) := by unfold getE; rw [if_pos hid, hg]
      rw [e]
      rw [hg] at hlk
      simp only [pC, Option.getD_some, Option.isSome_some] at hlk
      clear hg e h hid
      go_enter Tryd.func15, Tryd.ntmps15
      go_wp2_with (go_at_call 39; refine hd.mono ?_; clear hd; rintro e w' ⟨rfl, rfl⟩)
      go_ret2
      exact ⟨rfl, (Below.refl _ _).alloc (Nat.le_refl _) _⟩
  · rw [decide_eq_false hid] at hd
    have e : getE xs i = (⟨#[]⟩, 60) := by unfold getE; rw [if_neg hid]
    rw [e]
    clear e h hid
    go_enter Tryd.func15, Tryd.ntmps15
    go_wp2_with (go_at_call 39; refine hd.mono ?_; clear hd; rintro e w' ⟨rfl, rfl⟩)
    go_ret2
    exact ⟨rfl, Below.refl _ _⟩
end Go.Proofs.YtekgppmhcbmpeaaDoor
