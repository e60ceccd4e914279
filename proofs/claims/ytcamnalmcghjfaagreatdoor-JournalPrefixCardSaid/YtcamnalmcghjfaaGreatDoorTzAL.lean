/-
  DERIVED. JWrite, as one text.
-/
import Derived.Test.YtcamnalmcghjfaaGreatDoorTzAJ
import Derived.Test.YtcamnalmcghjfaaGreatDoorTzAK
import Derived.Deep.RegionHeld
set_option linter.unusedVariables false
set_option linter.unusedSimpArgs false
namespace Go.Proofs.YtcamnalmcghjfaaGreatDoor
open Go.RowKit Go.Proofs.SealMath
/-- An update's cells. -/
abbrev uC (s k i : Int) (c : ByteArray) : Array Value := #[.int .i64 s, .int .i64 k, .int .i64 i, .string c]
theorem empt (c : ByteArray) : c.toList.isEmpty = (c.size == 0) := by
  have e : c.size = c.data.toList.length := by simp
  rw [ByteArray.toList_eq, e]
  cases c.data.toList <;> simp
set_option maxHeartbeats 1000000 in
set_option maxRecDepth 100000 in
theorem fits_any (s k i : Int) (c : ByteArray) (x : Int) (w : World) :
    Calls Tryz.prog 31 #[.agg (uC s k i c), .int .i64 x] w fun e w' => e = .returned (.bool (fitB k c.size x)) ∧ Below w.heap.size w w' := by
  unfold fitB
  by_cases hk : k = 2
  · rw [if_pos hk]
    subst hk
    go_enter Tryz.func31, Tryz.ntmps31
    go_wp2
    go_ret
    exact ⟨ret_bool (empt c), (Below.refl _ w).alloc (Nat.le_refl _) _⟩
  · rw [if_neg hk]
    go_enter Tryz.func31, Tryz.ntmps31
    go_wp2_with (go_at_call 58; refine (bcheck_any _ _ _).mono ?_; rintro e w' ⟨rfl, rfl⟩)
    go_ret
    exact ⟨ret_bool rfl, (Below.refl _ w).alloc (Nat.le_refl _) _⟩
/-- Why Write refuses. -/
def wE (s k i : Int) (n : Nat) : Int :=
  if 1 ≤ s ∧ s ≤ 1152921504606846976 then
    if k = 1 ∨ k = 2 then
      if 0 ≤ i ∧ i ≤ 281474976710656 then
        if (k = 1 ∧ 8 ≤ n ∧ n ≤ 128 ∧ n % 8 = 0) ∨ (k = 2 ∧ n = 0) then 0 else 11
      else 60
    else 35
  else 51
/-- An update's payload. -/
def upP (s i : Nat) (c : List UInt8) : List UInt8 := pvL 9 s ++ pvL 9 i ++ c
theorem upP_len (s i : Nat) (c : List UInt8) : (upP s i c).length ≤ 20 + c.length := by
  have h1 := (pvL_len 9 s).2; have h2 := (pvL_len 9 i).2
  simp [upP]; omega
def wT (s k i : Int) (c : ByteArray) : List UInt8 := if wE s k i c.size = 0 then frL k.toNat (upP s.toNat i.toNat c.data.toList) else []
theorem fit8 (k : Int) (n : Nat) (hk : k = 1 ∨ k = 2) : fitB k n (wrap64 (8 * n)) = true ↔ (k = 1 ∧ 8 ≤ n ∧ n ≤ 128 ∧ n % 8 = 0) ∨ (k = 2 ∧ n = 0) := by
  unfold fitB
  rcases hk with rfl | rfl
  · simp only [show ¬ ((1 : Int) = 2) by decide, if_false, beq_iff_eq, chk_ok, isW, false_and, or_false, true_and, Bool.and_eq_true, decide_eq_true_eq]
    have : wrap64 (8 * (n : Int)) = (8 * (n : Int) + 9223372036854775808) % 18446744073709551616 - 9223372036854775808 := by unfold wrap64; rfl
    constructor <;> intro h <;> omega
  · simp
/-- An update lies in a block of its own. -/
structure UAt (w : World) (g : Nat) (s k i : Int) (c : ByteArray) : Prop where
  c0 : w.cell? ⟨g, 0, none⟩ = some (.int .i64 s)
  c1 : w.cell? ⟨g, 1, none⟩ = some (.int .i64 k)
  c2 : w.cell? ⟨g, 2, none⟩ = some (.int .i64 i)
  c3 : w.cell? ⟨g, 3, none⟩ = some (.string c)
theorem UAt.new (w : World) (s k i : Int) (c : ByteArray) : UAt (w.alloc (.cells (uC s k i c) 32)) w.heap.size s k i c := by
  have h : ∀ j u, (uC s k i c)[j]? = some u → (w.alloc (.cells (uC s k i c) 32)).cell? ⟨w.heap.size, j, none⟩ = some u := fun j u hu => by
    rw [cell_of_row _ _ j _ 32 (0, 0) (heap_alloc_last w _)]
    exact hu
  exact ⟨h 0 _ rfl, h 1 _ rfl, h 2 _ rfl, h 3 _ rfl⟩
theorem UAt.below {w w' : World} {g B : Nat} {s k i : Int} {c : ByteArray} (h : UAt w g s k i c) (b : Below B w w') (hg : g < B) : UAt w' g s k i c :=
  ⟨(b.cell (p := ⟨g, 0, none⟩) hg).trans h.c0, (b.cell (p := ⟨g, 1, none⟩) hg).trans h.c1, (b.cell (p := ⟨g, 2, none⟩) hg).trans h.c2, (b.cell (p := ⟨g, 3, none⟩) hg).trans h.c3⟩
theorem wE0 {s k i : Int} {n : Nat} (h1 : 1 ≤ s ∧ s ≤ 1152921504606846976) (h2 : k = 1 ∨ k = 2) (h3 : 0 ≤ i ∧ i ≤ 281474976710656) (h4 : fitB k n (wrap64 (8 * n)) = true) : wE s k i n = 0 := by
  unfold wE; rw [if_pos h1, if_pos h2, if_pos h3, if_pos ((fit8 k n h2).1 h4)]
theorem wE11 {s k i : Int} {n : Nat} (h1 : 1 ≤ s ∧ s ≤ 1152921504606846976) (h2 : k = 1 ∨ k = 2) (h3 : 0 ≤ i ∧ i ≤ 281474976710656) (h4 : fitB k n (wrap64 (8 * n)) = false) : wE s k i n = 11 := by
  unfold wE; rw [if_pos h1, if_pos h2, if_pos h3, if_neg (fun h => by rw [(fit8 k n h2).2 h] at h4; cases h4)]
theorem wT_no {s k i : Int} {c : ByteArray} {x : Int} (h : wE s k i c.size = x) (hx : x ≠ 0) : wT s k i c = [] := by unfold wT; rw [h, if_neg hx]
set_option maxHeartbeats 4000000 in
set_option maxRecDepth 100000 in
theorem write_no (s k i : Int) (c : ByteArray) (w : World) (hE : wE s k i c.size ≠ 0) :
    Calls Tryz.prog 30 #[.agg (uC s k i c)] w fun e w' => e = .returned (.tuple #[.string ⟨#[]⟩, .int .i64 (wE s k i c.size)]) ∧ Below w.heap.size w w' := by
  by_cases h1 : 1 ≤ s ∧ s ≤ 1152921504606846976
  · have h1' : decide (1 ≤ s ∧ s ≤ 1152921504606846976) = true := decide_eq_true h1
    by_cases h2 : k = 1 ∨ k = 2
    · have h2' : decide (k = 1 ∨ k = 2) = true := decide_eq_true h2
      by_cases h3 : 0 ≤ i ∧ i ≤ 281474976710656
      · have h3' : decide (0 ≤ i ∧ i ≤ 281474976710656) = true := decide_eq_true h3
        cases h4 : fitB k c.size (wrap64 (8 * c.size))
        · rw [wE11 h1 h2 h3 h4]
          clear hE
          have H4 : Hid _ := h4
          clear h4 h1 h2 h3
          go_enter Tryz.func30, Tryz.ntmps30
          go_wp2_with first
            | (go_at_call 47; refine (isSeq_any _ _).mono ?_; rintro e w' ⟨rfl, rfl⟩; rw [h1'])
            | (go_at_call 54; refine (isKind_any _ _).mono ?_; rintro e w' ⟨rfl, rfl⟩; rw [h2'])
            | (go_at_call 55; refine (isID_any _ _).mono ?_; rintro e w' ⟨rfl, rfl⟩; rw [h3'])
            | (go_at_call 31; refine (fits_any _ _ _ _ _ _).mono ?_; rintro e w' ⟨rfl, b1⟩; rw [H4.out])
          go_ret2
          exact ⟨rfl, ((Below.refl _ w).alloc (Nat.le_refl _) _).trans (b1.mono (by simp))⟩
        · exact absurd (wE0 h1 h2 h3 h4) hE
      · have h3' : decide (0 ≤ i ∧ i ≤ 281474976710656) = false := decide_eq_false h3
        have e1 : wE s k i c.size = 60 := by unfold wE; rw [if_pos h1, if_pos h2, if_neg h3]
        rw [e1]
        clear e1 hE h1 h2 h3
        go_enter Tryz.func30, Tryz.ntmps30
        go_wp2_with first
          | (go_at_call 47; refine (isSeq_any _ _).mono ?_; rintro e w' ⟨rfl, rfl⟩; rw [h1'])
          | (go_at_call 54; refine (isKind_any _ _).mono ?_; rintro e w' ⟨rfl, rfl⟩; rw [h2'])
          | (go_at_call 55; refine (isID_any _ _).mono ?_; rintro e w' ⟨rfl, rfl⟩; rw [h3'])
        go_ret2
        exact ⟨rfl, (Below.refl _ w).alloc (Nat.le_refl _) _⟩
    · have h2' : decide (k = 1 ∨ k = 2) = false := decide_eq_false h2
      have e1 : wE s k i c.size = 35 := by unfold wE; rw [if_pos h1, if_neg h2]
      rw [e1]
      clear e1 hE h1 h2
      go_enter Tryz.func30, Tryz.ntmps30
      go_wp2_with first
        | (go_at_call 47; refine (isSeq_any _ _).mono ?_; rintro e w' ⟨rfl, rfl⟩; rw [h1'])
        | (go_at_call 54; refine (isKind_any _ _).mono ?_; rintro e w' ⟨rfl, rfl⟩; rw [h2'])
      go_ret2
      exact ⟨rfl, (Below.refl _ w).alloc (Nat.le_refl _) _⟩
  · have e1 : wE s k i c.size = 51 := by unfold wE; rw [if_neg h1]
    rw [e1]
    have h1' : decide (1 ≤ s ∧ s ≤ 1152921504606846976) = false := decide_eq_false h1
    clear hE e1 h1
    go_enter Tryz.func30, Tryz.ntmps30
    go_wp2_with (go_at_call 47; refine (isSeq_any _ _).mono ?_; rintro e w' ⟨rfl, rfl⟩; rw [h1'])
    go_ret2
    exact ⟨rfl, (Below.refl _ w).alloc (Nat.le_refl _) _⟩
theorem putvar_x (v : Nat) (w : World) (hv : v < 18446744073709551616) :
    Calls Tryz.prog 57 #[.int .u64 v] w fun e w' => ∃ X : ByteArray, e = .returned (.string X) ∧ X.size ≤ 10 ∧ Hid (X.data.toList = pvL 9 v) ∧ Below w.heap.size w w' :=
  (putvar_any v w hv).mono fun e w' h => ⟨_, h.1, by have := (pvL_len 9 v).2; show (pvL 9 v).toArray.size ≤ 10; simpa using this, rfl, h.2⟩
theorem below_d {w w' : World} (b : Below w.drew.heap.size w.drew w') : Below w.heap.size w w' := ⟨b.os, b.tape, b.output, b.size, b.block⟩
theorem cell_lat {W W' : World} {p : Addr} {v : Value} (hb : Below W.heap.size W W') (h : W.cell? p = some v) : W'.cell? p = some v := (hb.cell (World.block_lt_of_cell? W p h)).trans h
theorem b_drew (W : World) : Below W.heap.size W W.drew := (Below.refl _ W).drew
theorem Tab.lat {w w' : World} (h : Tab w) (hb : Below w.heap.size w w') : Tab w' := fun i hi => cell_lat hb (h i hi)
theorem Tab.pos {w : World} (h : Tab w) : 0 < w.heap.size := World.block_lt_of_cell? w ⟨0, 0, none⟩ (h 0 (by omega))
theorem wr_fin (s k i : Nat) (c : ByteArray) (w : World) {X Y : ByteArray} {w' : World} (hX : Hid (X.data.toList = pvL 9 s)) (hY : Hid (Y.data.toList = pvL 9 i)) (hb : Below w.heap.size w w') : Ending.returned (Value.tuple #[.string ⟨(frL k (X.data.toList ++ (Y.data.toList ++ c.data.toList))).toArray⟩, .int .i64 0]) = .returned (.tuple #[.string ⟨(frL k (upP s i c.data.toList)).toArray⟩, .int .i64 0]) ∧ Below w.heap.size w w' := by
  rw [hX.out, hY.out]; exact ⟨by simp [upP], hb⟩
set_option maxHeartbeats 4000000 in
set_option maxRecDepth 100000 in
theorem write_ok' (s k i : Nat) (c : ByteArray) (w : World) (ht : Tab w) (h1 : 1 ≤ s ∧ s ≤ 1152921504606846976) (h2 : k = 1 ∨ k = 2) (h3 : i ≤ 281474976710656) (h4 : fitB k c.size (8 * c.size) = true) (hc : c.size ≤ 128) :
    Calls Tryz.prog 30 #[.agg (uC s k i c)] w fun e w' => e = .returned (.tuple #[.string ⟨(frL k (upP s i c.data.toList)).toArray⟩, .int .i64 0]) ∧ Below w.heap.size w w' := by
  have h1' : decide (1 ≤ (s : Int) ∧ (s : Int) ≤ 1152921504606846976) = true := decide_eq_true (by omega)
  have h2' : decide ((k : Int) = 1 ∨ (k : Int) = 2) = true := decide_eq_true (by omega)
  have h3' : decide (0 ≤ (i : Int) ∧ (i : Int) ≤ 281474976710656) = true := decide_eq_true (by omega)
  have H4 : Hid _ := h4
  have U0 := UAt.new w s k i c
  have ba : Below w.heap.size w (w.alloc (.cells (uC s k i c) 32)) := (Below.refl _ w).alloc (Nat.le_refl _) _
  have hws : IntKind.u64.wrap (s : Int) = s := by rw [IntKind.wrap_u64]; omega
  have hwi : IntKind.u64.wrap (i : Int) = i := by rw [IntKind.wrap_u64]; omega
  clear h4
  go_enter Tryz.func30, Tryz.ntmps30
  go_wp2_with first
    | (go_at_call 47; refine (isSeq_any _ _).mono ?_; rintro e w' ⟨rfl, rfl⟩; rw [h1'])
    | (go_at_call 54; refine (isKind_any _ _).mono ?_; rintro e w' ⟨rfl, rfl⟩; rw [h2'])
    | (go_at_call 55; refine (isID_any _ _).mono ?_; rintro e w' ⟨rfl, rfl⟩; rw [h3'])
    | (go_at_call 31; refine (fits_any _ _ _ _ _ _).mono ?_; rintro e w1 ⟨rfl, b1⟩; rw [H4.out]; have bW := chain ba b1 (Nat.le_refl _); obtain ⟨q0, q1, q2, q3⟩ := U0.below b1 (by simp); clear U0 ba b1)
  have t1 := ht.lat bW
  clear ht H4 h1' h2' h3'
  go_region_held (fun w' => Below w1.heap.size w1 w' ∧ w'.cell? ⟨w.heap.size, 0, none⟩ = some (.int .i64 s) ∧ w'.cell? ⟨w.heap.size, 1, none⟩ = some (.int .i64 k) ∧ w'.cell? ⟨w.heap.size, 2, none⟩ = some (.int .i64 i) ∧ w'.cell? ⟨w.heap.size, 3, none⟩ = some (.string c))
    ((refine (fun hb => ⟨hb, cell_lat hb q0, cell_lat hb q1, cell_lat hb q2, cell_lat hb q3⟩) ?_; first | exact bb | exact b_drew w1))
    (first
      | (go_at_call 57; refine (putvar_x _ _ (by omega)).mono ?_; rintro e w2 ⟨X, rfl, hX, HX, b2⟩; have bb : Below w1.heap.size w1 w2 := (by first | exact chain bb b2 (Nat.le_refl _) | exact below_d b2))
      | (go_at_call 56; refine (frame_ok k _ _ (t1.lat bb) (t1.lat bb).pos (by omega) (by omega) (by simp only [ByteArray.size_append]; omega)).mono ?_; rintro e w3 ⟨rfl, b3⟩; have bb := chain bb b3 (Nat.le_refl _)))
  all_goals
    go_wp2
    go_ret2
    exact wr_fin s k i c w ‹_› ‹_› (chain bW bb (Nat.le_refl _))
theorem fit_le {k : Int} {n : Nat} (h2 : k = 1 ∨ k = 2) (h4 : fitB k n (wrap64 (8 * n)) = true) : n ≤ 128 ∧ fitB k n (8 * n) = true := by
  have h := (fit8 k n h2).1 h4
  have hn : n ≤ 128 := by omega
  have e : wrap64 (8 * (n : Int)) = 8 * n := by unfold wrap64; omega
  rw [e] at h4
  exact ⟨hn, h4⟩
theorem wE_zero {s k i : Int} {n : Nat} (hE : wE s k i n = 0) : (1 ≤ s ∧ s ≤ 1152921504606846976) ∧ (k = 1 ∨ k = 2) ∧ (0 ≤ i ∧ i ≤ 281474976710656) ∧ ((k = 1 ∧ 8 ≤ n ∧ n ≤ 128 ∧ n % 8 = 0) ∨ (k = 2 ∧ n = 0)) := by
  unfold wE at hE
  split at hE
  · split at hE
    · split at hE
      · split at hE
        · exact ⟨‹_›, ‹_›, ‹_›, ‹_›⟩
        · simp at hE
      · simp at hE
    · simp at hE
  · simp at hE
theorem write_any (s k i : Int) (c : ByteArray) (w : World) (ht : Tab w) :
    Calls Tryz.prog 30 #[.agg (uC s k i c)] w fun e w' => e = .returned (.tuple #[.string ⟨(wT s k i c).toArray⟩, .int .i64 (wE s k i c.size)]) ∧ Below w.heap.size w w' := by
  by_cases hE : wE s k i c.size = 0
  · obtain ⟨h1, h2, h3, h4⟩ := wE_zero hE
    obtain ⟨h5, h6⟩ := fit_le h2 ((fit8 k c.size h2).2 h4)
    have eT : wT s k i c = frL k.toNat (upP s.toNat i.toNat c.data.toList) := by unfold wT; rw [if_pos hE]
    rw [hE, eT]
    clear hE eT
    obtain ⟨S, rfl⟩ : ∃ S : Nat, s = S := ⟨s.toNat, by omega⟩
    obtain ⟨K, rfl⟩ : ∃ K : Nat, k = K := ⟨k.toNat, by omega⟩
    obtain ⟨I, rfl⟩ : ∃ I : Nat, i = I := ⟨i.toNat, by omega⟩
    exact write_ok' S K I c w ht (by omega) (by omega) (by omega) h6 h5
  · have eT : wT s k i c = [] := by unfold wT; rw [if_neg hE]
    rw [eT]
    exact write_no s k i c w hE
end Go.Proofs.YtcamnalmcghjfaaGreatDoor
