/-
  DERIVED. A plain map's update and Play.
-/
import Derived.Test.YtekgppmhcbmpeaaDoorGDel
set_option linter.unusedVariables false
set_option linter.unusedSimpArgs false
namespace Go.Proofs.YtekgppmhcbmpeaaDoor
open Go.RowKit
/-- An update. -/
structure Up where
  s : Int
  k : Int
  i : Int
  c : ByteArray
def zU : Up := ⟨0, 0, 0, ⟨#[]⟩⟩
def uC (u : Up) : List Value := [.int .i64 u.s, .int .i64 u.k, .int .i64 u.i, .string u.c]
/-- What an update answers. -/
def updE (wd : Int) (xs : List Pr) (n : Int) (u : Up) : Int :=
  if u.s = n + 1 then (if u.k = 1 then insE wd xs u.i u.c else if u.k = 2 then (if u.c = ⟨#[]⟩ then (getE xs u.i).2 else 11) else 51) else 51
def updX (wd : Int) (xs : List Pr) (n : Int) (u : Up) : List Pr :=
  if updE wd xs n u = 0 then (if u.k = 1 then ⟨u.i, u.c⟩ :: xs else delP xs u.i) else xs
def updN (wd : Int) (xs : List Pr) (n : Int) (u : Up) : Int := if updE wd xs n u = 0 then n + 1 else n
/-- A map that stands for these pairs still. -/
def MPL (W W' : World) (p mb : Nat) (wd : Int) (xs : List Pr) (n : Int) : Prop := MP W' p mb wd xs n ∧ Stay (fun k => k = p ∨ k = mb) W W'
theorem MP.same {W W' : World} {p mb : Nat} {wd n : Int} {xs : List Pr} (h : MP W p mb wd xs n) (b : Below W.heap.size W W') : MPL W W' p mb wd xs n := ⟨h.below b, .below b⟩
theorem MP.lat {W W1 W2 : World} {p mb : Nat} {wd n : Int} {xs : List Pr} (b : Below W.heap.size W W1) (h : MPL W1 W2 p mb wd xs n) : MPL W W2 p mb wd xs n := ⟨h.1, (Stay.below b).trans h.2⟩
theorem insE_len {wd : Int} {xs : List Pr} {i : Int} {c : ByteArray} (h : insE wd xs i c = 0) : xs.length < 1048576 := by
  unfold insE at h
  split at h
  · split at h
    · split at h
      · simp at h
      · split at h
        · simp at h
        · omega
    · simp at h
  · simp at h
theorem upd_len {wd n : Int} {xs : List Pr} {u : Up} (hl : xs.length ≤ 1048576) : (updX wd xs n u).length ≤ 1048576 := by
  unfold updX
  split
  · rename_i h
    split
    · rename_i hk
      unfold updE at h
      rw [if_pos hk] at h
      split at h
      · have := insE_len h
        simp; omega
      · simp at h
    · exact Nat.le_trans (List.length_filter_le _ _) hl
  · exact hl
set_option maxHeartbeats 2000000 in
set_option maxRecDepth 100000 in
theorem update_any (p mb : Nat) (wd n : Int) (xs : List Pr) (u : Up) (w : World) (h : MP w p mb wd xs n) (hi : I64 u.i) (hn : 0 ≤ n ∧ n < 4611686018427387904) (hl : xs.length ≤ 1048576) :
    Calls Tryd.prog 44 #[Pt p, .agg (uC u).toArray] w fun e w' => e = .returned (.int .i64 (updE wd xs n u)) ∧ MPL w w' p mb wd (updX wd xs n u) (updN wd xs n u) := by
  have bA : Below w.heap.size w (w.alloc (.cells (uC u).toArray 53)) := (Below.refl _ w).alloc (Nat.le_refl _) _
  have hb1 := heap_alloc_last w (.cells (uC u).toArray 53)
  obtain ⟨w1, hw1⟩ : ∃ w1, w1 = w.alloc (.cells (uC u).toArray 53) := ⟨_, rfl⟩
  rw [← hw1] at bA hb1
  have hw' : w.alloc (.cells #[.int .i64 u.s, .int .i64 u.k, .int .i64 u.i, .string u.c] 53) = w1 := hw1.symm
  have z0 : w1.cell? ⟨w.heap.size, 0, none⟩ = some (.int .i64 u.s) := by rw [cell_of_row _ _ 0 _ _ (0, 0) hb1]; rfl
  have z1 : w1.cell? ⟨w.heap.size, 1, none⟩ = some (.int .i64 u.k) := by rw [cell_of_row _ _ 1 _ _ (0, 0) hb1]; rfl
  have z2 : w1.cell? ⟨w.heap.size, 2, none⟩ = some (.int .i64 u.i) := by rw [cell_of_row _ _ 2 _ _ (0, 0) hb1]; rfl
  have z3 : w1.cell? ⟨w.heap.size, 3, none⟩ = some (.string u.c) := by rw [cell_of_row _ _ 3 _ _ (0, 0) hb1]; rfl
  have h1 := h.below bA
  have hsq := fun k => (seq_any p mb wd n xs (w1.drewN k) (h1.below (Drew.below ⟨k, rfl⟩ _))).mono (fun e w' (he : e = .returned (.int .i64 n) ∧ w' = w1.drewN k) => (⟨he.1, by rw [he.2]; exact Drew.refl _⟩ : e = .returned (.int .i64 n) ∧ Drew (w1.drewN k) w'))
  have hwn : IntKind.i64.wrap (n + 1) = n + 1 := by rw [IntKind.wrap_i64]; omega
  have hwn2 : wrap64 (n + 1) = n + 1 := by unfold wrap64; omega
  have HP := Hid.mk (And.intro h (And.intro h1 (And.intro bA (And.intro hn (And.intro hl hi)))))
  simp only [uC]
  clear h h1 bA hb1 hw1 hn hl hi
  by_cases hs : u.s = n + 1
  · have hsn : (u.s != n + 1) = false := by simp [hs]
    by_cases hk1 : u.k = 1
    · have hE : updE wd xs n u = insE wd xs u.i u.c := by unfold updE; rw [if_pos hs, if_pos hk1]
      have hX : updX wd xs n u = insX wd xs u.i u.c := by unfold updX insX; rw [hE, if_pos hk1]
      have hN : updN wd xs n u = insN wd xs u.i u.c n := by unfold updN insN; rw [hE]
      rw [hE, hX, hN]
      have hins : ∀ k, Calls Tryd.prog 19 #[Pt p, .int .i64 u.i, .string u.c] (w1.drewN k) fun e w' => e = .returned (.int .i64 (insE wd xs u.i u.c)) ∧ MPL w w' p mb wd (insX wd xs u.i u.c) (insN wd xs u.i u.c n) := fun k => (insert_any p mb wd n u.i xs u.c (w1.drewN k) (HP.out.2.1.below (Drew.below ⟨k, rfl⟩ _)) HP.out.2.2.2.2.2 HP.out.2.2.2.1 HP.out.2.2.2.2.1).mono (fun e w' he => ⟨he.1, MP.lat (HP.out.2.2.1.trans (Drew.below ⟨k, rfl⟩ _)) he.2⟩)
      rw [hk1] at z1
      rw [hs] at z0
      clear hs hk1 hE hX hN hsn
      go_enter Tryd.func44, Tryd.ntmps44
      go_wp2
      go_quiet ((go_at_call 18; exact Calls.quiet_of (hsq _)))
      go_wp2_with (go_at_call 19; refine (hins _).mono ?_; clear hins; rintro e w4 ⟨rfl, m4⟩)
      go_ret
      exact ⟨rfl, m4⟩
    · by_cases hk2 : u.k = 2
      · by_cases hc : u.c = ⟨#[]⟩
        · have hE : updE wd xs n u = (getE xs u.i).2 := by unfold updE; rw [if_pos hs, if_neg hk1, if_pos hk2, if_pos hc]
          have hX : updX wd xs n u = delX xs u.i := by unfold updX delX; rw [hE, if_neg hk1]
          have hN : updN wd xs n u = delN xs u.i n := by unfold updN delN; rw [hE]
          rw [hE, hX, hN]
          have hdel : ∀ k, Calls Tryd.prog 20 #[Pt p, .int .i64 u.i] (w1.drewN k) fun e w' => e = .returned (.int .i64 (getE xs u.i).2) ∧ MPL w w' p mb wd (delX xs u.i) (delN xs u.i n) := fun k => (delete_any p mb wd n u.i xs (w1.drewN k) (HP.out.2.1.below (Drew.below ⟨k, rfl⟩ _)) HP.out.2.2.2.2.2 HP.out.2.2.2.1).mono (fun e w' he => ⟨he.1, MP.lat (HP.out.2.2.1.trans (Drew.below ⟨k, rfl⟩ _)) he.2⟩)
          rw [hk2] at z1
          rw [hc] at z3 hw'
          rw [hs] at z0
          rw [hc]
          clear hs hk1 hk2 hE hX hN hsn hc
          go_enter Tryd.func44, Tryd.ntmps44
          go_wp2
          go_quiet ((go_at_call 18; exact Calls.quiet_of (hsq _)))
          go_wp2_with (go_at_call 20; refine (hdel _).mono ?_; clear hdel; rintro e w4 ⟨rfl, m4⟩)
          go_ret
          exact ⟨rfl, m4⟩
        · have hE : updE wd xs n u = 11 := by unfold updE; rw [if_pos hs, if_neg hk1, if_pos hk2, if_neg hc]
          have hX : updX wd xs n u = xs := by unfold updX; rw [hE]; rfl
          have hN : updN wd xs n u = n := by unfold updN; rw [hE]; rfl
          rw [hE, hX, hN]
          have hcn : u.c.toList.isEmpty = false := by
            rw [ByteArray.toList_eq]
            cases he : u.c.data.toList with
            | nil => exact absurd (ba_ext (X := u.c) (Y := ⟨#[]⟩) he) hc
            | cons a b => rfl
          rw [hk2] at z1
          rw [hs] at z0
          clear hs hk1 hk2 hE hX hN hsn
          go_enter Tryd.func44, Tryd.ntmps44
          go_wp2
          go_quiet ((go_at_call 18; exact Calls.quiet_of (hsq _)))
          go_wp2
          go_ret
          exact ⟨rfl, HP.out.1.same (HP.out.2.2.1.trans (Drew.below ⟨_, rfl⟩ _))⟩
      · have hE : updE wd xs n u = 51 := by unfold updE; rw [if_pos hs, if_neg hk1, if_neg hk2]
        have hX : updX wd xs n u = xs := by unfold updX; rw [hE]; rfl
        have hN : updN wd xs n u = n := by unfold updN; rw [hE]; rfl
        rw [hE, hX, hN]
        have g1 : (u.k == 1) = false := by simpa using hk1
        have g2 : (u.k == 2) = false := by simpa using hk2
        rw [hs] at z0
        clear hs hE hX hN hsn
        go_enter Tryd.func44, Tryd.ntmps44
        go_wp2
        go_quiet ((go_at_call 18; exact Calls.quiet_of (hsq _)))
        go_wp2
        go_ret
        exact ⟨rfl, HP.out.1.same (HP.out.2.2.1.trans (Drew.below ⟨_, rfl⟩ _))⟩
  · have hE : updE wd xs n u = 51 := by unfold updE; rw [if_neg hs]
    have hX : updX wd xs n u = xs := by unfold updX; rw [hE]; rfl
    have hN : updN wd xs n u = n := by unfold updN; rw [hE]; rfl
    rw [hE, hX, hN]
    have g1 : (u.s != n + 1) = true := by simpa using hs
    have g2 : (u.s == n + 1) = false := by simpa using hs
    clear hE hX hN
    go_enter Tryd.func44, Tryd.ntmps44
    go_wp2
    go_quiet ((go_at_call 18; exact Calls.quiet_of (hsq _)))
    go_wp2
    go_ret
    exact ⟨rfl, HP.out.1.same (HP.out.2.2.1.trans (Drew.below ⟨_, rfl⟩ _))⟩
/-- What a list of updates answers: how many, the refusal, the pairs, Seq. -/
def plS (wd : Int) : List Up → List Pr → Int → Nat × Int × List Pr × Int
  | [], xs, n => (0, 0, xs, n)
  | u :: us, xs, n => if updE wd xs n u = 0 then ((plS wd us (updX wd xs n u) (updN wd xs n u)).1 + 1, (plS wd us (updX wd xs n u) (updN wd xs n u)).2) else (0, updE wd xs n u, xs, n)
theorem upd_s {wd n : Int} {xs : List Pr} {u : Up} (h : updE wd xs n u = 0) : u.s = n + 1 := by
  unfold updE at h
  split at h
  · assumption
  · simp at h
theorem pl_spec (wd : Int) : ∀ (us : List Up) (xs : List Pr) (n : Int), (plS wd us xs n).1 ≤ us.length ∧ ((plS wd us xs n).2.1 = 0 ↔ (plS wd us xs n).1 = us.length) ∧ (plS wd us xs n).2.2.2 = n + ((plS wd us xs n).1 : Int) ∧ (∀ i (hi : i < us.length), i < (plS wd us xs n).1 → us[i].s = n + 1 + (i : Int)) ∧
    plS wd (us.drop (plS wd us xs n).1) (plS wd us xs n).2.2.1 (plS wd us xs n).2.2.2 = (0, (plS wd us xs n).2.1, (plS wd us xs n).2.2.1, (plS wd us xs n).2.2.2)
  | [], xs, n => by simp [plS]
  | u :: us, xs, n => by
    by_cases h : updE wd xs n u = 0
    · obtain ⟨h1, h2, h3, h4, h5⟩ := pl_spec wd us (updX wd xs n u) (updN wd xs n u)
      have hN : updN wd xs n u = n + 1 := by unfold updN; rw [if_pos h]
      have e : plS wd (u :: us) xs n = ((plS wd us (updX wd xs n u) (updN wd xs n u)).1 + 1, (plS wd us (updX wd xs n u) (updN wd xs n u)).2) := by rw [plS, if_pos h]
      rw [e]
      refine ⟨by simp; omega, by simp; exact h2, ?_, fun i hi hlt => ?_, ?_⟩
      · show (plS wd us (updX wd xs n u) (updN wd xs n u)).2.2.2 = _
        rw [h3, hN]
        simp; omega
      · cases i with
        | zero => simp; exact upd_s h
        | succ i =>
          have := h4 i (by simpa using hi) (by simpa using hlt)
          rw [hN] at this
          simp at this ⊢
          omega
      · exact h5
    · have e : plS wd (u :: us) xs n = (0, updE wd xs n u, xs, n) := by rw [plS, if_neg h]
      rw [e]
      refine ⟨by simp, by simp; exact h, by simp, fun i hi hlt => by simp at hlt, ?_⟩
      show plS wd (u :: us) xs n = _
      rw [e]
end Go.Proofs.YtekgppmhcbmpeaaDoor
