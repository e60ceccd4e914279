/-
  DERIVED. The laws' begun.
-/
import Derived.Test.YtnhihpekdimbbaaEHanded
set_option linter.unusedVariables false
set_option linter.unusedSimpArgs false
namespace Go.Proofs.Ytnhihpekdimbbaa
open Classical
open Go.RowKit
abbrev bh (d i : Int) : Ht := ⟨d, i, ⟨#[]⟩⟩
theorem bh_w (d i : Int) (h1 : I64 d) (h2 : I64 i) : HtW (bh d i) := ⟨h1, h2, by show (0 : Nat) ≤ _; omega⟩
theorem b1 : putK 2 (bh 5 1) [] = [bh 5 1] := by kernel_rfl
theorem b2 : putK 2 (bh 5 3) [bh 5 1] = [bh 5 1, bh 5 3] := by kernel_rfl
theorem b3 : putK 2 (bh 5 2) [bh 5 1, bh 5 3] = [bh 5 1, bh 5 2] := by kernel_rfl
theorem b4 : putK 2 (bh 5 3) [bh 5 1, bh 5 2] = [bh 5 1, bh 5 2] := by kernel_rfl
theorem begun_add (w W : World) (t kp : Nat) {h : Ht} (hh : HtW h) (X Y : List Ht) (O : Own w W t 2 kp X) (e : putK 2 h X = Y) (b : Bool) (hb : decide (h ∈ Y) = b) :
    Calls Try.prog 14 #[Pk t, .agg #[.int .i64 h.d, .int .i64 h.i, .string h.c]] W fun r W' => r = .returned (.bool b) ∧ Own w W' t 2 kp Y := by
  have := tadd_any t 2 kp X h W O.tt hh
  rw [e, hb] at this
  exact this.mono fun r W' ⟨h1, h2, h3⟩ => ⟨h1, O.frk h2 h3⟩
set_option maxHeartbeats 2000000 in
set_option maxRecDepth 100000 in
theorem begun_any (w : World) : Calls Try.prog 9 #[] w fun r w' => r = .returned (.bool true) ∧ Below w.heap.size w w' := by
  have hnew := newTop_any 2 (by decide) w
  go_enter Try.func9, Try.ntmps9
  go_wp2_with (go_at_call 24; refine hnew.mono ?_; clear hnew; rintro r w2 ⟨t, kp, rfl, T2, F2, t2⟩)
  have O2 : Own w w2 t 2 kp [] := ⟨T2, F2.1, t2, F2.2⟩
  clear T2 F2 t2
  refine (begun_add _ _ _ _ (bh_w 5 1 (by decide) (by decide)) _ _ O2 b1 true (decide_eq_true (by simp))).mono ?_
  rintro r w3 ⟨rfl, O3⟩
  clear O2
  go_wp2_with fail
  refine (begun_add _ _ _ _ (bh_w 5 3 (by decide) (by decide)) _ _ O3 b2 true (decide_eq_true (by simp))).mono ?_
  rintro r w4 ⟨rfl, O4⟩
  clear O3
  go_wp2_with fail
  refine (begun_add _ _ _ _ (bh_w 5 2 (by decide) (by decide)) _ _ O4 b3 true (decide_eq_true (by simp))).mono ?_
  rintro r w5 ⟨rfl, O5⟩
  clear O4
  go_wp2_with fail
  refine (begun_add _ _ _ _ (bh_w 5 3 (by decide) (by decide)) _ _ O5 b4 false (decide_eq_false (by simp [bh]))).mono ?_
  rintro r w6 ⟨rfl, O6⟩
  clear O5
  go_wp2_with fail
  refine (tlist_any t 2 kp _ w6 O6.tt).mono ?_
  rintro r w7 ⟨v, rfl, r7, l7, b7⟩
  obtain ⟨a, c, rfl, -, la⟩ := own_lat r7
  have b8 : Below w7.heap.size w7 (w7.alloc (.cells #[.int .i64 5, .int .i64 1, .string ⟨#[]⟩, .int .i64 5, .int .i64 2, .string ⟨#[]⟩] 31)) := (Below.refl _ w7).alloc (Nat.le_refl _) _
  have lb : LAt (w7.alloc (.cells #[.int .i64 5, .int .i64 1, .string ⟨#[]⟩, .int .i64 5, .int .i64 2, .string ⟨#[]⟩] 31)) (some ⟨w7.heap.size, 0, none⟩) [bh 5 1, bh 5 2] := ⟨fun _ => ⟨w7.heap.size, 0, rfl, fun j x hx => by
    have := SAt.new w7 [.int .i64 5, .int .i64 1, .string ⟨#[]⟩, .int .i64 5, .int .i64 2, .string ⟨#[]⟩] 31 j x hx
    rw [Nat.zero_add]; exact this⟩⟩
  have hs := same_any [bh 5 1, bh 5 2] a (some ⟨w7.heap.size, 0, none⟩) c 2 _ (la.below b8) lb (by simp)
  have HB : Hid (∀ W, Drew (w7.alloc (.cells #[.int .i64 5, .int .i64 1, .string ⟨#[]⟩, .int .i64 5, .int .i64 2, .string ⟨#[]⟩] 31)) W → Below w.heap.size w W) := fun W hd => (O6.below.trans (b7.mono O6.below.size)).trans ((b8.mono (Nat.le_trans O6.below.size b7.size)).trans (hd.below _))
  clear O6 r7 l7 b7 la b8 lb
  go_wp2_with (go_at_call 15; refine hs.mono ?_; clear hs; rintro r w8 ⟨rfl, d8⟩)
  go_ret
  exact ⟨rfl, HB.out _ d8⟩
end Go.Proofs.Ytnhihpekdimbbaa
