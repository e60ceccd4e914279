/-
  DERIVED. What a plain map refuses; the laws' samePairs.
-/
import Derived.Test.YtekgppmhcbmpeaaDoorGAns
import Derived.Test.YtekgppmhcbmpeaaDoorGRow
set_option linter.unusedVariables false
set_option linter.unusedSimpArgs false
namespace Go.Proofs.YtekgppmhcbmpeaaDoor
open Go.RowKit
set_option maxRecDepth 100000 in
theorem samePairs_any (l : List Pr) (la lb : Option Addr) (ca cb : Nat) (w : World) (ha : PLAt w la l) (hb : PLAt w lb l) (hl : l.length < 4611686018427387904) :
    Calls Tryd.prog 21 #[.slice la l.length ca, .slice lb l.length cb] w fun e w' => e = .returned (.bool true) ∧ Drew w w' := by
  obtain ⟨n, hn⟩ : ∃ n, n = l.length := ⟨_, rfl⟩
  have HA := Hid.mk (And.intro ha (And.intro hb hn))
  rw [← hn] at hl ⊢
  clear ha hb hn
  go_enter Tryd.func21, Tryd.ntmps21
  go_wp2
  go_loopw [5] (fun u wr => ∃ i : Nat, u = .int .i64 i ∧ i ≤ n ∧ Drew w wr) (fun u _ => n - (intOf u).toNat)
  case atStart => exact ⟨0, rfl, Nat.zero_le _, Drew.refl _⟩
  case round =>
    obtain ⟨i, rfl, hi, hd⟩ := hrel
    by_cases hlt : i < n
    · have hln : i < l.length := by have := HA.out.2.2; omega
      have hne : l ≠ [] := fun h => by rw [h] at hln; simp at hln
      obtain ⟨g1, o1, e1, r1⟩ := HA.out.1.at' hne
      obtain ⟨g2, o2, e2, r2⟩ := HA.out.2.1.at' hne
      subst e1
      subst e2
      have hh : ∀ k : Nat, wr.heap[k]? = w.heap[k]? := fun k => by obtain ⟨m, rfl⟩ := hd; rfl
      obtain ⟨x0, x1⟩ := row_pr r1 (hh g1) i hln
      obtain ⟨y0, y1⟩ := row_pr r2 (hh g2) i hln
      obtain ⟨e, he⟩ : ∃ e, e = l[i] := ⟨_, rfl⟩
      rw [← he] at x0 x1 y0 y1
      have i1 : (i : Int) < (n : Int) := by omega
      have i2 : 0 ≤ (i : Int) := by omega
      clear he hh r1 r2 hne hln
      go_wp2
      go_quiet (fail)
      go_wp2
      refine ⟨⟨i + 1, rfl, hlt, hd.more _⟩, by simp only [intOf]; omega⟩
    · go_wp2
      go_ret
      exact ⟨rfl, hd⟩
theorem PRow.lat {W : World} {v : Value} {l : List Pr} (h : PRow W v l) : ∃ a c, v = .slice a l.length c ∧ PLAt W a l := by
  rcases h.2 with ⟨rfl, h0⟩ | ⟨g, cap, cur, rfl, h1, h2, h3, h4⟩
  · exact ⟨none, 0, by rw [h0], ⟨fun hn => absurd (List.eq_nil_of_length_eq_zero h0) hn⟩⟩
  · exact ⟨_, cap, rfl, ⟨fun _ => ⟨g, 0, rfl, fun j x hx => by
      have := World.ownsRow.cells h (g := g) rfl j x hx
      have e1 : (⟨g, 0, none⟩ : Addr).add j = ⟨g, 0 + j, none⟩ := by unfold Addr.add; split <;> simp_all
      rw [e1] at this; exact this⟩⟩⟩
set_option maxRecDepth 100000 in
theorem newTop_neg (w : World) : Calls Tryd.prog 34 #[.int .i64 (-1)] w fun r w' => r = .returned (.tuple #[.pointer none, .int .i64 100]) ∧ w' = w := by
  go_enter Tryd.func34, Tryd.ntmps34
  go_wp2_with fail
  go_ret2
  exact ⟨rfl, rfl⟩
set_option maxRecDepth 100000 in
theorem topk_neg (p mb : Nat) (wd n : Int) (xs : List Pr) (q : ByteArray) (w : World) (h : MP w p mb wd xs n) (hq : (q.size : Int) = wd / 8) :
    Calls Tryd.prog 13 #[Pt p, .string q, .int .i64 (-1)] w fun e w' => e = .returned (.tuple #[.slice none 0 0, .int .i64 100]) ∧ Below w.heap.size w w' := by
  have htk := takes_any p mb wd n xs q w h
  rw [decide_eq_true hq] at htk
  have hnt := fun W => newTop_neg W
  clear h hq
  go_enter Tryd.func13, Tryd.ntmps13
  go_wp2_with (first
    | (go_at_call 28; refine htk.mono ?_; clear htk; rintro e w1 ⟨rfl, h1⟩; subst h1)
    | (go_at_call 34; refine (hnt _).mono ?_; clear hnt; rintro e w2 ⟨rfl, h2⟩; subst h2))
  go_ret2
  exact ⟨rfl, (Below.refl _ _).alloc (Nat.le_refl _) _⟩
set_option maxRecDepth 100000 in
theorem topk_code (p mb : Nat) (wd n k : Int) (xs : List Pr) (q : ByteArray) (w : World) (h : MP w p mb wd xs n) (hq : (q.size : Int) ≠ wd / 8) :
    Calls Tryd.prog 13 #[Pt p, .string q, .int .i64 k] w fun e w' => e = .returned (.tuple #[.slice none 0 0, .int .i64 11]) ∧ Below w.heap.size w w' := by
  have htk := takes_any p mb wd n xs q w h
  rw [decide_eq_false hq] at htk
  clear h hq
  go_enter Tryd.func13, Tryd.ntmps13
  go_wp2_with (go_at_call 28; refine htk.mono ?_; clear htk; rintro e w1 ⟨rfl, h1⟩; subst h1)
  go_ret2
  exact ⟨rfl, Below.refl _ _⟩
set_option maxRecDepth 100000 in
theorem radius_far (p mb : Nat) (wd n r : Int) (xs : List Pr) (q : ByteArray) (w : World) (h : MP w p mb wd xs n) (hq : (q.size : Int) = wd / 8) (hr : wd < r) :
    Calls Tryd.prog 12 #[Pt p, .string q, .int .i64 r] w fun e w' => e = .returned (.tuple #[.slice none 0 0, .int .i64 101]) ∧ Below w.heap.size w w' := by
  have htk := takes_any p mb wd n xs q w h
  rw [decide_eq_true hq] at htk
  obtain ⟨c0, -⟩ := h.at'.cells
  clear h hq
  go_enter Tryd.func12, Tryd.ntmps12
  go_wp2_with (go_at_call 28; refine htk.mono ?_; clear htk; rintro e w1 ⟨rfl, h1⟩; subst h1)
  go_ret2
  exact ⟨rfl, Below.refl _ _⟩
end Go.Proofs.YtekgppmhcbmpeaaDoor
