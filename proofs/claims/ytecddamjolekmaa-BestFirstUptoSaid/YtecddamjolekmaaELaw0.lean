/-
  DERIVED. The laws' own helpers: the order, sameness, fit.
-/
import Derived.Test.YtecddamjolekmaaEList
set_option linter.unusedVariables false
set_option linter.unusedSimpArgs false
namespace Go.Proofs.Ytecddamjolekmaa
open Classical
open Go.RowKit
set_option maxRecDepth 100000 in
theorem eqH {a b : Ht} (ha : HtW a) (hb : HtW b) (w : World) : (binOp .eql 28 (.agg #[.int .i64 a.d, .int .i64 a.i, .string a.c]) (.agg #[.int .i64 b.d, .int .i64 b.i, .string b.c])).run Try.prog w = .ok (.bool (decide (a = b))) w := by
  obtain ⟨r, hr, hi⟩ := run_equal_deep (P := Try.prog) w (m := 2) (by omega) (k := 28) deepH wideH (key_h ha) (key_h hb)
  have e : r = decide (a = b) := by
    by_cases h : a = b
    · rw [decide_eq_true h]; exact hi.2 (by rw [h])
    · rw [decide_eq_false h]
      cases r with
      | false => rfl
      | true => exact absurd (kK_inj ha hb (hi.1 rfl)) h
  rw [e] at hr
  simp only [hC] at hr
  simp [go_sem, binOp, run_underlying Try.underlying28, hr]
theorem bl_iff (c c' : ByteArray) : Op.bytesLess c.toList c'.toList = decide (Lib.compareBytes c.data.toList c'.data.toList < 0) := by
  rw [ByteArray.toList_eq, ByteArray.toList_eq, bytesLess_cmp]
set_option maxRecDepth 100000 in
theorem same_any (l : List Ht) (la lb : Option Addr) (ca cb : Nat) (w : World) (ha : LAt w la l) (hb : LAt w lb l) (hl : l.length < 4611686018427387904) :
    Calls Try.prog 8 #[.slice la l.length ca, .slice lb l.length cb] w fun e w' => e = .returned (.bool true) ∧ Drew w w' := by
  obtain ⟨n, hn⟩ : ∃ n, n = l.length := ⟨_, rfl⟩
  have HA := Hid.mk (And.intro ha (And.intro hb hn))
  rw [← hn] at hl ⊢
  clear ha hb hn
  go_enter Try.func8, Try.ntmps8
  go_wp2
  go_loopw [5] (fun u wr => ∃ i : Nat, u = .int .i64 i ∧ i ≤ n ∧ Drew w wr) (fun u _ => n - (intOf u).toNat)
  case atStart => exact ⟨0, rfl, Nat.zero_le _, Drew.refl _⟩
  case round =>
    obtain ⟨i, rfl, hi, hd⟩ := hrel
    by_cases hlt : i < n
    · have hln : i < l.length := by have := HA.out.2.2; omega
      have hne : l ≠ [] := fun h => by rw [h] at hln; simp at hln
      obtain ⟨g1, o1, e1, r1⟩ := HA.out.1.at' hne
      obtain ⟨g2, o2, e2, r2⟩ := HA.out.2.1.at' hne
      subst e1
      subst e2
      have hh : ∀ k : Nat, wr.heap[k]? = w.heap[k]? := fun k => by obtain ⟨m, rfl⟩ := hd; rfl
      obtain ⟨x0, x1, x2⟩ := row_en r1 (hh g1) i hln
      obtain ⟨y0, y1, y2⟩ := row_en r2 (hh g2) i hln
      obtain ⟨e, he⟩ : ∃ e, e = l[i] := ⟨_, rfl⟩
      rw [← he] at x0 x1 x2 y0 y1 y2
      have i1 : (i : Int) < (n : Int) := by omega
      have i2 : 0 ≤ (i : Int) := by omega
      clear he hh r1 r2 hne hln
      go_wp2
      go_quiet (fail)
      go_wp2
      refine ⟨⟨i + 1, rfl, hlt, hd.more _⟩, by simp only [intOf]; omega⟩
    · go_wp2
      go_ret
      exact ⟨rfl, hd⟩
/-- k, or what is left of it. -/
def fitK (k : Int) : Nat := (k.tmod 4097).natAbs
theorem fitK_le (k : Int) : fitK k ≤ 4096 := by
  unfold fitK
  have h1 := Int.tmod_lt_of_pos k (show (0 : Int) < 4097 by decide)
  have h2 := Int.lt_tmod_of_pos k (show (0 : Int) < 4097 by decide)
  omega
end Go.Proofs.Ytecddamjolekmaa
