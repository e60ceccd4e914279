/-
  DERIVED. The laws' own helpers: the order, sameness, fit.
-/
import Derived.Test.YtdgiigaeclnflaaDoorEList
set_option linter.unusedVariables false
set_option linter.unusedSimpArgs false
namespace Go.Proofs.YtdgiigaeclnflaaDoor
open Classical
open Go.RowKit
set_option maxRecDepth 100000 in
theorem eqH {a b : Ht} (ha : HtW a) (hb : HtW b) (w : World) : (binOp .eql 67 (.agg #[.int .i64 a.d, .int .i64 a.i, .string a.c]) (.agg #[.int .i64 b.d, .int .i64 b.i, .string b.c])).run Tryd.prog w = .ok (.bool (decide (a = b))) w := by
  obtain ⟨r, hr, hi⟩ := run_equal_deep (P := Tryd.prog) w (m := 2) (by omega) (k := 67) deepH wideH (key_h ha) (key_h hb)
  have e : r = decide (a = b) := by
    by_cases h : a = b
    · rw [decide_eq_true h]; exact hi.2 (by rw [h])
    · rw [decide_eq_false h]
      cases r with
      | false => rfl
      | true => exact absurd (kK_inj ha hb (hi.1 rfl)) h
  rw [e] at hr
  simp only [hC] at hr
  simp [go_sem, binOp, run_underlying Tryd.underlying67, hr]
theorem bl_iff (c c' : ByteArray) : Op.bytesLess c.toList c'.toList = decide (Lib.compareBytes c.data.toList c'.data.toList < 0) := by
  rw [ByteArray.toList_eq, ByteArray.toList_eq, bytesLess_cmp]
/-- k, or what is left of it. -/
def fitK (k : Int) : Nat := (k.tmod 4097).natAbs
theorem fitK_le (k : Int) : fitK k ≤ 4096 := by
  unfold fitK
  have h1 := Int.tmod_lt_of_pos k (show (0 : Int) < 4097 by decide)
  have h2 := Int.lt_tmod_of_pos k (show (0 : Int) < 4097 by decide)
  omega
end Go.Proofs.YtdgiigaeclnflaaDoor
