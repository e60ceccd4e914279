/-
  DERIVED. sign: units, parts, bounds.
-/
import Derived.Test.YtmdmjjobhkpojaaZRow
import Derived.Test.YtmdmjjobhkpojaaFMath
import Derived.Test.YtmdmjjobhkpojaaBase
import Derived.Test.YtmdmjjobhkpojaaQWid
set_option linter.unusedVariables false
set_option linter.unusedSimpArgs false
namespace Go.Proofs.Ytmdmjjobhkpojaa
open Go.RowKit Go.Proofs.FloatMath
abbrev Zp := Int × Int
def zC (p : Zp) : List Value := [.int .i64 p.1, .int .i64 p.2]
def zE : El Zp := ⟨30, 23, 43, 2, 16, .agg #[.int .i64 0, .int .i64 0], zC⟩
theorem zOk : zE.Ok Try.prog := ⟨fun x => rfl, fun x u hu => by simp [zE, zC] at hu; rcases hu with rfl | rfl <;> rfl, by decide, rfl, by decide, by kernel_rfl, by kernel_rfl⟩
/-- The row of numbers of a seed, as the code mixes them. -/
def m1 (sd n : Int) : Int := IntKind.u64.wrap (sd + IntKind.u64.wrap (11400714819323198485 * n))
def m2 (x : Int) : Int := IntKind.u64.wrap (bits .xor .u64 x (x / 1073741824) * 13787848793156543929)
def m3 (x : Int) : Int := IntKind.u64.wrap (bits .xor .u64 x (x / 134217728) * 10723151780598845931)
def m4 (x : Int) : Int := bits .xor .u64 x (x / 2147483648)
/-- The unit's number. -/
def uq (sd n : Int) : Int := m4 (m3 (m2 (m1 sd n))) / 4611686018427387904
/-- The unit itself. -/
def uV (u : Int) : Value := if (u == 0) = true then .complex .f64 4607182418800017408 0 else if (u == 1) = true then .complex .f64 0 4607182418800017408 else if (u == 2) = true then .complex .f64 13830554455654793216 0 else .complex .f64 0 13830554455654793216
theorem uV0 {u : Int} (h : (u == 0) = true) : uV u = .complex .f64 4607182418800017408 0 := if_pos h
theorem uV1 {u : Int} (h0 : (u == 0) = false) (h : (u == 1) = true) : uV u = .complex .f64 0 4607182418800017408 := by unfold uV; rw [if_neg (by simp [h0]), if_pos h]
theorem uV2 {u : Int} (h0 : (u == 0) = false) (h1 : (u == 1) = false) (h : (u == 2) = true) : uV u = .complex .f64 13830554455654793216 0 := by unfold uV; rw [if_neg (by simp [h0]), if_neg (by simp [h1]), if_pos h]
theorem uV3 {u : Int} (h0 : (u == 0) = false) (h1 : (u == 1) = false) (h : (u == 2) = false) : uV u = .complex .f64 0 13830554455654793216 := by unfold uV; rw [if_neg (by simp [h0]), if_neg (by simp [h1]), if_neg (by simp [h])]
theorem retV {a b : Value} (h : a = b) : Ending.returned a = Ending.returned b := by rw [h]
set_option maxHeartbeats 1000000 in
theorem unit_any (sd n : Int) (w : World) :
    Calls Try.prog 39 #[.int .u64 sd, .int .u64 n] w fun e w' => e = .returned (uV (uq sd n)) ∧ w' = w := by
  go_enter Try.func39, Try.ntmps39
  go_wp2
  all_goals go_ret
  · exact ⟨retV (uV0 ‹(uq sd n == 0) = true›).symm, rfl⟩
  · exact ⟨retV (uV1 ‹(uq sd n == 0) = false› ‹(uq sd n == 1) = true›).symm, rfl⟩
  · exact ⟨retV (uV2 ‹(uq sd n == 0) = false› ‹(uq sd n == 1) = false› ‹(uq sd n == 2) = true›).symm, rfl⟩
  · exact ⟨retV (uV3 ‹(uq sd n == 0) = false› ‹(uq sd n == 1) = false› ‹(uq sd n == 2) = false›).symm, rfl⟩
/-- May a part have this number? -/
def isBd (n : Int) : Bool := decide (-1048576 ≤ n) && decide (n ≤ 1048576)
theorem isBd_1 {n : Int} (h : -1048576 ≤ n) : isBd n = decide (n ≤ 1048576) := by simp [isBd, h]
theorem isBd_2 {n : Int} (h : n < -1048576) : isBd n = false := by simp [isBd]; omega
theorem isBd_in {n : Int} (h : isBd n = true) : -1048576 ≤ n ∧ n ≤ 1048576 := by simpa [isBd] using h
theorem isB_any (n : Int) (w : World) :
    Calls Try.prog 35 #[.int .i64 n] w fun e w' => e = .returned (.bool (isBd n)) ∧ w' = w := by
  go_enter Try.func35, Try.ntmps35
  go_wp2
  all_goals go_ret
  · exact ⟨ret_bool (isBd_1 ‹_›).symm, rfl⟩
  · exact ⟨ret_bool (isBd_2 ‹_›).symm, rfl⟩
set_option maxHeartbeats 1000000 in
theorem number_any (a b : Int) (w : World) :
    Calls Try.prog 37 #[.agg #[.int .i64 a, .int .i64 b]] w fun e w' => e = .returned (.complex .f64 (floatOfInt .f64 a) (floatOfInt .f64 b)) ∧ w' = w.alloc (.cells #[.int .i64 a, .int .i64 b] 30) := by
  go_enter Try.func37, Try.ntmps37
  go_wp2
  all_goals go_ret
  exact ⟨rfl, rfl⟩
set_option maxHeartbeats 1000000 in
theorem part_any (x y : Nat) (a b : Int) (w : World) (h : CI x y a b) (ha : a.natAbs ≤ 4611686018427387904) (hb : b.natAbs ≤ 4611686018427387904) :
    Calls Try.prog 26 #[.complex .f64 x y] w fun e w' => e = .returned (.agg #[.int .i64 a, .int .i64 b]) ∧ Below w.heap.size w w' := by
  have h1 := FI.int h.1 (by omega) (by omega)
  have h2 := FI.int h.2 (by omega) (by omega)
  clear h ha hb
  have c1 : ∀ W, (convert 76 3 (.float .f64 x)).run Try.prog W = .ok (.int .i64 a) W := fun W => run_convert_float_int W _ _ .f64 .i64 x a (by rfl) (by rfl) h1
  have c2 : ∀ W, (convert 76 3 (.float .f64 y)).run Try.prog W = .ok (.int .i64 b) W := fun W => run_convert_float_int W _ _ .f64 .i64 y b (by rfl) (by rfl) h2
  clear h1 h2
  go_enter Try.func26, Try.ntmps26
  go_wp2
  refine bodyPost_ret (v := .agg #[.int .i64 a, .int .i64 b]) (by simp [results, Try.results26, go_sem]; try rfl) rfl ?_
  exact ⟨rfl, (Below.refl _ _).alloc (Nat.le_refl _) _⟩
/-- The two bits that a sum gives a code. -/
def sgN (p : Zp) : Nat := (if 0 < p.1 then 2 else 0) + (if 0 < p.2 then 1 else 0)
theorem sgN_lt (p : Zp) : sgN p < 4 := by unfold sgN; split <;> split <;> omega
theorem ret_u8 {a b : Int} (h : a = b) : Ending.returned (.int .u8 a) = .returned (.int .u8 b) := by rw [h]
set_option maxHeartbeats 1000000 in
theorem signs_any (a b : Int) (w : World) :
    Calls Try.prog 31 #[.agg #[.int .i64 a, .int .i64 b]] w fun e w' => e = .returned (.int .u8 (sgN (a, b) : Nat)) ∧ w' = w.alloc (.cells #[.int .i64 a, .int .i64 b] 30) := by
  go_enter Try.func31, Try.ntmps31
  go_wp2
  all_goals go_ret
  all_goals refine ⟨ret_u8 ?_, rfl⟩
  · unfold sgN; rw [if_pos ‹0 < a›, if_pos ‹0 < b›]; rfl
  · unfold sgN; rw [if_pos ‹0 < a›, if_neg (Int.not_lt.2 ‹b ≤ 0›)]; rfl
  · unfold sgN; rw [if_neg (Int.not_lt.2 ‹a ≤ 0›), if_pos ‹0 < b›]; rfl
  · unfold sgN; rw [if_neg (Int.not_lt.2 ‹a ≤ 0›), if_neg (Int.not_lt.2 ‹b ≤ 0›)]; rfl
/-- A signer in memory. -/
structure SgAt (w : World) (b : Nat) (wd dm : Nat) (sd : Int) : Prop where
  c0 : w.cell? ⟨b, 0, none⟩ = some (.int .i64 wd)
  c1 : w.cell? ⟨b, 1, none⟩ = some (.int .i64 dm)
  c2 : w.cell? ⟨b, 2, none⟩ = some (.int .u64 sd)
theorem SgAt.lt {w : World} {b wd dm : Nat} {sd : Int} (h : SgAt w b wd dm sd) : b < w.heap.size := World.block_lt_of_cell? w _ h.c0
theorem SgAt.below {w w' : World} {b wd dm : Nat} {sd : Int} (h : SgAt w b wd dm sd) (k : Below w.heap.size w w') : SgAt w' b wd dm sd := ⟨cell_lat k h.c0, cell_lat k h.c1, cell_lat k h.c2⟩
theorem SgAt.same {w w' : World} {b wd dm : Nat} {sd : Int} (h : SgAt w b wd dm sd) (k : w'.heap[b]? = w.heap[b]?) : SgAt w' b wd dm sd := ⟨(World.cell?_of_block (a := ⟨b, 0, none⟩) k).trans h.c0, (World.cell?_of_block (a := ⟨b, 1, none⟩) k).trans h.c1, (World.cell?_of_block (a := ⟨b, 2, none⟩) k).trans h.c2⟩
/-- What New answers. -/
def nwE (x d : Int) : Int := if isW x = true then (if 1 ≤ d ∧ d ≤ 1024 then 0 else 190) else 10
end Go.Proofs.Ytmdmjjobhkpojaa
