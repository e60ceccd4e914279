/-
  DERIVED. JBits, SMath, SFix, SFixB, SVar, as one text.
-/
import Derived.Test.YtcamnalmcghjfaaGreatDoorTzAA
import Derived.Shelf.RegionOpen
import Derived.Test.YtcamnalmcghjfaaGreatDoorRows
import Derived.OwnWalk
set_option linter.unusedVariables false
set_option linter.unusedSimpArgs false
namespace Go.Proofs.YtcamnalmcghjfaaGreatDoor
open Go.RowKit Go.Shelf
/-- Is this number a width? -/
def isW (x : Int) : Bool := decide (64 ≤ x) && (decide (x ≤ 1024) && (x % 64 == 0))
theorem isW_pos {x : Int} (h1 : 64 ≤ x) (h2 : x ≤ 1024) : isW x = (x % 64 == 0) := by simp [isW, h1, h2]
theorem isW_big {x : Int} (h2 : 1024 < x) : isW x = false := by simp [isW]; omega
theorem isW_small {x : Int} (h2 : x < 64) : isW x = false := by simp [isW]; omega
set_option maxHeartbeats 400000 in
theorem isWidth_any (x : Int) (w : World) :
    Calls Tryz.prog 76 #[.int .i64 x] w fun e w' => e = .returned (.bool (isW x)) ∧ w' = w := by
  go_enter Tryz.func76, Tryz.ntmps76
  go_wp2
  all_goals go_ret
  · exact ⟨ret_bool (isW_pos ‹_› ‹_›).symm, rfl⟩
  · exact ⟨ret_bool (isW_big ‹_›).symm, rfl⟩
  · exact ⟨ret_bool (isW_small ‹_›).symm, rfl⟩
/-- What Check answers. -/
def chk (x : Int) (n : Nat) : Int := if isW x = true then (if (n : Int) = x / 8 then 0 else 11) else 10
theorem isW_bd {x : Int} (h : isW x = true) : 64 ≤ x ∧ x ≤ 1024 := by simp [isW] at h; omega
theorem isW_mod {x : Int} (h : isW x = true) : x % 64 = 0 := by simp [isW] at h; omega
theorem chk10 {x : Int} {n : Nat} (h : isW x = false) : chk x n = 10 := by simp [chk, h]
theorem chk11 {x : Int} {n : Nat} (h : isW x = true) (k : ((n : Int) != x / 8) = true) : chk x n = 11 := by
  have : ¬ (n : Int) = x / 8 := by simpa using k
  simp [chk, h, this]
theorem chk0 {x : Int} {n : Nat} (h : isW x = true) (k : ((n : Int) != x / 8) = false) : chk x n = 0 := by
  have : (n : Int) = x / 8 := by simpa using k
  simp [chk, h, this]
theorem chk_ok {x : Int} {n : Nat} : chk x n = 0 ↔ isW x = true ∧ (n : Int) = x / 8 := by
  unfold chk; split
  · split <;> simp_all
  · simp_all
theorem chk_w {x : Int} : chk x 0 = 10 ↔ isW x = false := by
  unfold chk
  cases h : isW x
  · simp
  · simp only [if_pos]; split <;> simp
set_option maxHeartbeats 400000 in
theorem bcheck_any (x : Int) (s : ByteArray) (w : World) :
    Calls Tryz.prog 58 #[.int .i64 x, .string s] w fun e w' => e = .returned (.int .i64 (chk x s.size)) ∧ w' = w := by
  cases hW : isW x
  · have HW : Hid (isW x = false) := hW
    go_enter Tryz.func58, Tryz.ntmps58
    go_wp2_with (go_at_call 76; refine (isWidth_any _ _).mono ?_; rintro e w' ⟨rfl, rfl⟩)
    go_ret
    exact ⟨ret_int (chk10 HW.out).symm, rfl⟩
  · have HW : Hid (isW x = true) := hW
    have hb := isW_bd hW
    cases hn : ((s.size : Int) != x / 8)
    · have Hn : Hid (((s.size : Int) != x / 8) = false) := hn
      go_enter Tryz.func58, Tryz.ntmps58
      go_wp2_with (go_at_call 76; refine (isWidth_any _ _).mono ?_; rintro e w' ⟨rfl, rfl⟩)
      go_ret
      exact ⟨ret_int (chk0 HW.out Hn.out).symm, rfl⟩
    · have Hn : Hid (((s.size : Int) != x / 8) = true) := hn
      go_enter Tryz.func58, Tryz.ntmps58
      go_wp2_with (go_at_call 76; refine (isWidth_any _ _).mono ?_; rintro e w' ⟨rfl, rfl⟩)
      go_ret
      exact ⟨ret_int (chk11 HW.out Hn.out).symm, rfl⟩
set_option maxHeartbeats 400000 in
theorem jWidth_any (x : Int) (w : World) :
    Calls Tryz.prog 46 #[.int .i64 x] w fun e w' => e = .returned (.bool (isW x)) ∧ w' = w := by
  go_enter Tryz.func46, Tryz.ntmps46
  go_wp2_with (go_at_call 58; refine (bcheck_any _ _ _).mono ?_; rintro e w' ⟨rfl, rfl⟩)
  go_ret
  refine ⟨ret_bool ?_, rfl⟩
  have := @chk_w x
  cases h : isW x <;> simp_all
set_option maxHeartbeats 400000 in
theorem isNumber_any (x : Int) (w : World) :
    Calls Tryz.prog 45 #[.int .i64 x] w fun e w' => e = .returned (.bool (decide (1 ≤ x ∧ x ≤ 1099511627776))) ∧ w' = w := by
  go_enter Tryz.func45, Tryz.ntmps45
  go_wp2
  all_goals go_ret
  all_goals exact ⟨ret_bool (by simp; omega), rfl⟩
set_option maxHeartbeats 400000 in
theorem isSeq_any (x : Int) (w : World) :
    Calls Tryz.prog 47 #[.int .i64 x] w fun e w' => e = .returned (.bool (decide (1 ≤ x ∧ x ≤ 1152921504606846976))) ∧ w' = w := by
  go_enter Tryz.func47, Tryz.ntmps47
  go_wp2
  all_goals go_ret
  all_goals exact ⟨ret_bool (by simp; omega), rfl⟩
set_option maxHeartbeats 400000 in
theorem isKind_any (x : Int) (w : World) :
    Calls Tryz.prog 54 #[.int .i64 x] w fun e w' => e = .returned (.bool (decide (x = 1 ∨ x = 2))) ∧ w' = w := by
  go_enter Tryz.func54, Tryz.ntmps54
  go_wp2
  all_goals go_ret
  all_goals exact ⟨ret_bool (by by_cases h1 : x = 1 <;> by_cases h2 : x = 2 <;> simp_all), rfl⟩
set_option maxHeartbeats 400000 in
theorem isID_any (x : Int) (w : World) :
    Calls Tryz.prog 55 #[.int .i64 x] w fun e w' => e = .returned (.bool (decide (0 ≤ x ∧ x ≤ 281474976710656))) ∧ w' = w := by
  go_enter Tryz.func55, Tryz.ntmps55
  go_wp2
  all_goals go_ret
  all_goals exact ⟨ret_bool (by simp; omega), rfl⟩
/-- Does an update fit? -/
def fitB (k : Int) (n : Nat) (x : Int) : Bool := if k = 2 then n == 0 else chk x n == 0
end Go.Proofs.YtcamnalmcghjfaaGreatDoor
namespace Go.Proofs.SealMath
/-- One shift of the register. -/
def st (r : Nat) : Nat := if r % 2 = 1 then (r / 2) ^^^ 2197175160 else r / 2
def stN : Nat → Nat → Nat
  | 0, r => r
  | k + 1, r => stN k (st r)
theorem stN_succ (k r : Nat) : stN (k + 1) r = st (stN k r) := by
  induction k generalizing r with
  | zero => rfl
  | succ k ih => show stN (k + 1) (st r) = _; rw [ih]; rfl
theorem stN_add (a b r : Nat) : stN (a + b) r = stN b (stN a r) := by
  induction a generalizing r with
  | zero => rw [Nat.zero_add]; rfl
  | succ a ih => rw [Nat.succ_add]; show stN (a + b) (st r) = _; rw [ih]; rfl
/-- A byte goes in. -/
def rb (r c : Nat) : Nat := stN 8 (r ^^^ c)
theorem rb_def (r c : Nat) : rb r c = stN 8 (r ^^^ c) := by unfold rb; rfl
def regs (r : Nat) (l : List UInt8) : Nat := l.foldl (fun r c => rb r c.toNat) r
theorem regs_append (r : Nat) (a b : List UInt8) : regs r (a ++ b) = regs (regs r a) b := by unfold regs; rw [List.foldl_append]
theorem regs_one (r : Nat) (c : UInt8) : regs r [c] = rb r c.toNat := by unfold regs; rw [List.foldl_cons, List.foldl_nil]
theorem regs_cons (r : Nat) (c : UInt8) (l : List UInt8) : regs r (c :: l) = regs (rb r c.toNat) l := by unfold regs; rw [List.foldl_cons]
/-- The sum of a text that goes on from s. -/
def crc (s : Nat) (l : List UInt8) : Nat := regs (s ^^^ 4294967295) l ^^^ 4294967295
theorem st_lt {r : Nat} (h : r < 4294967296) : st r < 4294967296 := by
  unfold st
  split
  · exact Nat.xor_lt_two_pow (n := 32) (by omega) (by omega)
  · omega
theorem stN_lt (k : Nat) : ∀ {r : Nat}, r < 4294967296 → stN k r < 4294967296 := by
  induction k with
  | zero => intro r h; exact h
  | succ k ih => intro r h; exact ih (st_lt h)
theorem rb_lt {r c : Nat} (h : r < 4294967296) (hc : c < 256) : rb r c < 4294967296 :=
  by rw [rb_def]; exact stN_lt 8 (Nat.xor_lt_two_pow (n := 32) h (by omega))
theorem regs_lt {r : Nat} (l : List UInt8) (h : r < 4294967296) : regs r l < 4294967296 := by
  induction l generalizing r with
  | nil => exact h
  | cons c l ih => rw [regs_cons]; exact ih (rb_lt h c.toNat_lt)
theorem flip_lt {r : Nat} (h : r < 4294967296) : r ^^^ 4294967295 < 4294967296 := Nat.xor_lt_two_pow (n := 32) h (by omega)
theorem crc_lt {s : Nat} (l : List UInt8) (h : s < 4294967296) : crc s l < 4294967296 := flip_lt (regs_lt l (flip_lt h))
theorem flip_flip (r : Nat) : r ^^^ 4294967295 ^^^ 4294967295 = r := by rw [Nat.xor_assoc, Nat.xor_self, Nat.xor_zero]
theorem flip_sub {r : Nat} (h : r < 4294967296) : r ^^^ 4294967295 = 4294967295 - r := by
  apply Nat.eq_of_testBit_eq
  intro i
  have e : (4294967295 : Nat) - r = 2 ^ 32 - (r + 1) := by omega
  rw [e, Nat.testBit_two_pow_sub_succ (by omega), Nat.testBit_xor, show (4294967295 : Nat) = 2 ^ 32 - 1 by rfl, Nat.testBit_two_pow_sub_one]
  by_cases hi : i < 32
  · simp [hi]
  · have : r.testBit i = false := Nat.testBit_lt_two_pow (Nat.lt_of_lt_of_le (show r < 2 ^ 32 from h) (Nat.pow_le_pow_right (by decide) (Nat.not_lt.1 hi)))
    simp [hi, this]
theorem crc_append (s : Nat) (a b : List UInt8) : crc s (a ++ b) = crc (crc s a) b := by
  unfold crc; rw [flip_flip, regs_append]
theorem st_xor (a b : Nat) : st (a ^^^ b) = st a ^^^ st b := by
  unfold st
  have h2 : (a ^^^ b) / 2 = a / 2 ^^^ b / 2 := Nat.xor_div_two
  have h1 : (a ^^^ b) % 2 = (a + b) % 2 := by
    have := @Nat.xor_mod_two_eq_one a b
    by_cases h : (a ^^^ b) % 2 = 1 <;> by_cases ha : a % 2 = 1 <;> by_cases hb : b % 2 = 1 <;> simp [h, ha, hb] at this <;> omega
  rw [h1, h2]
  rcases Nat.mod_two_eq_zero_or_one a with ha | ha <;> rcases Nat.mod_two_eq_zero_or_one b with hb | hb
  · rw [if_neg (by omega), if_neg (by omega), if_neg (by omega)]
  · rw [if_pos (by omega), if_neg (by omega), if_pos (by omega), Nat.xor_assoc]
  · rw [if_pos (by omega), if_pos (by omega), if_neg (by omega), Nat.xor_assoc, Nat.xor_comm (b / 2), ← Nat.xor_assoc]
  · rw [if_neg (by omega), if_pos (by omega), if_pos (by omega)]
    have e : a / 2 ^^^ 2197175160 ^^^ (b / 2 ^^^ 2197175160) = a / 2 ^^^ b / 2 ^^^ (2197175160 ^^^ 2197175160) := by
      rw [Nat.xor_assoc, Nat.xor_assoc, Nat.xor_comm (b / 2) 2197175160, ← Nat.xor_assoc 2197175160, Nat.xor_comm _ (b / 2)]
    rw [e, Nat.xor_self, Nat.xor_zero]
theorem stN_xor (k a b : Nat) : stN k (a ^^^ b) = stN k a ^^^ stN k b := by
  induction k generalizing a b with
  | zero => rfl
  | succ k ih => show stN k (st (a ^^^ b)) = _; rw [st_xor, ih]; rfl
theorem st_two (x : Nat) : st (2 * x) = x := by unfold st; rw [if_neg (by omega)]; omega
theorem stN_pow (k x : Nat) : stN k (2 ^ k * x) = x := by
  induction k with
  | zero => show 2 ^ 0 * x = x; rw [Nat.pow_zero, Nat.one_mul]
  | succ k ih => show stN k (st _) = x; rw [Nat.pow_succ, Nat.mul_comm (2 ^ k) 2, Nat.mul_assoc, st_two, ih]
theorem cut_xor (k r : Nat) : r = (2 ^ k * (r / 2 ^ k)) ^^^ (r % 2 ^ k) := by
  apply Nat.eq_of_testBit_eq
  intro i
  rw [Nat.testBit_xor, Nat.testBit_two_pow_mul, Nat.testBit_mod_two_pow]
  by_cases h : i < k
  · simp [h, Nat.not_le.2 h]
  · rw [Nat.testBit_div_two_pow]; simp [h, Nat.not_lt.1 h]
/-- Four shifts are one look at the table. -/
theorem stN4 (r : Nat) : stN 4 r = (r / 16) ^^^ stN 4 (r % 16) := by
  have h := cut_xor 4 r
  have h2 := stN_pow 4 (r / 2 ^ 4)
  have h3 := stN_xor 4 (2 ^ 4 * (r / 2 ^ 4)) (r % 2 ^ 4)
  rw [← h, h2] at h3
  exact h3
def tabN : List Nat := [0, 274646895, 549293790, 820201905, 1098587580, 1361435347, 1640403810, 1905808397, 2197175160, 2460548119, 2722870694, 2987750089, 3280807620, 3553878443, 3811616794, 4084100981]
theorem tabN_at : ∀ i, i < 16 → tabN.getD i 0 = stN 4 i := by decide +kernel
theorem rb_two (r c : Nat) : rb r c = stN 4 (stN 4 (r ^^^ c)) := by rw [rb_def]; exact stN_add 4 4 _
end Go.Proofs.SealMath
namespace Go.Proofs.YtcamnalmcghjfaaGreatDoor
open Go.RowKit Go.Proofs.SealMath
theorem isSize_any (n : Int) (w : World) :
    Calls Tryz.prog 87 #[.int .i64 n] w fun e w' => e = .returned (.bool (decide (1 ≤ n ∧ n ≤ 8))) ∧ w' = w := by
  by_cases h1 : 1 ≤ n
  · by_cases h2 : n ≤ 8
    · go_enter Tryz.func87, Tryz.ntmps87
      go_wp2
      go_ret
      exact ⟨ret_bool (by simp [h1, h2]), rfl⟩
    · go_enter Tryz.func87, Tryz.ntmps87
      go_wp2
      go_ret
      exact ⟨ret_bool (by simp [h2]), rfl⟩
  · go_enter Tryz.func87, Tryz.ntmps87
    go_wp2
    go_ret
    exact ⟨ret_bool (by rw [decide_eq_false (show ¬ 1 ≤ n by omega)]; rfl), rfl⟩
/-- The bytes of a number, the greatest first. -/
def fxB (v n k : Nat) : Nat := v / 256 ^ (n - 1 - k) % 256
def fixL (v n : Nat) : List UInt8 := (List.range n).map fun k => UInt8.ofNat (fxB v n k)
theorem fixL_len (v n : Nat) : (fixL v n).length = n := by simp [fixL]
theorem fixL_at (v n k : Nat) (h : k < n) : (fixL v n)[k]'(by rw [fixL_len]; exact h) = UInt8.ofNat (fxB v n k) := by simp [fixL]
theorem fixL_nat (v n k : Nat) (h : k < n) : ((fixL v n)[k]'(by rw [fixL_len]; exact h)).toNat = fxB v n k := by
  rw [fixL_at v n k h, UInt8.toNat_ofNat']; exact Nat.mod_mod _ _
theorem pow256 (k : Nat) : 256 ^ k = 2 ^ (8 * k) := by rw [Nat.pow_mul]
theorem arr8_slice (W : World) (g n : Nat) (hn : n ≤ 8) :
    (Instr.sliceAt 125 (.pointer (some ⟨g, 0, none⟩)) none (some (.int .i64 n)) none).run Tryz.prog W = .ok (.slice (some ⟨g, 0, none⟩) n 8) W := by
  have hal : Tryz.prog.arrayLen 125 = 8 := by simp [Program.arrayLen, Tryz.underlying125]
  rw [run_sliceAt_array_h W 125 ⟨g, 0, none⟩ (by simp [Program.arrayLen, Program.elem, Tryz.underlying125]) .i64 (n : Int) (by omega) (by rw [hal]; omega)]
  have he : Tryz.prog.elem 125 = 5 := by simp [Program.elem, Tryz.underlying125]
  have hs : (sizeOf 5).run Tryz.prog W = .ok 1 W := by kernel_rfl
  rw [he, hs, hal]
  have ea : (⟨g, 0, none⟩ : Addr).add 0 = ⟨g, 0, none⟩ := by unfold Addr.add; split <;> simp_all
  simp [slicedAt, Result.andThen, ea]
set_option maxRecDepth 100000 in
set_option maxHeartbeats 4000000 in
theorem putfix_ok (v n : Nat) (w : World) (_hv : v < 18446744073709551616) (h1 : 1 ≤ n) (h8 : n ≤ 8) (hs : v < 256 ^ n) :
    Calls Tryz.prog 72 #[.int .u64 v, .int .i64 n] w fun e w' => e = .returned (.tuple #[.string ⟨(fixL v n).toArray⟩, .int .i64 0]) ∧ Below w.heap.size w w' := by
  have hz : ((v : Int) / 2 ^ (8 * n) != 0) = false := by
    have e : ((v : Int) / 2 ^ (8 * n)) = ((v / 2 ^ (8 * n) : Nat) : Int) := by simp
    rw [e, ← pow256, Nat.div_eq_of_lt hs]; rfl
  clear hs
  go_enter Tryz.func72, Tryz.ntmps72
  go_wp2_with fail
  refine (isSize_any _ _).mono ?_
  rintro e w1 ⟨rfl, rfl⟩
  rw [decide_eq_true (by omega : 1 ≤ (n : Int) ∧ (n : Int) ≤ 8)]
  go_wp2
  go_loopw [17] (fun u wr => ∃ i : Nat, u = .int .i64 i ∧ i ≤ n ∧ BA wr w1.heap.size 8 (fun k => if k < i then fxB v n k else 0) ∧ Below w1.heap.size w1 wr) (fun u _ => n - (intOf u).toNat)
  case atStart => exact ⟨0, rfl, Nat.zero_le _, BA.new w1 125 8 _ rfl, (Below.refl _ _).alloc (Nat.le_refl _) _⟩
  case round =>
    obtain ⟨i, rfl, hi, hBA, hbl⟩ := hrel
    by_cases hlt : i < n
    · obtain ⟨hc, hfz⟩ := hBA i (by omega)
      have HB : Hid (BA wr w1.heap.size 8 (fun k => if k < i then fxB v n k else 0)) := hBA
      clear hBA
      go_wp2
      have e : ((v : Int) / 2 ^ (8 * (n - 1 - i)) % 256) = ((fxB v n i : Nat) : Int) := by
        unfold fxB; rw [pow256]; simp
      rw [e]
      refine ⟨⟨i + 1, rfl, hlt, (HB.out.set i (fxB v n i)).ext fun k _ => ?_, hbl.setCell (p := ⟨w1.heap.size, i, none⟩) (Nat.le_refl _) _⟩, by simp only [intOf]; omega⟩
      by_cases e1 : k = i
      · subst e1; rw [if_pos rfl, if_pos (by omega)]
      · by_cases e2 : k < i
        · rw [if_neg e1, if_pos e2, if_pos (by omega)]
        · rw [if_neg e1, if_neg e2, if_neg (by omega)]
    · have e : i = n := by omega
      subst e
      have hcv := hBA.conv (fixL v i) 8 (by rw [fixL_len]; exact h8) (fun k hk => by
        rw [fixL_len] at hk
        rw [fixL_nat v i k hk, if_pos hk])
      rw [fixL_len] at hcv
      clear hBA
      have hsl := arr8_slice wr w1.heap.size i h8
      go_wp2
      go_ret2
      exact ⟨rfl, hbl⟩
/-- What PutFix answers. -/
def pfE (v : Nat) (n : Int) : Int := if 1 ≤ n ∧ n ≤ 8 then if v < 256 ^ n.toNat then 0 else 30 else 13
def pfT (v : Nat) (n : Int) : List UInt8 := if 1 ≤ n ∧ n ≤ 8 then if v < 256 ^ n.toNat then fixL v n.toNat else [] else []
set_option maxRecDepth 100000 in
set_option maxHeartbeats 1000000 in
theorem putfix_any (v : Nat) (n : Int) (w : World) (hv : v < 18446744073709551616) :
    Calls Tryz.prog 72 #[.int .u64 v, .int .i64 n] w fun e w' => e = .returned (.tuple #[.string ⟨(pfT v n).toArray⟩, .int .i64 (pfE v n)]) ∧ Below w.heap.size w w' := by
  unfold pfT pfE
  by_cases h : 1 ≤ n ∧ n ≤ 8
  · rw [if_pos h, if_pos h]
    obtain ⟨a, rfl⟩ : ∃ a : Nat, n = a := ⟨n.toNat, by omega⟩
    rw [Int.toNat_natCast]
    by_cases hs : v < 256 ^ a
    · rw [if_pos hs, if_pos hs]
      exact putfix_ok v a w hv (by omega) (by omega) hs
    · rw [if_neg hs, if_neg hs]
      have ha : 1 ≤ a ∧ a ≤ 8 := by omega
      clear h
      have hz : ((v : Int) / 2 ^ (8 * a) != 0) = true := by
        have e : ((v : Int) / 2 ^ (8 * a)) = ((v / 2 ^ (8 * a) : Nat) : Int) := by simp
        have hp : 0 < v / 2 ^ (8 * a) := Nat.div_pos (by rw [← pow256]; omega) (Nat.two_pow_pos _)
        rw [e]; simp; omega
      clear hs
      go_enter Tryz.func72, Tryz.ntmps72
      go_wp2_with fail
      refine (isSize_any _ _).mono ?_
      rintro e w1 ⟨rfl, rfl⟩
      rw [decide_eq_true (by omega : 1 ≤ (a : Int) ∧ (a : Int) ≤ 8)]
      go_wp2
      go_ret2
      exact ⟨rfl, Below.refl _ _⟩
  · rw [if_neg h, if_neg h]
    go_enter Tryz.func72, Tryz.ntmps72
    go_wp2_with fail
    refine (isSize_any _ _).mono ?_
    rintro e w1 ⟨rfl, rfl⟩
    rw [decide_eq_false h]
    go_wp2
    go_ret2
    exact ⟨rfl, Below.refl _ _⟩
/-- The number of some bytes, the greatest first. -/
def numL (l : List UInt8) : Nat := l.foldl (fun v c => 256 * v + c.toNat) 0
theorem numL_snoc (l : List UInt8) (c : UInt8) : numL (l ++ [c]) = 256 * numL l + c.toNat := by unfold numL; rw [List.foldl_append]; rfl
theorem numL_lt (l : List UInt8) : numL l < 256 ^ l.length := by
  suffices h : ∀ (m : List UInt8), numL m.reverse < 256 ^ m.length by simpa using h l.reverse
  intro m
  induction m with
  | nil => exact Nat.one_pos
  | cons c m ih => rw [List.reverse_cons, numL_snoc, List.length_cons, Nat.pow_succ]; have := c.toNat_lt; omega
/-- The part of a text. -/
def sub (b : ByteArray) (a n : Nat) : List UInt8 := (b.data.toList.drop a).take n
theorem sub_len (b : ByteArray) (a n : Nat) (h : a + n ≤ b.size) : (sub b a n).length = n := by
  unfold sub; rw [List.length_take, List.length_drop]; have : b.data.toList.length = b.size := Array.length_toList
  omega
theorem sub_snoc (b : ByteArray) (a n : Nat) (h : a + n < b.size) : sub b a (n + 1) = sub b a n ++ [b[a + n]] := by
  unfold sub
  have hl : n < (b.data.toList.drop a).length := by rw [List.length_drop]; have : b.data.toList.length = b.size := Array.length_toList
                                                    omega
  rw [List.take_succ_eq_append_getElem hl]; simp; rfl
theorem numL_sub_lt (b : ByteArray) (a n m : Nat) (h : a + n ≤ b.size) (hm : n ≤ m) : numL (sub b a n) < 256 ^ m := by
  have := numL_lt (sub b a n)
  rw [sub_len b a n h] at this
  exact Nat.lt_of_lt_of_le this (Nat.pow_le_pow_right (by decide) hm)
end Go.Proofs.YtcamnalmcghjfaaGreatDoor
namespace Go.Proofs.YtcamnalmcghjfaaGreatDoor
open Go.RowKit Go.Proofs.SealMath
theorem isPlace_any (b : ByteArray) (p : Int) (w : World) :
    Calls Tryz.prog 88 #[.string b, .int .i64 p] w fun e w' => e = .returned (.bool (decide (0 ≤ p ∧ p ≤ b.size))) ∧ w' = w := by
  by_cases h1 : 0 ≤ p
  · by_cases h2 : p ≤ (b.size : Int)
    · go_enter Tryz.func88, Tryz.ntmps88
      go_wp2
      go_ret
      exact ⟨ret_bool (by simp [h1, h2]), rfl⟩
    · go_enter Tryz.func88, Tryz.ntmps88
      go_wp2
      go_ret
      exact ⟨ret_bool (by simp [h2]), rfl⟩
  · go_enter Tryz.func88, Tryz.ntmps88
    go_wp2
    go_ret
    exact ⟨ret_bool (by rw [decide_eq_false (show ¬ 0 ≤ p by omega)]; rfl), rfl⟩
theorem or_add (v c : Nat) (hc : c < 256) : v * 256 ||| c = 256 * v + c := by
  have := Nat.two_pow_add_eq_or_of_lt (i := 8) (b := c) (by omega) v
  rw [Nat.mul_comm v 256]; exact this.symm
theorem numL_bound (b : ByteArray) (a n m : Nat) (h : a + n ≤ b.size) (hm : n ≤ m) (h8 : m ≤ 8) : numL (sub b a n) < 18446744073709551616 := by
  have := numL_sub_lt b a n 8 h (by omega); simpa using this
set_option maxRecDepth 100000 in
set_option maxHeartbeats 4000000 in
theorem fix_ok (b : ByteArray) (a n : Nat) (w : World) (hb : b.size < 4611686018427387904) (h1 : 1 ≤ n) (h8 : n ≤ 8) (hs : a + n ≤ b.size) :
    Calls Tryz.prog 108 #[.string b, .int .i64 a, .int .i64 n] w fun e w' => e = .returned (.tuple #[.int .u64 (numL (sub b a n)), .int .i64 0]) ∧ w' = w := by
  go_enter Tryz.func108, Tryz.ntmps108
  go_wp2_with fail
  refine (isSize_any _ _).mono ?_
  rintro e w1 ⟨rfl, rfl⟩
  rw [decide_eq_true (by omega : 1 ≤ (n : Int) ∧ (n : Int) ≤ 8)]
  go_wp2_with fail
  refine (isPlace_any _ _ _).mono ?_
  rintro e w1 ⟨rfl, rfl⟩
  rw [decide_eq_true (by omega : 0 ≤ (a : Int) ∧ (a : Int) ≤ b.size)]
  go_wp2
  go_loopw [8, 26] (fun x u wr => ∃ i : Nat, u = .int .i64 i ∧ x = .int .u64 (numL (sub b a i)) ∧ i ≤ n ∧ wr = w1) (fun _ u _ => n - (intOf u).toNat)
  case atStart => exact ⟨0, rfl, rfl, Nat.zero_le _, rfl⟩
  case round =>
    obtain ⟨i, rfl, rfl, hi, rfl⟩ := hrel
    by_cases hlt : i < n
    · have hc := (b[a + i]).toNat_lt
      have HV : Hid (numL (sub b a (i + 1)) = 256 * numL (sub b a i) + (b[a + i]).toNat) := by
        show _ = _; rw [sub_snoc b a i (by omega), numL_snoc]
      have hB := numL_bound b a (i + 1) n (by omega) hlt h8
      rw [HV.out] at hB
      have ho := u64_or_nat (numL (sub b a i) * 256) (b[a + i]).toNat (by omega) (by omega)
      rw [or_add _ _ hc] at ho
      generalize numL (sub b a i) = V at *
      rw [show ((V * 256 : Nat) : Int) = (V : Int) * 256 by simp] at ho
      go_wp2
      refine ⟨⟨i + 1, rfl, ?_, hlt, trivial⟩, by simp only [intOf]; omega⟩
      rw [HV.out]; rfl
    · have e : i = n := by omega
      subst e
      go_wp2
      go_ret2
      exact ⟨rfl, rfl⟩
/-- What Fix answers. -/
def fxE (b : ByteArray) (p n : Int) : Int := if 1 ≤ n ∧ n ≤ 8 then if 0 ≤ p ∧ p ≤ b.size then if n ≤ b.size - p then 0 else 31 else 13 else 13
def fxV (b : ByteArray) (p n : Int) : Nat := if fxE b p n = 0 then numL (sub b p.toNat n.toNat) else 0
theorem fxE_ok {b : ByteArray} {p n : Int} (h : 1 ≤ n ∧ n ≤ 8) (k : 0 ≤ p ∧ p ≤ b.size) (l : n ≤ b.size - p) : fxE b p n = 0 := by unfold fxE; rw [if_pos h, if_pos k, if_pos l]
theorem fxE_31 {b : ByteArray} {p n : Int} (h : 1 ≤ n ∧ n ≤ 8) (k : 0 ≤ p ∧ p ≤ b.size) (l : ¬ n ≤ b.size - p) : fxE b p n = 31 := by unfold fxE; rw [if_pos h, if_pos k, if_neg l]
theorem fxE_13 {b : ByteArray} {p n : Int} (h : 1 ≤ n ∧ n ≤ 8) (k : ¬ (0 ≤ p ∧ p ≤ b.size)) : fxE b p n = 13 := by unfold fxE; rw [if_pos h, if_neg k]
theorem fxE_13' {b : ByteArray} {p n : Int} (h : ¬ (1 ≤ n ∧ n ≤ 8)) : fxE b p n = 13 := by unfold fxE; rw [if_neg h]
set_option maxRecDepth 100000 in
set_option maxHeartbeats 1000000 in
theorem fix_any (b : ByteArray) (p n : Int) (w : World) (hb : b.size < 4611686018427387904) :
    Calls Tryz.prog 108 #[.string b, .int .i64 p, .int .i64 n] w fun e w' => e = .returned (.tuple #[.int .u64 (fxV b p n), .int .i64 (fxE b p n)]) ∧ w' = w := by
  by_cases h : 1 ≤ n ∧ n ≤ 8
  · by_cases k : 0 ≤ p ∧ p ≤ b.size
    · by_cases l : n ≤ b.size - p
      · obtain ⟨a, rfl⟩ : ∃ a : Nat, n = a := ⟨n.toNat, by omega⟩
        obtain ⟨q, rfl⟩ : ∃ a : Nat, p = a := ⟨p.toNat, by omega⟩
        unfold fxV; rw [if_pos (fxE_ok h k l), fxE_ok h k l]
        exact fix_ok b q a w hb (by omega) (by omega) (by omega)
      · unfold fxV; rw [fxE_31 h k l, if_neg (by decide)]
        go_enter Tryz.func108, Tryz.ntmps108
        go_wp2_with fail
        refine (isSize_any _ _).mono ?_
        rintro e w1 ⟨rfl, rfl⟩
        rw [decide_eq_true h]
        go_wp2_with fail
        refine (isPlace_any _ _ _).mono ?_
        rintro e w1 ⟨rfl, rfl⟩
        rw [decide_eq_true k]
        obtain ⟨k1, k2⟩ := k
        obtain ⟨h1, h2⟩ := h
        go_wp2
        go_ret2
        exact ⟨rfl, rfl⟩
    · unfold fxV; rw [fxE_13 h k, if_neg (by decide)]
      go_enter Tryz.func108, Tryz.ntmps108
      go_wp2_with fail
      refine (isSize_any _ _).mono ?_
      rintro e w1 ⟨rfl, rfl⟩
      rw [decide_eq_true h]
      go_wp2_with fail
      refine (isPlace_any _ _ _).mono ?_
      rintro e w1 ⟨rfl, rfl⟩
      rw [decide_eq_false k]
      clear h k
      go_wp2
      go_ret2
      exact ⟨rfl, rfl⟩
  · unfold fxV; rw [fxE_13' h, if_neg (by decide)]
    go_enter Tryz.func108, Tryz.ntmps108
    go_wp2_with fail
    refine (isSize_any _ _).mono ?_
    rintro e w1 ⟨rfl, rfl⟩
    rw [decide_eq_false h]
    clear h
    go_wp2
    go_ret2
    exact ⟨rfl, rfl⟩
theorem fixL_take (v n j : Nat) (h : j < n) : (fixL v n).take (j + 1) = (fixL v n).take j ++ [UInt8.ofNat (fxB v n j)] := by
  rw [List.take_succ_eq_append_getElem (by rw [fixL_len]; exact h), fixL_at v n j h]
end Go.Proofs.YtcamnalmcghjfaaGreatDoor
namespace Go.Proofs.YtcamnalmcghjfaaGreatDoor
open Go.RowKit Go.Proofs.SealMath
/-- The number of some bytes of seven bits, the lowest first. -/
def vN : List UInt8 → Nat
  | [] => 0
  | c :: l => c.toNat % 128 + 128 * vN l
theorem vN_snoc (l : List UInt8) (c : UInt8) : vN (l ++ [c]) = vN l + c.toNat % 128 * 2 ^ (7 * l.length) := by
  induction l with
  | nil => simp [vN]
  | cons d l ih =>
    have e : 2 ^ (7 * (d :: l).length) = 128 * 2 ^ (7 * l.length) := by
      rw [List.length_cons, Nat.mul_add, Nat.pow_add, Nat.mul_comm]
    rw [List.cons_append, vN, vN, ih, e, Nat.mul_add, ← Nat.mul_assoc, ← Nat.mul_assoc, Nat.mul_comm (c.toNat % 128) 128, Nat.mul_assoc]
    omega
theorem vN_lt (l : List UInt8) : vN l < 2 ^ (7 * l.length) := by
  induction l with
  | nil => simp [vN]
  | cons d l ih =>
    have e : 2 ^ (7 * (d :: l).length) = 128 * 2 ^ (7 * l.length) := by
      rw [List.length_cons, Nat.mul_add, Nat.pow_add, Nat.mul_comm]
    rw [vN, e]; omega
/-- How Var goes on at the k-th byte. -/
def vG (b : ByteArray) (p k : Nat) : Nat → Nat × Nat × Int
  | 0 => (0, 0, 0)
  | f + 1 => if h : p + k < b.size then
      if k = 9 ∧ 1 < (b[p + k]).toNat then (0, 0, 30)
      else if 128 ≤ (b[p + k]).toNat then vG b p (k + 1) f
      else if (b[p + k]).toNat = 0 ∧ 0 < k then (0, 0, 32)
      else (vN (sub b p (k + 1)), p + k + 1, 0)
    else (0, 0, 31)
theorem and127 (x : Nat) (hx : x < 256) : bits .and .u8 (x : Int) 127 = ((x % 128 : Nat) : Int) := by
  have h := u8_and_nat x 127 hx (by omega)
  rw [show (127 : Nat) = 2 ^ 7 - 1 by rfl, Nat.and_two_pow_sub_one_eq_mod] at h
  exact h
theorem or_high (v c k : Nat) (h : v < 2 ^ k) : v ||| c * 2 ^ k = v + c * 2 ^ k := by
  have := Nat.two_pow_add_eq_or_of_lt h c
  rw [Nat.or_comm, Nat.mul_comm c, Nat.add_comm v]; exact this.symm
theorem vterm_lt (v c k : Nat) (hv : v < 2 ^ (7 * k)) (hc : c % 128 < 128) (hk : k ≤ 9) (h9 : k = 9 → c ≤ 1) : v + c % 128 * 2 ^ (7 * k) < 18446744073709551616 := by
  have hcases : k = 0 ∨ k = 1 ∨ k = 2 ∨ k = 3 ∨ k = 4 ∨ k = 5 ∨ k = 6 ∨ k = 7 ∨ k = 8 ∨ k = 9 := by omega
  rcases hcases with rfl | rfl | rfl | rfl | rfl | rfl | rfl | rfl | rfl | rfl <;> simp at hv ⊢ <;> omega
theorem ret3 {a b c d e f : Value} (h : a = d) (k : b = e) (l : c = f) : Ending.returned (.tuple #[a, b, c]) = .returned (.tuple #[d, e, f]) := by rw [h, k, l]
set_option maxRecDepth 100000 in
set_option maxHeartbeats 8000000 in
theorem var_ok (b : ByteArray) (p : Nat) (R : Nat × Nat × Int) (w : World) (hb : b.size < 4611686018427387904) (hs : p ≤ b.size) (hR : R = vG b p 0 11) :
    Calls Tryz.prog 91 #[.string b, .int .i64 p] w fun e w' => e = .returned (.tuple #[.int .u64 R.1, .int .i64 R.2.1, .int .i64 R.2.2]) ∧ w' = w := by
  go_enter Tryz.func91, Tryz.ntmps91
  go_wp2_with fail
  refine (isPlace_any _ _ _).mono ?_
  rintro e w1 ⟨rfl, rfl⟩
  rw [decide_eq_true (by omega : 0 ≤ (p : Int) ∧ (p : Int) ≤ b.size)]
  go_wp2
  go_loopw [7, 18] (fun x u wr => ∃ k f : Nat, k + f = 11 ∧ k ≤ 9 ∧ p + k ≤ b.size ∧ u = .int .i64 k ∧ x = .int .u64 (vN (sub b p k)) ∧ R = vG b p k f ∧ wr = w1) (fun _ u _ => 10 - (intOf u).toNat)
  case atStart => exact ⟨0, 11, rfl, by omega, by omega, rfl, rfl, hR, rfl⟩
  case round =>
    obtain ⟨k, f, hkf, hk9, hpk, rfl, rfl, hG, rfl⟩ := hrel
    clear hR
    obtain ⟨f, rfl⟩ : ∃ g, f = g + 1 := ⟨f - 1, by omega⟩
    have HF : Hid (k + (f + 1) = 11) := hkf
    clear hkf
    have hlv := vN_lt (sub b p k)
    rw [sub_len b p k hpk] at hlv
    by_cases hlt : p + k < b.size
    · have hc := (b[p + k]).toNat_lt
      have hsn := vN_snoc (sub b p k) (b[p + k])
      rw [← sub_snoc b p k hlt, sub_len b p k hpk] at hsn
      rw [vG, dif_pos hlt] at hG
      by_cases h9 : k = 9 ∧ 1 < (b[p + k]).toNat
      · rw [if_pos h9] at hG
        subst hG
        obtain ⟨rfl, h1⟩ := h9
        clear hsn hlv
        go_wp2
        go_ret3
        exact ⟨rfl, rfl⟩
      · rw [if_neg h9] at hG
        have hb64 := vterm_lt (vN (sub b p k)) (b[p + k]).toNat k hlv (Nat.mod_lt _ (by omega)) hk9 (by omega)
        have ha := and127 (b[p + k]).toNat hc
        have ho := u64_or_nat (vN (sub b p k)) ((b[p + k]).toNat % 128 * 2 ^ (7 * k)) (by omega) (by omega)
        rw [or_high _ _ _ hlv, ← hsn] at ho
        have ec : (((b[p + k]).toNat % 128 * 2 ^ (7 * k) : Nat) : Int) = ((b[p + k]).toNat : Int) % 128 * 2 ^ (7 * k) := by simp
        have hw : IntKind.u64.wrap (((b[p + k]).toNat : Int) % 128 * 2 ^ (7 * k)) = (((b[p + k]).toNat % 128 * 2 ^ (7 * k) : Nat) : Int) := by
          rw [← ec, IntKind.wrap_u64]
          generalize (b[p + k]).toNat % 128 * 2 ^ (7 * k) = T at *
          omega
        rw [ec] at ho
        clear ec
        by_cases h128 : 128 ≤ (b[p + k]).toNat
        · rw [if_pos h128] at hG
          have h8 : k ≤ 8 := by omega
          clear h9 hsn
          have h9 : ¬ k = 9 := by omega
          have HO : Hid (bits BinOp.or IntKind.u64 ((vN (sub b p k) : Nat) : Int) (((b[p + k]).toNat : Int) % 128 * 2 ^ (7 * k)) = ((vN (sub b p (k + 1)) : Nat) : Int)) := ho
          clear ho
          go_wp2
          refine ⟨⟨k + 1, f, by have := HF.out; omega, by omega, by omega, rfl, ?_, hG, trivial⟩, by simp only [intOf]; omega⟩
          exact ival HO.out
        · rw [if_neg h128] at hG
          by_cases h0 : (b[p + k]).toNat = 0 ∧ 0 < k
          · rw [if_pos h0] at hG
            subst hG
            obtain ⟨h00, h01⟩ := h0
            clear h9 hw ho hsn hb64 ha hlv
            by_cases hk : k = 9
            · subst hk
              go_wp2
              go_ret3
              exact ⟨rfl, rfl⟩
            · go_wp2
              go_ret3
              exact ⟨rfl, rfl⟩
          · rw [if_neg h0] at hG
            subst hG
            have HO : Hid (bits BinOp.or IntKind.u64 ((vN (sub b p k) : Nat) : Int) (((b[p + k]).toNat : Int) % 128 * 2 ^ (7 * k)) = ((vN (sub b p (k + 1)) : Nat) : Int)) := ho
            clear ho
            by_cases h00 : (b[p + k]).toNat = 0
            · have hk0 : k = 0 := by omega
              subst hk0
              have HZ : Hid (vN (sub b p (0 + 1)) = 0) := by
                show _ = _; rw [hsn, h00]; rfl
              have hlt' : p < b.size := hlt
              have h00' : (b[p]'hlt').toNat = 0 := h00
              clear h9 HO hw hsn ha hb64 hlv h128 h0 h00 hc
              go_wp2
              go_ret3
              refine ⟨ret3 (ival ?_) rfl rfl, rfl⟩
              have e0 : vN (sub b p 0) = 0 := by unfold sub; rw [List.take_zero]; rfl
              rw [HZ.out, e0]
              decide +kernel
            · clear hsn
              by_cases hk : k = 9
              · have hle : ¬ 1 < (b[p + k]).toNat := by omega
                subst hk
                clear h9 h0
                go_wp2
                go_ret3
                exact ⟨ret3 (ival HO.out) rfl rfl, rfl⟩
              · clear h9 h0
                go_wp2
                go_ret3
                exact ⟨ret3 (ival HO.out) rfl rfl, rfl⟩
    · rw [vG, dif_neg hlt] at hG
      subst hG
      have e : p + k = b.size := by omega
      have e2 : (b.size : Int) - p = k := by omega
      clear hlv
      go_wp2
      go_ret3
      exact ⟨rfl, rfl⟩
/-- What Var answers. -/
def vA (b : ByteArray) (p : Int) : Nat × Nat × Int := if 0 ≤ p ∧ p ≤ b.size then vG b p.toNat 0 11 else (0, 0, 13)
set_option maxHeartbeats 1000000 in
theorem var_any (b : ByteArray) (p : Int) (w : World) (hb : b.size < 4611686018427387904) :
    Calls Tryz.prog 91 #[.string b, .int .i64 p] w fun e w' => e = .returned (.tuple #[.int .u64 (vA b p).1, .int .i64 (vA b p).2.1, .int .i64 (vA b p).2.2]) ∧ w' = w := by
  unfold vA
  by_cases h : 0 ≤ p ∧ p ≤ b.size
  · rw [if_pos h]
    obtain ⟨a, rfl⟩ : ∃ a : Nat, p = a := ⟨p.toNat, by omega⟩
    exact var_ok b a _ w hb (by omega) rfl
  · rw [if_neg h]
    go_enter Tryz.func91, Tryz.ntmps91
    go_wp2_with fail
    refine (isPlace_any _ _ _).mono ?_
    rintro e w1 ⟨rfl, rfl⟩
    rw [decide_eq_false h]
    clear h
    go_wp2
    go_ret3
    exact ⟨rfl, rfl⟩
end Go.Proofs.YtcamnalmcghjfaaGreatDoor
