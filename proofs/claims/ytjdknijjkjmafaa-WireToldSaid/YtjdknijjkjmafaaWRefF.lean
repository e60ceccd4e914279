/-
  DERIVED. The document's own fits.
-/
import Derived.Test.YtjdknijjkjmafaaWRefT
set_option linter.unusedVariables false
set_option linter.unusedSimpArgs false
namespace Go.Proofs.Ytjdknijjkjmafaa
open Go.RowKit Go.Proofs.SealMath
def stF (b1 b2 b3 : Bool) (r : Rp) (l : Nat) : Bool := (!(decide (r.e = 0) && b1) && decide (r.t ≠ eB)) || ((!(decide (r.e = 0) && b2) && decide (r.n ≠ 0)) || (!(decide (r.e = 0) && b3) && decide (0 < l)))
theorem stP_F (i : Nat) (hi : i < 9) (r : Rp) (l : Nat) : stP i r l = stF (tlP i).1 (tlP i).2.1 (tlP i).2.2 r l := by
  have h : i = 0 ∨ i = 1 ∨ i = 2 ∨ i = 3 ∨ i = 4 ∨ i = 5 ∨ i = 6 ∨ i = 7 ∨ i = 8 := by omega
  unfold stP stF lfN lfT lfS tlP
  by_cases e : r.e = 0 <;> rcases h with rfl | rfl | rfl | rfl | rfl | rfl | rfl | rfl | rfl <;> simp [e, Bool.or_comm, Bool.or_left_comm]
/-- What fits answers. -/
def ftE (i : Nat) (r : Rp) (l : Nat) : Int := if r.e < 0 ∨ 999 < r.e then 13 else if stP i r l then 32 else if r.n < 0 then 13 else if 65536 < r.t.size then 36 else 0
set_option maxHeartbeats 2000000 in
theorem rfits_kind (op : Int) (r : Rp) (v : Value) (hv : ∃ a l c, v = .slice a l c) (w : World) (h : ¬ (1 ≤ op ∧ op ≤ 9)) :
    Calls Try.prog 18 #[.int .i64 op, .agg (rpC r v)] w fun e w' => e = .returned (.int .i64 35) ∧ Below w.heap.size w w' := by
  obtain ⟨a, l, c, rfl⟩ := hv
  have HB := Hid.mk ((Below.refl _ w).alloc (Nat.le_refl _) (.cells (rpC r (.slice a l c)) 29))
  by_cases h1 : op < 1
  · clear h
    go_enter Try.func18, Try.ntmps18
    go_wp2
    go_ret
    exact ⟨rfl, HB.out⟩
  · have h2 : 9 < op := by omega
    clear h
    go_enter Try.func18, Try.ntmps18
    go_wp2
    go_ret
    exact ⟨rfl, HB.out⟩
set_option maxHeartbeats 2000000 in
theorem rfits_code (op : Int) (r : Rp) (a : Option Addr) (l c : Nat) (w : World) (h1 : ¬ op < 1) (h2 : ¬ 9 < op) (h : r.e < 0 ∨ 999 < r.e) :
    Calls Try.prog 18 #[.int .i64 op, .agg (rpC r (.slice a l c))] w fun e w' => e = .returned (.int .i64 13) ∧ Below w.heap.size w w' := by
  have HB := Hid.mk ((Below.refl _ w).alloc (Nat.le_refl _) (.cells (rpC r (.slice a l c)) 29))
  obtain ⟨e, n, t⟩ := r
  simp only at h
  rcases h with h | h
  · go_enter Try.func18, Try.ntmps18
    go_wp2
    go_ret
    exact ⟨rfl, HB.out⟩
  · have h' : ¬ e < 0 := by omega
    go_enter Try.func18, Try.ntmps18
    go_wp2
    go_ret
    exact ⟨rfl, HB.out⟩
set_option maxHeartbeats 8000000 in
set_option maxRecDepth 100000 in
theorem rfits_T (m : Nat) (e n : Int) (t : ByteArray) (a : Option Addr) (l cap : Nat) (w : World) (ans : Int) (g1 : ¬ (m : Int) < 1) (g2 : ¬ (9 : Int) < (m : Int)) (he1 : ¬ e < 0) (he2 : ¬ 999 < e)
    (hT : ∀ W, Calls Try.prog 21 #[.int .i64 m] W fun e w' => e = .returned (.tuple #[.bool true, .bool false, .bool false]) ∧ w' = W)
    (hans : ans = if stF true false false ⟨e, n, t⟩ l then 32 else if n < 0 then 13 else if 65536 < t.size then 36 else 0) :
    Calls Try.prog 18 #[.int .i64 m, .agg #[.int .i64 e, .int .i64 n, .string t, .slice a l cap]] w fun e w' => e = .returned (.int .i64 ans) ∧ Below w.heap.size w w' := by
  have hcode : True := trivial
  have HB := Hid.mk ((Below.refl _ w).alloc (Nat.le_refl _) (.cells #[.int .i64 e, .int .i64 n, .string t, .slice a l cap] 29))
  by_cases hok : e = 0
  · subst hok
    by_cases ht : t = eB
    · subst ht
      have hsz : ¬ 65536 < (eB : ByteArray).size := by decide
      by_cases hn : n = 0
      · subst hn
        by_cases hl : l = 0
        · subst hl
          have HA : Hid (ans = 0) := by
            show _ = _
            rw [hans]; clear hans; simp [stF, hsz]
          clear hans hcode
          go_enter Try.func18, Try.ntmps18
          go_wp2_with (go_at_call 21; refine (hT _).mono ?_; clear hT; rintro e w1 ⟨rfl, rfl⟩)
          go_ret
          exact ⟨by rw [HA.out]; rfl, HB.out⟩
        · have hl2 : 0 < l := by omega
          have hl3 : (0 : Int) < (l : Int) := by omega
          have HA : Hid (ans = 32) := by
            show _ = _
            rw [hans]; clear hans; simp [stF, hsz, hl2]
          clear hans hcode
          go_enter Try.func18, Try.ntmps18
          go_wp2_with (go_at_call 21; refine (hT _).mono ?_; clear hT; rintro e w1 ⟨rfl, rfl⟩)
          go_ret
          exact ⟨by rw [HA.out]; rfl, HB.out⟩
      · skip
        have HA : Hid (ans = 32) := by
          show _ = _
          rw [hans]; clear hans; simp [stF, hsz, hn]
        clear hans hcode
        go_enter Try.func18, Try.ntmps18
        go_wp2_with (go_at_call 21; refine (hT _).mono ?_; clear hT; rintro e w1 ⟨rfl, rfl⟩)
        go_ret
        exact ⟨by rw [HA.out]; rfl, HB.out⟩
    · have ht2 : ¬ t.toList = [] := fun h => by
        rw [ByteArray.toList_eq] at h
        exact ht (ByteArray.ext (Array.toList_inj.1 h))
      by_cases hn : n = 0
      · subst hn
        by_cases hl : l = 0
        · subst hl
          by_cases hz : 65536 < t.size
          · have hz' : (65536 : Int) < (t.size : Int) := by omega
            have HA : Hid (ans = 36) := by
              show _ = _
              rw [hans]; clear hans; simp [stF, ht, hz]
            clear hans hcode
            go_enter Try.func18, Try.ntmps18
            go_wp2_with (go_at_call 21; refine (hT _).mono ?_; clear hT; rintro e w1 ⟨rfl, rfl⟩)
            go_ret
            exact ⟨by rw [HA.out]; rfl, HB.out⟩
          · have hz' : ¬ (65536 : Int) < (t.size : Int) := by omega
            have HA : Hid (ans = 0) := by
              show _ = _
              rw [hans]; clear hans; simp [stF, ht, hz]
            clear hans hcode
            go_enter Try.func18, Try.ntmps18
            go_wp2_with (go_at_call 21; refine (hT _).mono ?_; clear hT; rintro e w1 ⟨rfl, rfl⟩)
            go_ret
            exact ⟨by rw [HA.out]; rfl, HB.out⟩
        · have hl2 : 0 < l := by omega
          have hl3 : (0 : Int) < (l : Int) := by omega
          have HA : Hid (ans = 32) := by
            show _ = _
            rw [hans]; clear hans; simp [stF, ht, hl2]
          clear hans hcode
          go_enter Try.func18, Try.ntmps18
          go_wp2_with (go_at_call 21; refine (hT _).mono ?_; clear hT; rintro e w1 ⟨rfl, rfl⟩)
          go_ret
          exact ⟨by rw [HA.out]; rfl, HB.out⟩
      · skip
        have HA : Hid (ans = 32) := by
          show _ = _
          rw [hans]; clear hans; simp [stF, ht, hn]
        clear hans hcode
        go_enter Try.func18, Try.ntmps18
        go_wp2_with (go_at_call 21; refine (hT _).mono ?_; clear hT; rintro e w1 ⟨rfl, rfl⟩)
        go_ret
        exact ⟨by rw [HA.out]; rfl, HB.out⟩
  · have hok2 : (e == 0) = false := by simpa using hok
    by_cases ht : t = eB
    · subst ht
      have hsz : ¬ 65536 < (eB : ByteArray).size := by decide
      by_cases hn : n = 0
      · subst hn
        by_cases hl : l = 0
        · subst hl
          have HA : Hid (ans = 0) := by
            show _ = _
            rw [hans]; clear hans; simp [stF, hok, hsz]
          clear hans hcode
          go_enter Try.func18, Try.ntmps18
          go_wp2_with (go_at_call 21; refine (hT _).mono ?_; clear hT; rintro e w1 ⟨rfl, rfl⟩)
          go_ret
          exact ⟨by rw [HA.out]; rfl, HB.out⟩
        · have hl2 : 0 < l := by omega
          have hl3 : (0 : Int) < (l : Int) := by omega
          have HA : Hid (ans = 32) := by
            show _ = _
            rw [hans]; clear hans; simp [stF, hok, hsz, hl2]
          clear hans hcode
          go_enter Try.func18, Try.ntmps18
          go_wp2_with (go_at_call 21; refine (hT _).mono ?_; clear hT; rintro e w1 ⟨rfl, rfl⟩)
          go_ret
          exact ⟨by rw [HA.out]; rfl, HB.out⟩
      · skip
        have HA : Hid (ans = 32) := by
          show _ = _
          rw [hans]; clear hans; simp [stF, hok, hsz, hn]
        clear hans hcode
        go_enter Try.func18, Try.ntmps18
        go_wp2_with (go_at_call 21; refine (hT _).mono ?_; clear hT; rintro e w1 ⟨rfl, rfl⟩)
        go_ret
        exact ⟨by rw [HA.out]; rfl, HB.out⟩
    · have ht2 : ¬ t.toList = [] := fun h => by
        rw [ByteArray.toList_eq] at h
        exact ht (ByteArray.ext (Array.toList_inj.1 h))
      have HA : Hid (ans = 32) := by
        show _ = _
        rw [hans]; clear hans; simp [stF, hok, ht]
      clear hans hcode
      go_enter Try.func18, Try.ntmps18
      go_wp2_with (go_at_call 21; refine (hT _).mono ?_; clear hT; rintro e w1 ⟨rfl, rfl⟩)
      go_ret
      exact ⟨by rw [HA.out]; rfl, HB.out⟩
set_option maxHeartbeats 8000000 in
set_option maxRecDepth 100000 in
theorem rfits_N (m : Nat) (e n : Int) (t : ByteArray) (a : Option Addr) (l cap : Nat) (w : World) (ans : Int) (g1 : ¬ (m : Int) < 1) (g2 : ¬ (9 : Int) < (m : Int)) (he1 : ¬ e < 0) (he2 : ¬ 999 < e)
    (hT : ∀ W, Calls Try.prog 21 #[.int .i64 m] W fun e w' => e = .returned (.tuple #[.bool false, .bool true, .bool false]) ∧ w' = W)
    (hans : ans = if stF false true false ⟨e, n, t⟩ l then 32 else if n < 0 then 13 else if 65536 < t.size then 36 else 0) :
    Calls Try.prog 18 #[.int .i64 m, .agg #[.int .i64 e, .int .i64 n, .string t, .slice a l cap]] w fun e w' => e = .returned (.int .i64 ans) ∧ Below w.heap.size w w' := by
  have hcode : True := trivial
  have HB := Hid.mk ((Below.refl _ w).alloc (Nat.le_refl _) (.cells #[.int .i64 e, .int .i64 n, .string t, .slice a l cap] 29))
  by_cases hok : e = 0
  · subst hok
    by_cases ht : t = eB
    · subst ht
      have hsz : ¬ 65536 < (eB : ByteArray).size := by decide
      by_cases hn : n = 0
      · subst hn
        by_cases hl : l = 0
        · subst hl
          have HA : Hid (ans = 0) := by
            show _ = _
            rw [hans]; clear hans; simp [stF, hsz]
          clear hans hcode
          go_enter Try.func18, Try.ntmps18
          go_wp2_with (go_at_call 21; refine (hT _).mono ?_; clear hT; rintro e w1 ⟨rfl, rfl⟩)
          go_ret
          exact ⟨by rw [HA.out]; rfl, HB.out⟩
        · have hl2 : 0 < l := by omega
          have hl3 : (0 : Int) < (l : Int) := by omega
          have HA : Hid (ans = 32) := by
            show _ = _
            rw [hans]; clear hans; simp [stF, hsz, hl2]
          clear hans hcode
          go_enter Try.func18, Try.ntmps18
          go_wp2_with (go_at_call 21; refine (hT _).mono ?_; clear hT; rintro e w1 ⟨rfl, rfl⟩)
          go_ret
          exact ⟨by rw [HA.out]; rfl, HB.out⟩
      · skip
        by_cases hl : l = 0
        · subst hl
          by_cases hneg : n < 0
          · skip
            have HA : Hid (ans = 13) := by
              show _ = _
              rw [hans]; clear hans; simp [stF, hsz, hn, hneg]
            clear hans hcode
            go_enter Try.func18, Try.ntmps18
            go_wp2_with (go_at_call 21; refine (hT _).mono ?_; clear hT; rintro e w1 ⟨rfl, rfl⟩)
            go_ret
            exact ⟨by rw [HA.out]; rfl, HB.out⟩
          · skip
            have HA : Hid (ans = 0) := by
              show _ = _
              rw [hans]; clear hans; simp [stF, hsz, hn, hneg]
            clear hans hcode
            go_enter Try.func18, Try.ntmps18
            go_wp2_with (go_at_call 21; refine (hT _).mono ?_; clear hT; rintro e w1 ⟨rfl, rfl⟩)
            go_ret
            exact ⟨by rw [HA.out]; rfl, HB.out⟩
        · have hl2 : 0 < l := by omega
          have hl3 : (0 : Int) < (l : Int) := by omega
          have HA : Hid (ans = 32) := by
            show _ = _
            rw [hans]; clear hans; simp [stF, hsz, hn, hl2]
          clear hans hcode
          go_enter Try.func18, Try.ntmps18
          go_wp2_with (go_at_call 21; refine (hT _).mono ?_; clear hT; rintro e w1 ⟨rfl, rfl⟩)
          go_ret
          exact ⟨by rw [HA.out]; rfl, HB.out⟩
    · have ht2 : ¬ t.toList = [] := fun h => by
        rw [ByteArray.toList_eq] at h
        exact ht (ByteArray.ext (Array.toList_inj.1 h))
      have HA : Hid (ans = 32) := by
        show _ = _
        rw [hans]; clear hans; simp [stF, ht]
      clear hans hcode
      go_enter Try.func18, Try.ntmps18
      go_wp2_with (go_at_call 21; refine (hT _).mono ?_; clear hT; rintro e w1 ⟨rfl, rfl⟩)
      go_ret
      exact ⟨by rw [HA.out]; rfl, HB.out⟩
  · have hok2 : (e == 0) = false := by simpa using hok
    by_cases ht : t = eB
    · subst ht
      have hsz : ¬ 65536 < (eB : ByteArray).size := by decide
      by_cases hn : n = 0
      · subst hn
        by_cases hl : l = 0
        · subst hl
          have HA : Hid (ans = 0) := by
            show _ = _
            rw [hans]; clear hans; simp [stF, hok, hsz]
          clear hans hcode
          go_enter Try.func18, Try.ntmps18
          go_wp2_with (go_at_call 21; refine (hT _).mono ?_; clear hT; rintro e w1 ⟨rfl, rfl⟩)
          go_ret
          exact ⟨by rw [HA.out]; rfl, HB.out⟩
        · have hl2 : 0 < l := by omega
          have hl3 : (0 : Int) < (l : Int) := by omega
          have HA : Hid (ans = 32) := by
            show _ = _
            rw [hans]; clear hans; simp [stF, hok, hsz, hl2]
          clear hans hcode
          go_enter Try.func18, Try.ntmps18
          go_wp2_with (go_at_call 21; refine (hT _).mono ?_; clear hT; rintro e w1 ⟨rfl, rfl⟩)
          go_ret
          exact ⟨by rw [HA.out]; rfl, HB.out⟩
      · skip
        have HA : Hid (ans = 32) := by
          show _ = _
          rw [hans]; clear hans; simp [stF, hok, hsz, hn]
        clear hans hcode
        go_enter Try.func18, Try.ntmps18
        go_wp2_with (go_at_call 21; refine (hT _).mono ?_; clear hT; rintro e w1 ⟨rfl, rfl⟩)
        go_ret
        exact ⟨by rw [HA.out]; rfl, HB.out⟩
    · have ht2 : ¬ t.toList = [] := fun h => by
        rw [ByteArray.toList_eq] at h
        exact ht (ByteArray.ext (Array.toList_inj.1 h))
      have HA : Hid (ans = 32) := by
        show _ = _
        rw [hans]; clear hans; simp [stF, hok, ht]
      clear hans hcode
      go_enter Try.func18, Try.ntmps18
      go_wp2_with (go_at_call 21; refine (hT _).mono ?_; clear hT; rintro e w1 ⟨rfl, rfl⟩)
      go_ret
      exact ⟨by rw [HA.out]; rfl, HB.out⟩
set_option maxHeartbeats 8000000 in
set_option maxRecDepth 100000 in
theorem rfits_H (m : Nat) (e n : Int) (t : ByteArray) (a : Option Addr) (l cap : Nat) (w : World) (ans : Int) (g1 : ¬ (m : Int) < 1) (g2 : ¬ (9 : Int) < (m : Int)) (he1 : ¬ e < 0) (he2 : ¬ 999 < e)
    (hT : ∀ W, Calls Try.prog 21 #[.int .i64 m] W fun e w' => e = .returned (.tuple #[.bool false, .bool false, .bool true]) ∧ w' = W)
    (hans : ans = if stF false false true ⟨e, n, t⟩ l then 32 else if n < 0 then 13 else if 65536 < t.size then 36 else 0) :
    Calls Try.prog 18 #[.int .i64 m, .agg #[.int .i64 e, .int .i64 n, .string t, .slice a l cap]] w fun e w' => e = .returned (.int .i64 ans) ∧ Below w.heap.size w w' := by
  have hcode : True := trivial
  have HB := Hid.mk ((Below.refl _ w).alloc (Nat.le_refl _) (.cells #[.int .i64 e, .int .i64 n, .string t, .slice a l cap] 29))
  by_cases hok : e = 0
  · subst hok
    by_cases ht : t = eB
    · subst ht
      have hsz : ¬ 65536 < (eB : ByteArray).size := by decide
      by_cases hn : n = 0
      · subst hn
        by_cases hl : l = 0
        · subst hl
          have HA : Hid (ans = 0) := by
            show _ = _
            rw [hans]; clear hans; simp [stF, hsz]
          clear hans hcode
          go_enter Try.func18, Try.ntmps18
          go_wp2_with (go_at_call 21; refine (hT _).mono ?_; clear hT; rintro e w1 ⟨rfl, rfl⟩)
          go_ret
          exact ⟨by rw [HA.out]; rfl, HB.out⟩
        · have hl2 : 0 < l := by omega
          have hl3 : (0 : Int) < (l : Int) := by omega
          have HA : Hid (ans = 0) := by
            show _ = _
            rw [hans]; clear hans; simp [stF, hsz, hl2]
          clear hans hcode
          go_enter Try.func18, Try.ntmps18
          go_wp2_with (go_at_call 21; refine (hT _).mono ?_; clear hT; rintro e w1 ⟨rfl, rfl⟩)
          go_ret
          exact ⟨by rw [HA.out]; rfl, HB.out⟩
      · skip
        have HA : Hid (ans = 32) := by
          show _ = _
          rw [hans]; clear hans; simp [stF, hsz, hn]
        clear hans hcode
        go_enter Try.func18, Try.ntmps18
        go_wp2_with (go_at_call 21; refine (hT _).mono ?_; clear hT; rintro e w1 ⟨rfl, rfl⟩)
        go_ret
        exact ⟨by rw [HA.out]; rfl, HB.out⟩
    · have ht2 : ¬ t.toList = [] := fun h => by
        rw [ByteArray.toList_eq] at h
        exact ht (ByteArray.ext (Array.toList_inj.1 h))
      have HA : Hid (ans = 32) := by
        show _ = _
        rw [hans]; clear hans; simp [stF, ht]
      clear hans hcode
      go_enter Try.func18, Try.ntmps18
      go_wp2_with (go_at_call 21; refine (hT _).mono ?_; clear hT; rintro e w1 ⟨rfl, rfl⟩)
      go_ret
      exact ⟨by rw [HA.out]; rfl, HB.out⟩
  · have hok2 : (e == 0) = false := by simpa using hok
    by_cases ht : t = eB
    · subst ht
      have hsz : ¬ 65536 < (eB : ByteArray).size := by decide
      by_cases hn : n = 0
      · subst hn
        by_cases hl : l = 0
        · subst hl
          have HA : Hid (ans = 0) := by
            show _ = _
            rw [hans]; clear hans; simp [stF, hok, hsz]
          clear hans hcode
          go_enter Try.func18, Try.ntmps18
          go_wp2_with (go_at_call 21; refine (hT _).mono ?_; clear hT; rintro e w1 ⟨rfl, rfl⟩)
          go_ret
          exact ⟨by rw [HA.out]; rfl, HB.out⟩
        · have hl2 : 0 < l := by omega
          have hl3 : (0 : Int) < (l : Int) := by omega
          have HA : Hid (ans = 32) := by
            show _ = _
            rw [hans]; clear hans; simp [stF, hok, hsz, hl2]
          clear hans hcode
          go_enter Try.func18, Try.ntmps18
          go_wp2_with (go_at_call 21; refine (hT _).mono ?_; clear hT; rintro e w1 ⟨rfl, rfl⟩)
          go_ret
          exact ⟨by rw [HA.out]; rfl, HB.out⟩
      · skip
        have HA : Hid (ans = 32) := by
          show _ = _
          rw [hans]; clear hans; simp [stF, hok, hsz, hn]
        clear hans hcode
        go_enter Try.func18, Try.ntmps18
        go_wp2_with (go_at_call 21; refine (hT _).mono ?_; clear hT; rintro e w1 ⟨rfl, rfl⟩)
        go_ret
        exact ⟨by rw [HA.out]; rfl, HB.out⟩
    · have ht2 : ¬ t.toList = [] := fun h => by
        rw [ByteArray.toList_eq] at h
        exact ht (ByteArray.ext (Array.toList_inj.1 h))
      have HA : Hid (ans = 32) := by
        show _ = _
        rw [hans]; clear hans; simp [stF, hok, ht]
      clear hans hcode
      go_enter Try.func18, Try.ntmps18
      go_wp2_with (go_at_call 21; refine (hT _).mono ?_; clear hT; rintro e w1 ⟨rfl, rfl⟩)
      go_ret
      exact ⟨by rw [HA.out]; rfl, HB.out⟩
set_option maxHeartbeats 8000000 in
set_option maxRecDepth 100000 in
theorem rfits_O (m : Nat) (e n : Int) (t : ByteArray) (a : Option Addr) (l cap : Nat) (w : World) (ans : Int) (g1 : ¬ (m : Int) < 1) (g2 : ¬ (9 : Int) < (m : Int)) (he1 : ¬ e < 0) (he2 : ¬ 999 < e)
    (hT : ∀ W, Calls Try.prog 21 #[.int .i64 m] W fun e w' => e = .returned (.tuple #[.bool false, .bool false, .bool false]) ∧ w' = W)
    (hans : ans = if stF false false false ⟨e, n, t⟩ l then 32 else if n < 0 then 13 else if 65536 < t.size then 36 else 0) :
    Calls Try.prog 18 #[.int .i64 m, .agg #[.int .i64 e, .int .i64 n, .string t, .slice a l cap]] w fun e w' => e = .returned (.int .i64 ans) ∧ Below w.heap.size w w' := by
  have hcode : True := trivial
  have HB := Hid.mk ((Below.refl _ w).alloc (Nat.le_refl _) (.cells #[.int .i64 e, .int .i64 n, .string t, .slice a l cap] 29))
  by_cases hok : e = 0
  · subst hok
    by_cases ht : t = eB
    · subst ht
      have hsz : ¬ 65536 < (eB : ByteArray).size := by decide
      by_cases hn : n = 0
      · subst hn
        by_cases hl : l = 0
        · subst hl
          have HA : Hid (ans = 0) := by
            show _ = _
            rw [hans]; clear hans; simp [stF, hsz]
          clear hans hcode
          go_enter Try.func18, Try.ntmps18
          go_wp2_with (go_at_call 21; refine (hT _).mono ?_; clear hT; rintro e w1 ⟨rfl, rfl⟩)
          go_ret
          exact ⟨by rw [HA.out]; rfl, HB.out⟩
        · have hl2 : 0 < l := by omega
          have hl3 : (0 : Int) < (l : Int) := by omega
          have HA : Hid (ans = 32) := by
            show _ = _
            rw [hans]; clear hans; simp [stF, hsz, hl2]
          clear hans hcode
          go_enter Try.func18, Try.ntmps18
          go_wp2_with (go_at_call 21; refine (hT _).mono ?_; clear hT; rintro e w1 ⟨rfl, rfl⟩)
          go_ret
          exact ⟨by rw [HA.out]; rfl, HB.out⟩
      · skip
        have HA : Hid (ans = 32) := by
          show _ = _
          rw [hans]; clear hans; simp [stF, hsz, hn]
        clear hans hcode
        go_enter Try.func18, Try.ntmps18
        go_wp2_with (go_at_call 21; refine (hT _).mono ?_; clear hT; rintro e w1 ⟨rfl, rfl⟩)
        go_ret
        exact ⟨by rw [HA.out]; rfl, HB.out⟩
    · have ht2 : ¬ t.toList = [] := fun h => by
        rw [ByteArray.toList_eq] at h
        exact ht (ByteArray.ext (Array.toList_inj.1 h))
      have HA : Hid (ans = 32) := by
        show _ = _
        rw [hans]; clear hans; simp [stF, ht]
      clear hans hcode
      go_enter Try.func18, Try.ntmps18
      go_wp2_with (go_at_call 21; refine (hT _).mono ?_; clear hT; rintro e w1 ⟨rfl, rfl⟩)
      go_ret
      exact ⟨by rw [HA.out]; rfl, HB.out⟩
  · have hok2 : (e == 0) = false := by simpa using hok
    by_cases ht : t = eB
    · subst ht
      have hsz : ¬ 65536 < (eB : ByteArray).size := by decide
      by_cases hn : n = 0
      · subst hn
        by_cases hl : l = 0
        · subst hl
          have HA : Hid (ans = 0) := by
            show _ = _
            rw [hans]; clear hans; simp [stF, hok, hsz]
          clear hans hcode
          go_enter Try.func18, Try.ntmps18
          go_wp2_with (go_at_call 21; refine (hT _).mono ?_; clear hT; rintro e w1 ⟨rfl, rfl⟩)
          go_ret
          exact ⟨by rw [HA.out]; rfl, HB.out⟩
        · have hl2 : 0 < l := by omega
          have hl3 : (0 : Int) < (l : Int) := by omega
          have HA : Hid (ans = 32) := by
            show _ = _
            rw [hans]; clear hans; simp [stF, hok, hsz, hl2]
          clear hans hcode
          go_enter Try.func18, Try.ntmps18
          go_wp2_with (go_at_call 21; refine (hT _).mono ?_; clear hT; rintro e w1 ⟨rfl, rfl⟩)
          go_ret
          exact ⟨by rw [HA.out]; rfl, HB.out⟩
      · skip
        have HA : Hid (ans = 32) := by
          show _ = _
          rw [hans]; clear hans; simp [stF, hok, hsz, hn]
        clear hans hcode
        go_enter Try.func18, Try.ntmps18
        go_wp2_with (go_at_call 21; refine (hT _).mono ?_; clear hT; rintro e w1 ⟨rfl, rfl⟩)
        go_ret
        exact ⟨by rw [HA.out]; rfl, HB.out⟩
    · have ht2 : ¬ t.toList = [] := fun h => by
        rw [ByteArray.toList_eq] at h
        exact ht (ByteArray.ext (Array.toList_inj.1 h))
      have HA : Hid (ans = 32) := by
        show _ = _
        rw [hans]; clear hans; simp [stF, hok, ht]
      clear hans hcode
      go_enter Try.func18, Try.ntmps18
      go_wp2_with (go_at_call 21; refine (hT _).mono ?_; clear hT; rintro e w1 ⟨rfl, rfl⟩)
      go_ret
      exact ⟨by rw [HA.out]; rfl, HB.out⟩
theorem rfits_any (i : Nat) (hi : i < 9) (r : Rp) (a : Option Addr) (l cap : Nat) (w : World) :
    Calls Try.prog 18 #[.int .i64 (i + 1 : Nat), .agg (rpC r (.slice a l cap))] w fun e w' => e = .returned (.int .i64 (ftE i r l)) ∧ Below w.heap.size w w' := by
  by_cases hc : r.e < 0 ∨ 999 < r.e
  · have : ftE i r l = 13 := by unfold ftE; rw [if_pos hc]
    rw [this]
    exact rfits_code _ r a l cap w (by omega) (by omega) hc
  · have hA : ftE i r l = if stF (tlP i).1 (tlP i).2.1 (tlP i).2.2 r l then 32 else if r.n < 0 then 13 else if 65536 < r.t.size then 36 else 0 := by
      unfold ftE; rw [if_neg hc, stP_F i hi]
    have hT := fun W => tells_any i hi W
    obtain ⟨e, n, t⟩ := r
    simp only at hc hA
    have h : i = 0 ∨ i = 1 ∨ i = 2 ∨ i = 3 ∨ i = 4 ∨ i = 5 ∨ i = 6 ∨ i = 7 ∨ i = 8 := by omega
    rcases h with rfl | rfl | rfl | rfl | rfl | rfl | rfl | rfl | rfl
    · exact rfits_O _ e n t a l cap w _ (by omega) (by omega) (by omega) (by omega) hT hA
    · exact rfits_O _ e n t a l cap w _ (by omega) (by omega) (by omega) (by omega) hT hA
    · exact rfits_T _ e n t a l cap w _ (by omega) (by omega) (by omega) (by omega) hT hA
    · exact rfits_H _ e n t a l cap w _ (by omega) (by omega) (by omega) (by omega) hT hA
    · exact rfits_H _ e n t a l cap w _ (by omega) (by omega) (by omega) (by omega) hT hA
    · exact rfits_N _ e n t a l cap w _ (by omega) (by omega) (by omega) (by omega) hT hA
    · exact rfits_O _ e n t a l cap w _ (by omega) (by omega) (by omega) (by omega) hT hA
    · exact rfits_N _ e n t a l cap w _ (by omega) (by omega) (by omega) (by omega) hT hA
    · exact rfits_O _ e n t a l cap w _ (by omega) (by omega) (by omega) (by omega) hT hA
end Go.Proofs.Ytjdknijjkjmafaa
