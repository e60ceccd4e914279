/-
  DERIVED. Numbers in bytes of seven bits: PutVar, Var; the document's own.
-/
import Derived.Test.YtjdknijjkjmafaaSFixB
import Derived.OwnWalk
namespace Go.Proofs.Ytjdknijjkjmafaa
open Go.RowKit Go.Proofs.SealMath
/-- The number of some bytes of seven bits, the lowest first. -/
def vN : List UInt8 → Nat
  | [] => 0
  | c :: l => c.toNat % 128 + 128 * vN l
theorem vN_snoc (l : List UInt8) (c : UInt8) : vN (l ++ [c]) = vN l + c.toNat % 128 * 2 ^ (7 * l.length) := by
  induction l with
  | nil => simp [vN]
  | cons d l ih =>
    have e : 2 ^ (7 * (d :: l).length) = 128 * 2 ^ (7 * l.length) := by
      rw [List.length_cons, Nat.mul_add, Nat.pow_add, Nat.mul_comm]
    rw [List.cons_append, vN, vN, ih, e, Nat.mul_add, ← Nat.mul_assoc, ← Nat.mul_assoc, Nat.mul_comm (c.toNat % 128) 128, Nat.mul_assoc]
    omega
theorem vN_lt (l : List UInt8) : vN l < 2 ^ (7 * l.length) := by
  induction l with
  | nil => simp [vN]
  | cons d l ih =>
    have e : 2 ^ (7 * (d :: l).length) = 128 * 2 ^ (7 * l.length) := by
      rw [List.length_cons, Nat.mul_add, Nat.pow_add, Nat.mul_comm]
    rw [vN, e]; omega
/-- How Var goes on at the k-th byte. -/
def vG (b : ByteArray) (p k : Nat) : Nat → Nat × Nat × Int
  | 0 => (0, 0, 0)
  | f + 1 => if h : p + k < b.size then
      if k = 9 ∧ 1 < (b[p + k]).toNat then (0, 0, 30)
      else if 128 ≤ (b[p + k]).toNat then vG b p (k + 1) f
      else if (b[p + k]).toNat = 0 ∧ 0 < k then (0, 0, 32)
      else (vN (sub b p (k + 1)), p + k + 1, 0)
    else (0, 0, 31)
theorem and127 (x : Nat) (hx : x < 256) : bits .and .u8 (x : Int) 127 = ((x % 128 : Nat) : Int) := by
  have h := u8_and_nat x 127 hx (by omega)
  rw [show (127 : Nat) = 2 ^ 7 - 1 by rfl, Nat.and_two_pow_sub_one_eq_mod] at h
  exact h
theorem or_high (v c k : Nat) (h : v < 2 ^ k) : v ||| c * 2 ^ k = v + c * 2 ^ k := by
  have := Nat.two_pow_add_eq_or_of_lt h c
  rw [Nat.or_comm, Nat.mul_comm c, Nat.add_comm v]; exact this.symm
theorem vterm_lt (v c k : Nat) (hv : v < 2 ^ (7 * k)) (hc : c % 128 < 128) (hk : k ≤ 9) (h9 : k = 9 → c ≤ 1) : v + c % 128 * 2 ^ (7 * k) < 18446744073709551616 := by
  have hcases : k = 0 ∨ k = 1 ∨ k = 2 ∨ k = 3 ∨ k = 4 ∨ k = 5 ∨ k = 6 ∨ k = 7 ∨ k = 8 ∨ k = 9 := by omega
  rcases hcases with rfl | rfl | rfl | rfl | rfl | rfl | rfl | rfl | rfl | rfl <;> simp at hv ⊢ <;> omega
theorem ret3 {a b c d e f : Value} (h : a = d) (k : b = e) (l : c = f) : Ending.returned (.tuple #[a, b, c]) = .returned (.tuple #[d, e, f]) := by rw [h, k, l]
set_option maxRecDepth 100000 in
set_option maxHeartbeats 8000000 in
theorem var_ok (b : ByteArray) (p : Nat) (R : Nat × Nat × Int) (w : World) (hb : b.size < 4611686018427387904) (hs : p ≤ b.size) (hR : R = vG b p 0 11) :
    Calls Try.prog 63 #[.string b, .int .i64 p] w fun e w' => e = .returned (.tuple #[.int .u64 R.1, .int .i64 R.2.1, .int .i64 R.2.2]) ∧ w' = w := by
  go_enter Try.func63, Try.ntmps63
  go_wp2_with fail
  refine (isPlace_any _ _ _).mono ?_
  rintro e w1 ⟨rfl, rfl⟩
  rw [decide_eq_true (by omega : 0 ≤ (p : Int) ∧ (p : Int) ≤ b.size)]
  go_wp2
  go_loopw [7, 18] (fun x u wr => ∃ k f : Nat, k + f = 11 ∧ k ≤ 9 ∧ p + k ≤ b.size ∧ u = .int .i64 k ∧ x = .int .u64 (vN (sub b p k)) ∧ R = vG b p k f ∧ wr = w1) (fun _ u _ => 10 - (intOf u).toNat)
  case atStart => exact ⟨0, 11, rfl, by omega, by omega, rfl, rfl, hR, rfl⟩
  case round =>
    obtain ⟨k, f, hkf, hk9, hpk, rfl, rfl, hG, rfl⟩ := hrel
    clear hR
    obtain ⟨f, rfl⟩ : ∃ g, f = g + 1 := ⟨f - 1, by omega⟩
    have HF : Hid (k + (f + 1) = 11) := hkf
    clear hkf
    have hlv := vN_lt (sub b p k)
    rw [sub_len b p k hpk] at hlv
    by_cases hlt : p + k < b.size
    · have hc := (b[p + k]).toNat_lt
      have hsn := vN_snoc (sub b p k) (b[p + k])
      rw [← sub_snoc b p k hlt, sub_len b p k hpk] at hsn
      rw [vG, dif_pos hlt] at hG
      by_cases h9 : k = 9 ∧ 1 < (b[p + k]).toNat
      · rw [if_pos h9] at hG
        subst hG
        obtain ⟨rfl, h1⟩ := h9
        clear hsn hlv
        go_wp2
        go_ret3
        exact ⟨rfl, rfl⟩
      · rw [if_neg h9] at hG
        have hb64 := vterm_lt (vN (sub b p k)) (b[p + k]).toNat k hlv (Nat.mod_lt _ (by omega)) hk9 (by omega)
        have ha := and127 (b[p + k]).toNat hc
        have ho := u64_or_nat (vN (sub b p k)) ((b[p + k]).toNat % 128 * 2 ^ (7 * k)) (by omega) (by omega)
        rw [or_high _ _ _ hlv, ← hsn] at ho
        have ec : (((b[p + k]).toNat % 128 * 2 ^ (7 * k) : Nat) : Int) = ((b[p + k]).toNat : Int) % 128 * 2 ^ (7 * k) := by simp
        have hw : IntKind.u64.wrap (((b[p + k]).toNat : Int) % 128 * 2 ^ (7 * k)) = (((b[p + k]).toNat % 128 * 2 ^ (7 * k) : Nat) : Int) := by
          rw [← ec, IntKind.wrap_u64]
          generalize (b[p + k]).toNat % 128 * 2 ^ (7 * k) = T at *
          omega
        rw [ec] at ho
        clear ec
        by_cases h128 : 128 ≤ (b[p + k]).toNat
        · rw [if_pos h128] at hG
          have h8 : k ≤ 8 := by omega
          clear h9 hsn
          have h9 : ¬ k = 9 := by omega
          have HO : Hid (bits BinOp.or IntKind.u64 ((vN (sub b p k) : Nat) : Int) (((b[p + k]).toNat : Int) % 128 * 2 ^ (7 * k)) = ((vN (sub b p (k + 1)) : Nat) : Int)) := ho
          clear ho
          go_wp2
          refine ⟨⟨k + 1, f, by have := HF.out; omega, by omega, by omega, rfl, ?_, hG, trivial⟩, by simp only [intOf]; omega⟩
          exact ival HO.out
        · rw [if_neg h128] at hG
          by_cases h0 : (b[p + k]).toNat = 0 ∧ 0 < k
          · rw [if_pos h0] at hG
            subst hG
            obtain ⟨h00, h01⟩ := h0
            clear h9 hw ho hsn hb64 ha hlv
            by_cases hk : k = 9
            · subst hk
              go_wp2
              go_ret3
              exact ⟨rfl, rfl⟩
            · go_wp2
              go_ret3
              exact ⟨rfl, rfl⟩
          · rw [if_neg h0] at hG
            subst hG
            have HO : Hid (bits BinOp.or IntKind.u64 ((vN (sub b p k) : Nat) : Int) (((b[p + k]).toNat : Int) % 128 * 2 ^ (7 * k)) = ((vN (sub b p (k + 1)) : Nat) : Int)) := ho
            clear ho
            by_cases h00 : (b[p + k]).toNat = 0
            · have hk0 : k = 0 := by omega
              subst hk0
              have HZ : Hid (vN (sub b p (0 + 1)) = 0) := by
                show _ = _; rw [hsn, h00]; rfl
              have hlt' : p < b.size := hlt
              have h00' : (b[p]'hlt').toNat = 0 := h00
              clear h9 HO hw hsn ha hb64 hlv h128 h0 h00 hc
              go_wp2
              go_ret3
              refine ⟨ret3 (ival ?_) rfl rfl, rfl⟩
              have e0 : vN (sub b p 0) = 0 := by unfold sub; rw [List.take_zero]; rfl
              rw [HZ.out, e0]
              decide +kernel
            · clear hsn
              by_cases hk : k = 9
              · have hle : ¬ 1 < (b[p + k]).toNat := by omega
                subst hk
                clear h9 h0
                go_wp2
                go_ret3
                exact ⟨ret3 (ival HO.out) rfl rfl, rfl⟩
              · clear h9 h0
                go_wp2
                go_ret3
                exact ⟨ret3 (ival HO.out) rfl rfl, rfl⟩
    · rw [vG, dif_neg hlt] at hG
      subst hG
      have e : p + k = b.size := by omega
      have e2 : (b.size : Int) - p = k := by omega
      clear hlv
      go_wp2
      go_ret3
      exact ⟨rfl, rfl⟩
/-- What Var answers. -/
def vA (b : ByteArray) (p : Int) : Nat × Nat × Int := if 0 ≤ p ∧ p ≤ b.size then vG b p.toNat 0 11 else (0, 0, 13)
set_option maxHeartbeats 1000000 in
theorem var_any (b : ByteArray) (p : Int) (w : World) (hb : b.size < 4611686018427387904) :
    Calls Try.prog 63 #[.string b, .int .i64 p] w fun e w' => e = .returned (.tuple #[.int .u64 (vA b p).1, .int .i64 (vA b p).2.1, .int .i64 (vA b p).2.2]) ∧ w' = w := by
  unfold vA
  by_cases h : 0 ≤ p ∧ p ≤ b.size
  · rw [if_pos h]
    obtain ⟨a, rfl⟩ : ∃ a : Nat, p = a := ⟨p.toNat, by omega⟩
    exact var_ok b a _ w hb (by omega) rfl
  · rw [if_neg h]
    go_enter Try.func63, Try.ntmps63
    go_wp2_with fail
    refine (isPlace_any _ _ _).mono ?_
    rintro e w1 ⟨rfl, rfl⟩
    rw [decide_eq_false h]
    clear h
    go_wp2
    go_ret3
    exact ⟨rfl, rfl⟩
end Go.Proofs.Ytjdknijjkjmafaa
