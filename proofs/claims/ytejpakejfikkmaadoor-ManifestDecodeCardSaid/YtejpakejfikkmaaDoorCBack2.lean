/-
  DERIVED. A manifest that goes, there and back: a byte changed.
-/
import Derived.Test.YtejpakejfikkmaaDoorCBack
set_option linter.unusedVariables false
set_option linter.unusedSimpArgs false
namespace Go.Proofs.YtejpakejfikkmaaDoor
open Go.RowKit Go.Proofs.SealMath
theorem leN_xor : ∀ (l : List UInt8) (j : Nat) (c y : UInt8), j < l.length → c.toNat = (l.getD j 0).toNat ^^^ y.toNat → leN (l.set j c) = leN l ^^^ (2 ^ (8 * j) * y.toNat)
  | [], j, c, y, h, _ => by simp at h
  | d :: l, 0, c, y, _, hc => by
    have hd := d.toNat_lt
    have hcl := c.toNat_lt
    rw [show ((d :: l).getD 0 0) = d from rfl] at hc
    rw [List.set_cons_zero, leN, leN, le_xor _ _ hcl, le_xor _ _ hd, hc, Nat.mul_zero, Nat.pow_zero, Nat.one_mul, Nat.xor_assoc]
  | d :: l, j + 1, c, y, h, hc => by
    have hd := d.toNat_lt
    rw [List.set_cons_succ, leN, leN, leN_xor l j c y (by simpa using h) hc, le_xor _ _ hd, le_xor _ _ hd]
    have e : 256 * (leN l ^^^ 2 ^ (8 * j) * y.toNat) = 256 * leN l ^^^ 2 ^ (8 * (j + 1)) * y.toNat := by
      have h1 := Nat.shiftLeft_xor_distrib (a := leN l) (b := 2 ^ (8 * j) * y.toNat) (i := 8)
      rw [Nat.shiftLeft_eq, Nat.shiftLeft_eq, Nat.shiftLeft_eq] at h1
      rw [show (256 : Nat) = 2 ^ 8 from rfl, Nat.mul_comm, h1, Nat.mul_comm, Nat.mul_right_comm, ← Nat.pow_add, show 8 * j + 8 = 8 * (j + 1) by omega]
    rw [e, Nat.xor_assoc, Nat.xor_assoc, Nat.xor_comm (2 ^ (8 * (j + 1)) * y.toNat)]
theorem mfw_of {m : Mf} (h : chE m = 0) : MfW m := by
  have g := goes_of h
  have a1 := g.w
  have a2 := g.ch
  have a3 := g.md
  have a4 := g.seq
  have a5 := g.nx
  have a6 := g.jn
  refine ⟨by omega, by omega, by omega, by omega, by omega, by omega, fun r hr => ?_⟩
  have := g.rs r hr
  omega
theorem enT_size {m : Mf} (h : chE m = 0) : (enT m).size = (payL m).length + 14 := by
  rw [← nm_size, pay_frame h, frL_len]
/-- The text with its byte at k changed. -/
theorem dec_one {m : Mf} (h : chE m = 0) (b : ByteArray) (k : Nat) (c y : UInt8) (hk : k < (enT m).size) (hc : c = (enT m).data.toList.getD k 0 ^^^ y) (hb : b.data.toList = (enT m).data.toList.take k ++ c :: (enT m).data.toList.drop (k + 1)) :
    (y = 0 → dcM b = .ok m) ∧ (y ≠ 0 → ∃ e, dcM b = .error e ∧ e ≠ 0) := by
  have hk' : k < (enT m).data.toList.length := by rw [nm_size]; exact hk
  have hs : (enT m).data.toList.take k ++ c :: (enT m).data.toList.drop (k + 1) = (enT m).data.toList.set k c := (List.set_eq_take_append_cons_drop.trans (if_pos hk')).symm
  rw [hs] at hb
  constructor
  · rintro rfl
    refine dec_enc h b (ba_ext ?_)
    rw [hb, hc, UInt8.xor_zero, show (enT m).data.toList.getD k 0 = (enT m).data.toList[k] by simp [List.getD_eq_getElem?_getD, List.getElem?_eq_getElem hk'], List.set_getElem_self]
  · intro hy
    have hy0 : y.toNat ≠ 0 := fun e => hy (UInt8.toNat_inj.1 e)
    have hyl := y.toNat_lt
    rw [pay_frame h] at hb hk' hc
    exact dec_spoilt h b _ (8 * k) y.toNat (by omega) hy0 (by rw [List.length_set]) (leN_xor _ k c y hk' (by rw [hc, UInt8.toNat_xor])) hb
theorem dec_err {b : ByteArray} {e : Int} (hd : dcM b = .error e) : e ≠ 0 := by
  unfold dcM at hd
  cases hU : dcU b with
  | error e' => rw [hU] at hd; cases hd; exact dcU_err hU
  | ok mu =>
    rw [hU] at hd
    simp only at hd
    split at hd
    · cases hd
    · next hc => cases hd; exact hc
end Go.Proofs.YtejpakejfikkmaaDoor
