/-
  DERIVED. Numbers in bytes of seven bits: the document's Var; PutVar, both.
-/
import Derived.Test.YtkoannkecojhmaaGreatDoorSVar
namespace Go.Proofs.YtkoannkecojhmaaGreatDoor
open Go.RowKit Go.Proofs.SealMath
/-- A number in bytes of seven bits. -/
def pvL : Nat → Nat → List UInt8
  | 0, v => [UInt8.ofNat v]
  | f + 1, v => if v < 128 then [UInt8.ofNat v] else UInt8.ofNat (128 + v % 128) :: pvL f (v / 128)
theorem arr10_slice (W : World) (g n : Nat) (hn : n ≤ 10) :
    (Instr.sliceAt 103 (.pointer (some ⟨g, 0, none⟩)) none (some (.int .i64 n)) none).run Tryz.prog W = .ok (.slice (some ⟨g, 0, none⟩) n 10) W := by
  have hal : Tryz.prog.arrayLen 103 = 10 := by simp [Program.arrayLen, Tryz.underlying103]
  rw [run_sliceAt_array_h W 103 ⟨g, 0, none⟩ (by simp [Program.arrayLen, Program.elem, Tryz.underlying103]) .i64 (n : Int) (by omega) (by rw [hal]; omega)]
  have he : Tryz.prog.elem 103 = 5 := by simp [Program.elem, Tryz.underlying103]
  have hs : (sizeOf 5).run Tryz.prog W = .ok 1 W := by kernel_rfl
  rw [he, hs, hal]
  have ea : (⟨g, 0, none⟩ : Addr).add 0 = ⟨g, 0, none⟩ := by unfold Addr.add; split <;> simp_all
  simp [slicedAt, Result.andThen, ea]
theorem or128 (x : Nat) (hx : x < 256) : bits .or .u8 (x : Int) 128 = ((128 + x % 128 : Nat) : Int) := by
  have h := u8_or_nat x 128 hx (by omega)
  have : ∀ y, y < 256 → y ||| 128 = 128 + y % 128 := by decide +kernel
  rw [this x hx] at h
  exact h
theorem vshift (v k : Nat) (h : v * 2 ^ (7 * k) < 18446744073709551616) : v / 128 * 2 ^ (7 * (k + 1)) < 18446744073709551616 := by
  have e : 2 ^ (7 * (k + 1)) = 128 * 2 ^ (7 * k) := by rw [Nat.mul_add, Nat.pow_add, Nat.mul_comm]
  rw [e, ← Nat.mul_assoc]
  exact Nat.lt_of_le_of_lt (Nat.mul_le_mul_right _ (Nat.div_mul_le_self v 128)) h
theorem vlast (v k : Nat) (h : v * 2 ^ (7 * k) < 18446744073709551616) (hk : 9 ≤ k) : v < 128 := by
  have e : 2 ^ (7 * 9) ≤ 2 ^ (7 * k) := Nat.pow_le_pow_right (by decide) (by omega)
  have := Nat.mul_le_mul_left v e
  have e2 : (2 : Nat) ^ (7 * 9) = 9223372036854775808 := by decide
  rw [e2] at this
  omega
def lb (l : List UInt8) (k : Nat) : Nat := (l.getD k 0).toNat
theorem lb_snoc (l : List UInt8) (c : UInt8) (k : Nat) : lb (l ++ [c]) k = if k = l.length then c.toNat else lb l k := by
  unfold lb
  by_cases h : k < l.length
  · rw [if_neg (by omega)]; simp [List.getD_eq_getElem?_getD, List.getElem?_append_left h]
  · by_cases e : k = l.length
    · subst e; simp
    · rw [if_neg e, List.getD_eq_getElem?_getD, List.getD_eq_getElem?_getD, List.getElem?_eq_none (by simp; omega), List.getElem?_eq_none (by omega)]
theorem lb_at (l : List UInt8) (k : Nat) (h : k < l.length) : (l[k]).toNat = lb l k := by
  unfold lb; rw [List.getD_eq_getElem?_getD, List.getElem?_eq_getElem h]; rfl
set_option maxRecDepth 100000 in
set_option maxHeartbeats 8000000 in
theorem putvar_any (v : Nat) (w : World) (hv : v < 18446744073709551616) :
    Calls Tryz.prog 22 #[.int .u64 v] w fun e w' => e = .returned (.string ⟨(pvL 9 v).toArray⟩) ∧ Below w.heap.size w w' := by
  obtain ⟨R, hR⟩ : ∃ R, R = pvL 9 v := ⟨_, rfl⟩
  rw [← hR]
  go_enter Tryz.func22, Tryz.ntmps22
  go_wp2
  go_loopw [0, 4] (fun x u wr => ∃ (y k f : Nat) (l : List UInt8), k + f = 9 ∧ l.length = k ∧ y * 2 ^ (7 * k) < 18446744073709551616 ∧ x = .int .u64 y ∧ u = .int .i64 k ∧ R = l ++ pvL f y ∧ BA wr w.heap.size 10 (lb l) ∧ Below w.heap.size w wr) (fun x _ _ => (intOf x).toNat)
  case atStart => exact ⟨v, 0, 9, [], rfl, rfl, by simpa using hv, rfl, rfl, hR, BA.new w 103 10 _ rfl, (Below.refl _ _).alloc (Nat.le_refl _) _⟩
  case round =>
    obtain ⟨y, k, f, l, hkf, hl, hy, rfl, rfl, hG, hBA, hbl⟩ := hrel
    clear hR
    have hy64 : y < 18446744073709551616 := Nat.lt_of_le_of_lt (Nat.le_mul_of_pos_right _ (Nat.two_pow_pos _)) hy
    by_cases h128 : 128 ≤ y
    · have hk8 : k ≤ 8 := by
        by_cases h9 : 9 ≤ k
        · have := vlast y k hy h9; omega
        · omega
      obtain ⟨hc, hfz⟩ := hBA k (by omega)
      have HB : Hid (BA wr w.heap.size 10 (lb l)) := hBA
      have HY : Hid (y * 2 ^ (7 * k) < 18446744073709551616) := hy
      have HK : Hid (k + f = 9) := hkf
      have ho := or128 (y % 256) (by omega)
      rw [show y % 256 % 128 = y % 128 by omega, show ((y % 256 : Nat) : Int) = (y : Int) % 256 by simp] at ho
      clear hBA hy hkf
      go_wp2
      have hK := HK.out
      obtain ⟨g, rfl⟩ : ∃ g, f = g + 1 := ⟨f - 1, by omega⟩
      have e8 : (UInt8.ofNat (128 + y % 128)).toNat = 128 + y % 128 := by rw [UInt8.toNat_ofNat']; exact Nat.mod_eq_of_lt (by omega)
      refine ⟨⟨y / 128, k + 1, g, l ++ [UInt8.ofNat (128 + y % 128)], by omega, by simp [hl], vshift y k HY.out, rfl, rfl, ?_, ?_, hbl.setCell (p := ⟨w.heap.size, k, none⟩) (Nat.le_refl _) _⟩, by simp only [intOf]; omega⟩
      · rw [hG, pvL, if_neg (by omega)]; simp
      · refine (HB.out.set k (128 + y % 128)).ext fun q _ => ?_
        rw [lb_snoc, hl, e8]
    · have hk9 : k ≤ 9 := by omega
      obtain ⟨hc, hfz⟩ := hBA k (by omega)
      have e8 : (UInt8.ofNat y).toNat = y := by rw [UInt8.toNat_ofNat']; exact Nat.mod_eq_of_lt (by omega)
      have HG : Hid (R = l ++ [UInt8.ofNat y]) := by
        show _ = _
        rw [hG]
        cases f with
        | zero => rfl
        | succ f => rw [pvL, if_pos (by omega)]
      have hB2 : BA (wr.setCell ⟨w.heap.size, k, none⟩ (.int .u8 y)) w.heap.size 10 (lb (l ++ [UInt8.ofNat y])) :=
        (hBA.set k y).ext fun q _ => by rw [lb_snoc, hl, e8]
      have hcv := hB2.conv (l ++ [UInt8.ofNat y]) 10 (by simp [hl]; omega) (fun q hq => lb_at _ q hq)
      rw [show (l ++ [UInt8.ofNat y]).length = k + 1 by simp [hl]] at hcv
      have hsl := arr10_slice (wr.setCell ⟨w.heap.size, k, none⟩ (.int .u8 y)) w.heap.size (k + 1) (by omega)
      have hb2 : Below w.heap.size w (wr.setCell ⟨w.heap.size, k, none⟩ (.int .u8 y)) := hbl.setCell (p := ⟨w.heap.size, k, none⟩) (Nat.le_refl _) _
      clear hG hB2 hBA hy e8 hkf
      rw [show ((k + 1 : Nat) : Int) = (k : Int) + 1 by omega] at hsl
      go_wp2
      go_ret
      rw [HG.out]
      exact ⟨rfl, hb2⟩
end Go.Proofs.YtkoannkecojhmaaGreatDoor
