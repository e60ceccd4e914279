/-
  DERIVED. SVar, SVarB, JVar, as one text.
-/
import Derived.Test.YtfijjlkhgelmoaaGreatDoorTzAJ
import Derived.OwnWalk
namespace Go.Proofs.YtfijjlkhgelmoaaGreatDoor
open Go.RowKit Go.Proofs.SealMath
/-- The number of some bytes of seven bits, the lowest first. -/
def vN : List UInt8 → Nat
  | [] => 0
  | c :: l => c.toNat % 128 + 128 * vN l
theorem vN_snoc (l : List UInt8) (c : UInt8) : vN (l ++ [c]) = vN l + c.toNat % 128 * 2 ^ (7 * l.length) := by
  induction l with
  | nil => simp [vN]
  | cons d l ih =>
    have e : 2 ^ (7 * (d :: l).length) = 128 * 2 ^ (7 * l.length) := by
      rw [List.length_cons, Nat.mul_add, Nat.pow_add, Nat.mul_comm]
    rw [List.cons_append, vN, vN, ih, e, Nat.mul_add, ← Nat.mul_assoc, ← Nat.mul_assoc, Nat.mul_comm (c.toNat % 128) 128, Nat.mul_assoc]
    omega
theorem vN_lt (l : List UInt8) : vN l < 2 ^ (7 * l.length) := by
  induction l with
  | nil => simp [vN]
  | cons d l ih =>
    have e : 2 ^ (7 * (d :: l).length) = 128 * 2 ^ (7 * l.length) := by
      rw [List.length_cons, Nat.mul_add, Nat.pow_add, Nat.mul_comm]
    rw [vN, e]; omega
/-- How Var goes on at the k-th byte. -/
def vG (b : ByteArray) (p k : Nat) : Nat → Nat × Nat × Int
  | 0 => (0, 0, 0)
  | f + 1 => if h : p + k < b.size then
      if k = 9 ∧ 1 < (b[p + k]).toNat then (0, 0, 30)
      else if 128 ≤ (b[p + k]).toNat then vG b p (k + 1) f
      else if (b[p + k]).toNat = 0 ∧ 0 < k then (0, 0, 32)
      else (vN (sub b p (k + 1)), p + k + 1, 0)
    else (0, 0, 31)
theorem and127 (x : Nat) (hx : x < 256) : bits .and .u8 (x : Int) 127 = ((x % 128 : Nat) : Int) := by
  have h := u8_and_nat x 127 hx (by omega)
  rw [show (127 : Nat) = 2 ^ 7 - 1 by rfl, Nat.and_two_pow_sub_one_eq_mod] at h
  exact h
theorem or_high (v c k : Nat) (h : v < 2 ^ k) : v ||| c * 2 ^ k = v + c * 2 ^ k := by
  have := Nat.two_pow_add_eq_or_of_lt h c
  rw [Nat.or_comm, Nat.mul_comm c, Nat.add_comm v]; exact this.symm
theorem vterm_lt (v c k : Nat) (hv : v < 2 ^ (7 * k)) (hc : c % 128 < 128) (hk : k ≤ 9) (h9 : k = 9 → c ≤ 1) : v + c % 128 * 2 ^ (7 * k) < 18446744073709551616 := by
  have hcases : k = 0 ∨ k = 1 ∨ k = 2 ∨ k = 3 ∨ k = 4 ∨ k = 5 ∨ k = 6 ∨ k = 7 ∨ k = 8 ∨ k = 9 := by omega
  rcases hcases with rfl | rfl | rfl | rfl | rfl | rfl | rfl | rfl | rfl | rfl <;> simp at hv ⊢ <;> omega
theorem ret3 {a b c d e f : Value} (h : a = d) (k : b = e) (l : c = f) : Ending.returned (.tuple #[a, b, c]) = .returned (.tuple #[d, e, f]) := by rw [h, k, l]
set_option maxRecDepth 100000 in
set_option maxHeartbeats 8000000 in
theorem var_ok (b : ByteArray) (p : Nat) (R : Nat × Nat × Int) (w : World) (hb : b.size < 4611686018427387904) (hs : p ≤ b.size) (hR : R = vG b p 0 11) :
    Calls Tryz.prog 71 #[.string b, .int .i64 p] w fun e w' => e = .returned (.tuple #[.int .u64 R.1, .int .i64 R.2.1, .int .i64 R.2.2]) ∧ w' = w := by
  go_enter Tryz.func71, Tryz.ntmps71
  go_wp2_with fail
  refine (isPlace_any _ _ _).mono ?_
  rintro e w1 ⟨rfl, rfl⟩
  rw [decide_eq_true (by omega : 0 ≤ (p : Int) ∧ (p : Int) ≤ b.size)]
  go_wp2
  go_loopw [7, 18] (fun x u wr => ∃ k f : Nat, k + f = 11 ∧ k ≤ 9 ∧ p + k ≤ b.size ∧ u = .int .i64 k ∧ x = .int .u64 (vN (sub b p k)) ∧ R = vG b p k f ∧ wr = w1) (fun _ u _ => 10 - (intOf u).toNat)
  case atStart => exact ⟨0, 11, rfl, by omega, by omega, rfl, rfl, hR, rfl⟩
  case round =>
    obtain ⟨k, f, hkf, hk9, hpk, rfl, rfl, hG, rfl⟩ := hrel
    clear hR
    obtain ⟨f, rfl⟩ : ∃ g, f = g + 1 := ⟨f - 1, by omega⟩
    have HF : Hid (k + (f + 1) = 11) := hkf
    clear hkf
    have hlv := vN_lt (sub b p k)
    rw [sub_len b p k hpk] at hlv
    by_cases hlt : p + k < b.size
    · have hc := (b[p + k]).toNat_lt
      have hsn := vN_snoc (sub b p k) (b[p + k])
      rw [← sub_snoc b p k hlt, sub_len b p k hpk] at hsn
      rw [vG, dif_pos hlt] at hG
      by_cases h9 : k = 9 ∧ 1 < (b[p + k]).toNat
      · rw [if_pos h9] at hG
        subst hG
        obtain ⟨rfl, h1⟩ := h9
        clear hsn hlv
        go_wp2
        go_ret3
        exact ⟨rfl, rfl⟩
      · rw [if_neg h9] at hG
        have hb64 := vterm_lt (vN (sub b p k)) (b[p + k]).toNat k hlv (Nat.mod_lt _ (by omega)) hk9 (by omega)
        have ha := and127 (b[p + k]).toNat hc
        have ho := u64_or_nat (vN (sub b p k)) ((b[p + k]).toNat % 128 * 2 ^ (7 * k)) (by omega) (by omega)
        rw [or_high _ _ _ hlv, ← hsn] at ho
        have ec : (((b[p + k]).toNat % 128 * 2 ^ (7 * k) : Nat) : Int) = ((b[p + k]).toNat : Int) % 128 * 2 ^ (7 * k) := by simp
        have hw : IntKind.u64.wrap (((b[p + k]).toNat : Int) % 128 * 2 ^ (7 * k)) = (((b[p + k]).toNat % 128 * 2 ^ (7 * k) : Nat) : Int) := by
          rw [← ec, IntKind.wrap_u64]
          generalize (b[p + k]).toNat % 128 * 2 ^ (7 * k) = T at *
          omega
        rw [ec] at ho
        clear ec
        by_cases h128 : 128 ≤ (b[p + k]).toNat
        · rw [if_pos h128] at hG
          have h8 : k ≤ 8 := by omega
          clear h9 hsn
          have h9 : ¬ k = 9 := by omega
          have HO : Hid (bits BinOp.or IntKind.u64 ((vN (sub b p k) : Nat) : Int) (((b[p + k]).toNat : Int) % 128 * 2 ^ (7 * k)) = ((vN (sub b p (k + 1)) : Nat) : Int)) := ho
          clear ho
          go_wp2
          refine ⟨⟨k + 1, f, by have := HF.out; omega, by omega, by omega, rfl, ?_, hG, trivial⟩, by simp only [intOf]; omega⟩
          exact ival HO.out
        · rw [if_neg h128] at hG
          by_cases h0 : (b[p + k]).toNat = 0 ∧ 0 < k
          · rw [if_pos h0] at hG
            subst hG
            obtain ⟨h00, h01⟩ := h0
            clear h9 hw ho hsn hb64 ha hlv
            by_cases hk : k = 9
            · subst hk
              go_wp2
              go_ret3
              exact ⟨rfl, rfl⟩
            · go_wp2
              go_ret3
              exact ⟨rfl, rfl⟩
          · rw [if_neg h0] at hG
            subst hG
            have HO : Hid (bits BinOp.or IntKind.u64 ((vN (sub b p k) : Nat) : Int) (((b[p + k]).toNat : Int) % 128 * 2 ^ (7 * k)) = ((vN (sub b p (k + 1)) : Nat) : Int)) := ho
            clear ho
            by_cases h00 : (b[p + k]).toNat = 0
            · have hk0 : k = 0 := by omega
              subst hk0
              have HZ : Hid (vN (sub b p (0 + 1)) = 0) := by
                show _ = _; rw [hsn, h00]; rfl
              have hlt' : p < b.size := hlt
              have h00' : (b[p]'hlt').toNat = 0 := h00
              clear h9 HO hw hsn ha hb64 hlv h128 h0 h00 hc
              go_wp2
              go_ret3
              refine ⟨ret3 (ival ?_) rfl rfl, rfl⟩
              have e0 : vN (sub b p 0) = 0 := by unfold sub; rw [List.take_zero]; rfl
              rw [HZ.out, e0]
              decide +kernel
            · clear hsn
              by_cases hk : k = 9
              · have hle : ¬ 1 < (b[p + k]).toNat := by omega
                subst hk
                clear h9 h0
                go_wp2
                go_ret3
                exact ⟨ret3 (ival HO.out) rfl rfl, rfl⟩
              · clear h9 h0
                go_wp2
                go_ret3
                exact ⟨ret3 (ival HO.out) rfl rfl, rfl⟩
    · rw [vG, dif_neg hlt] at hG
      subst hG
      have e : p + k = b.size := by omega
      have e2 : (b.size : Int) - p = k := by omega
      clear hlv
      go_wp2
      go_ret3
      exact ⟨rfl, rfl⟩
/-- What Var answers. -/
def vA (b : ByteArray) (p : Int) : Nat × Nat × Int := if 0 ≤ p ∧ p ≤ b.size then vG b p.toNat 0 11 else (0, 0, 13)
set_option maxHeartbeats 1000000 in
theorem var_any (b : ByteArray) (p : Int) (w : World) (hb : b.size < 4611686018427387904) :
    Calls Tryz.prog 71 #[.string b, .int .i64 p] w fun e w' => e = .returned (.tuple #[.int .u64 (vA b p).1, .int .i64 (vA b p).2.1, .int .i64 (vA b p).2.2]) ∧ w' = w := by
  unfold vA
  by_cases h : 0 ≤ p ∧ p ≤ b.size
  · rw [if_pos h]
    obtain ⟨a, rfl⟩ : ∃ a : Nat, p = a := ⟨p.toNat, by omega⟩
    exact var_ok b a _ w hb (by omega) rfl
  · rw [if_neg h]
    go_enter Tryz.func71, Tryz.ntmps71
    go_wp2_with fail
    refine (isPlace_any _ _ _).mono ?_
    rintro e w1 ⟨rfl, rfl⟩
    rw [decide_eq_false h]
    clear h
    go_wp2
    go_ret3
    exact ⟨rfl, rfl⟩
end Go.Proofs.YtfijjlkhgelmoaaGreatDoor
namespace Go.Proofs.YtfijjlkhgelmoaaGreatDoor
open Go.RowKit Go.Proofs.SealMath
/-- A number in bytes of seven bits. -/
def pvL : Nat → Nat → List UInt8
  | 0, v => [UInt8.ofNat v]
  | f + 1, v => if v < 128 then [UInt8.ofNat v] else UInt8.ofNat (128 + v % 128) :: pvL f (v / 128)
theorem arr10_slice (W : World) (g n : Nat) (hn : n ≤ 10) :
    (Instr.sliceAt 69 (.pointer (some ⟨g, 0, none⟩)) none (some (.int .i64 n)) none).run Tryz.prog W = .ok (.slice (some ⟨g, 0, none⟩) n 10) W := by
  have hal : Tryz.prog.arrayLen 69 = 10 := by simp [Program.arrayLen, Tryz.underlying69]
  rw [run_sliceAt_array_h W 69 ⟨g, 0, none⟩ (by simp [Program.arrayLen, Program.elem, Tryz.underlying69]) .i64 (n : Int) (by omega) (by rw [hal]; omega)]
  have he : Tryz.prog.elem 69 = 5 := by simp [Program.elem, Tryz.underlying69]
  have hs : (sizeOf 5).run Tryz.prog W = .ok 1 W := by kernel_rfl
  rw [he, hs, hal]
  have ea : (⟨g, 0, none⟩ : Addr).add 0 = ⟨g, 0, none⟩ := by unfold Addr.add; split <;> simp_all
  simp [slicedAt, Result.andThen, ea]
theorem or128 (x : Nat) (hx : x < 256) : bits .or .u8 (x : Int) 128 = ((128 + x % 128 : Nat) : Int) := by
  have h := u8_or_nat x 128 hx (by omega)
  have : ∀ y, y < 256 → y ||| 128 = 128 + y % 128 := by decide +kernel
  rw [this x hx] at h
  exact h
theorem vshift (v k : Nat) (h : v * 2 ^ (7 * k) < 18446744073709551616) : v / 128 * 2 ^ (7 * (k + 1)) < 18446744073709551616 := by
  have e : 2 ^ (7 * (k + 1)) = 128 * 2 ^ (7 * k) := by rw [Nat.mul_add, Nat.pow_add, Nat.mul_comm]
  rw [e, ← Nat.mul_assoc]
  exact Nat.lt_of_le_of_lt (Nat.mul_le_mul_right _ (Nat.div_mul_le_self v 128)) h
theorem vlast (v k : Nat) (h : v * 2 ^ (7 * k) < 18446744073709551616) (hk : 9 ≤ k) : v < 128 := by
  have e : 2 ^ (7 * 9) ≤ 2 ^ (7 * k) := Nat.pow_le_pow_right (by decide) (by omega)
  have := Nat.mul_le_mul_left v e
  have e2 : (2 : Nat) ^ (7 * 9) = 9223372036854775808 := by decide
  rw [e2] at this
  omega
def lb (l : List UInt8) (k : Nat) : Nat := (l.getD k 0).toNat
theorem lb_snoc (l : List UInt8) (c : UInt8) (k : Nat) : lb (l ++ [c]) k = if k = l.length then c.toNat else lb l k := by
  unfold lb
  by_cases h : k < l.length
  · rw [if_neg (by omega)]; simp [List.getD_eq_getElem?_getD, List.getElem?_append_left h]
  · by_cases e : k = l.length
    · subst e; simp
    · rw [if_neg e, List.getD_eq_getElem?_getD, List.getD_eq_getElem?_getD, List.getElem?_eq_none (by simp; omega), List.getElem?_eq_none (by omega)]
theorem lb_at (l : List UInt8) (k : Nat) (h : k < l.length) : (l[k]).toNat = lb l k := by
  unfold lb; rw [List.getD_eq_getElem?_getD, List.getElem?_eq_getElem h]; rfl
set_option maxRecDepth 100000 in
set_option maxHeartbeats 8000000 in
theorem putvar_any (v : Nat) (w : World) (hv : v < 18446744073709551616) :
    Calls Tryz.prog 14 #[.int .u64 v] w fun e w' => e = .returned (.string ⟨(pvL 9 v).toArray⟩) ∧ Below w.heap.size w w' := by
  obtain ⟨R, hR⟩ : ∃ R, R = pvL 9 v := ⟨_, rfl⟩
  rw [← hR]
  go_enter Tryz.func14, Tryz.ntmps14
  go_wp2
  go_loopw [0, 4] (fun x u wr => ∃ (y k f : Nat) (l : List UInt8), k + f = 9 ∧ l.length = k ∧ y * 2 ^ (7 * k) < 18446744073709551616 ∧ x = .int .u64 y ∧ u = .int .i64 k ∧ R = l ++ pvL f y ∧ BA wr w.heap.size 10 (lb l) ∧ Below w.heap.size w wr) (fun x _ _ => (intOf x).toNat)
  case atStart => exact ⟨v, 0, 9, [], rfl, rfl, by simpa using hv, rfl, rfl, hR, BA.new w 69 10 _ rfl, (Below.refl _ _).alloc (Nat.le_refl _) _⟩
  case round =>
    obtain ⟨y, k, f, l, hkf, hl, hy, rfl, rfl, hG, hBA, hbl⟩ := hrel
    clear hR
    have hy64 : y < 18446744073709551616 := Nat.lt_of_le_of_lt (Nat.le_mul_of_pos_right _ (Nat.two_pow_pos _)) hy
    by_cases h128 : 128 ≤ y
    · have hk8 : k ≤ 8 := by
        by_cases h9 : 9 ≤ k
        · have := vlast y k hy h9; omega
        · omega
      obtain ⟨hc, hfz⟩ := hBA k (by omega)
      have HB : Hid (BA wr w.heap.size 10 (lb l)) := hBA
      have HY : Hid (y * 2 ^ (7 * k) < 18446744073709551616) := hy
      have HK : Hid (k + f = 9) := hkf
      have ho := or128 (y % 256) (by omega)
      rw [show y % 256 % 128 = y % 128 by omega, show ((y % 256 : Nat) : Int) = (y : Int) % 256 by simp] at ho
      clear hBA hy hkf
      go_wp2
      have hK := HK.out
      obtain ⟨g, rfl⟩ : ∃ g, f = g + 1 := ⟨f - 1, by omega⟩
      have e8 : (UInt8.ofNat (128 + y % 128)).toNat = 128 + y % 128 := by rw [UInt8.toNat_ofNat']; exact Nat.mod_eq_of_lt (by omega)
      refine ⟨⟨y / 128, k + 1, g, l ++ [UInt8.ofNat (128 + y % 128)], by omega, by simp [hl], vshift y k HY.out, rfl, rfl, ?_, ?_, hbl.setCell (p := ⟨w.heap.size, k, none⟩) (Nat.le_refl _) _⟩, by simp only [intOf]; omega⟩
      · rw [hG, pvL, if_neg (by omega)]; simp
      · refine (HB.out.set k (128 + y % 128)).ext fun q _ => ?_
        rw [lb_snoc, hl, e8]
    · have hk9 : k ≤ 9 := by omega
      obtain ⟨hc, hfz⟩ := hBA k (by omega)
      have e8 : (UInt8.ofNat y).toNat = y := by rw [UInt8.toNat_ofNat']; exact Nat.mod_eq_of_lt (by omega)
      have HG : Hid (R = l ++ [UInt8.ofNat y]) := by
        show _ = _
        rw [hG]
        cases f with
        | zero => rfl
        | succ f => rw [pvL, if_pos (by omega)]
      have hB2 : BA (wr.setCell ⟨w.heap.size, k, none⟩ (.int .u8 y)) w.heap.size 10 (lb (l ++ [UInt8.ofNat y])) :=
        (hBA.set k y).ext fun q _ => by rw [lb_snoc, hl, e8]
      have hcv := hB2.conv (l ++ [UInt8.ofNat y]) 10 (by simp [hl]; omega) (fun q hq => lb_at _ q hq)
      rw [show (l ++ [UInt8.ofNat y]).length = k + 1 by simp [hl]] at hcv
      have hsl := arr10_slice (wr.setCell ⟨w.heap.size, k, none⟩ (.int .u8 y)) w.heap.size (k + 1) (by omega)
      have hb2 : Below w.heap.size w (wr.setCell ⟨w.heap.size, k, none⟩ (.int .u8 y)) := hbl.setCell (p := ⟨w.heap.size, k, none⟩) (Nat.le_refl _) _
      clear hG hB2 hBA hy e8 hkf
      rw [show ((k + 1 : Nat) : Int) = (k : Int) + 1 by omega] at hsl
      go_wp2
      go_ret
      rw [HG.out]
      exact ⟨rfl, hb2⟩
end Go.Proofs.YtfijjlkhgelmoaaGreatDoor
set_option linter.unusedVariables false
set_option linter.unusedSimpArgs false
namespace Go.Proofs.YtfijjlkhgelmoaaGreatDoor
open Go.RowKit Go.Proofs.SealMath
theorem sub_head (b : ByteArray) (a : Nat) (c : UInt8) (l : List UInt8) (h : sub b a (l.length + 1) = c :: l) : ∃ hh : a < b.size, b[a] = c ∧ sub b (a + 1) l.length = l := by
  have hl : (sub b a (l.length + 1)).length = l.length + 1 := by rw [h]; rfl
  have h1 : a < b.size := by
    unfold sub at hl
    rw [List.length_take, List.length_drop] at hl
    have : b.data.toList.length = b.size := by simp
    omega
  refine ⟨h1, ?_⟩
  have e : sub b a (l.length + 1) = b[a] :: sub b (a + 1) l.length := by
    unfold sub
    rw [List.drop_eq_getElem_cons (by simpa using h1), List.take_succ_cons]
    rfl
  rw [e] at h
  injection h with h2 h3
  exact ⟨h2, h3⟩
theorem sub_cons (b : ByteArray) (a n : Nat) (h : a < b.size) : sub b a (n + 1) = b[a] :: sub b (a + 1) n := by
  unfold sub
  rw [List.drop_eq_getElem_cons (by simpa using h), List.take_succ_cons]
  rfl
theorem u8_small (v : Nat) (h : v < 256) : (UInt8.ofNat v).toNat = v := by rw [UInt8.toNat_ofNat']; omega
theorem sub_le (b : ByteArray) (p k : Nat) (h : p + k ≤ b.size) : (sub b p k).length = k := sub_len b p k h
theorem vN_next (b : ByteArray) (p k : Nat) (h : p + k < b.size) : vN (sub b p (k + 1)) = vN (sub b p k) + (b[p + k]).toNat % 128 * 2 ^ (7 * k) := by
  rw [sub_snoc b p k h, vN_snoc, sub_len b p k (by omega)]
theorem pow7 (k : Nat) : 2 ^ (7 * (k + 1)) = 128 * 2 ^ (7 * k) := by rw [Nat.mul_add, Nat.pow_add, Nat.mul_comm]
theorem vG_put (b : ByteArray) (p : Nat) : ∀ (f v k : Nat), f + k = 9 → v < 2 * 128 ^ f → sub b (p + k) (pvL f v).length = pvL f v → (0 < k → 0 < v) →
    vG b p k (f + 2) = (vN (sub b p k) + v * 2 ^ (7 * k), p + k + (pvL f v).length, 0) := by
  intro f
  induction f with
  | zero =>
    intro v k hk hv hs h0
    have hk9 : k = 9 := by omega
    subst hk9
    have hv2 : v < 2 := by simpa using hv
    simp only [pvL, List.length_cons, List.length_nil] at hs
    obtain ⟨h1, h2, -⟩ := sub_head b (p + 9) _ [] hs
    have hc : (b[p + 9]).toNat = v := by rw [h2]; exact u8_small v (by omega)
    rw [vG, dif_pos h1, hc, if_neg (by omega), if_neg (by omega), if_neg (by have := h0 (by omega); omega), vN_next b p 9 h1, hc, Nat.mod_eq_of_lt (by omega)]
    simp [pvL]
  | succ f ih =>
    intro v k hk hv hs h0
    by_cases hlt : v < 128
    · rw [pvL, if_pos hlt] at hs ⊢
      obtain ⟨h1, h2, -⟩ := sub_head b (p + k) _ [] hs
      have hc : (b[p + k]).toNat = v := by rw [h2]; exact u8_small v (by omega)
      rw [vG, dif_pos h1, hc, if_neg (by omega), if_neg (by omega), if_neg (by intro ⟨a, c⟩; have := h0 c; omega), vN_next b p k h1, hc, Nat.mod_eq_of_lt hlt]
      simp
    · rw [pvL, if_neg hlt] at hs ⊢
      obtain ⟨h1, h2, h3⟩ := sub_head b (p + k) _ _ hs
      have hc : (b[p + k]).toNat = 128 + v % 128 := by rw [h2]; exact u8_small _ (by omega)
      have hv' : v / 128 < 2 * 128 ^ f := by rw [Nat.pow_succ] at hv; omega
      have := ih (v / 128) (k + 1) (by omega) hv' (by rw [← Nat.add_assoc]; exact h3) (fun _ => by omega)
      rw [vG, dif_pos h1, hc, if_neg (by omega), if_pos (by omega), this, vN_next b p k h1, hc, pow7]
      have e : (128 + v % 128) % 128 = v % 128 := by omega
      have e2 : v = v % 128 + 128 * (v / 128) := by omega
      rw [e]
      refine Prod.ext ?_ (Prod.ext ?_ rfl)
      · show vN (sub b p k) + v % 128 * 2 ^ (7 * k) + v / 128 * (128 * 2 ^ (7 * k)) = vN (sub b p k) + v * 2 ^ (7 * k)
        have e3 : v * 2 ^ (7 * k) = v % 128 * 2 ^ (7 * k) + v / 128 * (128 * 2 ^ (7 * k)) := by
          rw [← Nat.mul_assoc, ← Nat.add_mul, Nat.mul_comm (v / 128) 128, ← e2]
        omega
      · show p + (k + 1) + (pvL f (v / 128)).length = p + k + ((pvL f (v / 128)).length + 1)
        omega
theorem vG_only (b : ByteArray) (p : Nat) : ∀ (f k v q : Nat), f + k = 9 → vG b p k (f + 2) = (v, q, 0) →
    ∃ m, m < 2 * 128 ^ f ∧ v = vN (sub b p k) + m * 2 ^ (7 * k) ∧ q = p + k + (pvL f m).length ∧ sub b (p + k) (pvL f m).length = pvL f m ∧ q ≤ b.size ∧ (0 < k → 0 < m) := by
  intro f
  induction f with
  | zero =>
    intro k v q hk h
    have hk9 : k = 9 := by omega
    subst hk9
    rw [vG] at h
    split at h
    · rename_i h1
      split at h
      · simp at h
      · split at h
        · rename_i h2 h3; omega
        · split at h
          · simp at h
          · rename_i h2 h3 h4
            simp only [Prod.mk.injEq, and_true] at h
            obtain ⟨rfl, rfl⟩ := h
            refine ⟨(b[p + 9]).toNat, by simp; omega, ?_, by simp [pvL], ?_, by omega, fun _ => by omega⟩
            · rw [vN_next b p 9 h1, Nat.mod_eq_of_lt (by omega)]
            · simp only [pvL, List.length_cons, List.length_nil]
              rw [sub_cons b (p + 9) 0 h1, UInt8.ofNat_toNat]
              simp [sub]
    · simp at h
  | succ f ih =>
    intro k v q hk h
    rw [vG] at h
    split at h
    · rename_i h1
      split at h
      · simp at h
      · split at h
        · rename_i h2 h3
          obtain ⟨m, hm, hv, hq, hs, hqb, h0⟩ := ih (k + 1) v q (by omega) h
          have hm0 := h0 (by omega)
          have hcl : (b[p + k]).toNat < 256 := UInt8.toNat_lt _
          have hM : ¬ (b[p + k]).toNat % 128 + 128 * m < 128 := by omega
          have hd : ((b[p + k]).toNat % 128 + 128 * m) / 128 = m := by omega
          have hmo : 128 + ((b[p + k]).toNat % 128 + 128 * m) % 128 = (b[p + k]).toNat := by omega
          refine ⟨(b[p + k]).toNat % 128 + 128 * m, by rw [Nat.pow_succ]; omega, ?_, ?_, ?_, hqb, fun _ => by omega⟩
          · rw [hv, vN_next b p k h1, pow7, Nat.add_mul, Nat.mul_comm 128 m, Nat.mul_assoc]; omega
          · rw [pvL, if_neg hM, hd, hq, List.length_cons]; omega
          · rw [pvL, if_neg hM, hd, hmo, List.length_cons, sub_cons b (p + k) _ h1, UInt8.ofNat_toNat]
            rw [← Nat.add_assoc] at hs
            rw [hs]
        · split at h
          · simp at h
          · rename_i h2 h3 h4
            simp only [Prod.mk.injEq, and_true] at h
            obtain ⟨rfl, rfl⟩ := h
            have hlt : (b[p + k]).toNat < 128 := by omega
            have hp : 0 < 128 ^ f := Nat.pow_pos (by omega)
            refine ⟨(b[p + k]).toNat, by rw [Nat.pow_succ]; omega, ?_, ?_, ?_, by omega, fun _ => by omega⟩
            · rw [vN_next b p k h1, Nat.mod_eq_of_lt hlt]
            · rw [pvL, if_pos hlt]; simp
            · rw [pvL, if_pos hlt]; simp only [List.length_cons, List.length_nil]
              rw [sub_cons b (p + k) 0 h1, UInt8.ofNat_toNat]
              simp [sub]
    · simp at h
theorem two64 : 2 * 128 ^ 9 = 18446744073709551616 := by decide
theorem vA_put (b : ByteArray) (p v : Nat) (hv : v < 18446744073709551616) (hs : sub b p (pvL 9 v).length = pvL 9 v) (hp : p ≤ b.size) : vA b p = (v, p + (pvL 9 v).length, 0) := by
  unfold vA
  rw [if_pos (by omega)]
  have := vG_put b p 9 v 0 rfl (by rw [two64]; exact hv) hs (fun h => by omega)
  rw [Int.toNat_natCast, this]
  simp [sub, vN]
theorem vA_only (b : ByteArray) (p : Nat) (v q : Nat) (h : vA b p = (v, q, 0)) : v < 18446744073709551616 ∧ q = p + (pvL 9 v).length ∧ sub b p (pvL 9 v).length = pvL 9 v ∧ q ≤ b.size := by
  unfold vA at h
  split at h
  · rw [Int.toNat_natCast] at h
    obtain ⟨m, hm, hv, hq, hs, hqb, -⟩ := vG_only b p 9 0 v q rfl h
    have : v = m := by rw [hv]; simp [sub, vN]
    subst this
    exact ⟨by rw [← two64]; exact hm, hq, hs, hqb⟩
  · simp at h
theorem pvL_len (f v : Nat) : 1 ≤ (pvL f v).length ∧ (pvL f v).length ≤ f + 1 := by
  induction f generalizing v with
  | zero => simp [pvL]
  | succ f ih =>
    rw [pvL]; split
    · simp
    · have := ih (v / 128); simp; omega
end Go.Proofs.YtfijjlkhgelmoaaGreatDoor
