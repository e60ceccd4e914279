/-
  DERIVED. SVarB, JVar, SOn, SFrame, as one text.
-/
import Derived.Test.YtcamnalmcghjfaaGreatDoorTzAJ
import Derived.Test.YtcamnalmcghjfaaGreatDoorTzAA
import Derived.OwnWalk
namespace Go.Proofs.YtcamnalmcghjfaaGreatDoor
open Go.RowKit Go.Proofs.SealMath
/-- A number in bytes of seven bits. -/
def pvL : Nat → Nat → List UInt8
  | 0, v => [UInt8.ofNat v]
  | f + 1, v => if v < 128 then [UInt8.ofNat v] else UInt8.ofNat (128 + v % 128) :: pvL f (v / 128)
theorem arr10_slice (W : World) (g n : Nat) (hn : n ≤ 10) :
    (Instr.sliceAt 113 (.pointer (some ⟨g, 0, none⟩)) none (some (.int .i64 n)) none).run Tryz.prog W = .ok (.slice (some ⟨g, 0, none⟩) n 10) W := by
  have hal : Tryz.prog.arrayLen 113 = 10 := by simp [Program.arrayLen, Tryz.underlying113]
  rw [run_sliceAt_array_h W 113 ⟨g, 0, none⟩ (by simp [Program.arrayLen, Program.elem, Tryz.underlying113]) .i64 (n : Int) (by omega) (by rw [hal]; omega)]
  have he : Tryz.prog.elem 113 = 5 := by simp [Program.elem, Tryz.underlying113]
  have hs : (sizeOf 5).run Tryz.prog W = .ok 1 W := by kernel_rfl
  rw [he, hs, hal]
  have ea : (⟨g, 0, none⟩ : Addr).add 0 = ⟨g, 0, none⟩ := by unfold Addr.add; split <;> simp_all
  simp [slicedAt, Result.andThen, ea]
theorem or128 (x : Nat) (hx : x < 256) : bits .or .u8 (x : Int) 128 = ((128 + x % 128 : Nat) : Int) := by
  have h := u8_or_nat x 128 hx (by omega)
  have : ∀ y, y < 256 → y ||| 128 = 128 + y % 128 := by decide +kernel
  rw [this x hx] at h
  exact h
theorem vshift (v k : Nat) (h : v * 2 ^ (7 * k) < 18446744073709551616) : v / 128 * 2 ^ (7 * (k + 1)) < 18446744073709551616 := by
  have e : 2 ^ (7 * (k + 1)) = 128 * 2 ^ (7 * k) := by rw [Nat.mul_add, Nat.pow_add, Nat.mul_comm]
  rw [e, ← Nat.mul_assoc]
  exact Nat.lt_of_le_of_lt (Nat.mul_le_mul_right _ (Nat.div_mul_le_self v 128)) h
theorem vlast (v k : Nat) (h : v * 2 ^ (7 * k) < 18446744073709551616) (hk : 9 ≤ k) : v < 128 := by
  have e : 2 ^ (7 * 9) ≤ 2 ^ (7 * k) := Nat.pow_le_pow_right (by decide) (by omega)
  have := Nat.mul_le_mul_left v e
  have e2 : (2 : Nat) ^ (7 * 9) = 9223372036854775808 := by decide
  rw [e2] at this
  omega
def lb (l : List UInt8) (k : Nat) : Nat := (l.getD k 0).toNat
theorem lb_snoc (l : List UInt8) (c : UInt8) (k : Nat) : lb (l ++ [c]) k = if k = l.length then c.toNat else lb l k := by
  unfold lb
  by_cases h : k < l.length
  · rw [if_neg (by omega)]; simp [List.getD_eq_getElem?_getD, List.getElem?_append_left h]
  · by_cases e : k = l.length
    · subst e; simp
    · rw [if_neg e, List.getD_eq_getElem?_getD, List.getD_eq_getElem?_getD, List.getElem?_eq_none (by simp; omega), List.getElem?_eq_none (by omega)]
theorem lb_at (l : List UInt8) (k : Nat) (h : k < l.length) : (l[k]).toNat = lb l k := by
  unfold lb; rw [List.getD_eq_getElem?_getD, List.getElem?_eq_getElem h]; rfl
set_option maxRecDepth 100000 in
set_option maxHeartbeats 8000000 in
theorem putvar_any (v : Nat) (w : World) (hv : v < 18446744073709551616) :
    Calls Tryz.prog 57 #[.int .u64 v] w fun e w' => e = .returned (.string ⟨(pvL 9 v).toArray⟩) ∧ Below w.heap.size w w' := by
  obtain ⟨R, hR⟩ : ∃ R, R = pvL 9 v := ⟨_, rfl⟩
  rw [← hR]
  go_enter Tryz.func57, Tryz.ntmps57
  go_wp2
  go_loopw [0, 4] (fun x u wr => ∃ (y k f : Nat) (l : List UInt8), k + f = 9 ∧ l.length = k ∧ y * 2 ^ (7 * k) < 18446744073709551616 ∧ x = .int .u64 y ∧ u = .int .i64 k ∧ R = l ++ pvL f y ∧ BA wr w.heap.size 10 (lb l) ∧ Below w.heap.size w wr) (fun x _ _ => (intOf x).toNat)
  case atStart => exact ⟨v, 0, 9, [], rfl, rfl, by simpa using hv, rfl, rfl, hR, BA.new w 113 10 _ rfl, (Below.refl _ _).alloc (Nat.le_refl _) _⟩
  case round =>
    obtain ⟨y, k, f, l, hkf, hl, hy, rfl, rfl, hG, hBA, hbl⟩ := hrel
    clear hR
    have hy64 : y < 18446744073709551616 := Nat.lt_of_le_of_lt (Nat.le_mul_of_pos_right _ (Nat.two_pow_pos _)) hy
    by_cases h128 : 128 ≤ y
    · have hk8 : k ≤ 8 := by
        by_cases h9 : 9 ≤ k
        · have := vlast y k hy h9; omega
        · omega
      obtain ⟨hc, hfz⟩ := hBA k (by omega)
      have HB : Hid (BA wr w.heap.size 10 (lb l)) := hBA
      have HY : Hid (y * 2 ^ (7 * k) < 18446744073709551616) := hy
      have HK : Hid (k + f = 9) := hkf
      have ho := or128 (y % 256) (by omega)
      rw [show y % 256 % 128 = y % 128 by omega, show ((y % 256 : Nat) : Int) = (y : Int) % 256 by simp] at ho
      clear hBA hy hkf
      go_wp2
      have hK := HK.out
      obtain ⟨g, rfl⟩ : ∃ g, f = g + 1 := ⟨f - 1, by omega⟩
      have e8 : (UInt8.ofNat (128 + y % 128)).toNat = 128 + y % 128 := by rw [UInt8.toNat_ofNat']; exact Nat.mod_eq_of_lt (by omega)
      refine ⟨⟨y / 128, k + 1, g, l ++ [UInt8.ofNat (128 + y % 128)], by omega, by simp [hl], vshift y k HY.out, rfl, rfl, ?_, ?_, hbl.setCell (p := ⟨w.heap.size, k, none⟩) (Nat.le_refl _) _⟩, by simp only [intOf]; omega⟩
      · rw [hG, pvL, if_neg (by omega)]; simp
      · refine (HB.out.set k (128 + y % 128)).ext fun q _ => ?_
        rw [lb_snoc, hl, e8]
    · have hk9 : k ≤ 9 := by omega
      obtain ⟨hc, hfz⟩ := hBA k (by omega)
      have e8 : (UInt8.ofNat y).toNat = y := by rw [UInt8.toNat_ofNat']; exact Nat.mod_eq_of_lt (by omega)
      have HG : Hid (R = l ++ [UInt8.ofNat y]) := by
        show _ = _
        rw [hG]
        cases f with
        | zero => rfl
        | succ f => rw [pvL, if_pos (by omega)]
      have hB2 : BA (wr.setCell ⟨w.heap.size, k, none⟩ (.int .u8 y)) w.heap.size 10 (lb (l ++ [UInt8.ofNat y])) :=
        (hBA.set k y).ext fun q _ => by rw [lb_snoc, hl, e8]
      have hcv := hB2.conv (l ++ [UInt8.ofNat y]) 10 (by simp [hl]; omega) (fun q hq => lb_at _ q hq)
      rw [show (l ++ [UInt8.ofNat y]).length = k + 1 by simp [hl]] at hcv
      have hsl := arr10_slice (wr.setCell ⟨w.heap.size, k, none⟩ (.int .u8 y)) w.heap.size (k + 1) (by omega)
      have hb2 : Below w.heap.size w (wr.setCell ⟨w.heap.size, k, none⟩ (.int .u8 y)) := hbl.setCell (p := ⟨w.heap.size, k, none⟩) (Nat.le_refl _) _
      clear hG hB2 hBA hy e8 hkf
      rw [show ((k + 1 : Nat) : Int) = (k : Int) + 1 by omega] at hsl
      go_wp2
      go_ret
      rw [HG.out]
      exact ⟨rfl, hb2⟩
end Go.Proofs.YtcamnalmcghjfaaGreatDoor
set_option linter.unusedVariables false
set_option linter.unusedSimpArgs false
namespace Go.Proofs.YtcamnalmcghjfaaGreatDoor
open Go.RowKit Go.Proofs.SealMath
theorem sub_head (b : ByteArray) (a : Nat) (c : UInt8) (l : List UInt8) (h : sub b a (l.length + 1) = c :: l) : ∃ hh : a < b.size, b[a] = c ∧ sub b (a + 1) l.length = l := by
  have hl : (sub b a (l.length + 1)).length = l.length + 1 := by rw [h]; rfl
  have h1 : a < b.size := by
    unfold sub at hl
    rw [List.length_take, List.length_drop] at hl
    have : b.data.toList.length = b.size := by simp
    omega
  refine ⟨h1, ?_⟩
  have e : sub b a (l.length + 1) = b[a] :: sub b (a + 1) l.length := by
    unfold sub
    rw [List.drop_eq_getElem_cons (by simpa using h1), List.take_succ_cons]
    rfl
  rw [e] at h
  injection h with h2 h3
  exact ⟨h2, h3⟩
theorem sub_cons (b : ByteArray) (a n : Nat) (h : a < b.size) : sub b a (n + 1) = b[a] :: sub b (a + 1) n := by
  unfold sub
  rw [List.drop_eq_getElem_cons (by simpa using h), List.take_succ_cons]
  rfl
theorem u8_small (v : Nat) (h : v < 256) : (UInt8.ofNat v).toNat = v := by rw [UInt8.toNat_ofNat']; omega
theorem sub_le (b : ByteArray) (p k : Nat) (h : p + k ≤ b.size) : (sub b p k).length = k := sub_len b p k h
theorem vN_next (b : ByteArray) (p k : Nat) (h : p + k < b.size) : vN (sub b p (k + 1)) = vN (sub b p k) + (b[p + k]).toNat % 128 * 2 ^ (7 * k) := by
  rw [sub_snoc b p k h, vN_snoc, sub_len b p k (by omega)]
theorem pow7 (k : Nat) : 2 ^ (7 * (k + 1)) = 128 * 2 ^ (7 * k) := by rw [Nat.mul_add, Nat.pow_add, Nat.mul_comm]
theorem vG_put (b : ByteArray) (p : Nat) : ∀ (f v k : Nat), f + k = 9 → v < 2 * 128 ^ f → sub b (p + k) (pvL f v).length = pvL f v → (0 < k → 0 < v) →
    vG b p k (f + 2) = (vN (sub b p k) + v * 2 ^ (7 * k), p + k + (pvL f v).length, 0) := by
  intro f
  induction f with
  | zero =>
    intro v k hk hv hs h0
    have hk9 : k = 9 := by omega
    subst hk9
    have hv2 : v < 2 := by simpa using hv
    simp only [pvL, List.length_cons, List.length_nil] at hs
    obtain ⟨h1, h2, -⟩ := sub_head b (p + 9) _ [] hs
    have hc : (b[p + 9]).toNat = v := by rw [h2]; exact u8_small v (by omega)
    rw [vG, dif_pos h1, hc, if_neg (by omega), if_neg (by omega), if_neg (by have := h0 (by omega); omega), vN_next b p 9 h1, hc, Nat.mod_eq_of_lt (by omega)]
    simp [pvL]
  | succ f ih =>
    intro v k hk hv hs h0
    by_cases hlt : v < 128
    · rw [pvL, if_pos hlt] at hs ⊢
      obtain ⟨h1, h2, -⟩ := sub_head b (p + k) _ [] hs
      have hc : (b[p + k]).toNat = v := by rw [h2]; exact u8_small v (by omega)
      rw [vG, dif_pos h1, hc, if_neg (by omega), if_neg (by omega), if_neg (by intro ⟨a, c⟩; have := h0 c; omega), vN_next b p k h1, hc, Nat.mod_eq_of_lt hlt]
      simp
    · rw [pvL, if_neg hlt] at hs ⊢
      obtain ⟨h1, h2, h3⟩ := sub_head b (p + k) _ _ hs
      have hc : (b[p + k]).toNat = 128 + v % 128 := by rw [h2]; exact u8_small _ (by omega)
      have hv' : v / 128 < 2 * 128 ^ f := by rw [Nat.pow_succ] at hv; omega
      have := ih (v / 128) (k + 1) (by omega) hv' (by rw [← Nat.add_assoc]; exact h3) (fun _ => by omega)
      rw [vG, dif_pos h1, hc, if_neg (by omega), if_pos (by omega), this, vN_next b p k h1, hc, pow7]
      have e : (128 + v % 128) % 128 = v % 128 := by omega
      have e2 : v = v % 128 + 128 * (v / 128) := by omega
      rw [e]
      refine Prod.ext ?_ (Prod.ext ?_ rfl)
      · show vN (sub b p k) + v % 128 * 2 ^ (7 * k) + v / 128 * (128 * 2 ^ (7 * k)) = vN (sub b p k) + v * 2 ^ (7 * k)
        have e3 : v * 2 ^ (7 * k) = v % 128 * 2 ^ (7 * k) + v / 128 * (128 * 2 ^ (7 * k)) := by
          rw [← Nat.mul_assoc, ← Nat.add_mul, Nat.mul_comm (v / 128) 128, ← e2]
        omega
      · show p + (k + 1) + (pvL f (v / 128)).length = p + k + ((pvL f (v / 128)).length + 1)
        omega
theorem vG_only (b : ByteArray) (p : Nat) : ∀ (f k v q : Nat), f + k = 9 → vG b p k (f + 2) = (v, q, 0) →
    ∃ m, m < 2 * 128 ^ f ∧ v = vN (sub b p k) + m * 2 ^ (7 * k) ∧ q = p + k + (pvL f m).length ∧ sub b (p + k) (pvL f m).length = pvL f m ∧ q ≤ b.size ∧ (0 < k → 0 < m) := by
  intro f
  induction f with
  | zero =>
    intro k v q hk h
    have hk9 : k = 9 := by omega
    subst hk9
    rw [vG] at h
    split at h
    · rename_i h1
      split at h
      · simp at h
      · split at h
        · rename_i h2 h3; omega
        · split at h
          · simp at h
          · rename_i h2 h3 h4
            simp only [Prod.mk.injEq, and_true] at h
            obtain ⟨rfl, rfl⟩ := h
            refine ⟨(b[p + 9]).toNat, by simp; omega, ?_, by simp [pvL], ?_, by omega, fun _ => by omega⟩
            · rw [vN_next b p 9 h1, Nat.mod_eq_of_lt (by omega)]
            · simp only [pvL, List.length_cons, List.length_nil]
              rw [sub_cons b (p + 9) 0 h1, UInt8.ofNat_toNat]
              simp [sub]
    · simp at h
  | succ f ih =>
    intro k v q hk h
    rw [vG] at h
    split at h
    · rename_i h1
      split at h
      · simp at h
      · split at h
        · rename_i h2 h3
          obtain ⟨m, hm, hv, hq, hs, hqb, h0⟩ := ih (k + 1) v q (by omega) h
          have hm0 := h0 (by omega)
          have hcl : (b[p + k]).toNat < 256 := UInt8.toNat_lt _
          have hM : ¬ (b[p + k]).toNat % 128 + 128 * m < 128 := by omega
          have hd : ((b[p + k]).toNat % 128 + 128 * m) / 128 = m := by omega
          have hmo : 128 + ((b[p + k]).toNat % 128 + 128 * m) % 128 = (b[p + k]).toNat := by omega
          refine ⟨(b[p + k]).toNat % 128 + 128 * m, by rw [Nat.pow_succ]; omega, ?_, ?_, ?_, hqb, fun _ => by omega⟩
          · rw [hv, vN_next b p k h1, pow7, Nat.add_mul, Nat.mul_comm 128 m, Nat.mul_assoc]; omega
          · rw [pvL, if_neg hM, hd, hq, List.length_cons]; omega
          · rw [pvL, if_neg hM, hd, hmo, List.length_cons, sub_cons b (p + k) _ h1, UInt8.ofNat_toNat]
            rw [← Nat.add_assoc] at hs
            rw [hs]
        · split at h
          · simp at h
          · rename_i h2 h3 h4
            simp only [Prod.mk.injEq, and_true] at h
            obtain ⟨rfl, rfl⟩ := h
            have hlt : (b[p + k]).toNat < 128 := by omega
            have hp : 0 < 128 ^ f := Nat.pow_pos (by omega)
            refine ⟨(b[p + k]).toNat, by rw [Nat.pow_succ]; omega, ?_, ?_, ?_, by omega, fun _ => by omega⟩
            · rw [vN_next b p k h1, Nat.mod_eq_of_lt hlt]
            · rw [pvL, if_pos hlt]; simp
            · rw [pvL, if_pos hlt]; simp only [List.length_cons, List.length_nil]
              rw [sub_cons b (p + k) 0 h1, UInt8.ofNat_toNat]
              simp [sub]
    · simp at h
theorem two64 : 2 * 128 ^ 9 = 18446744073709551616 := by decide
theorem vA_put (b : ByteArray) (p v : Nat) (hv : v < 18446744073709551616) (hs : sub b p (pvL 9 v).length = pvL 9 v) (hp : p ≤ b.size) : vA b p = (v, p + (pvL 9 v).length, 0) := by
  unfold vA
  rw [if_pos (by omega)]
  have := vG_put b p 9 v 0 rfl (by rw [two64]; exact hv) hs (fun h => by omega)
  rw [Int.toNat_natCast, this]
  simp [sub, vN]
theorem vA_only (b : ByteArray) (p : Nat) (v q : Nat) (h : vA b p = (v, q, 0)) : v < 18446744073709551616 ∧ q = p + (pvL 9 v).length ∧ sub b p (pvL 9 v).length = pvL 9 v ∧ q ≤ b.size := by
  unfold vA at h
  split at h
  · rw [Int.toNat_natCast] at h
    obtain ⟨m, hm, hv, hq, hs, hqb, -⟩ := vG_only b p 9 0 v q rfl h
    have : v = m := by rw [hv]; simp [sub, vN]
    subst this
    exact ⟨by rw [← two64]; exact hm, hq, hs, hqb⟩
  · simp at h
theorem pvL_len (f v : Nat) : 1 ≤ (pvL f v).length ∧ (pvL f v).length ≤ f + 1 := by
  induction f generalizing v with
  | zero => simp [pvL]
  | succ f ih =>
    rw [pvL]; split
    · simp
    · have := ih (v / 128); simp; omega
end Go.Proofs.YtcamnalmcghjfaaGreatDoor
namespace Go.Proofs.YtcamnalmcghjfaaGreatDoor
open Go.RowKit Go.Proofs.SealMath
/-- The table lies there. -/
def Tab (w : World) : Prop := ∀ j, j < 16 → w.cell? ⟨0, j, none⟩ = some (.int .u32 (tabN.getD j 0 : Nat))
theorem Tab.below {w w' : World} {B : Nat} (h : Tab w) (hb : Below B w w') (hB : 0 < B) : Tab w' := fun i hi => (hb.cell (p := ⟨0, i, none⟩) hB).trans (h i hi)
theorem take_one (b : ByteArray) (i : Nat) (h : i < b.size) (r : Nat) : regs r (b.data.toList.take (i + 1)) = rb (regs r (b.data.toList.take i)) (b[i]).toNat := by
  rw [List.take_succ_eq_append_getElem (by simpa using h), regs_append, regs_one]; rfl
theorem not_nat (s : Nat) (hs : s < 4294967296) : bits .xor .u32 IntKind.u32.max (s : Int) = ((s ^^^ 4294967295 : Nat) : Int) := by
  have h := u32_xor_nat 4294967295 s (by omega) hs
  rw [Nat.xor_comm] at h
  exact h
theorem and15 (x : Nat) (hx : x < 4294967296) : bits .and .u32 (x : Int) 15 = ((x % 16 : Nat) : Int) := by
  have h := u32_and_nat x 15 hx (by omega)
  rw [show (15 : Nat) = 2 ^ 4 - 1 by rfl, Nat.and_two_pow_sub_one_eq_mod] at h
  exact h
theorem and1 (x : Nat) (hx : x < 4294967296) : bits .and .u32 (x : Int) 1 = ((x % 2 : Nat) : Int) := by
  have h := u32_and_nat x 1 hx (by omega)
  rw [show (1 : Nat) = 2 ^ 1 - 1 by rfl, Nat.and_two_pow_sub_one_eq_mod] at h
  exact h
set_option maxRecDepth 100000 in
set_option maxHeartbeats 4000000 in
theorem on_any (s : Nat) (b : ByteArray) (w : World) (ht : Tab w) (hs : s < 4294967296) (hb : b.size < 9223372036854775807) :
    Calls Tryz.prog 75 #[.int .u32 s, .string b] w fun e w' => e = .returned (.int .u32 (crc s b.data.toList)) ∧ w' = w := by
  have hf := flip_lt hs
  go_enter Tryz.func75, Tryz.ntmps75
  go_wp2_with (rw [not_nat s hs])
  go_loopw [5, 11] (fun u v wr => ∃ r i : Nat, u = .int .u32 r ∧ v = .int .i64 i ∧ i ≤ b.size ∧ r < 4294967296 ∧ r = regs (s ^^^ 4294967295) (b.data.toList.take i) ∧ wr = w) (fun _ v _ => b.size - (intOf v).toNat)
  case atStart => exact ⟨_, 0, rfl, rfl, Nat.zero_le _, hf, rfl, rfl⟩
  case round =>
    obtain ⟨r, i, rfl, rfl, hi, hr, hreg, rfl⟩ := hrel
    by_cases hlt : i < b.size
    · have hc := (b[i]).toNat_lt
      have h1 := u32_xor_nat r (b[i]).toNat hr (by omega)
      have hx : r ^^^ (b[i]).toNat < 4294967296 := Nat.xor_lt_two_pow (n := 32) hr (by omega)
      have HR : Hid (regs (s ^^^ 4294967295) (b.data.toList.take (i + 1)) = stN 4 (stN 4 (r ^^^ (b[i]).toNat))) := by
        show _ = _; rw [take_one b i hlt, ← hreg, rb_two]
      clear hreg
      generalize r ^^^ (b[i]).toNat = x at *
      have h2 := and15 x hx
      have c2 := ht (x % 16) (Nat.mod_lt _ (by omega))
      rw [tabN_at _ (Nat.mod_lt _ (by omega))] at c2
      have l2 := stN_lt 4 (r := x % 16) (by omega)
      have h3 := u32_xor_nat (x / 16) (stN 4 (x % 16)) (by omega) l2
      rw [← stN4, show ((x / 16 : Nat) : Int) = (x : Int) / 16 by omega] at h3
      have hy := stN_lt 4 hx
      generalize stN 4 x = y at *
      have h4 := and15 y hy
      have c4 := ht (y % 16) (Nat.mod_lt _ (by omega))
      rw [tabN_at _ (Nat.mod_lt _ (by omega))] at c4
      have l4 := stN_lt 4 (r := y % 16) (by omega)
      have h5 := u32_xor_nat (y / 16) (stN 4 (y % 16)) (by omega) l4
      rw [← stN4, show ((y / 16 : Nat) : Int) = (y : Int) / 16 by omega] at h5
      have hz := stN_lt 4 hy
      generalize stN 4 y = z at *
      go_wp2
      refine ⟨⟨z, i + 1, rfl, rfl, hlt, hz, HR.out.symm, trivial⟩, ?_⟩
      simp only [intOf]; omega
    · have e : i = b.size := by omega
      subst e
      rw [List.take_of_length_le (by simp)] at hreg
      have HG : Hid (r = regs (s ^^^ 4294967295) b.data.toList) := hreg
      clear hreg
      go_wp2
      go_ret
      exact ⟨ret_int (by rw [not_nat r hr, HG.out]; rfl), rfl⟩
/-- The sum of a text. -/
def sumL (l : List UInt8) : Nat := crc 0 l
theorem sum_any (b : ByteArray) (w : World) (ht : Tab w) (hb : b.size < 9223372036854775807) :
    Calls Tryz.prog 73 #[.string b] w fun e w' => e = .returned (.int .u32 (crc 0 b.data.toList)) ∧ w' = w := by
  go_enter Tryz.func73, Tryz.ntmps73
  go_wp2_with fail
  refine (on_any 0 b _ ht (by omega) hb).mono ?_
  rintro e w1 ⟨rfl, rfl⟩
  go_wp2
  go_ret
  exact ⟨rfl, rfl⟩
end Go.Proofs.YtcamnalmcghjfaaGreatDoor
namespace Go.Proofs.YtcamnalmcghjfaaGreatDoor
open Go.RowKit Go.Proofs.SealMath
/-- A sum in four bytes, the lowest first. -/
def lowL (s : Nat) : List UInt8 := [UInt8.ofNat s, UInt8.ofNat (s / 256), UInt8.ofNat (s / 65536), UInt8.ofNat (s / 16777216)]
theorem u8n (x : Nat) : (UInt8.ofNat x).toNat = x % 256 := by rw [UInt8.toNat_ofNat']
/-- A literal of bytes, as a text. -/
theorem conv_lit (w : World) (l : List UInt8) (n cap : Nat) (cs : Array Value) (hn : l.length = n) (h : cs = (l.map BV).toArray) :
    (convert 64 9 (.slice (some ⟨w.heap.size, 0, none⟩) n cap)).run Tryz.prog (w.alloc (.cells cs 5)) = .ok (.string ⟨l.toArray⟩) (w.alloc (.cells cs 5)) := by
  subst h hn
  have hh := heap_alloc_last w (.cells (l.map BV).toArray 5)
  exact run_convert_bytes_back _ 64 9 5 ⟨w.heap.size, 0, none⟩ cap l Tryz.underlying64 Tryz.underlying5 Tryz.underlying9 (fun j hj => by
    have ea : (⟨w.heap.size, 0, none⟩ : Addr).add j = ⟨w.heap.size, j, none⟩ := by unfold Addr.add; split <;> simp_all
    rw [ea, cell_of_row _ _ j _ 5 (0, 0) hh]
    simp [hj, BV])
theorem lowL_cells (s : Nat) (hs : s < 4294967296) : #[Value.int IntKind.u8 ((s : Int) % 256), Value.int IntKind.u8 ((s : Int) / 256 % 256), Value.int IntKind.u8 ((s : Int) / 65536 % 256), Value.int IntKind.u8 ((s : Int) / 16777216)] = ((lowL s).map BV).toArray := by
  have e : (s : Int) / 16777216 = ((s / 16777216 % 256 : Nat) : Int) := by omega
  simp only [lowL, List.map_cons, List.map_nil, BV, u8n]
  rw [e]; simp
set_option maxRecDepth 100000 in
set_option maxHeartbeats 1000000 in
theorem low_any (s : Nat) (w : World) (hs : s < 4294967296) :
    Calls Tryz.prog 74 #[.int .u32 s] w fun e w' => e = .returned (.string ⟨(lowL s).toArray⟩) ∧ Below w.heap.size w w' := by
  have hcv := conv_lit w (lowL s) 4 4 _ rfl (lowL_cells s hs)
  go_enter Tryz.func74, Tryz.ntmps74
  go_wp2
  go_ret
  exact ⟨rfl, (Below.refl _ _).alloc (Nat.le_refl _) _⟩
/-- The six bytes; the frame. -/
def hdL (k n : Nat) : List UInt8 := 167 :: UInt8.ofNat k :: fixL n 4
theorem hdL_len (k n : Nat) : (hdL k n).length = 6 := by simp [hdL, fixL_len]
def frL (k : Nat) (p : List UInt8) : List UInt8 := hdL k p.length ++ lowL (crc 0 (hdL k p.length)) ++ p ++ lowL (crc 0 (hdL k p.length ++ p))
theorem frL_len (k : Nat) (p : List UInt8) : (frL k p).length = p.length + 14 := by simp [frL, hdL_len, lowL]; omega
theorem ba_ext {X Y : ByteArray} (h : X.data.toList = Y.data.toList) : X = Y := ByteArray.ext (Array.toList_inj.1 h)
theorem fr_bytes (H L p M : ByteArray) (k s t : Nat) (hH : H.data.toList = hdL k p.data.toList.length) (hs : s = crc 0 H.data.toList) (hL : L = ⟨(lowL s).toArray⟩) (ht : t = crc s p.data.toList) (hM : M = ⟨(lowL t).toArray⟩) :
    H ++ L ++ p ++ M = ⟨(frL k p.data.toList).toArray⟩ := by
  apply ba_ext
  rw [hL, hM, ht, hs, hH, ← crc_append]
  simp only [ByteArray.data_append, Array.toList_append, hH]
  rfl
/-- What Frame answers. -/
def frE (k : Int) (p : ByteArray) : Int := if 1 ≤ k ∧ k ≤ 255 then if p.size ≤ 65536 then 0 else 36 else 35
def frT (k : Int) (p : ByteArray) : List UInt8 := if 1 ≤ k ∧ k ≤ 255 then if p.size ≤ 65536 then frL k.toNat p.data.toList else [] else []
set_option maxRecDepth 100000 in
set_option maxHeartbeats 4000000 in
theorem frame_ok (k : Nat) (p : ByteArray) (w : World) (ht : Tab w) (hg : 0 < w.heap.size) (h1 : 1 ≤ k) (h2 : k ≤ 255) (h3 : p.size ≤ 65536) :
    Calls Tryz.prog 56 #[.int .i64 k, .string p] w fun e w' => e = .returned (.tuple #[.string ⟨(frL k p.data.toList).toArray⟩, .int .i64 0]) ∧ Below w.heap.size w w' := by
  go_enter Tryz.func56, Tryz.ntmps56
  go_wp2_with fail
  refine (putfix_ok p.size 4 _ (by omega) (by omega) (by omega) (by omega)).mono ?_
  rintro e w1 ⟨rfl, b1⟩
  have hcv := conv_lit w1 [UInt8.ofNat k] 1 1 _ rfl rfl
  simp only [List.map_cons, List.map_nil, BV, u8n, Nat.mod_eq_of_lt (show k < 256 by omega)] at hcv
  have hfl := fixL_len p.size 4
  have b2 : Below w.heap.size w (w1.alloc (Obj.cells #[Value.int IntKind.u8 k] 5)) := b1.alloc b1.size _
  go_wp2_with fail
  obtain ⟨H, hH⟩ : ∃ H : ByteArray, H = ⟨#[167]⟩ ++ ⟨#[UInt8.ofNat k]⟩ ++ ⟨(fixL p.size 4).toArray⟩ := ⟨_, rfl⟩
  rw [← hH]
  have hHl : H.data.toList = hdL k p.data.toList.length := by
    rw [hH]; simp [ByteArray.data_append, hdL]
  have HH : Hid (H.data.toList = hdL k p.data.toList.length) := hHl
  have hHs : H.size = 6 := by
    have : H.data.toList.length = H.size := Array.length_toList
    rw [← this, hHl, hdL_len]
  clear hH hcv hfl hHl
  generalize (w1.alloc (Obj.cells #[Value.int IntKind.u8 k] 5)) = w2 at *
  refine (sum_any H w2 (ht.below b2 hg) (by omega)).mono ?_
  rintro e w3 ⟨rfl, rfl⟩
  have hsl := crc_lt (s := 0) H.data.toList (by omega)
  obtain ⟨s, hs⟩ : ∃ s, s = crc 0 H.data.toList := ⟨_, rfl⟩
  rw [← hs]
  rw [← hs] at hsl
  have HS : Hid (s = crc 0 H.data.toList) := hs
  clear hs
  go_wp2_with fail
  refine (low_any s w3 hsl).mono ?_
  rintro e w4 ⟨rfl, b4⟩
  obtain ⟨L, hL⟩ : ∃ L : ByteArray, L = ⟨(lowL s).toArray⟩ := ⟨_, rfl⟩
  rw [← hL]
  have HL : Hid (L = ⟨(lowL s).toArray⟩) := hL
  have hLs : L.size = 4 := by rw [hL]; rfl
  clear hL
  have b24 := chain b2 b4 (Nat.le_refl _)
  go_wp2_with fail
  refine (on_any s p w4 (ht.below b24 hg) hsl (by omega)).mono ?_
  rintro e w5 ⟨rfl, rfl⟩
  have htl := crc_lt (s := s) p.data.toList hsl
  obtain ⟨t, hts⟩ : ∃ t, t = crc s p.data.toList := ⟨_, rfl⟩
  rw [← hts]
  rw [← hts] at htl
  have HT : Hid (t = crc s p.data.toList) := hts
  clear hts
  go_wp2_with fail
  refine (low_any t w5 htl).mono ?_
  rintro e w6 ⟨rfl, b6⟩
  obtain ⟨M, hM⟩ : ∃ M : ByteArray, M = ⟨(lowL t).toArray⟩ := ⟨_, rfl⟩
  rw [← hM]
  have HM : Hid (M = ⟨(lowL t).toArray⟩) := hM
  have hMs : M.size = 4 := by rw [hM]; rfl
  clear hM
  go_wp2
  go_ret2
  refine ⟨ret2 (congrArg Value.string ?_) rfl, chain b24 b6 (Nat.le_refl _)⟩
  exact fr_bytes H L p M k s t HH.out HS.out HL.out HT.out HM.out
set_option maxRecDepth 100000 in
set_option maxHeartbeats 1000000 in
theorem frame_any (k : Int) (p : ByteArray) (w : World) (ht : Tab w) (hg : 0 < w.heap.size) :
    Calls Tryz.prog 56 #[.int .i64 k, .string p] w fun e w' => e = .returned (.tuple #[.string ⟨(frT k p).toArray⟩, .int .i64 (frE k p)]) ∧ Below w.heap.size w w' := by
  unfold frT frE
  by_cases h1 : 1 ≤ k
  · by_cases h2 : k ≤ 255
    · have hh : 1 ≤ k ∧ k ≤ 255 := ⟨h1, h2⟩
      rw [if_pos hh, if_pos hh]
      clear hh
      by_cases h3 : p.size ≤ 65536
      · rw [if_pos h3, if_pos h3]
        obtain ⟨a, rfl⟩ : ∃ a : Nat, k = a := ⟨k.toNat, by omega⟩
        exact frame_ok a p w ht hg (by omega) (by omega) h3
      · rw [if_neg h3, if_neg h3]
        go_enter Tryz.func56, Tryz.ntmps56
        go_wp2
        go_ret2
        exact ⟨rfl, Below.refl _ _⟩
    · have hh : ¬ (1 ≤ k ∧ k ≤ 255) := by omega
      rw [if_neg hh, if_neg hh]
      clear hh
      go_enter Tryz.func56, Tryz.ntmps56
      go_wp2
      go_ret2
      exact ⟨rfl, Below.refl _ _⟩
  · have hh : ¬ (1 ≤ k ∧ k ≤ 255) := by omega
    rw [if_neg hh, if_neg hh]
    clear hh
    go_enter Tryz.func56, Tryz.ntmps56
    go_wp2
    go_ret2
    exact ⟨rfl, Below.refl _ _⟩
end Go.Proofs.YtcamnalmcghjfaaGreatDoor
