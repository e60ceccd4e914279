/-
  DERIVED. A text with bits turned.
-/
import Derived.Test.YtgjfdmnlengbfaaDoorSBurst
namespace Go.Proofs.YtgjfdmnlengbfaaDoor
open Go.RowKit Go.Proofs.SealMath
theorem frz_new (w : World) (s : ByteArray) (j : Nat) (hj : j < s.size) : (Lib.bytesWorld w 5 s).frozen? ⟨w.heap.size, j, none⟩ = false := by
  have hsz : s.size ≤ (Lib.bytesCells w 5 s).size := by simp [Lib.bytesCells]
  simp [World.frozen?, Lib.bytesWorld_at_new]; omega
theorem below_bytes (w : World) (s : ByteArray) : Below w.heap.size w (Lib.bytesWorld w 5 s) :=
  ⟨rfl, rfl, rfl, by rw [Lib.bytesWorld_size]; omega, fun k hk => Lib.bytesWorld_at_old w 5 s k hk⟩
def lb (l : List UInt8) (k : Nat) : Nat := (l.getD k 0).toNat
theorem lb_at (l : List UInt8) (k : Nat) (h : k < l.length) : (l[k]).toNat = lb l k := by
  unfold lb; rw [List.getD_eq_getElem?_getD, List.getElem?_eq_getElem h]; rfl
theorem lb_lt (l : List UInt8) (k : Nat) : lb l k < 256 := (l.getD k 0).toNat_lt
theorem lb_set (l : List UInt8) (j k : Nat) (c : UInt8) (h : j < l.length) : lb (l.set j c) k = if k = j then c.toNat else lb l k := by
  unfold lb
  rw [List.getD_eq_getElem?_getD, List.getD_eq_getElem?_getD, List.getElem?_set]
  by_cases e : j = k
  · subst e; simp [h]
  · simp [e, Ne.symm e]
theorem ba_bytes (w : World) (s : ByteArray) : BA (Lib.bytesWorld w 5 s) w.heap.size s.size (lb s.data.toList) := fun k hk => by
  refine ⟨?_, frz_new w s k hk⟩
  rw [Lib.bytesWorld_cell w 5 s _ hk]; rfl
/-- The bits that were turned so far. -/
theorem turn_step (m k j : Nat) : 2 ^ j * (m % 2 ^ (k + 1)) = if m / 2 ^ k % 2 = 1 then (2 ^ j * (m % 2 ^ k)) ^^^ 2 ^ (j + k) else 2 ^ j * (m % 2 ^ k) := by
  have h := Nat.mod_pow_succ (x := m) (b := 2) (k := k)
  split
  · rename_i h1
    have e : m % 2 ^ (k + 1) = (2 ^ k * 1) ^^^ (m % 2 ^ k) := by
      rw [h, h1]
      have hc := cut_xor k (m % 2 ^ k + 2 ^ k * 1)
      have hl : m % 2 ^ k < 2 ^ k := Nat.mod_lt _ (Nat.two_pow_pos k)
      rw [Nat.add_mul_div_left _ _ (Nat.two_pow_pos k), Nat.div_eq_of_lt hl, Nat.add_mul_mod_self_left, Nat.mod_eq_of_lt hl, Nat.zero_add] at hc
      exact hc
    have h1 := Nat.shiftLeft_xor_distrib (a := m % 2 ^ k) (b := 2 ^ k) (i := j)
    rw [Nat.shiftLeft_eq, Nat.shiftLeft_eq, Nat.shiftLeft_eq] at h1
    rw [e, Nat.mul_one, Nat.xor_comm (2 ^ k), Nat.mul_comm, h1, Nat.mul_comm (2 ^ j), Nat.pow_add, Nat.mul_comm (2 ^ j)]
  · rename_i h1
    have : m / 2 ^ k % 2 = 0 := by omega
    rw [h, this, Nat.mul_zero, Nat.add_zero]
set_option maxRecDepth 100000 in
set_option maxHeartbeats 8000000 in
theorem turned_yes (s : ByteArray) (j m : Nat) (w : World) (hs : s.size ≤ 131072) (hj : j / 8 < s.size) (hm : m < 4294967296) (h0 : m ≠ 0) :
    Calls Tryd.prog 14 #[.string s, .int .i64 j, .int .u32 m] w fun e w' => (∃ (T : List UInt8) (ok : Bool), e = .returned (.tuple #[.string ⟨T.toArray⟩, .bool ok]) ∧ (ok = true → T.length = s.size ∧ leN T = leN s.data.toList ^^^ (2 ^ j * m))) ∧ Below w.heap.size w w' := by
  have hcv := Lib.run_convert_string_bytes w 9 48 5 s Tryd.underlying9 Tryd.underlying48 Tryd.underlying5
  have hBA := ba_bytes w s
  have hbl := below_bytes w s
  generalize grownCap w s.size 0 5 = cp at hcv
  generalize Lib.bytesWorld w 5 s = W at *
  have HB : Hid (BA W w.heap.size s.size (lb s.data.toList)) := hBA
  clear hBA
  have hj1 : ¬ (j : Int) < 0 := by omega
  have hj2 : (j : Int) / 8 < (s.size : Int) := by omega
  have hm0 : ((m : Int) == 0) = false := by simp; omega
  have hj3 : j < 1048576 := by omega
  go_enter Tryd.func14, Tryd.ntmps14
  go_wp2
  clear hcv
  go_loopw [9] (fun u wr => ∃ (k : Nat) (l : List UInt8), u = .int .i64 k ∧ k ≤ 32 ∧ l.length = s.size ∧ leN l = leN s.data.toList ^^^ (2 ^ j * (m % 2 ^ k)) ∧ BA wr w.heap.size s.size (lb l) ∧ Below w.heap.size w wr) (fun u _ => 32 - (intOf u).toNat)
  case atStart =>
    refine ⟨0, s.data.toList, rfl, by omega, Array.length_toList, ?_, HB.out, hbl⟩
    rw [Nat.pow_zero, Nat.mod_one, Nat.mul_zero, Nat.xor_zero]
  case round =>
    obtain ⟨k, l, rfl, hk, hl, hN, hB, hb⟩ := hrel
    have HN : Hid (leN l = leN s.data.toList ^^^ (2 ^ j * (m % 2 ^ k))) := hN
    clear hN
    by_cases hlt : k < 32
    · have ha := and1 (m / 2 ^ k) (Nat.lt_of_le_of_lt (Nat.div_le_self _ _) hm)
      rw [show ((m / 2 ^ k : Nat) : Int) = (m : Int) / 2 ^ k by simp] at ha
      have hst := turn_step m k j
      by_cases h1 : m / 2 ^ k % 2 = 1
      · rw [if_pos h1] at hst
        rw [h1] at ha
        have HS : Hid (2 ^ j * (m % 2 ^ (k + 1)) = (2 ^ j * (m % 2 ^ k)) ^^^ 2 ^ (j + k)) := hst
        clear hst h1
        by_cases hpl : j / 8 + (j % 8 + k) / 8 < s.size
        · obtain ⟨hc, hfz⟩ := hB (j / 8 + (j % 8 + k) / 8) hpl
          go_wp2
          have hbit : (j + k) % 8 < 8 := Nat.mod_lt _ (by omega)
          have hp2 : 2 ^ ((j + k) % 8) < 256 := Nat.lt_of_lt_of_le (Nat.pow_lt_pow_right (by omega) hbit) (by decide)
          have hx := u8_xor_nat (lb l (j / 8 + (j % 8 + k) / 8)) (2 ^ ((j + k) % 8)) (lb_lt l _) hp2
          have e2 : (2 : Int) ^ ((j + k) % 8) % 256 = ((2 ^ ((j + k) % 8) : Nat) : Int) := by
            rw [show (2 : Int) ^ ((j + k) % 8) = ((2 ^ ((j + k) % 8) : Nat) : Int) by simp]; exact Int.emod_eq_of_lt (Int.natCast_nonneg _) (by exact_mod_cast hp2)
          have hxl : lb l (j / 8 + (j % 8 + k) / 8) ^^^ 2 ^ ((j + k) % 8) < 256 := Nat.xor_lt_two_pow (n := 8) (lb_lt l _) hp2
          have e8 : (UInt8.ofNat (lb l (j / 8 + (j % 8 + k) / 8) ^^^ 2 ^ ((j + k) % 8))).toNat = lb l (j / 8 + (j % 8 + k) / 8) ^^^ 2 ^ ((j + k) % 8) := by rw [u8n]; exact Nat.mod_eq_of_lt hxl
          rw [e2, hx]
          refine ⟨⟨k + 1, l.set (j / 8 + (j % 8 + k) / 8) (UInt8.ofNat (lb l (j / 8 + (j % 8 + k) / 8) ^^^ 2 ^ ((j + k) % 8))), rfl, hlt, by rw [List.length_set, hl], ?_, ?_, hb.setCell (p := ⟨w.heap.size, j / 8 + (j % 8 + k) / 8, none⟩) (Nat.le_refl _) _⟩, by simp only [intOf]; omega⟩
          · rw [leN_set l _ ((j + k) % 8) _ (by rw [hl]; exact hpl) hbit e8, HN.out, HS.out, ← Nat.xor_assoc, show 8 * (j / 8 + (j % 8 + k) / 8) + (j + k) % 8 = j + k by omega]
          · refine (hB.set _ _).ext fun z _ => ?_
            rw [lb_set l _ z _ (by rw [hl]; exact hpl), e8]
        · go_wp2
          go_ret2
          exact ⟨⟨[], false, rfl, fun h => by cases h⟩, hb⟩
      · rw [if_neg h1] at hst
        have h10 : m / 2 ^ k % 2 = 0 := by omega
        rw [h10] at ha
        go_wp2
        refine ⟨⟨k + 1, l, rfl, hlt, hl, by rw [hst]; exact HN.out, hB, hb⟩, by simp only [intOf]; omega⟩
    · have e : k = 32 := by omega
      subst e
      have hcv2 := hB.conv l cp (by omega) (fun q hq => lb_at l q hq)
      rw [hl] at hcv2
      clear hB
      go_wp2
      go_ret2
      refine ⟨⟨l, true, rfl, fun _ => ⟨hl, ?_⟩⟩, hb⟩
      rw [HN.out, Nat.mod_eq_of_lt (show m < 2 ^ 32 by omega)]
/-- What turned answers. -/
def Turned (s : ByteArray) (m : Nat) (e : Ending) : Prop := ∃ (T : List UInt8) (ok : Bool), e = .returned (.tuple #[.string ⟨T.toArray⟩, .bool ok]) ∧ (ok = true → m ≠ 0 ∧ ∃ j : Nat, T.length = s.size ∧ leN T = leN s.data.toList ^^^ (2 ^ j * m))
theorem turned_no (s : ByteArray) (m : Nat) : Turned s m (.returned (.tuple #[.string ⟨#[]⟩, .bool false])) := ⟨[], false, rfl, fun h => by cases h⟩
/-- Where bits are turned. -/
theorem turned_any (s : ByteArray) (p : Int) (m : Nat) (w : World) (hs : s.size ≤ 131072) (hm : m < 4294967296) (hp : p ≤ 9223372036854775807) :
    Calls Tryd.prog 14 #[.string s, .int .i64 p, .int .u32 m] w fun e w' => Turned s m e ∧ Below w.heap.size w w' := by
  by_cases h1 : 0 ≤ p
  · obtain ⟨j, rfl⟩ : ∃ j : Nat, p = j := ⟨p.toNat, by omega⟩
    by_cases h2 : j / 8 < s.size
    · by_cases h3 : m = 0
      · subst h3
        have h2i : (j : Int) / 8 < (s.size : Int) := by omega
        go_enter Tryd.func14, Tryd.ntmps14
        go_wp2
        go_ret2
        exact ⟨turned_no s _, Below.refl _ _⟩
      · refine (turned_yes s j m w hs h2 hm h3).mono ?_
        rintro e w' ⟨⟨T, ok, rfl, hT⟩, hb⟩
        exact ⟨⟨T, ok, rfl, fun h => ⟨h3, j, hT h⟩⟩, hb⟩
    · have h2i : (s.size : Int) ≤ (j : Int) / 8 := by omega
      go_enter Tryd.func14, Tryd.ntmps14
      go_wp2
      go_ret2
      exact ⟨turned_no s _, Below.refl _ _⟩
  · go_enter Tryd.func14, Tryd.ntmps14
    go_wp2
    go_ret2
    exact ⟨turned_no s _, Below.refl _ _⟩
end Go.Proofs.YtgjfdmnlengbfaaDoor
