/-
  DERIVED. What Sum and On answer; the document's own too.
-/
import Derived.Test.YtkoannkecojhmaaGreatDoorSBase
import Derived.Test.YtkoannkecojhmaaGreatDoorSMath
namespace Go.Proofs.YtkoannkecojhmaaGreatDoor
open Go.RowKit Go.Proofs.SealMath
/-- The table lies there. -/
def Tab (w : World) : Prop := ∀ j, j < 16 → w.cell? ⟨0, j, none⟩ = some (.int .u32 (tabN.getD j 0 : Nat))
theorem Tab.below {w w' : World} {B : Nat} (h : Tab w) (hb : Below B w w') (hB : 0 < B) : Tab w' := fun i hi => (hb.cell (p := ⟨0, i, none⟩) hB).trans (h i hi)
theorem take_one (b : ByteArray) (i : Nat) (h : i < b.size) (r : Nat) : regs r (b.data.toList.take (i + 1)) = rb (regs r (b.data.toList.take i)) (b[i]).toNat := by
  rw [List.take_succ_eq_append_getElem (by simpa using h), regs_append, regs_one]; rfl
theorem not_nat (s : Nat) (hs : s < 4294967296) : bits .xor .u32 IntKind.u32.max (s : Int) = ((s ^^^ 4294967295 : Nat) : Int) := by
  have h := u32_xor_nat 4294967295 s (by omega) hs
  rw [Nat.xor_comm] at h
  exact h
theorem and15 (x : Nat) (hx : x < 4294967296) : bits .and .u32 (x : Int) 15 = ((x % 16 : Nat) : Int) := by
  have h := u32_and_nat x 15 hx (by omega)
  rw [show (15 : Nat) = 2 ^ 4 - 1 by rfl, Nat.and_two_pow_sub_one_eq_mod] at h
  exact h
theorem and1 (x : Nat) (hx : x < 4294967296) : bits .and .u32 (x : Int) 1 = ((x % 2 : Nat) : Int) := by
  have h := u32_and_nat x 1 hx (by omega)
  rw [show (1 : Nat) = 2 ^ 1 - 1 by rfl, Nat.and_two_pow_sub_one_eq_mod] at h
  exact h
set_option maxRecDepth 100000 in
set_option maxHeartbeats 4000000 in
theorem on_any (s : Nat) (b : ByteArray) (w : World) (ht : Tab w) (hs : s < 4294967296) (hb : b.size < 9223372036854775807) :
    Calls Tryz.prog 67 #[.int .u32 s, .string b] w fun e w' => e = .returned (.int .u32 (crc s b.data.toList)) ∧ w' = w := by
  have hf := flip_lt hs
  go_enter Tryz.func67, Tryz.ntmps67
  go_wp2_with (rw [not_nat s hs])
  go_loopw [5, 11] (fun u v wr => ∃ r i : Nat, u = .int .u32 r ∧ v = .int .i64 i ∧ i ≤ b.size ∧ r < 4294967296 ∧ r = regs (s ^^^ 4294967295) (b.data.toList.take i) ∧ wr = w) (fun _ v _ => b.size - (intOf v).toNat)
  case atStart => exact ⟨_, 0, rfl, rfl, Nat.zero_le _, hf, rfl, rfl⟩
  case round =>
    obtain ⟨r, i, rfl, rfl, hi, hr, hreg, rfl⟩ := hrel
    by_cases hlt : i < b.size
    · have hc := (b[i]).toNat_lt
      have h1 := u32_xor_nat r (b[i]).toNat hr (by omega)
      have hx : r ^^^ (b[i]).toNat < 4294967296 := Nat.xor_lt_two_pow (n := 32) hr (by omega)
      have HR : Hid (regs (s ^^^ 4294967295) (b.data.toList.take (i + 1)) = stN 4 (stN 4 (r ^^^ (b[i]).toNat))) := by
        show _ = _; rw [take_one b i hlt, ← hreg, rb_two]
      clear hreg
      generalize r ^^^ (b[i]).toNat = x at *
      have h2 := and15 x hx
      have c2 := ht (x % 16) (Nat.mod_lt _ (by omega))
      rw [tabN_at _ (Nat.mod_lt _ (by omega))] at c2
      have l2 := stN_lt 4 (r := x % 16) (by omega)
      have h3 := u32_xor_nat (x / 16) (stN 4 (x % 16)) (by omega) l2
      rw [← stN4, show ((x / 16 : Nat) : Int) = (x : Int) / 16 by omega] at h3
      have hy := stN_lt 4 hx
      generalize stN 4 x = y at *
      have h4 := and15 y hy
      have c4 := ht (y % 16) (Nat.mod_lt _ (by omega))
      rw [tabN_at _ (Nat.mod_lt _ (by omega))] at c4
      have l4 := stN_lt 4 (r := y % 16) (by omega)
      have h5 := u32_xor_nat (y / 16) (stN 4 (y % 16)) (by omega) l4
      rw [← stN4, show ((y / 16 : Nat) : Int) = (y : Int) / 16 by omega] at h5
      have hz := stN_lt 4 hy
      generalize stN 4 y = z at *
      go_wp2
      refine ⟨⟨z, i + 1, rfl, rfl, hlt, hz, HR.out.symm, trivial⟩, ?_⟩
      simp only [intOf]; omega
    · have e : i = b.size := by omega
      subst e
      rw [List.take_of_length_le (by simp)] at hreg
      have HG : Hid (r = regs (s ^^^ 4294967295) b.data.toList) := hreg
      clear hreg
      go_wp2
      go_ret
      exact ⟨ret_int (by rw [not_nat r hr, HG.out]; rfl), rfl⟩
/-- The sum of a text. -/
def sumL (l : List UInt8) : Nat := crc 0 l
theorem sum_any (b : ByteArray) (w : World) (ht : Tab w) (hb : b.size < 9223372036854775807) :
    Calls Tryz.prog 65 #[.string b] w fun e w' => e = .returned (.int .u32 (crc 0 b.data.toList)) ∧ w' = w := by
  go_enter Tryz.func65, Tryz.ntmps65
  go_wp2_with fail
  refine (on_any 0 b _ ht (by omega) hb).mono ?_
  rintro e w1 ⟨rfl, rfl⟩
  go_wp2
  go_ret
  exact ⟨rfl, rfl⟩
end Go.Proofs.YtkoannkecojhmaaGreatDoor
