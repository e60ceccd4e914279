/-
  DERIVED. SOn, SFrame, SRFrame, JWrite, SNext, as one text.
-/
import Derived.Test.YtjkhhjboejkafaaDoorLzAA
import Derived.Test.YtjkhhjboejkafaaDoorLzAH
import Derived.OwnWalk
import Derived.Deep.RegionWith
import Derived.Test.YtjkhhjboejkafaaDoorLzAI
import Derived.Deep.RegionHeld
namespace Go.Proofs.YtjkhhjboejkafaaDoor
open Go.RowKit Go.Proofs.SealMath
/-- The table lies there. -/
def Tab (w : World) : Prop := ∀ j, j < 16 → w.cell? ⟨0, j, none⟩ = some (.int .u32 (tabN.getD j 0 : Nat))
theorem Tab.below {w w' : World} {B : Nat} (h : Tab w) (hb : Below B w w') (hB : 0 < B) : Tab w' := fun i hi => (hb.cell (p := ⟨0, i, none⟩) hB).trans (h i hi)
theorem take_one (b : ByteArray) (i : Nat) (h : i < b.size) (r : Nat) : regs r (b.data.toList.take (i + 1)) = rb (regs r (b.data.toList.take i)) (b[i]).toNat := by
  rw [List.take_succ_eq_append_getElem (by simpa using h), regs_append, regs_one]; rfl
theorem not_nat (s : Nat) (hs : s < 4294967296) : bits .xor .u32 IntKind.u32.max (s : Int) = ((s ^^^ 4294967295 : Nat) : Int) := by
  have h := u32_xor_nat 4294967295 s (by omega) hs
  rw [Nat.xor_comm] at h
  exact h
theorem and15 (x : Nat) (hx : x < 4294967296) : bits .and .u32 (x : Int) 15 = ((x % 16 : Nat) : Int) := by
  have h := u32_and_nat x 15 hx (by omega)
  rw [show (15 : Nat) = 2 ^ 4 - 1 by rfl, Nat.and_two_pow_sub_one_eq_mod] at h
  exact h
theorem and1 (x : Nat) (hx : x < 4294967296) : bits .and .u32 (x : Int) 1 = ((x % 2 : Nat) : Int) := by
  have h := u32_and_nat x 1 hx (by omega)
  rw [show (1 : Nat) = 2 ^ 1 - 1 by rfl, Nat.and_two_pow_sub_one_eq_mod] at h
  exact h
set_option maxRecDepth 100000 in
set_option maxHeartbeats 4000000 in
theorem on_any (s : Nat) (b : ByteArray) (w : World) (ht : Tab w) (hs : s < 4294967296) (hb : b.size < 9223372036854775807) :
    Calls Tryd.prog 59 #[.int .u32 s, .string b] w fun e w' => e = .returned (.int .u32 (crc s b.data.toList)) ∧ w' = w := by
  have hf := flip_lt hs
  go_enter Tryd.func59, Tryd.ntmps59
  go_wp2_with (rw [not_nat s hs])
  go_loopw [5, 11] (fun u v wr => ∃ r i : Nat, u = .int .u32 r ∧ v = .int .i64 i ∧ i ≤ b.size ∧ r < 4294967296 ∧ r = regs (s ^^^ 4294967295) (b.data.toList.take i) ∧ wr = w) (fun _ v _ => b.size - (intOf v).toNat)
  case atStart => exact ⟨_, 0, rfl, rfl, Nat.zero_le _, hf, rfl, rfl⟩
  case round =>
    obtain ⟨r, i, rfl, rfl, hi, hr, hreg, rfl⟩ := hrel
    by_cases hlt : i < b.size
    · have hc := (b[i]).toNat_lt
      have h1 := u32_xor_nat r (b[i]).toNat hr (by omega)
      have hx : r ^^^ (b[i]).toNat < 4294967296 := Nat.xor_lt_two_pow (n := 32) hr (by omega)
      have HR : Hid (regs (s ^^^ 4294967295) (b.data.toList.take (i + 1)) = stN 4 (stN 4 (r ^^^ (b[i]).toNat))) := by
        show _ = _; rw [take_one b i hlt, ← hreg, rb_two]
      clear hreg
      generalize r ^^^ (b[i]).toNat = x at *
      have h2 := and15 x hx
      have c2 := ht (x % 16) (Nat.mod_lt _ (by omega))
      rw [tabN_at _ (Nat.mod_lt _ (by omega))] at c2
      have l2 := stN_lt 4 (r := x % 16) (by omega)
      have h3 := u32_xor_nat (x / 16) (stN 4 (x % 16)) (by omega) l2
      rw [← stN4, show ((x / 16 : Nat) : Int) = (x : Int) / 16 by omega] at h3
      have hy := stN_lt 4 hx
      generalize stN 4 x = y at *
      have h4 := and15 y hy
      have c4 := ht (y % 16) (Nat.mod_lt _ (by omega))
      rw [tabN_at _ (Nat.mod_lt _ (by omega))] at c4
      have l4 := stN_lt 4 (r := y % 16) (by omega)
      have h5 := u32_xor_nat (y / 16) (stN 4 (y % 16)) (by omega) l4
      rw [← stN4, show ((y / 16 : Nat) : Int) = (y : Int) / 16 by omega] at h5
      have hz := stN_lt 4 hy
      generalize stN 4 y = z at *
      go_wp2
      refine ⟨⟨z, i + 1, rfl, rfl, hlt, hz, HR.out.symm, trivial⟩, ?_⟩
      simp only [intOf]; omega
    · have e : i = b.size := by omega
      subst e
      rw [List.take_of_length_le (by simp)] at hreg
      have HG : Hid (r = regs (s ^^^ 4294967295) b.data.toList) := hreg
      clear hreg
      go_wp2
      go_ret
      exact ⟨ret_int (by rw [not_nat r hr, HG.out]; rfl), rfl⟩
set_option maxRecDepth 100000 in
set_option maxHeartbeats 4000000 in
theorem ron_any (s : Nat) (b : ByteArray) (w : World) (hs : s < 4294967296) (hb : b.size < 9223372036854775807) :
    Calls Tryd.prog 74 #[.int .u32 s, .string b] w fun e w' => e = .returned (.int .u32 (crc s b.data.toList)) ∧ w' = w := by
  have hf := flip_lt hs
  have hn := u32_xor_nat s 4294967295 hs (by omega)
  go_enter Tryd.func74, Tryd.ntmps74
  go_wp2
  go_loopw [5, 6] (fun u v wr => ∃ r i : Nat, u = .int .u32 r ∧ v = .int .i64 i ∧ i ≤ b.size ∧ r < 4294967296 ∧ r = regs (s ^^^ 4294967295) (b.data.toList.take i) ∧ wr = w) (fun _ v _ => b.size - (intOf v).toNat)
  case atStart => exact ⟨_, 0, ival hn, rfl, Nat.zero_le _, hf, rfl, rfl⟩
  case round =>
    obtain ⟨r, i, rfl, rfl, hi, hr, hreg, rfl⟩ := hrel
    by_cases hlt : i < b.size
    · have hc := (b[i]).toNat_lt
      have h1 := u32_xor_nat r (b[i]).toNat hr (by omega)
      have hx : r ^^^ (b[i]).toNat < 4294967296 := Nat.xor_lt_two_pow (n := 32) hr (by omega)
      have HR : Hid (regs (s ^^^ 4294967295) (b.data.toList.take (i + 1)) = stN 8 (r ^^^ (b[i]).toNat)) := by
        show _ = _; rw [take_one b i hlt, ← hreg, rb_def]
      clear hreg
      generalize r ^^^ (b[i]).toNat = x at *
      go_wp2
      go_loopw [5, 7] (fun u v ws => ∃ y k : Nat, u = .int .u32 y ∧ v = .int .i64 k ∧ k ≤ 8 ∧ y < 4294967296 ∧ y = stN k x ∧ ws = wr) (fun _ v _ => 8 - (intOf v).toNat)
      case atStart => exact ⟨x, 0, rfl, rfl, by omega, hx, rfl, rfl⟩
      case round =>
        obtain ⟨y, k, rfl, rfl, hk, hy, hst, rfl⟩ := hrel
        have HS : Hid (y = stN k x) := hst
        clear hst
        by_cases h8 : k < 8
        · have ha := and1 y hy
          by_cases h2 : y % 2 = 1
          · have hz := u32_xor_nat (y / 2) 2197175160 (by omega) (by omega)
            rw [show ((y / 2 : Nat) : Int) = (y : Int) / 2 by omega] at hz
            have HZ : Hid (y / 2 ^^^ 2197175160 = stN (k + 1) x) := by
              show _ = _; rw [stN_succ, ← HS.out]; unfold st; rw [if_pos h2]
            have hzl : y / 2 ^^^ 2197175160 < 4294967296 := Nat.xor_lt_two_pow (n := 32) (by omega) (by omega)
            generalize y / 2 ^^^ 2197175160 = z at *
            rw [h2] at ha
            go_wp2
            refine ⟨⟨z, k + 1, ival hz, rfl, h8, hzl, HZ.out, trivial⟩, ?_⟩
            simp only [intOf]; omega
          · have HZ : Hid (y / 2 = stN (k + 1) x) := by
              show _ = _; rw [stN_succ, ← HS.out]; unfold st; rw [if_neg h2]
            rw [show y % 2 = 0 by omega] at ha
            go_wp2
            refine ⟨⟨y / 2, k + 1, rfl, rfl, h8, by omega, HZ.out, trivial⟩, ?_⟩
            simp only [intOf]; omega
        · have e : k = 8 := by omega
          subst e
          go_wp2
          refine ⟨⟨y, i + 1, rfl, rfl, hlt, hy, ?_, trivial⟩, ?_⟩
          · rw [HS.out]; exact HR.out.symm
          · simp only [intOf]; omega
    · have e : i = b.size := by omega
      subst e
      rw [List.take_of_length_le (by simp)] at hreg
      have HG : Hid (r = regs (s ^^^ 4294967295) b.data.toList) := hreg
      clear hreg
      go_wp2
      go_ret
      have hn := u32_xor_nat r 4294967295 hr (by omega)
      exact ⟨ret_int (hn.trans (by rw [HG.out]; rfl)), rfl⟩
/-- The sum of a text. -/
def sumL (l : List UInt8) : Nat := crc 0 l
theorem sum_any (b : ByteArray) (w : World) (ht : Tab w) (hb : b.size < 9223372036854775807) :
    Calls Tryd.prog 71 #[.string b] w fun e w' => e = .returned (.int .u32 (crc 0 b.data.toList)) ∧ w' = w := by
  go_enter Tryd.func71, Tryd.ntmps71
  go_wp2_with fail
  refine (on_any 0 b _ ht (by omega) hb).mono ?_
  rintro e w1 ⟨rfl, rfl⟩
  go_wp2
  go_ret
  exact ⟨rfl, rfl⟩
theorem rsum_any (b : ByteArray) (w : World) (hb : b.size < 9223372036854775807) :
    Calls Tryd.prog 66 #[.string b] w fun e w' => e = .returned (.int .u32 (crc 0 b.data.toList)) ∧ w' = w := by
  go_enter Tryd.func66, Tryd.ntmps66
  go_wp2_with fail
  refine (ron_any 0 b _ (by omega) hb).mono ?_
  rintro e w1 ⟨rfl, rfl⟩
  go_wp2
  go_ret
  exact ⟨rfl, rfl⟩
end Go.Proofs.YtjkhhjboejkafaaDoor
namespace Go.Proofs.YtjkhhjboejkafaaDoor
open Go.RowKit Go.Proofs.SealMath
/-- A sum in four bytes, the lowest first. -/
def lowL (s : Nat) : List UInt8 := [UInt8.ofNat s, UInt8.ofNat (s / 256), UInt8.ofNat (s / 65536), UInt8.ofNat (s / 16777216)]
theorem u8n (x : Nat) : (UInt8.ofNat x).toNat = x % 256 := by rw [UInt8.toNat_ofNat']
/-- A literal of bytes, as a text. -/
theorem conv_lit (w : World) (l : List UInt8) (n cap : Nat) (cs : Array Value) (hn : l.length = n) (h : cs = (l.map BV).toArray) :
    (convert 50 9 (.slice (some ⟨w.heap.size, 0, none⟩) n cap)).run Tryd.prog (w.alloc (.cells cs 5)) = .ok (.string ⟨l.toArray⟩) (w.alloc (.cells cs 5)) := by
  subst h hn
  have hh := heap_alloc_last w (.cells (l.map BV).toArray 5)
  exact run_convert_bytes_back _ 50 9 5 ⟨w.heap.size, 0, none⟩ cap l Tryd.underlying50 Tryd.underlying5 Tryd.underlying9 (fun j hj => by
    have ea : (⟨w.heap.size, 0, none⟩ : Addr).add j = ⟨w.heap.size, j, none⟩ := by unfold Addr.add; split <;> simp_all
    rw [ea, cell_of_row _ _ j _ 5 (0, 0) hh]
    simp [hj, BV])
theorem lowL_cells (s : Nat) (hs : s < 4294967296) : #[Value.int IntKind.u8 ((s : Int) % 256), Value.int IntKind.u8 ((s : Int) / 256 % 256), Value.int IntKind.u8 ((s : Int) / 65536 % 256), Value.int IntKind.u8 ((s : Int) / 16777216)] = ((lowL s).map BV).toArray := by
  have e : (s : Int) / 16777216 = ((s / 16777216 % 256 : Nat) : Int) := by omega
  simp only [lowL, List.map_cons, List.map_nil, BV, u8n]
  rw [e]; simp
set_option maxRecDepth 100000 in
set_option maxHeartbeats 1000000 in
theorem low_any (s : Nat) (w : World) (hs : s < 4294967296) :
    Calls Tryd.prog 58 #[.int .u32 s] w fun e w' => e = .returned (.string ⟨(lowL s).toArray⟩) ∧ Below w.heap.size w w' := by
  have hcv := conv_lit w (lowL s) 4 4 _ rfl (lowL_cells s hs)
  go_enter Tryd.func58, Tryd.ntmps58
  go_wp2
  go_ret
  exact ⟨rfl, (Below.refl _ _).alloc (Nat.le_refl _) _⟩
/-- The six bytes; the frame. -/
def hdL (k n : Nat) : List UInt8 := 167 :: UInt8.ofNat k :: fixL n 4
theorem hdL_len (k n : Nat) : (hdL k n).length = 6 := by simp [hdL, fixL_len]
def frL (k : Nat) (p : List UInt8) : List UInt8 := hdL k p.length ++ lowL (crc 0 (hdL k p.length)) ++ p ++ lowL (crc 0 (hdL k p.length ++ p))
theorem frL_len (k : Nat) (p : List UInt8) : (frL k p).length = p.length + 14 := by simp [frL, hdL_len, lowL]; omega
theorem ba_ext {X Y : ByteArray} (h : X.data.toList = Y.data.toList) : X = Y := ByteArray.ext (Array.toList_inj.1 h)
theorem fr_bytes (H L p M : ByteArray) (k s t : Nat) (hH : H.data.toList = hdL k p.data.toList.length) (hs : s = crc 0 H.data.toList) (hL : L = ⟨(lowL s).toArray⟩) (ht : t = crc s p.data.toList) (hM : M = ⟨(lowL t).toArray⟩) :
    H ++ L ++ p ++ M = ⟨(frL k p.data.toList).toArray⟩ := by
  apply ba_ext
  rw [hL, hM, ht, hs, hH, ← crc_append]
  simp only [ByteArray.data_append, Array.toList_append, hH]
  rfl
/-- What Frame answers. -/
def frE (k : Int) (p : ByteArray) : Int := if 1 ≤ k ∧ k ≤ 255 then if p.size ≤ 65536 then 0 else 36 else 35
def frT (k : Int) (p : ByteArray) : List UInt8 := if 1 ≤ k ∧ k ≤ 255 then if p.size ≤ 65536 then frL k.toNat p.data.toList else [] else []
end Go.Proofs.YtjkhhjboejkafaaDoor
namespace Go.Proofs.YtjkhhjboejkafaaDoor
open Go.RowKit Go.Proofs.SealMath
/-- Two bytes, as a text, whatever was laid behind them. -/
theorem conv_two {W W' : World} {k : Int} (hk : 0 ≤ k ∧ k ≤ 255) {B : Nat} (hB : W.heap.size < B) (hb : Below B (W.alloc (.cells #[.int .u8 167, .int .u8 k] 5)) W') :
    (convert 50 9 (.slice (some ⟨W.heap.size, 0, none⟩) 2 2)).run Tryd.prog W' = .ok (.string ⟨#[167, UInt8.ofNat k.toNat]⟩) W' := by
  have hh := heap_alloc_last W (.cells #[.int .u8 167, .int .u8 k] 5)
  exact run_convert_bytes_back W' 50 9 5 ⟨W.heap.size, 0, none⟩ 2 [167, UInt8.ofNat k.toNat] Tryd.underlying50 Tryd.underlying5 Tryd.underlying9 (fun j hj => by
    have ea : (⟨W.heap.size, 0, none⟩ : Addr).add j = ⟨W.heap.size, j, none⟩ := by unfold Addr.add; split <;> simp_all
    rw [ea, hb.cell (p := ⟨W.heap.size, j, none⟩) hB, cell_of_row _ _ j _ 5 (0, 0) hh]
    have : j = 0 ∨ j = 1 := by simp at hj; omega
    rcases this with rfl | rfl
    · rfl
    · have e : (UInt8.ofNat k.toNat).toNat = k.toNat := by rw [u8n]; omega
      have e2 : ((k.toNat : Nat) : Int) = k := by omega
      simp [e, e2])
theorem hd_bytes (k n : Nat) : (⟨#[167, UInt8.ofNat k]⟩ : ByteArray) ++ ⟨(fixL n 4).toArray⟩ = ⟨(hdL k n).toArray⟩ := by
  apply ba_ext; simp [ByteArray.data_append, hdL]
theorem conv_two_d {W W' : World} {k : Int} (hk : 0 ≤ k ∧ k ≤ 255) (hb : Below (W.alloc (.cells #[.int .u8 167, .int .u8 k] 5)).drew.heap.size (W.alloc (.cells #[.int .u8 167, .int .u8 k] 5)).drew W') :
    (convert 50 9 (.slice (some ⟨W.heap.size, 0, none⟩) 2 2)).run Tryd.prog W' = .ok (.string ⟨#[167, UInt8.ofNat k.toNat]⟩) W' :=
  conv_two hk (B := (W.alloc (.cells #[.int .u8 167, .int .u8 k] 5)).heap.size) (by simp) ((Below.refl _ _).drew.trans hb)
theorem fr_bytes2 (H L p M : ByteArray) (k s t : Nat) (hH : H.data.toList = hdL k p.data.toList.length) (hs : s = crc 0 H.data.toList) (hL : L = ⟨(lowL s).toArray⟩) (ht : t = crc 0 (H ++ p).data.toList) (hM : M = ⟨(lowL t).toArray⟩) :
    H ++ L ++ p ++ M = ⟨(frL k p.data.toList).toArray⟩ := by
  refine fr_bytes H L p M k s t hH hs hL ?_ hM
  rw [ht, hs, ByteArray.data_append, Array.toList_append, crc_append]
end Go.Proofs.YtjkhhjboejkafaaDoor
set_option linter.unusedVariables false
set_option linter.unusedSimpArgs false
namespace Go.Proofs.YtjkhhjboejkafaaDoor
open Go.RowKit Go.Proofs.SealMath
/-- An update's cells. -/
abbrev uC (s k i : Int) (c : ByteArray) : Array Value := #[.int .i64 s, .int .i64 k, .int .i64 i, .string c]
theorem empt (c : ByteArray) : c.toList.isEmpty = (c.size == 0) := by
  have e : c.size = c.data.toList.length := by simp
  rw [ByteArray.toList_eq, e]
  cases c.data.toList <;> simp
set_option maxHeartbeats 1000000 in
set_option maxRecDepth 100000 in
theorem fits_any (s k i : Int) (c : ByteArray) (x : Int) (w : World) :
    Calls Tryd.prog 63 #[.agg (uC s k i c), .int .i64 x] w fun e w' => e = .returned (.bool (fitB k c.size x)) ∧ Below w.heap.size w w' := by
  unfold fitB
  by_cases hk : k = 2
  · rw [if_pos hk]
    subst hk
    go_enter Tryd.func63, Tryd.ntmps63
    go_wp2
    go_ret
    exact ⟨ret_bool (empt c), (Below.refl _ w).alloc (Nat.le_refl _) _⟩
  · rw [if_neg hk]
    go_enter Tryd.func63, Tryd.ntmps63
    go_wp2_with (go_at_call 53; refine (bcheck_any _ _ _).mono ?_; rintro e w' ⟨rfl, rfl⟩)
    go_ret
    exact ⟨ret_bool rfl, (Below.refl _ w).alloc (Nat.le_refl _) _⟩
/-- Why Write refuses. -/
def wE (s k i : Int) (n : Nat) : Int :=
  if 1 ≤ s ∧ s ≤ 1152921504606846976 then
    if k = 1 ∨ k = 2 then
      if 0 ≤ i ∧ i ≤ 281474976710656 then
        if (k = 1 ∧ 8 ≤ n ∧ n ≤ 128 ∧ n % 8 = 0) ∨ (k = 2 ∧ n = 0) then 0 else 11
      else 60
    else 35
  else 51
/-- An update's payload. -/
def upP (s i : Nat) (c : List UInt8) : List UInt8 := pvL 9 s ++ pvL 9 i ++ c
theorem upP_len (s i : Nat) (c : List UInt8) : (upP s i c).length ≤ 20 + c.length := by
  have h1 := (pvL_len 9 s).2; have h2 := (pvL_len 9 i).2
  simp [upP]; omega
def wT (s k i : Int) (c : ByteArray) : List UInt8 := if wE s k i c.size = 0 then frL k.toNat (upP s.toNat i.toNat c.data.toList) else []
theorem fit8 (k : Int) (n : Nat) (hk : k = 1 ∨ k = 2) : fitB k n (wrap64 (8 * n)) = true ↔ (k = 1 ∧ 8 ≤ n ∧ n ≤ 128 ∧ n % 8 = 0) ∨ (k = 2 ∧ n = 0) := by
  unfold fitB
  rcases hk with rfl | rfl
  · simp only [show ¬ ((1 : Int) = 2) by decide, if_false, beq_iff_eq, chk_ok, isW, false_and, or_false, true_and, Bool.and_eq_true, decide_eq_true_eq]
    have : wrap64 (8 * (n : Int)) = (8 * (n : Int) + 9223372036854775808) % 18446744073709551616 - 9223372036854775808 := by unfold wrap64; rfl
    constructor <;> intro h <;> omega
  · simp
/-- An update lies in a block of its own. -/
structure UAt (w : World) (g : Nat) (s k i : Int) (c : ByteArray) : Prop where
  c0 : w.cell? ⟨g, 0, none⟩ = some (.int .i64 s)
  c1 : w.cell? ⟨g, 1, none⟩ = some (.int .i64 k)
  c2 : w.cell? ⟨g, 2, none⟩ = some (.int .i64 i)
  c3 : w.cell? ⟨g, 3, none⟩ = some (.string c)
theorem UAt.new (w : World) (s k i : Int) (c : ByteArray) : UAt (w.alloc (.cells (uC s k i c) 39)) w.heap.size s k i c := by
  have h : ∀ j u, (uC s k i c)[j]? = some u → (w.alloc (.cells (uC s k i c) 39)).cell? ⟨w.heap.size, j, none⟩ = some u := fun j u hu => by
    rw [cell_of_row _ _ j _ 39 (0, 0) (heap_alloc_last w _)]
    exact hu
  exact ⟨h 0 _ rfl, h 1 _ rfl, h 2 _ rfl, h 3 _ rfl⟩
theorem UAt.below {w w' : World} {g B : Nat} {s k i : Int} {c : ByteArray} (h : UAt w g s k i c) (b : Below B w w') (hg : g < B) : UAt w' g s k i c :=
  ⟨(b.cell (p := ⟨g, 0, none⟩) hg).trans h.c0, (b.cell (p := ⟨g, 1, none⟩) hg).trans h.c1, (b.cell (p := ⟨g, 2, none⟩) hg).trans h.c2, (b.cell (p := ⟨g, 3, none⟩) hg).trans h.c3⟩
theorem wE0 {s k i : Int} {n : Nat} (h1 : 1 ≤ s ∧ s ≤ 1152921504606846976) (h2 : k = 1 ∨ k = 2) (h3 : 0 ≤ i ∧ i ≤ 281474976710656) (h4 : fitB k n (wrap64 (8 * n)) = true) : wE s k i n = 0 := by
  unfold wE; rw [if_pos h1, if_pos h2, if_pos h3, if_pos ((fit8 k n h2).1 h4)]
theorem wE11 {s k i : Int} {n : Nat} (h1 : 1 ≤ s ∧ s ≤ 1152921504606846976) (h2 : k = 1 ∨ k = 2) (h3 : 0 ≤ i ∧ i ≤ 281474976710656) (h4 : fitB k n (wrap64 (8 * n)) = false) : wE s k i n = 11 := by
  unfold wE; rw [if_pos h1, if_pos h2, if_pos h3, if_neg (fun h => by rw [(fit8 k n h2).2 h] at h4; cases h4)]
theorem wT_no {s k i : Int} {c : ByteArray} {x : Int} (h : wE s k i c.size = x) (hx : x ≠ 0) : wT s k i c = [] := by unfold wT; rw [h, if_neg hx]
theorem below_d {w w' : World} (b : Below w.drew.heap.size w.drew w') : Below w.heap.size w w' := ⟨b.os, b.tape, b.output, b.size, b.block⟩
theorem cell_lat {W W' : World} {p : Addr} {v : Value} (hb : Below W.heap.size W W') (h : W.cell? p = some v) : W'.cell? p = some v := (hb.cell (World.block_lt_of_cell? W p h)).trans h
theorem b_drew (W : World) : Below W.heap.size W W.drew := (Below.refl _ W).drew
theorem Tab.lat {w w' : World} (h : Tab w) (hb : Below w.heap.size w w') : Tab w' := fun i hi => cell_lat hb (h i hi)
theorem Tab.pos {w : World} (h : Tab w) : 0 < w.heap.size := World.block_lt_of_cell? w ⟨0, 0, none⟩ (h 0 (by omega))
theorem wr_fin (s k i : Nat) (c : ByteArray) (w : World) {X Y : ByteArray} {w' : World} (hX : Hid (X.data.toList = pvL 9 s)) (hY : Hid (Y.data.toList = pvL 9 i)) (hb : Below w.heap.size w w') : Ending.returned (Value.tuple #[.string ⟨(frL k (X.data.toList ++ (Y.data.toList ++ c.data.toList))).toArray⟩, .int .i64 0]) = .returned (.tuple #[.string ⟨(frL k (upP s i c.data.toList)).toArray⟩, .int .i64 0]) ∧ Below w.heap.size w w' := by
  rw [hX.out, hY.out]; exact ⟨by simp [upP], hb⟩
theorem fit_le {k : Int} {n : Nat} (h2 : k = 1 ∨ k = 2) (h4 : fitB k n (wrap64 (8 * n)) = true) : n ≤ 128 ∧ fitB k n (8 * n) = true := by
  have h := (fit8 k n h2).1 h4
  have hn : n ≤ 128 := by omega
  have e : wrap64 (8 * (n : Int)) = 8 * n := by unfold wrap64; omega
  rw [e] at h4
  exact ⟨hn, h4⟩
theorem wE_zero {s k i : Int} {n : Nat} (hE : wE s k i n = 0) : (1 ≤ s ∧ s ≤ 1152921504606846976) ∧ (k = 1 ∨ k = 2) ∧ (0 ≤ i ∧ i ≤ 281474976710656) ∧ ((k = 1 ∧ 8 ≤ n ∧ n ≤ 128 ∧ n % 8 = 0) ∨ (k = 2 ∧ n = 0)) := by
  unfold wE at hE
  split at hE
  · split at hE
    · split at hE
      · split at hE
        · exact ⟨‹_›, ‹_›, ‹_›, ‹_›⟩
        · simp at hE
      · simp at hE
    · simp at hE
  · simp at hE
end Go.Proofs.YtjkhhjboejkafaaDoor
namespace Go.Proofs.YtjkhhjboejkafaaDoor
open Go.RowKit Go.Proofs.SealMath
/-- The text and the place that the literal holds. -/
structure Fld (W : World) (b : ByteArray) (a g : Nat) : Prop where
  text : W.cell? ⟨g, 0, none⟩ = some (.string b)
  place : W.cell? ⟨g + 1, 0, none⟩ = some (.int .i64 a)
  free : W.frozen? ⟨g + 1, 0, none⟩ = false
theorem Fld.below {W W' : World} {b : ByteArray} {a g B : Nat} (h : Fld W b a g) (hb : Below B W W') (hg : g + 1 < B) : Fld W' b a g :=
  ⟨(hb.cell (p := ⟨g, 0, none⟩) (by show g < B; omega)).trans h.text, (hb.cell (p := ⟨g + 1, 0, none⟩) hg).trans h.place, (hb.frozen (p := ⟨g + 1, 0, none⟩) hg).trans h.free⟩
theorem Fld.size {W : World} {b : ByteArray} {a g : Nat} (h : Fld W b a g) : g + 1 < W.heap.size := World.block_lt_of_cell? W _ h.place
theorem Fld.set {W : World} {b : ByteArray} {a g : Nat} (h : Fld W b a g) (c : Nat) : Fld (W.setCell ⟨g + 1, 0, none⟩ (.int .i64 c)) b c g :=
  ⟨(World.cell?_setCell_other _ _ _ _ (fun he => by cases he)).trans h.text, World.cell?_setCell_same _ _ _ h.place, (World.frozen?_setCell _ _ _ _).trans h.free⟩
/-- Where the literal stands behind a field of n bytes; what it tells. -/
def nxA (b : ByteArray) (a n : Nat) : Nat := if a + n ≤ b.size then a + n else b.size
def nxT (b : ByteArray) (a n : Nat) : ByteArray := if a + n ≤ b.size then b.extract a (a + n) else ⟨#[]⟩
abbrev lit (g : Nat) : Value := .func (.func 70) #[] #[.pointer (some ⟨g, 0, none⟩), .pointer (some ⟨g + 1, 0, none⟩)]
set_option maxRecDepth 100000 in
set_option maxHeartbeats 1000000 in
theorem next_any (b : ByteArray) (a n g B : Nat) (w : World) (hF : Fld w b a g) (ha : a ≤ b.size) (hb : b.size < 4611686018427387904) (hn : n < 4611686018427387904) (hB : B ≤ g) :
    Calls Tryd.prog 70 #[.int .i64 n, .pointer (some ⟨g, 0, none⟩), .pointer (some ⟨g + 1, 0, none⟩)] w fun e w' => e = .returned (.string (nxT b a n)) ∧ Fld w' b (nxA b a n) g ∧ Below B w w' ∧ w'.heap.size = w.heap.size := by
  have h1 := hF.text
  have h2 := hF.place
  have h3 := hF.free
  unfold nxT nxA
  by_cases h : a + n ≤ b.size
  · rw [if_pos h, if_pos h]
    go_enter Tryd.func70, Tryd.ntmps70
    go_wp2
    go_ret
    exact ⟨rfl, hF.set (a + n), (Below.refl _ w).setCell (p := ⟨g + 1, 0, none⟩) (by show B ≤ g + 1; omega) _, by simp⟩
  · rw [if_neg h, if_neg h]
    go_enter Tryd.func70, Tryd.ntmps70
    go_wp2
    go_ret
    exact ⟨rfl, hF.set b.size, (Below.refl _ w).setCell (p := ⟨g + 1, 0, none⟩) (by show B ≤ g + 1; omega) _, by simp⟩
theorem nxA_le (b : ByteArray) (a n : Nat) : nxA b a n ≤ b.size := by unfold nxA; split <;> omega
theorem nxT_list (b : ByteArray) (a n : Nat) (h : a + n ≤ b.size) : (nxT b a n).data.toList = sub b a n := by
  unfold nxT sub; rw [if_pos h, ByteArray.data_extract, Array.toList_extract, List.extract_eq_take_drop]
  congr 1; omega
theorem ba_size (T : ByteArray) : T.size = T.data.toList.length := Array.length_toList.symm
theorem nxT_size (b : ByteArray) (a n : Nat) (h : a + n ≤ b.size) : (nxT b a n).size = n := by rw [ba_size, nxT_list b a n h, sub_len b a n h]
theorem nxA_yes (b : ByteArray) (a n : Nat) (h : a + n ≤ b.size) : nxA b a n = a + n := by unfold nxA; rw [if_pos h]
theorem nxT_no (b : ByteArray) (a n : Nat) (h : ¬ a + n ≤ b.size) : nxT b a n = ⟨#[]⟩ := by unfold nxT; rw [if_neg h]
theorem told_none (b : ByteArray) (a m n o : Nat) (h : b.size < a + m + n + o) (ho : 0 < o) : nxT b (nxA b (nxA b a m) n) o = ⟨#[]⟩ := by
  apply nxT_no
  unfold nxA
  split <;> split <;> omega
theorem told_none2 (b : ByteArray) (a m o : Nat) (h : b.size < a + m + o) (ho : 0 < o) : nxT b (nxA b a m) o = ⟨#[]⟩ := by
  apply nxT_no
  unfold nxA
  split <;> omega
theorem sub_add (b : ByteArray) (a m n : Nat) : sub b a (m + n) = sub b a m ++ sub b (a + m) n := by
  unfold sub; rw [List.take_add, List.drop_drop]
/-- What head answers. -/
def hdA (b : ByteArray) (a : Nat) : Nat × Nat × Nat × Int :=
  if b.size ≤ a then (0, 0, 0, 31)
  else if sub b a 1 = [167] then
    if b.size < a + 10 then (0, 0, 0, 31)
    else if sub b (a + 6) 4 = lowL (crc 0 (sub b a 6)) then
      if numL (sub b (a + 1) 1) = 0 then (0, 0, 0, 35)
      else if numL (sub b (a + 2) 4) ≤ 65536 then (numL (sub b (a + 1) 1), numL (sub b (a + 2) 4), crc 0 (sub b a 6), 0)
      else (0, 0, 0, 36)
    else (0, 0, 0, 34)
  else (0, 0, 0, 33)
theorem one_ba (T : ByteArray) (c : UInt8) (h : T.data.toList = [c]) : T = ⟨#[c]⟩ := ba_ext (by rw [h])
end Go.Proofs.YtjkhhjboejkafaaDoor
