/-
  DERIVED. SOn, SFrame, JWrite, as one text.
-/
import Derived.Test.YtfijjlkhgelmoaaGreatDoorTzAA
import Derived.Test.YtfijjlkhgelmoaaGreatDoorTzAJ
import Derived.OwnWalk
import Derived.Test.YtfijjlkhgelmoaaGreatDoorTzAK
import Derived.Deep.RegionHeld
namespace Go.Proofs.YtfijjlkhgelmoaaGreatDoor
open Go.RowKit Go.Proofs.SealMath
/-- The table lies there. -/
def Tab (w : World) : Prop := ∀ j, j < 16 → w.cell? ⟨0, j, none⟩ = some (.int .u32 (tabN.getD j 0 : Nat))
theorem Tab.below {w w' : World} {B : Nat} (h : Tab w) (hb : Below B w w') (hB : 0 < B) : Tab w' := fun i hi => (hb.cell (p := ⟨0, i, none⟩) hB).trans (h i hi)
theorem take_one (b : ByteArray) (i : Nat) (h : i < b.size) (r : Nat) : regs r (b.data.toList.take (i + 1)) = rb (regs r (b.data.toList.take i)) (b[i]).toNat := by
  rw [List.take_succ_eq_append_getElem (by simpa using h), regs_append, regs_one]; rfl
theorem not_nat (s : Nat) (hs : s < 4294967296) : bits .xor .u32 IntKind.u32.max (s : Int) = ((s ^^^ 4294967295 : Nat) : Int) := by
  have h := u32_xor_nat 4294967295 s (by omega) hs
  rw [Nat.xor_comm] at h
  exact h
theorem and15 (x : Nat) (hx : x < 4294967296) : bits .and .u32 (x : Int) 15 = ((x % 16 : Nat) : Int) := by
  have h := u32_and_nat x 15 hx (by omega)
  rw [show (15 : Nat) = 2 ^ 4 - 1 by rfl, Nat.and_two_pow_sub_one_eq_mod] at h
  exact h
theorem and1 (x : Nat) (hx : x < 4294967296) : bits .and .u32 (x : Int) 1 = ((x % 2 : Nat) : Int) := by
  have h := u32_and_nat x 1 hx (by omega)
  rw [show (1 : Nat) = 2 ^ 1 - 1 by rfl, Nat.and_two_pow_sub_one_eq_mod] at h
  exact h
set_option maxRecDepth 100000 in
set_option maxHeartbeats 4000000 in
theorem on_any (s : Nat) (b : ByteArray) (w : World) (ht : Tab w) (hs : s < 4294967296) (hb : b.size < 9223372036854775807) :
    Calls Tryz.prog 38 #[.int .u32 s, .string b] w fun e w' => e = .returned (.int .u32 (crc s b.data.toList)) ∧ w' = w := by
  have hf := flip_lt hs
  go_enter Tryz.func38, Tryz.ntmps38
  go_wp2_with (rw [not_nat s hs])
  go_loopw [5, 11] (fun u v wr => ∃ r i : Nat, u = .int .u32 r ∧ v = .int .i64 i ∧ i ≤ b.size ∧ r < 4294967296 ∧ r = regs (s ^^^ 4294967295) (b.data.toList.take i) ∧ wr = w) (fun _ v _ => b.size - (intOf v).toNat)
  case atStart => exact ⟨_, 0, rfl, rfl, Nat.zero_le _, hf, rfl, rfl⟩
  case round =>
    obtain ⟨r, i, rfl, rfl, hi, hr, hreg, rfl⟩ := hrel
    by_cases hlt : i < b.size
    · have hc := (b[i]).toNat_lt
      have h1 := u32_xor_nat r (b[i]).toNat hr (by omega)
      have hx : r ^^^ (b[i]).toNat < 4294967296 := Nat.xor_lt_two_pow (n := 32) hr (by omega)
      have HR : Hid (regs (s ^^^ 4294967295) (b.data.toList.take (i + 1)) = stN 4 (stN 4 (r ^^^ (b[i]).toNat))) := by
        show _ = _; rw [take_one b i hlt, ← hreg, rb_two]
      clear hreg
      generalize r ^^^ (b[i]).toNat = x at *
      have h2 := and15 x hx
      have c2 := ht (x % 16) (Nat.mod_lt _ (by omega))
      rw [tabN_at _ (Nat.mod_lt _ (by omega))] at c2
      have l2 := stN_lt 4 (r := x % 16) (by omega)
      have h3 := u32_xor_nat (x / 16) (stN 4 (x % 16)) (by omega) l2
      rw [← stN4, show ((x / 16 : Nat) : Int) = (x : Int) / 16 by omega] at h3
      have hy := stN_lt 4 hx
      generalize stN 4 x = y at *
      have h4 := and15 y hy
      have c4 := ht (y % 16) (Nat.mod_lt _ (by omega))
      rw [tabN_at _ (Nat.mod_lt _ (by omega))] at c4
      have l4 := stN_lt 4 (r := y % 16) (by omega)
      have h5 := u32_xor_nat (y / 16) (stN 4 (y % 16)) (by omega) l4
      rw [← stN4, show ((y / 16 : Nat) : Int) = (y : Int) / 16 by omega] at h5
      have hz := stN_lt 4 hy
      generalize stN 4 y = z at *
      go_wp2
      refine ⟨⟨z, i + 1, rfl, rfl, hlt, hz, HR.out.symm, trivial⟩, ?_⟩
      simp only [intOf]; omega
    · have e : i = b.size := by omega
      subst e
      rw [List.take_of_length_le (by simp)] at hreg
      have HG : Hid (r = regs (s ^^^ 4294967295) b.data.toList) := hreg
      clear hreg
      go_wp2
      go_ret
      exact ⟨ret_int (by rw [not_nat r hr, HG.out]; rfl), rfl⟩
/-- The sum of a text. -/
def sumL (l : List UInt8) : Nat := crc 0 l
theorem sum_any (b : ByteArray) (w : World) (ht : Tab w) (hb : b.size < 9223372036854775807) :
    Calls Tryz.prog 36 #[.string b] w fun e w' => e = .returned (.int .u32 (crc 0 b.data.toList)) ∧ w' = w := by
  go_enter Tryz.func36, Tryz.ntmps36
  go_wp2_with fail
  refine (on_any 0 b _ ht (by omega) hb).mono ?_
  rintro e w1 ⟨rfl, rfl⟩
  go_wp2
  go_ret
  exact ⟨rfl, rfl⟩
end Go.Proofs.YtfijjlkhgelmoaaGreatDoor
namespace Go.Proofs.YtfijjlkhgelmoaaGreatDoor
open Go.RowKit Go.Proofs.SealMath
/-- A sum in four bytes, the lowest first. -/
def lowL (s : Nat) : List UInt8 := [UInt8.ofNat s, UInt8.ofNat (s / 256), UInt8.ofNat (s / 65536), UInt8.ofNat (s / 16777216)]
theorem u8n (x : Nat) : (UInt8.ofNat x).toNat = x % 256 := by rw [UInt8.toNat_ofNat']
/-- A literal of bytes, as a text. -/
theorem conv_lit (w : World) (l : List UInt8) (n cap : Nat) (cs : Array Value) (hn : l.length = n) (h : cs = (l.map BV).toArray) :
    (convert 55 9 (.slice (some ⟨w.heap.size, 0, none⟩) n cap)).run Tryz.prog (w.alloc (.cells cs 5)) = .ok (.string ⟨l.toArray⟩) (w.alloc (.cells cs 5)) := by
  subst h hn
  have hh := heap_alloc_last w (.cells (l.map BV).toArray 5)
  exact run_convert_bytes_back _ 55 9 5 ⟨w.heap.size, 0, none⟩ cap l Tryz.underlying55 Tryz.underlying5 Tryz.underlying9 (fun j hj => by
    have ea : (⟨w.heap.size, 0, none⟩ : Addr).add j = ⟨w.heap.size, j, none⟩ := by unfold Addr.add; split <;> simp_all
    rw [ea, cell_of_row _ _ j _ 5 (0, 0) hh]
    simp [hj, BV])
theorem lowL_cells (s : Nat) (hs : s < 4294967296) : #[Value.int IntKind.u8 ((s : Int) % 256), Value.int IntKind.u8 ((s : Int) / 256 % 256), Value.int IntKind.u8 ((s : Int) / 65536 % 256), Value.int IntKind.u8 ((s : Int) / 16777216)] = ((lowL s).map BV).toArray := by
  have e : (s : Int) / 16777216 = ((s / 16777216 % 256 : Nat) : Int) := by omega
  simp only [lowL, List.map_cons, List.map_nil, BV, u8n]
  rw [e]; simp
set_option maxRecDepth 100000 in
set_option maxHeartbeats 1000000 in
theorem low_any (s : Nat) (w : World) (hs : s < 4294967296) :
    Calls Tryz.prog 37 #[.int .u32 s] w fun e w' => e = .returned (.string ⟨(lowL s).toArray⟩) ∧ Below w.heap.size w w' := by
  have hcv := conv_lit w (lowL s) 4 4 _ rfl (lowL_cells s hs)
  go_enter Tryz.func37, Tryz.ntmps37
  go_wp2
  go_ret
  exact ⟨rfl, (Below.refl _ _).alloc (Nat.le_refl _) _⟩
/-- The six bytes; the frame. -/
def hdL (k n : Nat) : List UInt8 := 167 :: UInt8.ofNat k :: fixL n 4
theorem hdL_len (k n : Nat) : (hdL k n).length = 6 := by simp [hdL, fixL_len]
def frL (k : Nat) (p : List UInt8) : List UInt8 := hdL k p.length ++ lowL (crc 0 (hdL k p.length)) ++ p ++ lowL (crc 0 (hdL k p.length ++ p))
theorem frL_len (k : Nat) (p : List UInt8) : (frL k p).length = p.length + 14 := by simp [frL, hdL_len, lowL]; omega
theorem ba_ext {X Y : ByteArray} (h : X.data.toList = Y.data.toList) : X = Y := ByteArray.ext (Array.toList_inj.1 h)
theorem fr_bytes (H L p M : ByteArray) (k s t : Nat) (hH : H.data.toList = hdL k p.data.toList.length) (hs : s = crc 0 H.data.toList) (hL : L = ⟨(lowL s).toArray⟩) (ht : t = crc s p.data.toList) (hM : M = ⟨(lowL t).toArray⟩) :
    H ++ L ++ p ++ M = ⟨(frL k p.data.toList).toArray⟩ := by
  apply ba_ext
  rw [hL, hM, ht, hs, hH, ← crc_append]
  simp only [ByteArray.data_append, Array.toList_append, hH]
  rfl
/-- What Frame answers. -/
def frE (k : Int) (p : ByteArray) : Int := if 1 ≤ k ∧ k ≤ 255 then if p.size ≤ 65536 then 0 else 36 else 35
def frT (k : Int) (p : ByteArray) : List UInt8 := if 1 ≤ k ∧ k ≤ 255 then if p.size ≤ 65536 then frL k.toNat p.data.toList else [] else []
set_option maxRecDepth 100000 in
set_option maxHeartbeats 4000000 in
theorem frame_ok (k : Nat) (p : ByteArray) (w : World) (ht : Tab w) (hg : 0 < w.heap.size) (h1 : 1 ≤ k) (h2 : k ≤ 255) (h3 : p.size ≤ 65536) :
    Calls Tryz.prog 15 #[.int .i64 k, .string p] w fun e w' => e = .returned (.tuple #[.string ⟨(frL k p.data.toList).toArray⟩, .int .i64 0]) ∧ Below w.heap.size w w' := by
  go_enter Tryz.func15, Tryz.ntmps15
  go_wp2_with fail
  refine (putfix_ok p.size 4 _ (by omega) (by omega) (by omega) (by omega)).mono ?_
  rintro e w1 ⟨rfl, b1⟩
  have hcv := conv_lit w1 [UInt8.ofNat k] 1 1 _ rfl rfl
  simp only [List.map_cons, List.map_nil, BV, u8n, Nat.mod_eq_of_lt (show k < 256 by omega)] at hcv
  have hfl := fixL_len p.size 4
  have b2 : Below w.heap.size w (w1.alloc (Obj.cells #[Value.int IntKind.u8 k] 5)) := b1.alloc b1.size _
  go_wp2_with fail
  obtain ⟨H, hH⟩ : ∃ H : ByteArray, H = ⟨#[167]⟩ ++ ⟨#[UInt8.ofNat k]⟩ ++ ⟨(fixL p.size 4).toArray⟩ := ⟨_, rfl⟩
  rw [← hH]
  have hHl : H.data.toList = hdL k p.data.toList.length := by
    rw [hH]; simp [ByteArray.data_append, hdL]
  have HH : Hid (H.data.toList = hdL k p.data.toList.length) := hHl
  have hHs : H.size = 6 := by
    have : H.data.toList.length = H.size := Array.length_toList
    rw [← this, hHl, hdL_len]
  clear hH hcv hfl hHl
  generalize (w1.alloc (Obj.cells #[Value.int IntKind.u8 k] 5)) = w2 at *
  refine (sum_any H w2 (ht.below b2 hg) (by omega)).mono ?_
  rintro e w3 ⟨rfl, rfl⟩
  have hsl := crc_lt (s := 0) H.data.toList (by omega)
  obtain ⟨s, hs⟩ : ∃ s, s = crc 0 H.data.toList := ⟨_, rfl⟩
  rw [← hs]
  rw [← hs] at hsl
  have HS : Hid (s = crc 0 H.data.toList) := hs
  clear hs
  go_wp2_with fail
  refine (low_any s w3 hsl).mono ?_
  rintro e w4 ⟨rfl, b4⟩
  obtain ⟨L, hL⟩ : ∃ L : ByteArray, L = ⟨(lowL s).toArray⟩ := ⟨_, rfl⟩
  rw [← hL]
  have HL : Hid (L = ⟨(lowL s).toArray⟩) := hL
  have hLs : L.size = 4 := by rw [hL]; rfl
  clear hL
  have b24 := chain b2 b4 (Nat.le_refl _)
  go_wp2_with fail
  refine (on_any s p w4 (ht.below b24 hg) hsl (by omega)).mono ?_
  rintro e w5 ⟨rfl, rfl⟩
  have htl := crc_lt (s := s) p.data.toList hsl
  obtain ⟨t, hts⟩ : ∃ t, t = crc s p.data.toList := ⟨_, rfl⟩
  rw [← hts]
  rw [← hts] at htl
  have HT : Hid (t = crc s p.data.toList) := hts
  clear hts
  go_wp2_with fail
  refine (low_any t w5 htl).mono ?_
  rintro e w6 ⟨rfl, b6⟩
  obtain ⟨M, hM⟩ : ∃ M : ByteArray, M = ⟨(lowL t).toArray⟩ := ⟨_, rfl⟩
  rw [← hM]
  have HM : Hid (M = ⟨(lowL t).toArray⟩) := hM
  have hMs : M.size = 4 := by rw [hM]; rfl
  clear hM
  go_wp2
  go_ret2
  refine ⟨ret2 (congrArg Value.string ?_) rfl, chain b24 b6 (Nat.le_refl _)⟩
  exact fr_bytes H L p M k s t HH.out HS.out HL.out HT.out HM.out
set_option maxRecDepth 100000 in
set_option maxHeartbeats 1000000 in
theorem frame_any (k : Int) (p : ByteArray) (w : World) (ht : Tab w) (hg : 0 < w.heap.size) :
    Calls Tryz.prog 15 #[.int .i64 k, .string p] w fun e w' => e = .returned (.tuple #[.string ⟨(frT k p).toArray⟩, .int .i64 (frE k p)]) ∧ Below w.heap.size w w' := by
  unfold frT frE
  by_cases h1 : 1 ≤ k
  · by_cases h2 : k ≤ 255
    · have hh : 1 ≤ k ∧ k ≤ 255 := ⟨h1, h2⟩
      rw [if_pos hh, if_pos hh]
      clear hh
      by_cases h3 : p.size ≤ 65536
      · rw [if_pos h3, if_pos h3]
        obtain ⟨a, rfl⟩ : ∃ a : Nat, k = a := ⟨k.toNat, by omega⟩
        exact frame_ok a p w ht hg (by omega) (by omega) h3
      · rw [if_neg h3, if_neg h3]
        go_enter Tryz.func15, Tryz.ntmps15
        go_wp2
        go_ret2
        exact ⟨rfl, Below.refl _ _⟩
    · have hh : ¬ (1 ≤ k ∧ k ≤ 255) := by omega
      rw [if_neg hh, if_neg hh]
      clear hh
      go_enter Tryz.func15, Tryz.ntmps15
      go_wp2
      go_ret2
      exact ⟨rfl, Below.refl _ _⟩
  · have hh : ¬ (1 ≤ k ∧ k ≤ 255) := by omega
    rw [if_neg hh, if_neg hh]
    clear hh
    go_enter Tryz.func15, Tryz.ntmps15
    go_wp2
    go_ret2
    exact ⟨rfl, Below.refl _ _⟩
end Go.Proofs.YtfijjlkhgelmoaaGreatDoor
set_option linter.unusedVariables false
set_option linter.unusedSimpArgs false
namespace Go.Proofs.YtfijjlkhgelmoaaGreatDoor
open Go.RowKit Go.Proofs.SealMath
/-- An update's cells. -/
abbrev uC (s k i : Int) (c : ByteArray) : Array Value := #[.int .i64 s, .int .i64 k, .int .i64 i, .string c]
theorem empt (c : ByteArray) : c.toList.isEmpty = (c.size == 0) := by
  have e : c.size = c.data.toList.length := by simp
  rw [ByteArray.toList_eq, e]
  cases c.data.toList <;> simp
set_option maxHeartbeats 1000000 in
set_option maxRecDepth 100000 in
theorem fits_any (s k i : Int) (c : ByteArray) (x : Int) (w : World) :
    Calls Tryz.prog 28 #[.agg (uC s k i c), .int .i64 x] w fun e w' => e = .returned (.bool (fitB k c.size x)) ∧ Below w.heap.size w w' := by
  unfold fitB
  by_cases hk : k = 2
  · rw [if_pos hk]
    subst hk
    go_enter Tryz.func28, Tryz.ntmps28
    go_wp2
    go_ret
    exact ⟨ret_bool (empt c), (Below.refl _ w).alloc (Nat.le_refl _) _⟩
  · rw [if_neg hk]
    go_enter Tryz.func28, Tryz.ntmps28
    go_wp2_with (go_at_call 53; refine (bcheck_any _ _ _).mono ?_; rintro e w' ⟨rfl, rfl⟩)
    go_ret
    exact ⟨ret_bool rfl, (Below.refl _ w).alloc (Nat.le_refl _) _⟩
/-- Why Write refuses. -/
def wE (s k i : Int) (n : Nat) : Int :=
  if 1 ≤ s ∧ s ≤ 1152921504606846976 then
    if k = 1 ∨ k = 2 then
      if 0 ≤ i ∧ i ≤ 281474976710656 then
        if (k = 1 ∧ 8 ≤ n ∧ n ≤ 128 ∧ n % 8 = 0) ∨ (k = 2 ∧ n = 0) then 0 else 11
      else 60
    else 35
  else 51
/-- An update's payload. -/
def upP (s i : Nat) (c : List UInt8) : List UInt8 := pvL 9 s ++ pvL 9 i ++ c
theorem upP_len (s i : Nat) (c : List UInt8) : (upP s i c).length ≤ 20 + c.length := by
  have h1 := (pvL_len 9 s).2; have h2 := (pvL_len 9 i).2
  simp [upP]; omega
def wT (s k i : Int) (c : ByteArray) : List UInt8 := if wE s k i c.size = 0 then frL k.toNat (upP s.toNat i.toNat c.data.toList) else []
theorem fit8 (k : Int) (n : Nat) (hk : k = 1 ∨ k = 2) : fitB k n (wrap64 (8 * n)) = true ↔ (k = 1 ∧ 8 ≤ n ∧ n ≤ 128 ∧ n % 8 = 0) ∨ (k = 2 ∧ n = 0) := by
  unfold fitB
  rcases hk with rfl | rfl
  · simp only [show ¬ ((1 : Int) = 2) by decide, if_false, beq_iff_eq, chk_ok, isW, false_and, or_false, true_and, Bool.and_eq_true, decide_eq_true_eq]
    have : wrap64 (8 * (n : Int)) = (8 * (n : Int) + 9223372036854775808) % 18446744073709551616 - 9223372036854775808 := by unfold wrap64; rfl
    constructor <;> intro h <;> omega
  · simp
/-- An update lies in a block of its own. -/
structure UAt (w : World) (g : Nat) (s k i : Int) (c : ByteArray) : Prop where
  c0 : w.cell? ⟨g, 0, none⟩ = some (.int .i64 s)
  c1 : w.cell? ⟨g, 1, none⟩ = some (.int .i64 k)
  c2 : w.cell? ⟨g, 2, none⟩ = some (.int .i64 i)
  c3 : w.cell? ⟨g, 3, none⟩ = some (.string c)
theorem UAt.new (w : World) (s k i : Int) (c : ByteArray) : UAt (w.alloc (.cells (uC s k i c) 30)) w.heap.size s k i c := by
  have h : ∀ j u, (uC s k i c)[j]? = some u → (w.alloc (.cells (uC s k i c) 30)).cell? ⟨w.heap.size, j, none⟩ = some u := fun j u hu => by
    rw [cell_of_row _ _ j _ 30 (0, 0) (heap_alloc_last w _)]
    exact hu
  exact ⟨h 0 _ rfl, h 1 _ rfl, h 2 _ rfl, h 3 _ rfl⟩
theorem UAt.below {w w' : World} {g B : Nat} {s k i : Int} {c : ByteArray} (h : UAt w g s k i c) (b : Below B w w') (hg : g < B) : UAt w' g s k i c :=
  ⟨(b.cell (p := ⟨g, 0, none⟩) hg).trans h.c0, (b.cell (p := ⟨g, 1, none⟩) hg).trans h.c1, (b.cell (p := ⟨g, 2, none⟩) hg).trans h.c2, (b.cell (p := ⟨g, 3, none⟩) hg).trans h.c3⟩
theorem wE0 {s k i : Int} {n : Nat} (h1 : 1 ≤ s ∧ s ≤ 1152921504606846976) (h2 : k = 1 ∨ k = 2) (h3 : 0 ≤ i ∧ i ≤ 281474976710656) (h4 : fitB k n (wrap64 (8 * n)) = true) : wE s k i n = 0 := by
  unfold wE; rw [if_pos h1, if_pos h2, if_pos h3, if_pos ((fit8 k n h2).1 h4)]
theorem wE11 {s k i : Int} {n : Nat} (h1 : 1 ≤ s ∧ s ≤ 1152921504606846976) (h2 : k = 1 ∨ k = 2) (h3 : 0 ≤ i ∧ i ≤ 281474976710656) (h4 : fitB k n (wrap64 (8 * n)) = false) : wE s k i n = 11 := by
  unfold wE; rw [if_pos h1, if_pos h2, if_pos h3, if_neg (fun h => by rw [(fit8 k n h2).2 h] at h4; cases h4)]
theorem wT_no {s k i : Int} {c : ByteArray} {x : Int} (h : wE s k i c.size = x) (hx : x ≠ 0) : wT s k i c = [] := by unfold wT; rw [h, if_neg hx]
set_option maxHeartbeats 4000000 in
set_option maxRecDepth 100000 in
theorem write_no (s k i : Int) (c : ByteArray) (w : World) (hE : wE s k i c.size ≠ 0) :
    Calls Tryz.prog 9 #[.agg (uC s k i c)] w fun e w' => e = .returned (.tuple #[.string ⟨#[]⟩, .int .i64 (wE s k i c.size)]) ∧ Below w.heap.size w w' := by
  by_cases h1 : 1 ≤ s ∧ s ≤ 1152921504606846976
  · have h1' : decide (1 ≤ s ∧ s ≤ 1152921504606846976) = true := decide_eq_true h1
    by_cases h2 : k = 1 ∨ k = 2
    · have h2' : decide (k = 1 ∨ k = 2) = true := decide_eq_true h2
      by_cases h3 : 0 ≤ i ∧ i ≤ 281474976710656
      · have h3' : decide (0 ≤ i ∧ i ≤ 281474976710656) = true := decide_eq_true h3
        cases h4 : fitB k c.size (wrap64 (8 * c.size))
        · rw [wE11 h1 h2 h3 h4]
          clear hE
          have H4 : Hid _ := h4
          clear h4 h1 h2 h3
          go_enter Tryz.func9, Tryz.ntmps9
          go_wp2_with first
            | (go_at_call 25; refine (isSeq_any _ _).mono ?_; rintro e w' ⟨rfl, rfl⟩; rw [h1'])
            | (go_at_call 26; refine (isKind_any _ _).mono ?_; rintro e w' ⟨rfl, rfl⟩; rw [h2'])
            | (go_at_call 27; refine (isID_any _ _).mono ?_; rintro e w' ⟨rfl, rfl⟩; rw [h3'])
            | (go_at_call 28; refine (fits_any _ _ _ _ _ _).mono ?_; rintro e w' ⟨rfl, b1⟩; rw [H4.out])
          go_ret2
          exact ⟨rfl, ((Below.refl _ w).alloc (Nat.le_refl _) _).trans (b1.mono (by simp))⟩
        · exact absurd (wE0 h1 h2 h3 h4) hE
      · have h3' : decide (0 ≤ i ∧ i ≤ 281474976710656) = false := decide_eq_false h3
        have e1 : wE s k i c.size = 60 := by unfold wE; rw [if_pos h1, if_pos h2, if_neg h3]
        rw [e1]
        clear e1 hE h1 h2 h3
        go_enter Tryz.func9, Tryz.ntmps9
        go_wp2_with first
          | (go_at_call 25; refine (isSeq_any _ _).mono ?_; rintro e w' ⟨rfl, rfl⟩; rw [h1'])
          | (go_at_call 26; refine (isKind_any _ _).mono ?_; rintro e w' ⟨rfl, rfl⟩; rw [h2'])
          | (go_at_call 27; refine (isID_any _ _).mono ?_; rintro e w' ⟨rfl, rfl⟩; rw [h3'])
        go_ret2
        exact ⟨rfl, (Below.refl _ w).alloc (Nat.le_refl _) _⟩
    · have h2' : decide (k = 1 ∨ k = 2) = false := decide_eq_false h2
      have e1 : wE s k i c.size = 35 := by unfold wE; rw [if_pos h1, if_neg h2]
      rw [e1]
      clear e1 hE h1 h2
      go_enter Tryz.func9, Tryz.ntmps9
      go_wp2_with first
        | (go_at_call 25; refine (isSeq_any _ _).mono ?_; rintro e w' ⟨rfl, rfl⟩; rw [h1'])
        | (go_at_call 26; refine (isKind_any _ _).mono ?_; rintro e w' ⟨rfl, rfl⟩; rw [h2'])
      go_ret2
      exact ⟨rfl, (Below.refl _ w).alloc (Nat.le_refl _) _⟩
  · have e1 : wE s k i c.size = 51 := by unfold wE; rw [if_neg h1]
    rw [e1]
    have h1' : decide (1 ≤ s ∧ s ≤ 1152921504606846976) = false := decide_eq_false h1
    clear hE e1 h1
    go_enter Tryz.func9, Tryz.ntmps9
    go_wp2_with (go_at_call 25; refine (isSeq_any _ _).mono ?_; rintro e w' ⟨rfl, rfl⟩; rw [h1'])
    go_ret2
    exact ⟨rfl, (Below.refl _ w).alloc (Nat.le_refl _) _⟩
theorem putvar_x (v : Nat) (w : World) (hv : v < 18446744073709551616) :
    Calls Tryz.prog 14 #[.int .u64 v] w fun e w' => ∃ X : ByteArray, e = .returned (.string X) ∧ X.size ≤ 10 ∧ Hid (X.data.toList = pvL 9 v) ∧ Below w.heap.size w w' :=
  (putvar_any v w hv).mono fun e w' h => ⟨_, h.1, by have := (pvL_len 9 v).2; show (pvL 9 v).toArray.size ≤ 10; simpa using this, rfl, h.2⟩
theorem below_d {w w' : World} (b : Below w.drew.heap.size w.drew w') : Below w.heap.size w w' := ⟨b.os, b.tape, b.output, b.size, b.block⟩
theorem cell_lat {W W' : World} {p : Addr} {v : Value} (hb : Below W.heap.size W W') (h : W.cell? p = some v) : W'.cell? p = some v := (hb.cell (World.block_lt_of_cell? W p h)).trans h
theorem b_drew (W : World) : Below W.heap.size W W.drew := (Below.refl _ W).drew
theorem Tab.lat {w w' : World} (h : Tab w) (hb : Below w.heap.size w w') : Tab w' := fun i hi => cell_lat hb (h i hi)
theorem Tab.pos {w : World} (h : Tab w) : 0 < w.heap.size := World.block_lt_of_cell? w ⟨0, 0, none⟩ (h 0 (by omega))
theorem wr_fin (s k i : Nat) (c : ByteArray) (w : World) {X Y : ByteArray} {w' : World} (hX : Hid (X.data.toList = pvL 9 s)) (hY : Hid (Y.data.toList = pvL 9 i)) (hb : Below w.heap.size w w') : Ending.returned (Value.tuple #[.string ⟨(frL k (X.data.toList ++ (Y.data.toList ++ c.data.toList))).toArray⟩, .int .i64 0]) = .returned (.tuple #[.string ⟨(frL k (upP s i c.data.toList)).toArray⟩, .int .i64 0]) ∧ Below w.heap.size w w' := by
  rw [hX.out, hY.out]; exact ⟨by simp [upP], hb⟩
set_option maxHeartbeats 4000000 in
set_option maxRecDepth 100000 in
theorem write_ok' (s k i : Nat) (c : ByteArray) (w : World) (ht : Tab w) (h1 : 1 ≤ s ∧ s ≤ 1152921504606846976) (h2 : k = 1 ∨ k = 2) (h3 : i ≤ 281474976710656) (h4 : fitB k c.size (8 * c.size) = true) (hc : c.size ≤ 128) :
    Calls Tryz.prog 9 #[.agg (uC s k i c)] w fun e w' => e = .returned (.tuple #[.string ⟨(frL k (upP s i c.data.toList)).toArray⟩, .int .i64 0]) ∧ Below w.heap.size w w' := by
  have h1' : decide (1 ≤ (s : Int) ∧ (s : Int) ≤ 1152921504606846976) = true := decide_eq_true (by omega)
  have h2' : decide ((k : Int) = 1 ∨ (k : Int) = 2) = true := decide_eq_true (by omega)
  have h3' : decide (0 ≤ (i : Int) ∧ (i : Int) ≤ 281474976710656) = true := decide_eq_true (by omega)
  have H4 : Hid _ := h4
  have U0 := UAt.new w s k i c
  have ba : Below w.heap.size w (w.alloc (.cells (uC s k i c) 30)) := (Below.refl _ w).alloc (Nat.le_refl _) _
  have hws : IntKind.u64.wrap (s : Int) = s := by rw [IntKind.wrap_u64]; omega
  have hwi : IntKind.u64.wrap (i : Int) = i := by rw [IntKind.wrap_u64]; omega
  clear h4
  go_enter Tryz.func9, Tryz.ntmps9
  go_wp2_with first
    | (go_at_call 25; refine (isSeq_any _ _).mono ?_; rintro e w' ⟨rfl, rfl⟩; rw [h1'])
    | (go_at_call 26; refine (isKind_any _ _).mono ?_; rintro e w' ⟨rfl, rfl⟩; rw [h2'])
    | (go_at_call 27; refine (isID_any _ _).mono ?_; rintro e w' ⟨rfl, rfl⟩; rw [h3'])
    | (go_at_call 28; refine (fits_any _ _ _ _ _ _).mono ?_; rintro e w1 ⟨rfl, b1⟩; rw [H4.out]; have bW := chain ba b1 (Nat.le_refl _); obtain ⟨q0, q1, q2, q3⟩ := U0.below b1 (by simp); clear U0 ba b1)
  have t1 := ht.lat bW
  clear ht H4 h1' h2' h3'
  go_region_held (fun w' => Below w1.heap.size w1 w' ∧ w'.cell? ⟨w.heap.size, 0, none⟩ = some (.int .i64 s) ∧ w'.cell? ⟨w.heap.size, 1, none⟩ = some (.int .i64 k) ∧ w'.cell? ⟨w.heap.size, 2, none⟩ = some (.int .i64 i) ∧ w'.cell? ⟨w.heap.size, 3, none⟩ = some (.string c))
    ((refine (fun hb => ⟨hb, cell_lat hb q0, cell_lat hb q1, cell_lat hb q2, cell_lat hb q3⟩) ?_; first | exact bb | exact b_drew w1))
    (first
      | (go_at_call 14; refine (putvar_x _ _ (by omega)).mono ?_; rintro e w2 ⟨X, rfl, hX, HX, b2⟩; have bb : Below w1.heap.size w1 w2 := (by first | exact chain bb b2 (Nat.le_refl _) | exact below_d b2))
      | (go_at_call 15; refine (frame_ok k _ _ (t1.lat bb) (t1.lat bb).pos (by omega) (by omega) (by simp only [ByteArray.size_append]; omega)).mono ?_; rintro e w3 ⟨rfl, b3⟩; have bb := chain bb b3 (Nat.le_refl _)))
  all_goals
    go_wp2
    go_ret2
    exact wr_fin s k i c w ‹_› ‹_› (chain bW bb (Nat.le_refl _))
theorem fit_le {k : Int} {n : Nat} (h2 : k = 1 ∨ k = 2) (h4 : fitB k n (wrap64 (8 * n)) = true) : n ≤ 128 ∧ fitB k n (8 * n) = true := by
  have h := (fit8 k n h2).1 h4
  have hn : n ≤ 128 := by omega
  have e : wrap64 (8 * (n : Int)) = 8 * n := by unfold wrap64; omega
  rw [e] at h4
  exact ⟨hn, h4⟩
theorem wE_zero {s k i : Int} {n : Nat} (hE : wE s k i n = 0) : (1 ≤ s ∧ s ≤ 1152921504606846976) ∧ (k = 1 ∨ k = 2) ∧ (0 ≤ i ∧ i ≤ 281474976710656) ∧ ((k = 1 ∧ 8 ≤ n ∧ n ≤ 128 ∧ n % 8 = 0) ∨ (k = 2 ∧ n = 0)) := by
  unfold wE at hE
  split at hE
  · split at hE
    · split at hE
      · split at hE
        · exact ⟨‹_›, ‹_›, ‹_›, ‹_›⟩
        · simp at hE
      · simp at hE
    · simp at hE
  · simp at hE
theorem write_any (s k i : Int) (c : ByteArray) (w : World) (ht : Tab w) :
    Calls Tryz.prog 9 #[.agg (uC s k i c)] w fun e w' => e = .returned (.tuple #[.string ⟨(wT s k i c).toArray⟩, .int .i64 (wE s k i c.size)]) ∧ Below w.heap.size w w' := by
  by_cases hE : wE s k i c.size = 0
  · obtain ⟨h1, h2, h3, h4⟩ := wE_zero hE
    obtain ⟨h5, h6⟩ := fit_le h2 ((fit8 k c.size h2).2 h4)
    have eT : wT s k i c = frL k.toNat (upP s.toNat i.toNat c.data.toList) := by unfold wT; rw [if_pos hE]
    rw [hE, eT]
    clear hE eT
    obtain ⟨S, rfl⟩ : ∃ S : Nat, s = S := ⟨s.toNat, by omega⟩
    obtain ⟨K, rfl⟩ : ∃ K : Nat, k = K := ⟨k.toNat, by omega⟩
    obtain ⟨I, rfl⟩ : ∃ I : Nat, i = I := ⟨i.toNat, by omega⟩
    exact write_ok' S K I c w ht (by omega) (by omega) (by omega) h6 h5
  · have eT : wT s k i c = [] := by unfold wT; rw [if_neg hE]
    rw [eT]
    exact write_no s k i c w hE
end Go.Proofs.YtfijjlkhgelmoaaGreatDoor
