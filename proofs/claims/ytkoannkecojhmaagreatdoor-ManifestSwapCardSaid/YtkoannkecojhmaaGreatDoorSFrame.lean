/-
  DERIVED. A frame: lowestFirst, Frame; the document's own.
-/
import Derived.Test.YtkoannkecojhmaaGreatDoorSOn
import Derived.Test.YtkoannkecojhmaaGreatDoorSFixB
import Derived.OwnWalk
namespace Go.Proofs.YtkoannkecojhmaaGreatDoor
open Go.RowKit Go.Proofs.SealMath
/-- A sum in four bytes, the lowest first. -/
def lowL (s : Nat) : List UInt8 := [UInt8.ofNat s, UInt8.ofNat (s / 256), UInt8.ofNat (s / 65536), UInt8.ofNat (s / 16777216)]
theorem u8n (x : Nat) : (UInt8.ofNat x).toNat = x % 256 := by rw [UInt8.toNat_ofNat']
/-- A literal of bytes, as a text. -/
theorem conv_lit (w : World) (l : List UInt8) (n cap : Nat) (cs : Array Value) (hn : l.length = n) (h : cs = (l.map BV).toArray) :
    (convert 57 9 (.slice (some ⟨w.heap.size, 0, none⟩) n cap)).run Tryz.prog (w.alloc (.cells cs 5)) = .ok (.string ⟨l.toArray⟩) (w.alloc (.cells cs 5)) := by
  subst h hn
  have hh := heap_alloc_last w (.cells (l.map BV).toArray 5)
  exact run_convert_bytes_back _ 57 9 5 ⟨w.heap.size, 0, none⟩ cap l Tryz.underlying57 Tryz.underlying5 Tryz.underlying9 (fun j hj => by
    have ea : (⟨w.heap.size, 0, none⟩ : Addr).add j = ⟨w.heap.size, j, none⟩ := by unfold Addr.add; split <;> simp_all
    rw [ea, cell_of_row _ _ j _ 5 (0, 0) hh]
    simp [hj, BV])
theorem lowL_cells (s : Nat) (hs : s < 4294967296) : #[Value.int IntKind.u8 ((s : Int) % 256), Value.int IntKind.u8 ((s : Int) / 256 % 256), Value.int IntKind.u8 ((s : Int) / 65536 % 256), Value.int IntKind.u8 ((s : Int) / 16777216)] = ((lowL s).map BV).toArray := by
  have e : (s : Int) / 16777216 = ((s / 16777216 % 256 : Nat) : Int) := by omega
  simp only [lowL, List.map_cons, List.map_nil, BV, u8n]
  rw [e]; simp
set_option maxRecDepth 100000 in
set_option maxHeartbeats 1000000 in
theorem low_any (s : Nat) (w : World) (hs : s < 4294967296) :
    Calls Tryz.prog 66 #[.int .u32 s] w fun e w' => e = .returned (.string ⟨(lowL s).toArray⟩) ∧ Below w.heap.size w w' := by
  have hcv := conv_lit w (lowL s) 4 4 _ rfl (lowL_cells s hs)
  go_enter Tryz.func66, Tryz.ntmps66
  go_wp2
  go_ret
  exact ⟨rfl, (Below.refl _ _).alloc (Nat.le_refl _) _⟩
/-- The six bytes; the frame. -/
def hdL (k n : Nat) : List UInt8 := 167 :: UInt8.ofNat k :: fixL n 4
theorem hdL_len (k n : Nat) : (hdL k n).length = 6 := by simp [hdL, fixL_len]
def frL (k : Nat) (p : List UInt8) : List UInt8 := hdL k p.length ++ lowL (crc 0 (hdL k p.length)) ++ p ++ lowL (crc 0 (hdL k p.length ++ p))
theorem frL_len (k : Nat) (p : List UInt8) : (frL k p).length = p.length + 14 := by simp [frL, hdL_len, lowL]; omega
theorem ba_ext {X Y : ByteArray} (h : X.data.toList = Y.data.toList) : X = Y := ByteArray.ext (Array.toList_inj.1 h)
theorem fr_bytes (H L p M : ByteArray) (k s t : Nat) (hH : H.data.toList = hdL k p.data.toList.length) (hs : s = crc 0 H.data.toList) (hL : L = ⟨(lowL s).toArray⟩) (ht : t = crc s p.data.toList) (hM : M = ⟨(lowL t).toArray⟩) :
    H ++ L ++ p ++ M = ⟨(frL k p.data.toList).toArray⟩ := by
  apply ba_ext
  rw [hL, hM, ht, hs, hH, ← crc_append]
  simp only [ByteArray.data_append, Array.toList_append, hH]
  rfl
/-- What Frame answers. -/
def frE (k : Int) (p : ByteArray) : Int := if 1 ≤ k ∧ k ≤ 255 then if p.size ≤ 65536 then 0 else 36 else 35
def frT (k : Int) (p : ByteArray) : List UInt8 := if 1 ≤ k ∧ k ≤ 255 then if p.size ≤ 65536 then frL k.toNat p.data.toList else [] else []
set_option maxRecDepth 100000 in
set_option maxHeartbeats 4000000 in
theorem frame_ok (k : Nat) (p : ByteArray) (w : World) (ht : Tab w) (hg : 0 < w.heap.size) (h1 : 1 ≤ k) (h2 : k ≤ 255) (h3 : p.size ≤ 65536) :
    Calls Tryz.prog 24 #[.int .i64 k, .string p] w fun e w' => e = .returned (.tuple #[.string ⟨(frL k p.data.toList).toArray⟩, .int .i64 0]) ∧ Below w.heap.size w w' := by
  go_enter Tryz.func24, Tryz.ntmps24
  go_wp2_with fail
  refine (putfix_ok p.size 4 _ (by omega) (by omega) (by omega) (by omega)).mono ?_
  rintro e w1 ⟨rfl, b1⟩
  have hcv := conv_lit w1 [UInt8.ofNat k] 1 1 _ rfl rfl
  simp only [List.map_cons, List.map_nil, BV, u8n, Nat.mod_eq_of_lt (show k < 256 by omega)] at hcv
  have hfl := fixL_len p.size 4
  have b2 : Below w.heap.size w (w1.alloc (Obj.cells #[Value.int IntKind.u8 k] 5)) := b1.alloc b1.size _
  go_wp2_with fail
  obtain ⟨H, hH⟩ : ∃ H : ByteArray, H = ⟨#[167]⟩ ++ ⟨#[UInt8.ofNat k]⟩ ++ ⟨(fixL p.size 4).toArray⟩ := ⟨_, rfl⟩
  rw [← hH]
  have hHl : H.data.toList = hdL k p.data.toList.length := by
    rw [hH]; simp [ByteArray.data_append, hdL]
  have HH : Hid (H.data.toList = hdL k p.data.toList.length) := hHl
  have hHs : H.size = 6 := by
    have : H.data.toList.length = H.size := Array.length_toList
    rw [← this, hHl, hdL_len]
  clear hH hcv hfl hHl
  generalize (w1.alloc (Obj.cells #[Value.int IntKind.u8 k] 5)) = w2 at *
  refine (sum_any H w2 (ht.below b2 hg) (by omega)).mono ?_
  rintro e w3 ⟨rfl, rfl⟩
  have hsl := crc_lt (s := 0) H.data.toList (by omega)
  obtain ⟨s, hs⟩ : ∃ s, s = crc 0 H.data.toList := ⟨_, rfl⟩
  rw [← hs]
  rw [← hs] at hsl
  have HS : Hid (s = crc 0 H.data.toList) := hs
  clear hs
  go_wp2_with fail
  refine (low_any s w3 hsl).mono ?_
  rintro e w4 ⟨rfl, b4⟩
  obtain ⟨L, hL⟩ : ∃ L : ByteArray, L = ⟨(lowL s).toArray⟩ := ⟨_, rfl⟩
  rw [← hL]
  have HL : Hid (L = ⟨(lowL s).toArray⟩) := hL
  have hLs : L.size = 4 := by rw [hL]; rfl
  clear hL
  have b24 := chain b2 b4 (Nat.le_refl _)
  go_wp2_with fail
  refine (on_any s p w4 (ht.below b24 hg) hsl (by omega)).mono ?_
  rintro e w5 ⟨rfl, rfl⟩
  have htl := crc_lt (s := s) p.data.toList hsl
  obtain ⟨t, hts⟩ : ∃ t, t = crc s p.data.toList := ⟨_, rfl⟩
  rw [← hts]
  rw [← hts] at htl
  have HT : Hid (t = crc s p.data.toList) := hts
  clear hts
  go_wp2_with fail
  refine (low_any t w5 htl).mono ?_
  rintro e w6 ⟨rfl, b6⟩
  obtain ⟨M, hM⟩ : ∃ M : ByteArray, M = ⟨(lowL t).toArray⟩ := ⟨_, rfl⟩
  rw [← hM]
  have HM : Hid (M = ⟨(lowL t).toArray⟩) := hM
  have hMs : M.size = 4 := by rw [hM]; rfl
  clear hM
  go_wp2
  go_ret2
  refine ⟨ret2 (congrArg Value.string ?_) rfl, chain b24 b6 (Nat.le_refl _)⟩
  exact fr_bytes H L p M k s t HH.out HS.out HL.out HT.out HM.out
set_option maxRecDepth 100000 in
set_option maxHeartbeats 1000000 in
theorem frame_any (k : Int) (p : ByteArray) (w : World) (ht : Tab w) (hg : 0 < w.heap.size) :
    Calls Tryz.prog 24 #[.int .i64 k, .string p] w fun e w' => e = .returned (.tuple #[.string ⟨(frT k p).toArray⟩, .int .i64 (frE k p)]) ∧ Below w.heap.size w w' := by
  unfold frT frE
  by_cases h1 : 1 ≤ k
  · by_cases h2 : k ≤ 255
    · have hh : 1 ≤ k ∧ k ≤ 255 := ⟨h1, h2⟩
      rw [if_pos hh, if_pos hh]
      clear hh
      by_cases h3 : p.size ≤ 65536
      · rw [if_pos h3, if_pos h3]
        obtain ⟨a, rfl⟩ : ∃ a : Nat, k = a := ⟨k.toNat, by omega⟩
        exact frame_ok a p w ht hg (by omega) (by omega) h3
      · rw [if_neg h3, if_neg h3]
        go_enter Tryz.func24, Tryz.ntmps24
        go_wp2
        go_ret2
        exact ⟨rfl, Below.refl _ _⟩
    · have hh : ¬ (1 ≤ k ∧ k ≤ 255) := by omega
      rw [if_neg hh, if_neg hh]
      clear hh
      go_enter Tryz.func24, Tryz.ntmps24
      go_wp2
      go_ret2
      exact ⟨rfl, Below.refl _ _⟩
  · have hh : ¬ (1 ≤ k ∧ k ≤ 255) := by omega
    rw [if_neg hh, if_neg hh]
    clear hh
    go_enter Tryz.func24, Tryz.ntmps24
    go_wp2
    go_ret2
    exact ⟨rfl, Below.refl _ _⟩
end Go.Proofs.YtkoannkecojhmaaGreatDoor
