/-
  DERIVED. The document's own frame; SealFrame's walk.
-/
import Derived.Test.YtdegclccbgpgiaaDoorSFrame
import Derived.Deep.RegionWith
namespace Go.Proofs.YtdegclccbgpgiaaDoor
open Go.RowKit Go.Proofs.SealMath
/-- Two bytes, as a text, whatever was laid behind them. -/
theorem conv_two {W W' : World} {k : Int} (hk : 0 ≤ k ∧ k ≤ 255) {B : Nat} (hB : W.heap.size < B) (hb : Below B (W.alloc (.cells #[.int .u8 167, .int .u8 k] 5)) W') :
    (convert 29 9 (.slice (some ⟨W.heap.size, 0, none⟩) 2 2)).run Tryd.prog W' = .ok (.string ⟨#[167, UInt8.ofNat k.toNat]⟩) W' := by
  have hh := heap_alloc_last W (.cells #[.int .u8 167, .int .u8 k] 5)
  exact run_convert_bytes_back W' 29 9 5 ⟨W.heap.size, 0, none⟩ 2 [167, UInt8.ofNat k.toNat] Tryd.underlying29 Tryd.underlying5 Tryd.underlying9 (fun j hj => by
    have ea : (⟨W.heap.size, 0, none⟩ : Addr).add j = ⟨W.heap.size, j, none⟩ := by unfold Addr.add; split <;> simp_all
    rw [ea, hb.cell (p := ⟨W.heap.size, j, none⟩) hB, cell_of_row _ _ j _ 5 (0, 0) hh]
    have : j = 0 ∨ j = 1 := by simp at hj; omega
    rcases this with rfl | rfl
    · rfl
    · have e : (UInt8.ofNat k.toNat).toNat = k.toNat := by rw [u8n]; omega
      have e2 : ((k.toNat : Nat) : Int) = k := by omega
      simp [e, e2])
theorem hd_bytes (k n : Nat) : (⟨#[167, UInt8.ofNat k]⟩ : ByteArray) ++ ⟨(fixL n 4).toArray⟩ = ⟨(hdL k n).toArray⟩ := by
  apply ba_ext; simp [ByteArray.data_append, hdL]
theorem conv_two_d {W W' : World} {k : Int} (hk : 0 ≤ k ∧ k ≤ 255) (hb : Below (W.alloc (.cells #[.int .u8 167, .int .u8 k] 5)).drew.heap.size (W.alloc (.cells #[.int .u8 167, .int .u8 k] 5)).drew W') :
    (convert 29 9 (.slice (some ⟨W.heap.size, 0, none⟩) 2 2)).run Tryd.prog W' = .ok (.string ⟨#[167, UInt8.ofNat k.toNat]⟩) W' :=
  conv_two hk (B := (W.alloc (.cells #[.int .u8 167, .int .u8 k] 5)).heap.size) (by simp) ((Below.refl _ _).drew.trans hb)
set_option maxRecDepth 100000 in
set_option maxHeartbeats 4000000 in
theorem rhead_ok (k n : Nat) (w : World) (h2 : k ≤ 255) (h3 : n ≤ 65536) :
    Calls Tryd.prog 107 #[.int .i64 k, .int .i64 n] w fun e w' => e = .returned (.string ⟨(hdL k n).toArray⟩) ∧ Below w.heap.size w w' := by
  have hwk : IntKind.u8.wrap (k : Int) = k := by rw [IntKind.wrap_u8]; omega
  have hwn : IntKind.u64.wrap (n : Int) = n := by rw [IntKind.wrap_u64]; omega
  have hk : 0 ≤ (k : Int) ∧ (k : Int) ≤ 255 := by omega
  have hcA : ∀ W : World, (convert 29 9 (.slice (some ⟨W.heap.size, 0, none⟩) 2 2)).run Tryd.prog (W.alloc (.cells #[.int .u8 167, .int .u8 k] 5)).drew = .ok (.string ⟨#[167, UInt8.ofNat k]⟩) (W.alloc (.cells #[.int .u8 167, .int .u8 k] 5)).drew :=
    fun W => conv_two hk (Nat.lt_succ_self _) (Below.refl _ _).drew
  have hcB : ∀ W : World, (convert 29 9 (.slice (some ⟨W.heap.size, 0, none⟩) 2 2)).run Tryd.prog (W.alloc (.cells #[.int .u8 167, .int .u8 k] 5)) = .ok (.string ⟨#[167, UInt8.ofNat k]⟩) (W.alloc (.cells #[.int .u8 167, .int .u8 k] 5)) :=
    fun W => conv_two hk (Nat.lt_succ_self _) (Below.refl _ _)
  have hfl := fixL_len n 4
  go_enter Tryd.func107, Tryd.ntmps107
  go_wp2
  go_region_with (go_at_call 109; refine (fixed_ok n 4 _ (by omega) (by omega) (by omega)).mono ?_; rintro e w1 ⟨rfl, b1⟩; first | (have hcC := conv_two_d hk b1) | skip)
  all_goals
    clear hcA hcB
    go_wp2
    go_ret
    refine ⟨congrArg (fun x => Ending.returned (Value.string x)) (hd_bytes k n), ?_⟩
    first
      | exact chain (((Below.refl _ w).alloc (Nat.le_refl _) _).drew) b1 (Nat.le_refl _)
      | exact (chain ((Below.refl _ w).drew) b1 (Nat.le_refl _)).alloc (chain ((Below.refl _ w).drew) b1 (Nat.le_refl _)).size _
theorem fr_bytes2 (H L p M : ByteArray) (k s t : Nat) (hH : H.data.toList = hdL k p.data.toList.length) (hs : s = crc 0 H.data.toList) (hL : L = ⟨(lowL s).toArray⟩) (ht : t = crc 0 (H ++ p).data.toList) (hM : M = ⟨(lowL t).toArray⟩) :
    H ++ L ++ p ++ M = ⟨(frL k p.data.toList).toArray⟩ := by
  refine fr_bytes H L p M k s t hH hs hL ?_ hM
  rw [ht, hs, ByteArray.data_append, Array.toList_append, crc_append]
set_option maxRecDepth 100000 in
set_option maxHeartbeats 4000000 in
theorem rframe_ok (k : Nat) (p : ByteArray) (w : World) (h1 : 1 ≤ k) (h2 : k ≤ 255) (h3 : p.size ≤ 65536) :
    Calls Tryd.prog 99 #[.int .i64 k, .string p] w fun e w' => e = .returned (.tuple #[.string ⟨(frL k p.data.toList).toArray⟩, .int .i64 0]) ∧ Below w.heap.size w w' := by
  go_enter Tryd.func99, Tryd.ntmps99
  go_wp2_with fail
  refine (rhead_ok k p.size _ h2 h3).mono ?_
  rintro e w2 ⟨rfl, b2⟩
  obtain ⟨H, hH⟩ : ∃ H : ByteArray, H = ⟨(hdL k p.size).toArray⟩ := ⟨_, rfl⟩
  rw [← hH]
  have hHl : H.data.toList = hdL k p.data.toList.length := by
    rw [hH]; rfl
  have HH : Hid (H.data.toList = hdL k p.data.toList.length) := hHl
  have hHs : H.size = 6 := by
    have : H.data.toList.length = H.size := Array.length_toList
    rw [← this, hHl, hdL_len]
  clear hH hHl
  go_wp2_with fail
  refine (rsum_any H w2 (by omega)).mono ?_
  rintro e w3 ⟨rfl, rfl⟩
  have hsl := crc_lt (s := 0) H.data.toList (by omega)
  obtain ⟨s, hs⟩ : ∃ s, s = crc 0 H.data.toList := ⟨_, rfl⟩
  rw [← hs]
  rw [← hs] at hsl
  have HS : Hid (s = crc 0 H.data.toList) := hs
  clear hs
  go_wp2_with fail
  refine (rlow_any s w3 hsl).mono ?_
  rintro e w4 ⟨rfl, b4⟩
  obtain ⟨L, hL⟩ : ∃ L : ByteArray, L = ⟨(lowL s).toArray⟩ := ⟨_, rfl⟩
  rw [← hL]
  have HL : Hid (L = ⟨(lowL s).toArray⟩) := hL
  have hLs : L.size = 4 := by rw [hL]; rfl
  clear hL
  have b24 := chain b2 b4 (Nat.le_refl _)
  go_wp2_with fail
  refine (rsum_any (H ++ p) w4 (by rw [ByteArray.size_append]; omega)).mono ?_
  rintro e w5 ⟨rfl, rfl⟩
  have htl := crc_lt (s := 0) (H ++ p).data.toList (by omega)
  obtain ⟨t, hts⟩ : ∃ t, t = crc 0 (H ++ p).data.toList := ⟨_, rfl⟩
  rw [← hts]
  rw [← hts] at htl
  have HT : Hid (t = crc 0 (H ++ p).data.toList) := hts
  clear hts
  go_wp2_with fail
  refine (rlow_any t w5 htl).mono ?_
  rintro e w6 ⟨rfl, b6⟩
  obtain ⟨M, hM⟩ : ∃ M : ByteArray, M = ⟨(lowL t).toArray⟩ := ⟨_, rfl⟩
  rw [← hM]
  have HM : Hid (M = ⟨(lowL t).toArray⟩) := hM
  have hMs : M.size = 4 := by rw [hM]; rfl
  clear hM
  go_wp2
  go_ret2
  refine ⟨ret2 (congrArg Value.string ?_) rfl, chain b24 b6 (Nat.le_refl _)⟩
  exact fr_bytes2 H L p M k s t HH.out HS.out HL.out HT.out HM.out
set_option maxRecDepth 100000 in
set_option maxHeartbeats 1000000 in
theorem rframe_any (k : Int) (p : ByteArray) (w : World) :
    Calls Tryd.prog 99 #[.int .i64 k, .string p] w fun e w' => e = .returned (.tuple #[.string ⟨(frT k p).toArray⟩, .int .i64 (frE k p)]) ∧ Below w.heap.size w w' := by
  unfold frT frE
  by_cases h1 : 1 ≤ k
  · by_cases h2 : k ≤ 255
    · have hh : 1 ≤ k ∧ k ≤ 255 := ⟨h1, h2⟩
      rw [if_pos hh, if_pos hh]
      clear hh
      by_cases h3 : p.size ≤ 65536
      · rw [if_pos h3, if_pos h3]
        obtain ⟨a, rfl⟩ : ∃ a : Nat, k = a := ⟨k.toNat, by omega⟩
        exact rframe_ok a p w (by omega) (by omega) h3
      · rw [if_neg h3, if_neg h3]
        go_enter Tryd.func99, Tryd.ntmps99
        go_wp2
        go_ret2
        exact ⟨rfl, Below.refl _ _⟩
    · have hh : ¬ (1 ≤ k ∧ k ≤ 255) := by omega
      rw [if_neg hh, if_neg hh]
      clear hh
      go_enter Tryd.func99, Tryd.ntmps99
      go_wp2
      go_ret2
      exact ⟨rfl, Below.refl _ _⟩
  · have hh : ¬ (1 ≤ k ∧ k ≤ 255) := by omega
    rw [if_neg hh, if_neg hh]
    clear hh
    go_enter Tryd.func99, Tryd.ntmps99
    go_wp2
    go_ret2
    exact ⟨rfl, Below.refl _ _⟩
end Go.Proofs.YtdegclccbgpgiaaDoor
