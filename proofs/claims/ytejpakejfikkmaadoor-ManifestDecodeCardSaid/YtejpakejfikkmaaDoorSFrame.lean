/-
  DERIVED. A frame: lowestFirst, Frame; the document's own.
-/
import Derived.Test.YtejpakejfikkmaaDoorSOn
import Derived.Test.YtejpakejfikkmaaDoorSFixB
import Derived.OwnWalk
namespace Go.Proofs.YtejpakejfikkmaaDoor
open Go.RowKit Go.Proofs.SealMath
/-- A sum in four bytes, the lowest first. -/
def lowL (s : Nat) : List UInt8 := [UInt8.ofNat s, UInt8.ofNat (s / 256), UInt8.ofNat (s / 65536), UInt8.ofNat (s / 16777216)]
theorem u8n (x : Nat) : (UInt8.ofNat x).toNat = x % 256 := by rw [UInt8.toNat_ofNat']
/-- A literal of bytes, as a text. -/
theorem conv_lit (w : World) (l : List UInt8) (n cap : Nat) (cs : Array Value) (hn : l.length = n) (h : cs = (l.map BV).toArray) :
    (convert 72 9 (.slice (some ⟨w.heap.size, 0, none⟩) n cap)).run Tryd.prog (w.alloc (.cells cs 5)) = .ok (.string ⟨l.toArray⟩) (w.alloc (.cells cs 5)) := by
  subst h hn
  have hh := heap_alloc_last w (.cells (l.map BV).toArray 5)
  exact run_convert_bytes_back _ 72 9 5 ⟨w.heap.size, 0, none⟩ cap l Tryd.underlying72 Tryd.underlying5 Tryd.underlying9 (fun j hj => by
    have ea : (⟨w.heap.size, 0, none⟩ : Addr).add j = ⟨w.heap.size, j, none⟩ := by unfold Addr.add; split <;> simp_all
    rw [ea, cell_of_row _ _ j _ 5 (0, 0) hh]
    simp [hj, BV])
theorem lowL_cells (s : Nat) (hs : s < 4294967296) : #[Value.int IntKind.u8 ((s : Int) % 256), Value.int IntKind.u8 ((s : Int) / 256 % 256), Value.int IntKind.u8 ((s : Int) / 65536 % 256), Value.int IntKind.u8 ((s : Int) / 16777216)] = ((lowL s).map BV).toArray := by
  have e : (s : Int) / 16777216 = ((s / 16777216 % 256 : Nat) : Int) := by omega
  simp only [lowL, List.map_cons, List.map_nil, BV, u8n]
  rw [e]; simp
set_option maxRecDepth 100000 in
set_option maxHeartbeats 1000000 in
theorem low_any (s : Nat) (w : World) (hs : s < 4294967296) :
    Calls Tryd.prog 48 #[.int .u32 s] w fun e w' => e = .returned (.string ⟨(lowL s).toArray⟩) ∧ Below w.heap.size w w' := by
  have hcv := conv_lit w (lowL s) 4 4 _ rfl (lowL_cells s hs)
  go_enter Tryd.func48, Tryd.ntmps48
  go_wp2
  go_ret
  exact ⟨rfl, (Below.refl _ _).alloc (Nat.le_refl _) _⟩
set_option maxRecDepth 100000 in
set_option maxHeartbeats 1000000 in
theorem rlow_any (s : Nat) (w : World) (hs : s < 4294967296) :
    Calls Tryd.prog 44 #[.int .u32 s] w fun e w' => e = .returned (.string ⟨(lowL s).toArray⟩) ∧ Below w.heap.size w w' := by
  have hcv := conv_lit w (lowL s) 4 4 _ rfl (lowL_cells s hs)
  go_enter Tryd.func44, Tryd.ntmps44
  go_wp2
  go_ret
  exact ⟨rfl, (Below.refl _ _).alloc (Nat.le_refl _) _⟩
/-- The six bytes; the frame. -/
def hdL (k n : Nat) : List UInt8 := 167 :: UInt8.ofNat k :: fixL n 4
theorem hdL_len (k n : Nat) : (hdL k n).length = 6 := by simp [hdL, fixL_len]
def frL (k : Nat) (p : List UInt8) : List UInt8 := hdL k p.length ++ lowL (crc 0 (hdL k p.length)) ++ p ++ lowL (crc 0 (hdL k p.length ++ p))
theorem frL_len (k : Nat) (p : List UInt8) : (frL k p).length = p.length + 14 := by simp [frL, hdL_len, lowL]; omega
theorem ba_ext {X Y : ByteArray} (h : X.data.toList = Y.data.toList) : X = Y := ByteArray.ext (Array.toList_inj.1 h)
theorem fr_bytes (H L p M : ByteArray) (k s t : Nat) (hH : H.data.toList = hdL k p.data.toList.length) (hs : s = crc 0 H.data.toList) (hL : L = ⟨(lowL s).toArray⟩) (ht : t = crc s p.data.toList) (hM : M = ⟨(lowL t).toArray⟩) :
    H ++ L ++ p ++ M = ⟨(frL k p.data.toList).toArray⟩ := by
  apply ba_ext
  rw [hL, hM, ht, hs, hH, ← crc_append]
  simp only [ByteArray.data_append, Array.toList_append, hH]
  rfl
/-- What Frame answers. -/
def frE (k : Int) (p : ByteArray) : Int := if 1 ≤ k ∧ k ≤ 255 then if p.size ≤ 65536 then 0 else 36 else 35
def frT (k : Int) (p : ByteArray) : List UInt8 := if 1 ≤ k ∧ k ≤ 255 then if p.size ≤ 65536 then frL k.toNat p.data.toList else [] else []
end Go.Proofs.YtejpakejfikkmaaDoor
