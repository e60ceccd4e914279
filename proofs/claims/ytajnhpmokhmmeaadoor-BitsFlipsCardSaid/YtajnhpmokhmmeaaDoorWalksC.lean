/-
  DERIVED. Contracts: Xor.
-/
import Derived.Test.YtajnhpmokhmmeaaDoorWalksB
import Derived.Laws.IdiomStrings
namespace Go.Proofs.YtajnhpmokhmmeaaDoor
open Go.RowKit Go.Proofs.BitMath
theorem Tryd.info5 : (Tryd.prog.info? 5).map (fun i => (i.zero, i.size, i.bytes)) = some (some (.int .u8 0), 1, 1) := by kernel_rfl
/-- A byte as a cell. -/
def BV (c : UInt8) : Value := .int .u8 c.toNat
theorem set_take (l : List UInt8) (k : Nat) (x : UInt8) (h : k < l.length) : (l.set k x).take (k + 1) = l.take k ++ [x] := by
  rw [List.take_succ_eq_append_getElem (by simpa using h), List.take_set_of_le (Nat.le_refl k)]; simp
theorem made_bytes (n : Nat) : (madeCells (Value.int .u8 0).cells (n * 1)).toList = (List.replicate n (0 : UInt8)).map BV := by
  rw [Nat.mul_one]; show (madeCells #[Value.int .u8 0] n).toList = _; rw [toList_madeCells_one, List.map_replicate]; rfl
theorem conv_row {w : World} {B g : Nat} {cap : Nat} (l : List UInt8) (h : w.ownsRow B 5 1 (.slice (some ⟨g, 0, none⟩) l.length cap) l.length (l.map BV)) :
    (convert 41 9 (.slice (some ⟨g, 0, none⟩) l.length cap)).run Tryd.prog w = .ok (.string ⟨l.toArray⟩) w :=
  run_convert_bytes_back w 41 9 5 ⟨g, 0, none⟩ cap l Tryd.underlying41 Tryd.underlying5 Tryd.underlying9 (fun j hj => by
    have := h.cellAt j (by omega)
    have e : (⟨g, 0, none⟩ : Addr).add j = ⟨g, j, none⟩ := by unfold Addr.add; split <;> simp_all
    rw [e, this, List.getElem?_map, List.getElem?_eq_getElem hj]; rfl)
set_option maxHeartbeats 400000 in
theorem xor_no (a b : ByteArray) (w : World) (h : a.size ≠ b.size) :
    Calls Tryd.prog 8 #[.string a, .string b] w fun e w' => e = .returned (.tuple #[.string ⟨#[]⟩, .int .i64 11]) ∧ Below w.heap.size w w' := by
  have hne : ((a.size : Int) != (b.size : Int)) = true := by rw [bne_iff_ne]; omega
  go_enter Tryd.func8, Tryd.ntmps8
  go_wp2
  go_ret2
  exact ⟨rfl, Below.refl _ _⟩
set_option maxHeartbeats 400000 in
theorem xor_yes (a b : ByteArray) (w : World) (hs : a.size ≤ 140737488351232) (h : a.size = b.size) :
    Calls Tryd.prog 8 #[.string a, .string b] w fun e w' => e = .returned (.tuple #[.string ⟨(xorL a.data.toList b.data.toList).toArray⟩, .int .i64 0]) ∧ Below w.heap.size w w' := by
  have hne : ((a.size : Int) != (b.size : Int)) = false := by rw [bne_eq_false_iff_eq]; omega
  have hle : a.size ≤ b.size := by omega
  have Hx : Hid ((xorL a.data.toList b.data.toList).length = a.size) := xorL_length _ _ (by simpa using h)
  obtain ⟨i0, hi, hz0, hz1, hz2⟩ := info_parts Tryd.info5
  clear h
  go_enter Tryd.func8, Tryd.ntmps8
  go_wp2_with (at_make; refine wpList_make_full _ rfl _ _ 41 rfl w.heap.size 5 i0 (.int .u8 0) 1 Tryd.underlying41 hi hz0 hz1 _ _ _ _ a.size rfl rfl rfl rfl (by rw [hz2]; omega) (by unfold maxLen; omega) (Nat.le_refl _) ?_; intro w1 hown hgr)
  have hown1 := made_bytes a.size ▸ hown
  clear hown
  have hb1 : Below w.heap.size w w1 := (Below.refl _ _).grown hgr (Nat.le_refl _) (fun k h => by cases h)
  clear hgr
  go_loopw [18] (fun i wr => ∃ (k : Nat) (l : List UInt8), k ≤ a.size ∧ i = .int .i64 k ∧ l.length = a.size ∧ l.take k = (xorL a.data.toList b.data.toList).take k ∧ wr.ownsRow w.heap.size 5 1 (.slice (some ⟨w.heap.size, 0, none⟩) a.size a.size) a.size (l.map BV) ∧ Below w.heap.size w wr) (fun i _ => a.size - (intOf i).toNat)
  case atStart => exact ⟨0, List.replicate a.size 0, Nat.zero_le _, rfl, by simp, rfl, hown1, hb1⟩
  case round =>
    obtain ⟨k, l, hk, rfl, hl, hlt, hown, hb⟩ := hrel
    have Hl : Hid (l.length = a.size) := hl
    have HT : Hid (l.take k = (xorL a.data.toList b.data.toList).take k) := hlt
    clear hl hlt hown1 hb1
    by_cases hlt : k < a.size
    · have hltb : k < b.size := by omega
      have hx := u8_xor_nat a[k].toNat b[k].toNat a[k].toNat_lt b[k].toNat_lt
      have hc : wr.cell? ⟨w.heap.size, k, none⟩ = some (BV (l[k]'(by rw [Hl.out]; exact hlt))) := by
        rw [hown.cellAt k (by omega), List.getElem?_map, List.getElem?_eq_getElem (by rw [Hl.out]; exact hlt)]; rfl
      have hf := hown.frozenAt k
      have hk1 : (k : Int) < (a.size : Int) := by omega
      have hk2 : (k : Int) < (b.size : Int) := by omega
      have hst := hown.stored k (.int .u8 (a[k].toNat ^^^ b[k].toNat : Nat))
      have HST : Hid _ := hst
      clear hst hown
      go_wp2
      go_region
      go_wp2
      refine ⟨⟨k + 1, l.set k (a[k] ^^^ b[k]), hlt, by go_num, by simpa using Hl.out, ?_, ?_, (hb.grown HST.out.2 (by have := hb.size; omega) (fun j h => by cases h; exact Nat.le_refl _)).drew⟩, by simp [intOf]; omega⟩
      · rw [set_take l k _ (by rw [Hl.out]; exact hlt), HT.out, List.take_succ_eq_append_getElem (by rw [Hx.out]; exact hlt), xorL_get _ _ _ _ (by simpa using hlt) (by simpa using hltb)]; rfl
      · have h1 := HST.out.1.drew
        rw [List.map_set]; exact h1
    · have e : k = a.size := by omega
      have hcv := conv_row (w := wr) (g := w.heap.size) (cap := a.size) l (by rw [Hl.out]; exact hown)
      rw [Hl.out] at hcv
      go_wp2
      go_ret2
      refine ⟨ret2 ?_ rfl, hb⟩
      have h1 := HT.out
      rw [e, List.take_of_length_le (by rw [Hl.out]; exact Nat.le_refl _), List.take_of_length_le (by rw [Hx.out]; exact Nat.le_refl _)] at h1
      rw [← h1]; rfl
end Go.Proofs.YtajnhpmokhmmeaaDoor
