/-
  DERIVED. What reads a frame's fields one by one.
-/
import Derived.Test.YtdegclccbgpgiaaDoorSFrame
namespace Go.Proofs.YtdegclccbgpgiaaDoor
open Go.RowKit Go.Proofs.SealMath
/-- The text and the place that the literal holds. -/
structure Fld (W : World) (b : ByteArray) (a g : Nat) : Prop where
  text : W.cell? ⟨g, 0, none⟩ = some (.string b)
  place : W.cell? ⟨g + 1, 0, none⟩ = some (.int .i64 a)
  free : W.frozen? ⟨g + 1, 0, none⟩ = false
theorem Fld.below {W W' : World} {b : ByteArray} {a g B : Nat} (h : Fld W b a g) (hb : Below B W W') (hg : g + 1 < B) : Fld W' b a g :=
  ⟨(hb.cell (p := ⟨g, 0, none⟩) (by show g < B; omega)).trans h.text, (hb.cell (p := ⟨g + 1, 0, none⟩) hg).trans h.place, (hb.frozen (p := ⟨g + 1, 0, none⟩) hg).trans h.free⟩
theorem Fld.size {W : World} {b : ByteArray} {a g : Nat} (h : Fld W b a g) : g + 1 < W.heap.size := World.block_lt_of_cell? W _ h.place
theorem Fld.set {W : World} {b : ByteArray} {a g : Nat} (h : Fld W b a g) (c : Nat) : Fld (W.setCell ⟨g + 1, 0, none⟩ (.int .i64 c)) b c g :=
  ⟨(World.cell?_setCell_other _ _ _ _ (fun he => by cases he)).trans h.text, World.cell?_setCell_same _ _ _ h.place, (World.frozen?_setCell _ _ _ _).trans h.free⟩
/-- Where the literal stands behind a field of n bytes; what it tells. -/
def nxA (b : ByteArray) (a n : Nat) : Nat := if a + n ≤ b.size then a + n else b.size
def nxT (b : ByteArray) (a n : Nat) : ByteArray := if a + n ≤ b.size then b.extract a (a + n) else ⟨#[]⟩
abbrev lit (g : Nat) : Value := .func (.func 104) #[] #[.pointer (some ⟨g, 0, none⟩), .pointer (some ⟨g + 1, 0, none⟩)]
set_option maxRecDepth 100000 in
set_option maxHeartbeats 1000000 in
theorem next_any (b : ByteArray) (a n g B : Nat) (w : World) (hF : Fld w b a g) (ha : a ≤ b.size) (hb : b.size < 4611686018427387904) (hn : n < 4611686018427387904) (hB : B ≤ g) :
    Calls Tryd.prog 104 #[.int .i64 n, .pointer (some ⟨g, 0, none⟩), .pointer (some ⟨g + 1, 0, none⟩)] w fun e w' => e = .returned (.string (nxT b a n)) ∧ Fld w' b (nxA b a n) g ∧ Below B w w' ∧ w'.heap.size = w.heap.size := by
  have h1 := hF.text
  have h2 := hF.place
  have h3 := hF.free
  unfold nxT nxA
  by_cases h : a + n ≤ b.size
  · rw [if_pos h, if_pos h]
    go_enter Tryd.func104, Tryd.ntmps104
    go_wp2
    go_ret
    exact ⟨rfl, hF.set (a + n), (Below.refl _ w).setCell (p := ⟨g + 1, 0, none⟩) (by show B ≤ g + 1; omega) _, by simp⟩
  · rw [if_neg h, if_neg h]
    go_enter Tryd.func104, Tryd.ntmps104
    go_wp2
    go_ret
    exact ⟨rfl, hF.set b.size, (Below.refl _ w).setCell (p := ⟨g + 1, 0, none⟩) (by show B ≤ g + 1; omega) _, by simp⟩
theorem nxA_le (b : ByteArray) (a n : Nat) : nxA b a n ≤ b.size := by unfold nxA; split <;> omega
theorem nxT_list (b : ByteArray) (a n : Nat) (h : a + n ≤ b.size) : (nxT b a n).data.toList = sub b a n := by
  unfold nxT sub; rw [if_pos h, ByteArray.data_extract, Array.toList_extract, List.extract_eq_take_drop]
  congr 1; omega
theorem ba_size (T : ByteArray) : T.size = T.data.toList.length := Array.length_toList.symm
theorem nxT_size (b : ByteArray) (a n : Nat) (h : a + n ≤ b.size) : (nxT b a n).size = n := by rw [ba_size, nxT_list b a n h, sub_len b a n h]
theorem nxA_yes (b : ByteArray) (a n : Nat) (h : a + n ≤ b.size) : nxA b a n = a + n := by unfold nxA; rw [if_pos h]
theorem nxT_no (b : ByteArray) (a n : Nat) (h : ¬ a + n ≤ b.size) : nxT b a n = ⟨#[]⟩ := by unfold nxT; rw [if_neg h]
theorem told_none (b : ByteArray) (a m n o : Nat) (h : b.size < a + m + n + o) (ho : 0 < o) : nxT b (nxA b (nxA b a m) n) o = ⟨#[]⟩ := by
  apply nxT_no
  unfold nxA
  split <;> split <;> omega
theorem told_none2 (b : ByteArray) (a m o : Nat) (h : b.size < a + m + o) (ho : 0 < o) : nxT b (nxA b a m) o = ⟨#[]⟩ := by
  apply nxT_no
  unfold nxA
  split <;> omega
theorem sub_add (b : ByteArray) (a m n : Nat) : sub b a (m + n) = sub b a m ++ sub b (a + m) n := by
  unfold sub; rw [List.take_add, List.drop_drop]
/-- What head answers. -/
def hdA (b : ByteArray) (a : Nat) : Nat × Nat × Nat × Int :=
  if b.size ≤ a then (0, 0, 0, 31)
  else if sub b a 1 = [167] then
    if b.size < a + 10 then (0, 0, 0, 31)
    else if sub b (a + 6) 4 = lowL (crc 0 (sub b a 6)) then
      if numL (sub b (a + 1) 1) = 0 then (0, 0, 0, 35)
      else if numL (sub b (a + 2) 4) ≤ 65536 then (numL (sub b (a + 1) 1), numL (sub b (a + 2) 4), crc 0 (sub b a 6), 0)
      else (0, 0, 0, 36)
    else (0, 0, 0, 34)
  else (0, 0, 0, 33)
theorem one_ba (T : ByteArray) (c : UInt8) (h : T.data.toList = [c]) : T = ⟨#[c]⟩ := ba_ext (by rw [h])
end Go.Proofs.YtdegclccbgpgiaaDoor
