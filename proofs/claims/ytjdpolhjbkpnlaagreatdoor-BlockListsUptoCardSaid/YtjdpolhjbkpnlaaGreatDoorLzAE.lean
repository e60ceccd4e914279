/-
  DERIVED. BBytesE, Shelf, BBuild, Held, BPack0, BPack1, as one text.
-/
import Derived.Test.YtjdpolhjbkpnlaaGreatDoorLzAD
import Derived.Shelf.Strings.Builder1
import Derived.Shelf.Small.Strs
import Derived.Shelf.Small.Wraps
import Derived.Test.YtjdpolhjbkpnlaaGreatDoorProg
import Derived.OrdersHeld
import Derived.OrdersIn
import Derived.OwnWalkIn
set_option linter.unusedVariables false
set_option linter.unusedSimpArgs false
namespace Go.Proofs.YtjdpolhjbkpnlaaGreatDoor
open Go.RowKit Go.Proofs.SealMath
theorem en_fin {e : En} {X Y Z : ByteArray} {n : Nat} {w w' : World} (h1 : Hid (X.data.toList = plB e)) (h2 : Hid (Y.data.toList = pvL 9 n)) (k1 : X.size ≤ 142) (k2 : Y.size ≤ 10) (hz : Z.size = 1 ∧ Z.data.toList = dB e.d) (hn : n = e.s.toNat) (hb : Below w.heap.size w w') :
    ∃ U : ByteArray, Ending.returned (.string (X ++ Y ++ Z)) = .returned (.string U) ∧ U.size ≤ 153 ∧ Hid (U.data.toList = enB e) ∧ Below w.heap.size w w' := by
  subst hn
  exact ⟨_, rfl, by simp only [ByteArray.size_append]; omega, by show _ = _; simp [enB, h1.out, h2.out, hz.2], hb⟩
set_option maxHeartbeats 8000000 in
set_option maxRecDepth 100000 in
theorem entry_xt (v i s : Nat) (c : ByteArray) (w : World) (hv : v < 4294967296) (hi : i < 9223372036854775808) (hs : s < 9223372036854775808) (hc : c.size ≤ 128) :
    Calls Tryz.prog 71 #[.agg #[.int .i64 v, .string c, .int .i64 i, .int .i64 s, .bool true]] w fun e w' => ∃ X : ByteArray, e = .returned (.string X) ∧ X.size ≤ 153 ∧ Hid (X.data.toList = enB ⟨v, c, i, s, true⟩) ∧ Below w.heap.size w w' := by
  have U0 := SAt.new w (enC ⟨v, c, i, s, true⟩) 38
  have ba : Below w.heap.size w (w.alloc (.cells (enC ⟨v, c, i, s, true⟩).toArray 38)) := (Below.refl _ w).alloc (Nat.le_refl _) _
  obtain ⟨w1, hw1⟩ : ∃ w1, w1 = w.alloc (.cells (enC ⟨v, c, i, s, true⟩).toArray 38) := ⟨_, rfl⟩
  go_enter Tryz.func71, Tryz.ntmps71
  go_wp2
  rw [← hw1] at U0 ba
  have e1 := hw1.symm
  simp only [enC] at e1
  rw [e1]
  clear hw1 e1
  have q0 := U0 0 _ rfl
  have q1 := U0 1 _ rfl
  have q2 := U0 2 _ rfl
  have q3 := U0 3 _ rfl
  have q4 := U0 4 _ rfl
  dsimp only at q0 q1 q2 q3 q4
  clear U0
  go_region_held (fun w' => Below w1.heap.size w1 w' ∧ w'.cell? ⟨w.heap.size, 0, none⟩ = some (.int .i64 v) ∧ w'.cell? ⟨w.heap.size, 1, none⟩ = some (.string c) ∧ w'.cell? ⟨w.heap.size, 2, none⟩ = some (.int .i64 i) ∧ w'.cell? ⟨w.heap.size, 3, none⟩ = some (.int .i64 s) ∧ w'.cell? ⟨w.heap.size, 4, none⟩ = some (.bool true))
    ((refine (fun hb => ⟨hb, cell_lat hb q0, cell_lat hb q1, cell_lat hb q2, cell_lat hb q3, cell_lat hb q4⟩) ?_; first | exact bb | exact b_drew w1))
    (first
      | (go_at_call 98; refine (place_x _ _ _ _ _ _ (by omega) (by omega) (by omega)).mono ?_; rintro e w2 ⟨X, rfl, hX, HX, b2⟩; have bb : Below w1.heap.size w1 w2 := (by first | exact chain bb b2 (Nat.le_refl _) | exact below_d b2))
      | (go_at_call 75; refine (number_x _ _ (by omega)).mono ?_; rintro e w2 ⟨Y, rfl, hY, HY, b2⟩; have bb : Below w1.heap.size w1 w2 := (by first | exact chain bb b2 (Nat.le_refl _) | exact below_d b2)))
  all_goals
    go_wp2
    go_ret
    exact en_fin HX HY hX hY ⟨rfl, rfl⟩ rfl (chain ba bb (Nat.le_refl _))
set_option maxHeartbeats 8000000 in
set_option maxRecDepth 100000 in
theorem entry_xf (v i s : Nat) (c : ByteArray) (w : World) (hv : v < 4294967296) (hi : i < 9223372036854775808) (hs : s < 9223372036854775808) (hc : c.size ≤ 128) :
    Calls Tryz.prog 71 #[.agg #[.int .i64 v, .string c, .int .i64 i, .int .i64 s, .bool false]] w fun e w' => ∃ X : ByteArray, e = .returned (.string X) ∧ X.size ≤ 153 ∧ Hid (X.data.toList = enB ⟨v, c, i, s, false⟩) ∧ Below w.heap.size w w' := by
  have U0 := SAt.new w (enC ⟨v, c, i, s, false⟩) 38
  have ba : Below w.heap.size w (w.alloc (.cells (enC ⟨v, c, i, s, false⟩).toArray 38)) := (Below.refl _ w).alloc (Nat.le_refl _) _
  obtain ⟨w1, hw1⟩ : ∃ w1, w1 = w.alloc (.cells (enC ⟨v, c, i, s, false⟩).toArray 38) := ⟨_, rfl⟩
  go_enter Tryz.func71, Tryz.ntmps71
  go_wp2
  rw [← hw1] at U0 ba
  have e1 := hw1.symm
  simp only [enC] at e1
  rw [e1]
  clear hw1 e1
  have q0 := U0 0 _ rfl
  have q1 := U0 1 _ rfl
  have q2 := U0 2 _ rfl
  have q3 := U0 3 _ rfl
  have q4 := U0 4 _ rfl
  dsimp only at q0 q1 q2 q3 q4
  clear U0
  go_region_held (fun w' => Below w1.heap.size w1 w' ∧ w'.cell? ⟨w.heap.size, 0, none⟩ = some (.int .i64 v) ∧ w'.cell? ⟨w.heap.size, 1, none⟩ = some (.string c) ∧ w'.cell? ⟨w.heap.size, 2, none⟩ = some (.int .i64 i) ∧ w'.cell? ⟨w.heap.size, 3, none⟩ = some (.int .i64 s) ∧ w'.cell? ⟨w.heap.size, 4, none⟩ = some (.bool false))
    ((refine (fun hb => ⟨hb, cell_lat hb q0, cell_lat hb q1, cell_lat hb q2, cell_lat hb q3, cell_lat hb q4⟩) ?_; first | exact bb | exact b_drew w1))
    (first
      | (go_at_call 98; refine (place_x _ _ _ _ _ _ (by omega) (by omega) (by omega)).mono ?_; rintro e w2 ⟨X, rfl, hX, HX, b2⟩; have bb : Below w1.heap.size w1 w2 := (by first | exact chain bb b2 (Nat.le_refl _) | exact below_d b2))
      | (go_at_call 75; refine (number_x _ _ (by omega)).mono ?_; rintro e w2 ⟨Y, rfl, hY, HY, b2⟩; have bb : Below w1.heap.size w1 w2 := (by first | exact chain bb b2 (Nat.le_refl _) | exact below_d b2)))
  all_goals
    go_wp2
    go_ret
    exact en_fin HX HY hX hY ⟨rfl, rfl⟩ rfl (chain ba bb (Nat.le_refl _))
theorem entry_x (v i s : Nat) (d : Bool) (c : ByteArray) (w : World) (hv : v < 4294967296) (hi : i < 9223372036854775808) (hs : s < 9223372036854775808) (hc : c.size ≤ 128) :
    Calls Tryz.prog 71 #[.agg #[.int .i64 v, .string c, .int .i64 i, .int .i64 s, .bool d]] w fun e w' => ∃ X : ByteArray, e = .returned (.string X) ∧ X.size ≤ 153 ∧ Hid (X.data.toList = enB ⟨v, c, i, s, d⟩) ∧ Below w.heap.size w w' := by
  cases d
  · exact entry_xf v i s c w hv hi hs hc
  · exact entry_xt v i s c w hv hi hs hc
end Go.Proofs.YtjdpolhjbkpnlaaGreatDoor
namespace Go.Proofs
open Go.Shelf
def Tryz.lays170_ren : Go.Shelf.Ren := ⟨fun | 170 => 72 | n => n, fun | 70 => 119 | 3 => 3 | 0 => 0 | 72 => 121 | 37 => 98 | 5 => 5 | n => n, fun | n => n⟩
theorem Tryz.lays170 : Go.Proofs.Lays.n170 Tryz.prog Tryz.lays170_ren := {
  mixed := by kernel_rfl
  f170 := Tryz.func72.trans (congrArg some (by kernel_rfl))
  t0 := Tryz.underlying0
  a0 := Tryz.isAgg0
  z0 := Tryz.sizeOf0
  v0 := Tryz.zeroValue0
  t3 := Tryz.underlying3
  a3 := Tryz.isAgg3
  z3 := Tryz.sizeOf3
  v3 := Tryz.zeroValue3
  t37 := Tryz.underlying98
  a37 := Tryz.isAgg98
  z37 := Tryz.sizeOf98
  v37 := Tryz.zeroValue98
  t70 := Tryz.underlying119
  a70 := Tryz.isAgg119
  z70 := Tryz.sizeOf119
  v70 := Tryz.zeroValue119
  t72 := Tryz.underlying121
  a72 := Tryz.isAgg121
  z72 := Tryz.sizeOf121
  v72 := Tryz.zeroValue121 }
open Go.RowKit in
/-- (*strings.Builder).Len: "Len returns the number of accumulated bytes; b.Len() == len(b.String()).": the world is as it was. (LAID: no walk: one application.) -/
theorem Tryz.Builder_Len (B b : Nat) (bs : List Value) (w : World) (h : Lib.IsBuilder 121 5 B b bs w) :
    Calls Tryz.prog 72 #[.pointer (some ⟨b, 0, none⟩)] w fun e w' => e = .returned (.int .i64 bs.length) ∧ w' = w := Any.Builder_Len Tryz.lays170 B b bs w h
def Tryz.lays169_ren : Go.Shelf.Ren := ⟨fun | 169 => 77 | n => n, fun | 70 => 119 | 9 => 9 | 0 => 0 | 72 => 121 | 37 => 98 | 127 => 158 | 3 => 3 | 5 => 5 | n => n, fun | n => n⟩
theorem Tryz.lays169 : Go.Proofs.Lays.n169 Tryz.prog Tryz.lays169_ren := {
  mixed := by kernel_rfl
  f169 := Tryz.func77.trans (congrArg some (by kernel_rfl))
  t0 := Tryz.underlying0
  a0 := Tryz.isAgg0
  z0 := Tryz.sizeOf0
  v0 := Tryz.zeroValue0
  t3 := Tryz.underlying3
  a3 := Tryz.isAgg3
  z3 := Tryz.sizeOf3
  v3 := Tryz.zeroValue3
  t9 := Tryz.underlying9
  a9 := Tryz.isAgg9
  z9 := Tryz.sizeOf9
  v9 := Tryz.zeroValue9
  t37 := Tryz.underlying98
  a37 := Tryz.isAgg98
  z37 := Tryz.sizeOf98
  v37 := Tryz.zeroValue98
  t70 := Tryz.underlying119
  a70 := Tryz.isAgg119
  z70 := Tryz.sizeOf119
  v70 := Tryz.zeroValue119
  t72 := Tryz.underlying121
  a72 := Tryz.isAgg121
  z72 := Tryz.sizeOf121
  v72 := Tryz.zeroValue121
  t127 := Tryz.underlying158
  a127 := Tryz.isAgg158
  z127 := Tryz.sizeOf158
  v127 := Tryz.zeroValue158 }
theorem Tryz.Builder_Extra_169 : Builder.Extra Tryz.prog Tryz.lays169_ren := {
  sizeBuilder := by kernel_rfl
  liesBuilder := by kernel_rfl
  t5 := Tryz.underlying5
  a5 := Tryz.isAgg5
  z5 := Tryz.sizeOf5
  v5 := Tryz.zeroValue5
  infoByte := by kernel_rfl
  cellsByte := by kernel_rfl
  sizeByte := by kernel_rfl
  neB5 := by decide }
open Go.RowKit in
/-- (*strings.Builder).String: "String returns the accumulated string.": OF A BUILDER THAT HOLDS AT LEAST ONE BYTE. ✋ THE MODEL FREEZES THOSE BYTES IN THE BUFFER (unsafe.String): a later write INTO them ends the model's run without an answer; a later append BEHIND them goes on. The statement's order of evaluation is drawn: one draw. (LAID: no walk: one application.) -/
theorem Tryz.Builder_String (B b : Nat) (l : List UInt8) (w : World) (h : Lib.IsBuilder 121 5 B b (Lib.byteCells l) w) (h0 : l ≠ []) :
    Calls Tryz.prog 77 #[.pointer (some ⟨b, 0, none⟩)] w fun e w' => e = .returned (.string ⟨l.toArray⟩) ∧ Below B w w' := Any.Builder_String Tryz.lays169 Tryz.Builder_Extra_169 B b l w h h0
open Go.RowKit in
/-- (*strings.Builder).String OF A BUILDER THAT HOLDS NO BYTE: the empty string. (Its buffer is nil, or a row of which it has taken nothing yet; where that row has NO capacity the model lays one new block for unsafe.SliceData's 'some address'.) One draw. (LAID: no walk: one application.) -/
theorem Tryz.Builder_String_empty (B b : Nat) (w : World) (h : Lib.IsBuilder 121 5 B b [] w) (hBw : B ≤ w.heap.size) :
    Calls Tryz.prog 77 #[.pointer (some ⟨b, 0, none⟩)] w fun e w' => e = .returned (.string ⟨#[]⟩) ∧ Below B w w' := Any.Builder_String_empty Tryz.lays169 Tryz.Builder_Extra_169 B b w h hBw
open Go.RowKit in
/-- (*strings.Builder).String: "String returns the accumulated string.": WHATEVER THE BUILDER HOLDS. (LAID: no walk: one application.) -/
theorem Tryz.Builder_String_any (B b : Nat) (l : List UInt8) (w : World) (h : Lib.IsBuilder 121 5 B b (Lib.byteCells l) w) (hBw : B ≤ w.heap.size) :
    Calls Tryz.prog 77 #[.pointer (some ⟨b, 0, none⟩)] w fun e w' => e = .returned (.string ⟨l.toArray⟩) ∧ Below B w w' := Any.Builder_String_any Tryz.lays169 Tryz.Builder_Extra_169 B b l w h hBw
def Tryz.lays213_ren : Go.Shelf.Ren := ⟨fun | 213 => 91 | 265 => 105 | n => n, fun | 9 => 9 | 3 => 3 | n => n, fun | n => n⟩
theorem Tryz.lays213 : Go.Proofs.Lays.n213 Tryz.prog Tryz.lays213_ren := {
  mixed := by kernel_rfl
  f213 := Tryz.func91.trans (congrArg some (by kernel_rfl))
  f265 := Tryz.func105.trans (congrArg some (by kernel_rfl))
  t3 := Tryz.underlying3
  a3 := Tryz.isAgg3
  z3 := Tryz.sizeOf3
  v3 := Tryz.zeroValue3
  t9 := Tryz.underlying9
  a9 := Tryz.isAgg9
  z9 := Tryz.sizeOf9
  v9 := Tryz.zeroValue9 }
open Go.RowKit in
/-- internal/bytealg.CompareString (what strings.Compare calls): IT RETURNS 'Lib.compareBytes a b'; the world is as it was. (LAID: no walk: one application.) -/
theorem Tryz.bytealg_CompareString (a b : ByteArray) (w : World) :
    Calls Tryz.prog 91 #[.string a, .string b] w fun e w' => e = .returned (.int .i64 (Lib.compareBytes a.data.toList b.data.toList)) ∧ w' = w := Any.bytealg_CompareString Tryz.lays213 a b w
def Tryz.lays106_ren : Go.Shelf.Ren := ⟨fun | 106 => 57 | 213 => 91 | 265 => 105 | n => n, fun | 9 => 9 | 3 => 3 | n => n, fun | n => n⟩
theorem Tryz.lays106 : Go.Proofs.Lays.n106 Tryz.prog Tryz.lays106_ren := {
  mixed := by kernel_rfl
  f106 := Tryz.func57.trans (congrArg some (by kernel_rfl))
  f213 := Tryz.func91.trans (congrArg some (by kernel_rfl))
  f265 := Tryz.func105.trans (congrArg some (by kernel_rfl))
  t3 := Tryz.underlying3
  a3 := Tryz.isAgg3
  z3 := Tryz.sizeOf3
  v3 := Tryz.zeroValue3
  t9 := Tryz.underlying9
  a9 := Tryz.isAgg9
  z9 := Tryz.sizeOf9
  v9 := Tryz.zeroValue9 }
open Go.RowKit in
/-- strings.Compare: "Compare returns an integer comparing two strings lexicographically. The result will be 0 if a == b, -1 if a < b, and +1 if a > b.": IT RETURNS 'Lib.compareBytes a b'; the world is as it was. (LAID: no walk: one application.) -/
theorem Tryz.strings_Compare (a b : ByteArray) (w : World) :
    Calls Tryz.prog 57 #[.string a, .string b] w fun e w' => e = .returned (.int .i64 (Lib.compareBytes a.data.toList b.data.toList)) ∧ w' = w := Any.strings_Compare Tryz.lays106 a b w
def Tryz.lays215_ren : Go.Shelf.Ren := ⟨fun | 215 => 90 | n => n, fun | 3 => 3 | 4 => 4 | n => n, fun | n => n⟩
theorem Tryz.lays215 : Go.Proofs.Lays.n215 Tryz.prog Tryz.lays215_ren := {
  mixed := by kernel_rfl
  f215 := Tryz.func90.trans (congrArg some (by kernel_rfl))
  t3 := Tryz.underlying3
  a3 := Tryz.isAgg3
  z3 := Tryz.sizeOf3
  v3 := Tryz.zeroValue3
  t4 := Tryz.underlying4
  a4 := Tryz.isAgg4
  z4 := Tryz.sizeOf4
  v4 := Tryz.zeroValue4 }
open Go.RowKit in
/-- cmp.isNaN at int: 'x != x': false. (LAID: no walk: one application.) -/
theorem Tryz.cmp_isNaN_int (x : Int) (w : World) :
    Calls Tryz.prog 90 #[.int .i64 x] w fun e w' => e = .returned (.bool false) ∧ w' = w := Any.cmp_isNaN_int Tryz.lays215 x w
def Tryz.lays122_ren : Go.Shelf.Ren := ⟨fun | 122 => 56 | 215 => 90 | n => n, fun | 3 => 3 | 4 => 4 | n => n, fun | n => n⟩
theorem Tryz.lays122 : Go.Proofs.Lays.n122 Tryz.prog Tryz.lays122_ren := {
  mixed := by kernel_rfl
  f122 := Tryz.func56.trans (congrArg some (by kernel_rfl))
  f215 := Tryz.func90.trans (congrArg some (by kernel_rfl))
  t3 := Tryz.underlying3
  a3 := Tryz.isAgg3
  z3 := Tryz.sizeOf3
  v3 := Tryz.zeroValue3
  t4 := Tryz.underlying4
  a4 := Tryz.isAgg4
  z4 := Tryz.sizeOf4
  v4 := Tryz.zeroValue4 }
open Go.RowKit in
/-- cmp.Compare at int: "Compare returns -1 if x is less than y, 0 if x equals y, +1 if x is greater than y.": IT RETURNS 'Lib.compareInt x y'; the world is as it was. (LAID: no walk: one application.) -/
theorem Tryz.cmp_Compare_int (x y : Int) (w : World) :
    Calls Tryz.prog 56 #[.int .i64 x, .int .i64 y] w fun e w' => e = .returned (.int .i64 (Lib.compareInt x y)) ∧ w' = w := Any.cmp_Compare_int Tryz.lays122 x y w
end Go.Proofs
set_option linter.unusedVariables false
set_option linter.unusedSimpArgs false
namespace Go.Proofs.YtjdpolhjbkpnlaaGreatDoor
open Go.RowKit
/-- A builder in block b, its address p (its own, or none yet), its buffer v, holding these bytes. -/
structure Bd (w : World) (b : Nat) (p v : Value) (l : List UInt8) : Prop where
  adr : p = .pointer none ∨ p = Pt b
  cells : w.heap[b]? = some (.cells #[p, v] 121 (0, 0))
  row : w.ownsRow 0 5 1 v l.length (l.map BV)
theorem Bd.row_b {w : World} {b : Nat} {p v : Value} {l : List UInt8} (h : Bd w b p v l) (k : Nat) (hk : v.ownBlock = some k) : k ≠ b := fun e1 => by
  obtain ⟨cur, hc⟩ := row_block h.row hk
  rw [e1, h.cells] at hc
  simp at hc
theorem Bd.kept {w w' : World} {b : Nat} {p v : Value} {l : List UInt8} {F : Nat → Prop} (h : Bd w b p v l) (s : Stay F w w') (h1 : ¬ F b) (h2 : ∀ k, v.ownBlock = some k → ¬ F k) : Bd w' b p v l :=
  ⟨h.adr, (s.block b (Array.getElem?_eq_some_iff.1 h.cells).1 h1).trans h.cells, row_kept h.row s h2⟩
theorem Bd.new (w : World) : Bd (w.alloc (.cells #[.pointer none, .slice none 0 0] 121)) w.heap.size (.pointer none) (.slice none 0 0) [] :=
  ⟨.inl rfl, heap_alloc_last w _, ⟨rfl, .inl ⟨rfl, rfl⟩⟩⟩
theorem infoB : (Tryz.prog.info? 121).map (·.size) = some 2 := by kernel_rfl
theorem liesB : liesAt Tryz.prog Tryz.prog.depth 121 (2 / Tryz.prog.cellsOf 121) 0 121 1 = true := by kernel_rfl
set_option maxHeartbeats 4000000 in
set_option maxRecDepth 100000 in
theorem copyCheck_any {b : Nat} {p v : Value} {l : List UInt8} (w : World) (h : Bd w b p v l) :
    Calls Tryz.prog 96 #[Pt b] w fun r w' => r = .returned (.tuple #[]) ∧ Bd w' b (Pt b) v l ∧ Stay (· = b) w w' := by
  have hc := h.cells
  have c0 : w.cell? ⟨b, 0, none⟩ = some p := by simp [World.cell?, hc]
  obtain ⟨j, hj, hjs⟩ := Option.map_eq_some_iff.1 infoB
  rcases h.adr with rfl | rfl
  · have z0 : w.frozen? ⟨b, 0, none⟩ = false := by simp [World.frozen?, hc]
    have hsh : w.shape? b = some (121, 2) := by simp [World.shape?, hc]
    have s1 : Stay (· = b) w (w.setCell ⟨b, 0, none⟩ (Pt b)) := (Stay.refl (· = b) w).setCell (p := ⟨b, 0, none⟩) (fun _ => rfl) _
    have HF := Hid.mk (show Bd (w.setCell ⟨b, 0, none⟩ (Pt b)) b (Pt b) v l ∧ Stay (· = b) w (w.setCell ⟨b, 0, none⟩ (Pt b)) from
      ⟨⟨.inr rfl, heap_setCell_same w b 0 _ _ _ hc, row_kept h.row s1 (fun k hk e => h.row_b k hk e)⟩, s1⟩)
    clear h s1
    go_enter Tryz.func96, Tryz.ntmps96
    go_wp2
    rw [Lib.run_to_unsafe w ⟨b, 0, none⟩ Tryz.underlying119 (by kernel_rfl) hj (by rw [hjs]; decide) hsh (Nat.zero_lt_succ 1)]
    simp only [Result.andThen]
    rw [Oper.upon_value]
    go_wp2
    rw [run_callFunc_extern Tryz.func106 (by kernel_rfl) (by kernel_rfl) (by kernel_rfl) (e := Extern.AbiNoEscape.same) (by kernel_rfl)]
    rw [Lib.run_noEscape]
    simp only [Result.andThen]
    rw [Oper.upon_value]
    go_wp2
    rw [Lib.run_from_unsafe w ⟨b, 0, none⟩ (by kernel_rfl) Tryz.underlying119 hj hsh liesB]
    simp only [Result.andThen]
    rw [Oper.upon_value]
    go_wp2
    go_end0
    exact ⟨rfl, HF.out⟩
  · have hq : (binOp .neq 119 (Pt b) (Pt b)).run Tryz.prog w = .ok (.bool false) w := Lib.run_neq_ptr_same w ⟨b, 0, none⟩ Tryz.underlying119 hj
    have HF := Hid.mk h
    clear h
    go_enter Tryz.func96, Tryz.ntmps96
    go_wp2
    go_end0
    exact ⟨rfl, HF.out, .refl _ _⟩
theorem append_str2 (w : World) (ty : TypeId) (v : Value) (da : List UInt8) (h : w.ownsRow 0 5 1 v da.length (da.map BV)) (s : ByteArray) (hb : da.length + s.size ≤ 140737488355328) :
    ∃ v' w', (Builtin.append_ #[98, 9] ty #[v, .string s]).run Tryz.prog w = .ok v' w' ∧ w'.ownsRow 0 5 1 v' (da ++ s.data.toList).length ((da ++ s.data.toList).map BV) ∧ Stay (fun k => v.ownBlock = some k) w w' ∧
      (∀ k, v'.ownBlock = some k → v.ownBlock = some k ∨ w.heap.size ≤ k) := by
  obtain ⟨i0, hi, hz0, hz1, hz2⟩ := info_parts Tryz.info5
  obtain ⟨v', w', hr, ho, hg, hnil⟩ := Lib.run_append_own_string (P := Tryz.prog) w 0 98 9 ty 5 i0 Tryz.underlying98 Tryz.underlying9 hi hz0 hz1 hz2 v da.length _ h s (by unfold maxLen; omega) (by omega) (Nat.zero_le _)
  refine ⟨v', w', hr, ?_, .grown hg (fun k hk => hk), ?_⟩
  · rw [strCells_BV, ← List.map_append] at ho
    rw [List.length_append, nm_size]; exact ho
  · intro k hk
    rcases h.2 with ⟨rfl, hn⟩ | ⟨g, cap, cur, rfl, _, hgc, hnc, hcm, hcs, htake⟩
    · have h' : w.ownsRow w.heap.size 5 1 (.slice none 0 0) 0 [] := World.ownsRow_nil _ _ _ _
      obtain ⟨v2, w2, hr2, ho2, _, _⟩ := Lib.run_append_own_string (P := Tryz.prog) w w.heap.size 98 9 ty 5 i0 Tryz.underlying98 Tryz.underlying9 hi hz0 hz1 hz2 _ 0 _ h' s (by unfold maxLen; omega) (by omega) (Nat.le_refl _)
      rw [hr] at hr2
      cases hr2
      exact .inr (ho2.lt k hk).1
    · by_cases hroom : da.length + s.size ≤ cap
      · have hr2 := Lib.run_append_room_string (P := Tryz.prog) w 98 9 ty 5 i0 Tryz.underlying98 Tryz.underlying9 hi hz1 g da.length cap cur hgc s hroom (by rw [hcs]; omega)
        rw [hr] at hr2
        cases hr2
        exact .inl hk
      · have holds := h.cells (g := g) rfl
        have hr2 := Lib.run_append_grow_string (P := Tryz.prog) w 98 9 ty 5 i0 (.int .u8 0) Tryz.underlying98 Tryz.underlying9 hi hz0 ⟨g, 0, none⟩ da.length cap (da.map BV) (by rw [hz1]; simp) holds s (by omega) (by omega) (by rw [hz2]; exact growslice_fits (by omega) (by omega))
        rw [hr] at hr2
        cases hr2
        cases hk
        exact .inr (Nat.le_refl _)
/-- append, as it was reckoned ahead. -/
theorem wpList_append_eq {P : Program} {w : World} {ops : Array Oper} {rest : List Oper} {o : Oper} {a : Act} {Q : Exit → Act → World → Prop} (hgd : o.guard = none) (s x : Operand) (t u : TypeId)
    (ho : o.op = .call { callee := .builtin .append, args := #[s, x], argTypes := #[t, u] }) (v xv v' : Value) (w' : World) (hs : a.eval s = v) (hx : a.eval x = xv) (hr : (Builtin.append_ #[t, u] o.type #[v, xv]).run P w = .ok v' w')
    (h : wpList P ops Q rest (a.put o.dst v') w') : wpList P ops Q (o :: rest) a w := by
  refine wpList_plain hgd fun K hK => ?_
  unfold Oper.wp execOp
  simp only [ho, resolve, invoke, builtin, Sem.run_bind, Sem.run_pure, Result.andThen_ok, List.map_toArray, List.map_cons, List.map_nil, hs, hx, hr]
  exact hK _ _ h
theorem bd_fin {w w1 : World} {b : Nat} {p v v' : Value} {l l' : List UInt8} (h : Bd w b p v l) (ho : w1.ownsRow 0 5 1 v' l'.length (l'.map BV)) (s1 : Stay (fun k => v.ownBlock = some k) w w1) (hloc : ∀ k, v'.ownBlock = some k → v.ownBlock = some k ∨ w.heap.size ≤ k) :
    Bd (w1.setCell ⟨b, 1, none⟩ v') b p v' l' ∧ Stay (fun k => k = b ∨ v.ownBlock = some k) w (w1.setCell ⟨b, 1, none⟩ v') := by
  have lb := (Array.getElem?_eq_some_iff.1 h.cells).1
  have hb1 : w1.heap[b]? = _ := (s1.block b lb (fun hk => h.row_b b hk rfl)).trans h.cells
  have s2 : Stay (· = b) w1 (w1.setCell ⟨b, 1, none⟩ v') := (Stay.refl (· = b) w1).setCell (p := ⟨b, 1, none⟩) (fun _ => rfl) _
  refine ⟨⟨h.adr, heap_setCell_same w1 b 1 _ _ _ hb1, row_kept ho s2 fun k hk e1 => ?_⟩, (s1.mono fun k _ hk => .inr hk).setCell (p := ⟨b, 1, none⟩) (fun _ => .inl rfl) _⟩
  rcases hloc k hk with h1 | h1
  · exact h.row_b k h1 e1
  · omega
set_option maxHeartbeats 4000000 in
set_option maxRecDepth 100000 in
theorem wstr_any {b : Nat} {p v : Value} {l : List UInt8} (s : ByteArray) (w : World) (h : Bd w b p v l) (hb : l.length + s.size ≤ 140737488355328) (R : Ending → World → Prop)
    (h1 : ∀ v' w', Bd w' b (Pt b) v' (l ++ s.data.toList) → Stay (fun k => k = b ∨ v.ownBlock = some k) w w' → (∀ k, v'.ownBlock = some k → v.ownBlock = some k ∨ w.heap.size ≤ k) → R (.returned (.tuple #[.int .i64 s.size, .nilIface])) w') :
    Calls Tryz.prog 67 #[Pt b, .string s] w R := by
  have hcc := copyCheck_any w h
  have HH := Hid.mk h
  have H1 := Hid.mk h1
  clear h h1
  go_enter Tryz.func67, Tryz.ntmps67
  go_wp2_with fail
  refine hcc.mono ?_
  rintro r w0 ⟨rfl, h, s0⟩
  obtain ⟨v', w1, hr, ho, s1, hloc⟩ := append_str2 w0 98 v l h.row s hb
  obtain ⟨hB, hS⟩ := bd_fin h ho s1 hloc
  have hR := Hid.mk (H1.out _ _ hB (s0.mono (G := fun k => k = b ∨ v.ownBlock = some k) (fun k _ e => .inl e) |>.trans hS) (fun k hk => (hloc k hk).imp_right (Nat.le_trans s0.size)))
  have lb := (Array.getElem?_eq_some_iff.1 h.cells).1
  have hb1 : w1.heap[b]? = _ := (s1.block b lb (fun hk => h.row_b b hk rfl)).trans h.cells
  obtain ⟨a, cap, hv, -⟩ := slice_form h.row
  obtain ⟨a', cap', hv', -⟩ := slice_form ho
  have c1 : w0.cell? ⟨b, 1, none⟩ = some v := by simp [World.cell?, h.cells]
  have c1' : w1.cell? ⟨b, 1, none⟩ = some v := by simp [World.cell?, hb1]
  have z1' : w1.frozen? ⟨b, 1, none⟩ = false := by simp [World.frozen?, hb1]
  clear hB hS H1 hcc
  obtain ⟨n', hn'⟩ : ∃ n', n' = (l ++ s.data.toList).length := ⟨_, rfl⟩
  rw [← hn'] at hv'
  clear hn'
  rw [hv] at c1 hr
  rw [hv'] at hr hR
  go_wp2_with (at_builtin; refine wpList_append_eq rfl _ _ _ _ rfl _ _ _ _ rfl rfl hr ?_)
  exact hR.out
end Go.Proofs.YtjdpolhjbkpnlaaGreatDoor
namespace Go.Proofs.YtjdpolhjbkpnlaaGreatDoor
section
variable {F : Fence} {n : Nat} {P : Program} {ops : Array Oper} {Q : Exit → Act → World → Prop} {md : Region.Mode} {S : World → Prop}

/-- In every world that meets S the operation yields v, and it is about to make no call. -/
def YldS (P : Program) (ops : Array Oper) (S : World → Prop) (o : Oper) (v : Value) (a : Act) : Prop := YieldsIf P ops S o v a ∧ ∀ w, o.about P w a.eval = none

/-- What an operation comes to does not hang on a temporary that it does not look at. -/
theorem upon_apart {o : Oper} {a : Act} {x : Option Tmp} {v : Value} {K : Act → World → Prop} {R : Act → Prop}
    (hc : ∀ (b : Act) u, (b.put x v).put o.dst u = (b.put o.dst u).put x v) (hR : ∀ u, R (a.put o.dst u)) (hD : ∀ d, R (({ a with defers := d :: a.defers } : Act).put o.dst undef))
    (hQ : ∀ c a w, Q (.panic c) (a.put x v) w → Q (.panic c) a w) (r : Result Next)
    (h : o.uponIn F n P (a.put x v) K Q r) : o.uponIn F n P a (fun a' w' => R a' ∧ K (a'.put x v) w') Q r := by
  have go : ∀ u w', K ((a.put x v).put o.dst u) w' → R (a.put o.dst u) ∧ K ((a.put o.dst u).put x v) w' := fun u w' hk => ⟨hR u, by rw [← hc]; exact hk⟩
  rcases r with ⟨k, w'⟩ | ⟨k, w'⟩
  · rcases k with u | _ | d | ⟨f, args⟩ | ⟨row, args⟩ | ⟨l, f, t, s, b⟩
    all_goals simp only [Oper.uponIn] at h ⊢
    all_goals first
      | exact go _ _ h
      | (refine ⟨hD _, ?_⟩; rw [← hc, ← Act.put_defers]; exact h)
      | (refine ⟨h.1, CallsIn.mono h.2 ?_⟩; rintro (u | c | _) w'' he; exact go _ _ he; exact hQ _ _ _ he; exact he)
      | exact ⟨h.1, RowsIn.mono h.2 fun u w'' he => go _ _ he⟩
      | (refine ⟨h.1, RoundIn.mono h.2 ?_⟩; rintro (u | c | _) w'' he; exact go _ _ he; exact hQ _ _ _ he; exact he)
  · rcases k with u | _
    all_goals simp only [Oper.uponIn] at h ⊢
    all_goals first | exact hQ _ _ _ h | exact h

theorem op_apart {j : Nat} {oi oj : Oper} {v : Value} (hd : ∀ c, oj.op ≠ .defer c) (hj : ops[j]? = some oj) (hap : oi.apart ops oj = true)
    (hsi : ∀ cs b, oi.op ≠ .select cs b) (hsj : ∀ cs b, oj.op ≠ .select cs b)
    (hQ : ∀ c a w, Q (.panic c) (a.put oi.dst v) w → Q (.panic c) a w) {K : Act → World → Prop} {a : Act} {w : World}
    (hy : YldS P ops S oi v a) (h : wpOpIn F n P ops Q j K (a.put oi.dst v) w) :
    wpOpIn F n P ops Q j (fun a' w' => YldS P ops S oi v a' ∧ K (a'.put oi.dst v) w') a w := by
  obtain ⟨h1, h2, h3⟩ := Oper.apart_spec hap
  have keep : ∀ b : Act, b.tmps = a.tmps → ∀ u, YldS P ops S oi v (b.put oj.dst u) := fun b hb u => by
    have e0 : b.eval = a.eval := by funext x; cases x <;> simp [Act.eval, hb]
    refine ⟨hy.1.of_same ?_ ?_, fun w => ?_⟩
    · rw [execOp_put oi hsi b oj.dst u h3, e0]
    · rw [wanted_put oi b oj.dst u h3, hb]
    · rw [about_put oi w b oj.dst u h3, e0]; exact hy.2 w
  have hcomm : ∀ (b : Act) u, (b.put oi.dst v).put oj.dst u = (b.put oj.dst u).put oi.dst v := fun b u => Act.put_comm b v u h2
  unfold wpOpIn at h ⊢
  rw [hj] at h ⊢
  simp only at h ⊢
  rw [wanted_put oj a oi.dst v h1, about_put oj w a oi.dst v h1] at h
  cases hw : Region.wanted oj (yielded ops a.tmps)
  · rw [hw] at h
    simp only [Bool.false_eq_true, if_false] at h ⊢
    exact ⟨h.1, keep a rfl _, by rw [← hcomm]; exact h.2⟩
  · rw [hw] at h
    simp only [if_true] at h ⊢
    unfold Oper.wpIn at h ⊢
    rw [Oper.semAt_plain F _ _ hd] at h ⊢
    rw [execOp_put oj hsj a oi.dst v h1, about_put oj w a oi.dst v h1] at h
    exact ⟨h.1, upon_apart hcomm (keep a rfl) (fun d => keep ({ a with defers := d :: a.defers } : Act) rfl undef) hQ _ h.2⟩

/-- Whatever order is picked; behind every operation S holds. -/
def AnyS (F : Fence) (n : Nat) (P : Program) (md : Region.Mode) (ops : Array Oper) (Q : Exit → Act → World → Prop) (S : World → Prop) : Nat → Array Bool → Act → World → Prop
  | 0, listed, a, w => Region.ready md ops listed = [] ∧ Q .normal a w
  | fuel + 1, listed, a, w => (Region.ready md ops listed = [] → Q .normal a w) ∧
      ∀ i ∈ Region.ready md ops listed, wpOpIn F n P ops Q i (fun a' w' => S w' ∧ AnyS F n P md ops Q S fuel (listed.setIfInBounds i true) a' w') a w

theorem AnyS.any : ∀ (fuel : Nat) (listed : Array Bool) (a : Act) (w : World), AnyS F n P md ops Q S fuel listed a w → wpAnyIn F n P md ops Q fuel listed a w
  | 0, _, _, _, h => h
  | fuel + 1, _, _, _, h => ⟨h.1, fun i hi => wpOpIn_mono (fun a' w' k => AnyS.any fuel _ a' w' k.2) (h.2 i hi)⟩

theorem YldS.op {i : Nat} {o : Oper} {v : Value} {a : Act} {K : Act → World → Prop} {w : World} (hd : ∀ c, o.op ≠ .defer c) (hi : ops[i]? = some o) (hy : YldS P ops S o v a) (hS : S w) (h : K (a.put o.dst v) w) : wpOpIn F n P ops Q i K a w := by
  have hab : ∀ f, o.about P w a.eval = some f → F.fn f := fun f hf => by rw [hy.2 w] at hf; cases hf
  unfold wpOpIn
  rw [hi]
  rcases hy.1 with ⟨hw, hv⟩ | ⟨hw, rfl⟩
  · simp only [hw, if_true, Oper.wpIn, Oper.semAt_plain F _ _ hd, hv w hS, Oper.uponIn]; exact ⟨hab, h⟩
  · simp only [hw, Bool.false_eq_true, if_false]; exact ⟨hab, h⟩

theorem AnyS.first {i : Nat} {oi : Oper} {v : Value} (hd : ∀ (j : Nat) o, ops[j]? = some o → ∀ c, o.op ≠ .defer c) (hi : ops[i]? = some oi) (hsel : ∀ (j : Nat) (o : Oper) cs b, ops[j]? = some o → o.op ≠ .select cs b)
    (hQ : ∀ c a w, Q (.panic c) (a.put oi.dst v) w → Q (.panic c) a w) :
    ∀ (fuel : Nat) (listed : Array Bool) (a : Act) (w : World),
      (∀ j oj, ops[j]? = some oj → j ≠ i → listed.getD j true = false → (∀ e ∈ oj.after, Region.binds md e = true → e.on ≠ i) → oi.apart ops oj = true) →
      i ∈ Region.ready md ops listed → YldS P ops S oi v a → S w →
      AnyS F n P md ops Q S fuel (listed.setIfInBounds i true) (a.put oi.dst v) w → AnyS F n P md ops Q S (fuel + 1) listed a w := by
  intro fuel
  induction fuel with
  | zero =>
    intro listed a w _ hr hy hS H
    refine ⟨fun h => (by rw [h] at hr; cases hr), fun j hj => ?_⟩
    by_cases e : j = i
    · subst e; exact hy.op (hd _ _ hi) hi hS ⟨hS, H⟩
    · have := ready_mono hj e; rw [H.1] at this; cases this
  | succ fuel ih =>
    intro listed a w hf hr hy hS H
    refine ⟨fun h => (by rw [h] at hr; cases hr), fun j hj => ?_⟩
    by_cases e : j = i
    · subst e; exact hy.op (hd _ _ hi) hi hS ⟨hS, H⟩
    · obtain ⟨un, oj, hoj, all⟩ := mem_ready.1 hj
      have un' := (mem_ready.1 hr).1
      have hno : ∀ e ∈ oj.after, Region.binds md e = true → e.on ≠ i := fun e he hb heq => by
        have k := all e he hb
        rw [heq] at k
        rw [Array.getD_eq_getD_getElem?] at k un'
        cases hq : listed[i]? <;> simp [hq] at k un'
        rw [k] at un'; cases un'
      have step := op_apart (hd _ _ hoj) hoj (hf j oj hoj e un hno) (fun cs b => hsel i oi cs b hi) (fun cs b => hsel j oj cs b hoj) hQ hy (H.2 j (ready_mono hj e))
      refine wpOpIn_mono (fun a' w' k => ⟨k.2.1, ih _ a' w' (fun q oq hq hqi hun hno' => hf q oq hq hqi ?_ hno') (ready_mono hr (Ne.symm e)) k.1 k.2.1 ?_⟩) step
      · by_cases hjq : j = q
        · subst hjq; exact un
        · rw [getD_set_ne true hjq] at hun; exact hun
      · rw [Array.setIfInBounds_comm _ _ e]; exact k.2.2

/-- The region bears no defer statement. -/
def noDefer (ops : Array Oper) : Bool := ops.all fun o => match o.op with | .defer _ => false | _ => true
theorem noDefer_spec (h : noDefer ops = true) (j : Nat) (o : Oper) (ho : ops[j]? = some o) : ∀ c, o.op ≠ .defer c := by
  intro c e
  have := Array.all_eq_true_iff_forall_mem.1 h o (Array.mem_of_getElem? ho)
  rw [e] at this; cases this

theorem AnyS.take {i : Nat} {oi : Oper} {v : Value} {fuel : Nat} {listed : Array Bool} {a : Act} {w : World} (hd : noDefer ops = true) (hi : ops[i]? = some oi)
    (hs : Region.noSelect ops = true) (hf : Region.free md ops listed i = true) (hr : (Region.ready md ops listed).contains i = true)
    (hQ : ∀ c a w, Q (.panic c) (a.put oi.dst v) w → Q (.panic c) a w) (hy : YldS P ops S oi v a) (hS : S w)
    (h : AnyS F n P md ops Q S fuel (listed.setIfInBounds i true) (a.put oi.dst v) w) : AnyS F n P md ops Q S (fuel + 1) listed a w :=
  AnyS.first (noDefer_spec hd) hi (Region.noSelect_spec hs) hQ fuel listed a w (Region.free_spec hi hf) (by simpa using hr) hy hS h
/-- One alone may come up. -/
theorem AnyS.one {i : Nat} {fuel : Nat} {listed : Array Bool} {a : Act} {w : World} (hr : Region.ready md ops listed = [i])
    (h : wpOpIn F n P ops Q i (fun a' w' => S w' ∧ AnyS F n P md ops Q S fuel (listed.setIfInBounds i true) a' w') a w) : AnyS F n P md ops Q S (fuel + 1) listed a w :=
  ⟨fun h0 => (by rw [hr] at h0; cases h0), fun j hj => (by rw [hr] at hj; cases List.mem_singleton.1 hj; exact h)⟩
theorem AnyS.done {fuel : Nat} {listed : Array Bool} {a : Act} {w : World} (hr : Region.ready md ops listed = []) (h : Q .normal a w) : AnyS F n P md ops Q S fuel listed a w := by
  cases fuel with
  | zero => exact ⟨hr, h⟩
  | succ f => exact ⟨fun _ => h, by rw [hr]; simp⟩
theorem region_held {id : Nat} {a : Act} {w : World} (hm : P.follows .mixedOrders = true) (k : Nat) (hk : ops.size = k)
    (h : AnyS F n P .any ops Q S k (Array.replicate k false) a { w with drawn := w.drawn + 1 }) : (Code.region id ops true).wpIn F n P Q a w := by
  subst hk; exact wpIn_region_any hm (AnyS.any _ _ _ _ h)
end
end Go.Proofs.YtjdpolhjbkpnlaaGreatDoor
set_option linter.unusedVariables false
set_option linter.unusedSimpArgs false
namespace Go.Proofs.YtjdpolhjbkpnlaaGreatDoor
open Go.RowKit Go.Shelf Go.Proofs.SealMath
attribute [local go_sem] Oper.semAt_some
/-- The cells of a list lie from here on. -/
def RowAt (w : World) (g off : Nat) (cs : List Value) : Prop := ∀ j x, cs[j]? = some x → w.cell? ⟨g, off + j, none⟩ = some x
/-- What an iterator that keeps a row of bytes does by itself. -/
structure TrB (s : Option Nat) (A : World) (s' : Option Nat) (B : World) : Prop where
  stay : Stay (fun k => s = some k) A B
  cells : ∀ k, s = some k → ∃ c t m, A.heap[k]? = some (.cells c t m)
  loc : ∀ k, s' = some k → s = some k ∨ A.heap.size ≤ k
  lt : ∀ k, s' = some k → k < B.heap.size
theorem TrB.others {s s' : Option Nat} {A B : World} (h : TrB s A s' B) : KeepsOthers A B :=
  ⟨h.stay.size, fun k o hk ho => (h.stay.block k (Array.getElem?_eq_some_iff.1 hk).1 (fun e => by
    obtain ⟨c, t, m, hc⟩ := h.cells k e
    rw [hk] at hc; cases hc; cases ho)).trans hk⟩
/-- What a body keeps: the blocks of K, and the iterator's own. -/
def KpB (K : Nat → Prop) (s : Option Nat) (A B : World) : Prop := A.heap.size ≤ B.heap.size ∧ ∀ k c t m, (K k ∨ s = some k) → A.heap[k]? = some (.cells c t m) → B.heap[k]? = some (.cells c t m)
theorem KpB.trans {K : Nat → Prop} {s : Option Nat} {A B C : World} (h : KpB K s A B) (k : KpB K s B C) : KpB K s A C := ⟨Nat.le_trans h.1 k.1, fun i c t m hi hc => k.2 i c t m hi (h.2 i c t m hi hc)⟩
theorem KpB.put {K : Nat → Prop} (s : Option Nat) (A : World) (l : Nat) (o o' : Obj) (h : A.heap[l]? = some o) (ho : o.isCells = false) : KpB K s A (A.putObj l o') := ⟨by simp, fun k c t m _ hc =>
  (World.putObj_heap_other (fun e => by subst e; rw [h] at hc; cases hc; cases ho)).trans hc⟩
/-- A part as it is handed over. -/
def encP {T : Type} (f : T → List UInt8) (g off sz cap : Nat) (x : Nat × List T) : Array Value := #[.slice (some ⟨g, off + x.1 * sz, none⟩) x.2.length (cap - x.1), .string ⟨(x.2.flatMap f).toArray⟩]
theorem wpListIn_append_eq {F : Fence} {n : Nat} {P : Program} {w : World} {ops : Array Oper} {rest : List Oper} {o : Oper} {a : Act} {Q : Exit → Act → World → Prop} (hgd : o.guard = none) (s x : Operand) (t u : TypeId)
    (ho : o.op = .call { callee := .builtin .append, args := #[s, x], argTypes := #[t, u] }) (v xv v' : Value) (w' : World) (hs : a.eval s = v) (hx : a.eval x = xv) (hr : (Builtin.append_ #[t, u] o.type #[v, xv]).run P w = .ok v' w')
    (h : wpListIn F n P ops Q rest (a.put o.dst v') w') : wpListIn F n P ops Q (o :: rest) a w := by
  refine wpListIn_plain hgd fun K hK => ?_
  unfold Oper.wpIn
  refine ⟨by simp [Oper.about, ho, resolve, Target.leads, Sem.run_pure], ?_⟩
  rw [Oper.semAt_plain F _ _ (by rw [ho]; intro c hc'; cases hc')]
  unfold execOp
  simp only [ho, resolve, invoke, builtin, Sem.run_bind, Sem.run_pure, Result.andThen_ok, List.map_toArray, List.map_cons, List.map_nil, hs, hx, hr, Oper.uponIn]
  exact hK _ _ h
/-- An entry that goes as bytes. -/
structure Ok (e : En) : Prop where
  v : 0 ≤ e.v ∧ e.v < 4294967296
  i : 0 ≤ e.i ∧ e.i < 9223372036854775808
  s : 0 ≤ e.s ∧ e.s < 9223372036854775808
  c : e.c.size ≤ 128
theorem entry_o (e : En) (h : Ok e) (w : World) :
    Calls Tryz.prog 71 #[.agg #[.int .i64 e.v, .string e.c, .int .i64 e.i, .int .i64 e.s, .bool e.d]] w fun r w' => ∃ X : ByteArray, r = .returned (.string X) ∧ X.size = (enB e).length ∧ Hid (X.data.toList = enB e) ∧ Below w.heap.size w w' := by
  obtain ⟨v, c, i, s, d⟩ := e
  obtain ⟨⟨h1, h2⟩, ⟨h3, h4⟩, ⟨h5, h6⟩, h7⟩ := h
  obtain ⟨V, rfl⟩ : ∃ V : Nat, v = V := ⟨v.toNat, by dsimp only at *; omega⟩
  obtain ⟨I, rfl⟩ : ∃ I : Nat, i = I := ⟨i.toNat, by dsimp only at *; omega⟩
  obtain ⟨S, rfl⟩ : ∃ S : Nat, s = S := ⟨s.toNat, by dsimp only at *; omega⟩
  dsimp only at *
  refine (entry_x V I S d c w (by omega) (by omega) (by omega) h7).mono ?_
  rintro r w' ⟨X, rfl, _, hX, hb⟩
  exact ⟨X, rfl, by rw [← hX.out, nm_size], hX, hb⟩
theorem TrB.below {s : Option Nat} {A B : World} (hc : ∀ k, s = some k → ∃ c t m, A.heap[k]? = some (.cells c t m)) (h : Below A.heap.size A B) : TrB s A s B := ⟨.below h, hc, fun _ e => .inl e, fun k e => by obtain ⟨c, t, m, hk⟩ := hc k e; exact Nat.lt_of_lt_of_le (Array.getElem?_eq_some_iff.1 hk).1 h.size⟩
theorem flat_at {T : Type} (f : T → List Value) (sz : Nat) (hf : ∀ x, (f x).length = sz) : ∀ (l : List T) (i j : Nat) (hi : i < l.length), j < sz → (l.flatMap f)[i * sz + j]? = (f l[i])[j]?
  | x :: l, 0, j, _, hj => by simp [List.getElem?_append_left, hf, hj]
  | x :: l, i + 1, j, hi, hj => by
    have := flat_at f sz hf l i j (by simpa using hi) hj
    rw [List.flatMap_cons, List.getElem?_append_right (by rw [hf, Nat.add_mul]; omega), hf, List.getElem_cons_succ, ← this]
    congr 1
    rw [Nat.add_mul]; omega
end Go.Proofs.YtjdpolhjbkpnlaaGreatDoor
set_option linter.unusedVariables false
set_option linter.unusedSimpArgs false
namespace Go.Proofs.YtjdpolhjbkpnlaaGreatDoor
open Go.RowKit Go.Shelf Go.Proofs.SealMath
section
variable {T : Type} (f : T → List UInt8) (l : List T) (K : Nat → Prop) (w : World) (J : List (Nat × List T) → Option Nat → World → Prop)
/-- Between two rounds. -/
structure PkI (pv : Value) (a i : Nat) (pre : List (Nat × List T)) (cur : List T) (A : World) : Prop where
  ia : a + cur.length = i
  il : i ≤ l.length
  eq : pk f l = pre ++ pkA f a cur (l.drop i)
  le : ln f cur ≤ 4096
  row : A.ownsRow 0 5 1 pv (ln f cur) ((cur.flatMap f).map BV)
  j : J pre pv.ownBlock A
  kept : ∀ k, K k → A.heap[k]? = w.heap[k]?
  new : ∀ k, pv.ownBlock = some k → w.heap.size ≤ k
  size : w.heap.size ≤ A.heap.size
variable {f l K w J}
theorem PkI.cells {pv : Value} {a i : Nat} {pre : List (Nat × List T)} {cur : List T} {A : World} (h : PkI f l K w J pv a i pre cur A) : ∀ k, pv.ownBlock = some k → ∃ c t m, A.heap[k]? = some (.cells c t m) := fun k hk => by
  obtain ⟨c, hc⟩ := row_block h.row hk
  exact ⟨_, _, _, hc⟩
theorem PkI.below {pv : Value} {a i : Nat} {pre : List (Nat × List T)} {cur : List T} {A B : World} (h : PkI f l K w J pv a i pre cur A) (hb : Below A.heap.size A B) (hKl : ∀ k, K k → k < w.heap.size) (hJ : ∀ p s A s' B, J p s A → TrB s A s' B → J p s' B) : PkI f l K w J pv a i pre cur B :=
  { h with
    row := row_kept (F := fun _ => False) h.row (.below hb) (fun _ _ e => e)
    j := hJ _ _ _ _ _ h.j (TrB.below h.cells hb)
    kept := fun k hk => (hb.block k (Nat.lt_of_lt_of_le (hKl k hk) h.size)).trans (h.kept k hk)
    size := Nat.le_trans h.size hb.size }
/-- Behind a round in which the part was taken. -/
theorem PkI.took {pv : Value} {a i : Nat} {pre : List (Nat × List T)} {cur : List T} {A B : World} (h : PkI f l K w J pv a i pre cur A) (hKc : ∀ k, K k → ∃ c t m, w.heap[k]? = some (.cells c t m)) (hk : KpB K pv.ownBlock A B) :
    B.ownsRow 0 5 1 pv (ln f cur) ((cur.flatMap f).map BV) ∧ (∀ k, K k → B.heap[k]? = w.heap[k]?) := by
  refine ⟨?_, fun k hKk => ?_⟩
  · rcases h.row with ⟨h1, h2 | ⟨g, cap, cu, h2, h3, h4, h5⟩⟩
    · exact ⟨h1, .inl h2⟩
    · exact ⟨h1, .inr ⟨g, cap, cu, h2, h3, hk.2 g _ _ _ (.inr (by rw [h2]; rfl)) h4, h5⟩⟩
  · obtain ⟨c, t, m, hc⟩ := hKc k hKk
    rw [hk.2 k c t m (.inl hKk) ((h.kept k hKk).trans hc), hc]
/-- payload[:0]. -/
theorem cut0 {pv : Value} {n : Nat} {xs : List Value} {B : World} (h : B.ownsRow 0 5 1 pv n xs) : ∃ a cap, pv = .slice a n cap ∧ n ≤ cap ∧ B.ownsRow 0 5 1 (.slice a 0 cap) 0 [] ∧ Value.ownBlock (.slice a 0 cap) = pv.ownBlock := by
  rcases h.2 with ⟨rfl, rfl⟩ | ⟨g, cap, cur, rfl, h3, h4, h5, h6, h7, h8⟩
  · exact ⟨none, 0, rfl, Nat.le_refl _, ⟨rfl, .inl ⟨rfl, rfl⟩⟩, rfl⟩
  · exact ⟨_, cap, rfl, h5, ⟨rfl, .inr ⟨g, cap, cur, rfl, h3, h4, Nat.zero_le _, h6, h7, by simp⟩⟩, rfl⟩
/-- One more is put behind. -/
theorem PkI.more {pv v' : Value} {a i : Nat} {pre : List (Nat × List T)} {cur : List T} {B C : World} (hi : i < l.length) (hia : a + cur.length = i) (heq : pk f l = pre ++ pkA f a (cur ++ [l[i]]) (l.drop (i + 1))) (hle : ln f cur + (f l[i]).length ≤ 4096)
    (hc : ∀ k, pv.ownBlock = some k → ∃ c t m, B.heap[k]? = some (.cells c t m)) (hn : ∀ k, pv.ownBlock = some k → w.heap.size ≤ k) (hj : J pre pv.ownBlock B) (hk : ∀ k, K k → B.heap[k]? = w.heap[k]?) (hz : w.heap.size ≤ B.heap.size)
    (hKl : ∀ k, K k → k < w.heap.size) (hJ : ∀ p s A s' B, J p s A → TrB s A s' B → J p s' B)
    (hrow : C.ownsRow 0 5 1 v' (cur.flatMap f ++ f l[i]).length ((cur.flatMap f ++ f l[i]).map BV)) (hs : Stay (fun k => pv.ownBlock = some k) B C) (hloc : ∀ k, v'.ownBlock = some k → pv.ownBlock = some k ∨ B.heap.size ≤ k) :
    PkI f l K w J v' a (i + 1) pre (cur ++ [l[i]]) C :=
  { ia := by rw [List.length_append]; simp; omega
    il := hi
    eq := heq
    le := by rw [ln_snoc]; exact hle
    row := by have e : (cur ++ [l[i]]).flatMap f = cur.flatMap f ++ f l[i] := by simp
              show C.ownsRow 0 5 1 v' ((cur ++ [l[i]]).flatMap f).length _
              rw [e]; exact hrow
    j := hJ _ _ _ _ _ hj ⟨hs, hc, hloc, fun k hk => row_lt hrow hk⟩
    kept := fun k hKk => (hs.block k (Nat.lt_of_lt_of_le (hKl k hKk) hz) (fun e => by have := hn k e; have := hKl k hKk; omega)).trans (hk k hKk)
    new := fun k e => by rcases hloc k e with h | h; exact hn k h; omega
    size := Nat.le_trans hz hs.size }
end
end Go.Proofs.YtjdpolhjbkpnlaaGreatDoor
