/-
  DERIVED. SBase, SBA, BStay, PlMath, as one text.
-/
import Derived.Test.YtojnlngpgbcimaaDoorRows
import Derived.WalkKit
import Derived.WalkSpells
import Derived.WalkLawsBesides
import Derived.Deep.QuietTactic
import Derived.BigQuiet
import Derived.Laws.BitsAllLaws
import Derived.Laws.IdiomStrings
import Derived.Lib.ConvBytes
import Derived.Deep.RegionLaw
import Derived.Deep.MidRow
import Derived.Deep.WholeRow
import Derived.Maps.AppendAt
import Derived.Lib.AppendStr
import Derived.Lib.ItoaLen
namespace Go.Proofs.YtojnlngpgbcimaaDoor
open Go.RowKit
theorem ret2 {a b c d : Value} (h : a = c) (k : b = d) : Ending.returned (.tuple #[a, b]) = .returned (.tuple #[c, d]) := by rw [h, k]
theorem ival {k : IntKind} {a b : Int} (h : a = b) : Value.int k a = .int k b := by rw [h]
/-- The world, some draws later. -/
def Drew (w w' : World) : Prop := ∃ n, w' = w.drewN n
theorem Drew.refl (w : World) : Drew w w := ⟨0, rfl⟩
theorem Drew.trans {a b c : World} (h : Drew a b) (k : Drew b c) : Drew a c := by
  obtain ⟨n, rfl⟩ := h; obtain ⟨m, rfl⟩ := k; exact ⟨n + m, by rw [World.drewN_drewN]⟩
theorem Drew.more {a b : World} (h : Drew a b) (n : Nat) : Drew a (b.drewN n) := h.trans ⟨n, rfl⟩
theorem Drew.drew {a b : World} (h : Drew a b) : Drew a b.drew := h.trans ⟨1, rfl⟩
theorem Drew.below {a b : World} (h : Drew a b) (B : Nat) : Below B a b := by
  obtain ⟨n, rfl⟩ := h
  induction n with
  | zero => exact Below.refl _ _
  | succ n ih => exact ih.trans ⟨rfl, rfl, rfl, Nat.le_refl _, fun _ _ => rfl⟩
theorem ret_int {k : IntKind} {a b : Int} (h : a = b) : Ending.returned (.int k a) = .returned (.int k b) := by rw [h]
theorem ret_bool {a b : Bool} (h : a = b) : Ending.returned (.bool a) = .returned (.bool b) := by rw [h]
theorem chain {B : Nat} {a b c : World} (h : Below B a b) (k : Below b.heap.size b c) (hB : B ≤ a.heap.size) : Below B a c := h.trans (k.mono (Nat.le_trans hB h.size))
theorem i64_in (n : Int) (h0 : 0 ≤ n) (h1 : n < 2 ^ 63) : IntKind.i64.wrap n = n := by rw [IntKind.wrap_i64]; omega
theorem i64_and1 (x : Int) (h0 : 0 ≤ x) (h1 : x < 2 ^ 63) : bits .and .i64 x 1 = x % 2 := by
  have := bits_mask .i64 63 (by decide) i64_in 1 (by decide) x h0 h1
  simpa using this
theorem div_pow_le (a k : Nat) : (0 : Int) ≤ (a : Int) / 2 ^ k ∧ (a : Int) / 2 ^ k ≤ (a : Int) := by
  have e : ((a : Int) / 2 ^ k) = ((a / 2 ^ k : Nat) : Int) := by simp
  rw [e]; exact ⟨Int.natCast_nonneg _, Int.ofNat_le.2 (Nat.div_le_self a (2 ^ k))⟩
theorem Tryd.info5 : (Tryd.prog.info? 5).map (fun i => (i.zero, i.size, i.bytes)) = some (some (.int .u8 0), 1, 1) := by kernel_rfl
/-- A byte as a cell. -/
def BV (c : UInt8) : Value := .int .u8 c.toNat
theorem set_take (l : List UInt8) (k : Nat) (x : UInt8) (h : k < l.length) : (l.set k x).take (k + 1) = l.take k ++ [x] := by
  rw [List.take_succ_eq_append_getElem (by simpa using h), List.take_set_of_le (Nat.le_refl k)]; simp
theorem made_bytes (n : Nat) : (madeCells (Value.int .u8 0).cells (n * 1)).toList = (List.replicate n (0 : UInt8)).map BV := by
  rw [Nat.mul_one]; show (madeCells #[Value.int .u8 0] n).toList = _; rw [toList_madeCells_one, List.map_replicate]; rfl
theorem conv_row {w : World} {B g : Nat} {cap : Nat} (l : List UInt8) (h : w.ownsRow B 5 1 (.slice (some ⟨g, 0, none⟩) l.length cap) l.length (l.map BV)) :
    (convert 44 9 (.slice (some ⟨g, 0, none⟩) l.length cap)).run Tryd.prog w = .ok (.string ⟨l.toArray⟩) w :=
  run_convert_bytes_back w 44 9 5 ⟨g, 0, none⟩ cap l Tryd.underlying44 Tryd.underlying5 Tryd.underlying9 (fun j hj => by
    have := h.cellAt j (by omega)
    have e : (⟨g, 0, none⟩ : Addr).add j = ⟨g, j, none⟩ := by unfold Addr.add; split <;> simp_all
    rw [e, this, List.getElem?_map, List.getElem?_eq_getElem hj]; rfl)
/-- append to a row of the call's own, as one step of a region that draws. -/
theorem step_append_own {P : Program} {ops : Array Oper} {o : Oper} {a : Act} {w : World} {K : Act → World → Prop} {Q : Exit → Act → World → Prop} {E : Prop}
    (hg : o.guard = none) (s x : Operand) (t : TypeId) (hop : o.op = Op.call { callee := Callee.builtin Builtin.append, args := #[s, x], argTypes := #[t, t] })
    (base : Nat) (e : TypeId) (i : TypeInfo) (z : Value) (size bytes : Nat) (h1 : P.underlying t = some (.slice e)) (h2 : P.info? e = some i) (h3 : i.zero = some z) (h4 : i.size = size) (h5 : i.bytes = bytes) (h6 : z.cells.size = size) (h7 : 0 < size)
    (v : Value) (n : Nat) (xs : List Value) (hs : a.eval s = v) (hown : w.ownsRow base e size v n xs)
    (ad : Addr) (m c : Nat) (news : List Value) (hx : a.eval x = .slice (some ad) m c) (hn : news.length = m * size) (hc : ∀ j u, news[j]? = some u → w.cell? (ad.add j) = some u) (h1c : ∀ u ∈ news, u.oneCell' = true)
    (b1 : n + m ≤ maxLen) (b2 : (n + m) * bytes ≤ 140737488355328) (hbase : base ≤ w.heap.size)
    (hK : ∀ v' w', w'.ownsRow base e size v' (n + m) (xs ++ news) → w.grownBy w' v.ownBlock → K (a.put o.dst v') w') :
    if Region.wanted o (yielded ops a.tmps) = true then Oper.wp P o a w K Q else E := by
  have hw : Region.wanted o (yielded ops a.tmps) = true := by simp [Region.wanted, hg]
  rw [if_pos hw]
  obtain ⟨v', w', hrun, r1, r2, _⟩ := run_append_own (P := P) w base t o.type e i z size bytes h1 h2 h3 h4 h5 h6 h7 v n xs hown ad m c news hn hc h1c b1 b2 hbase
  unfold Oper.wp
  simp [execOp, hop, resolve, invoke, builtin, hs, hx, hrun, Result.andThen]
  exact hK v' w' r1 r2
theorem conv_own {w : World} {B : Nat} {v : Value} (l : List UInt8) (h : w.ownsRow B 5 1 v l.length (l.map BV)) :
    (convert 44 9 v).run Tryd.prog w = .ok (.string ⟨l.toArray⟩) w := by
  rcases h.2 with ⟨rfl, h0⟩ | ⟨g, cap, cur, rfl, _⟩
  · rw [run_convert_bytes_string w 44 9 5 none 0 0 Tryd.underlying44 Tryd.underlying5 Tryd.underlying9]
    rw [List.eq_nil_of_length_eq_zero h0]; rfl
  · exact conv_row l h
/-- What was there stays behind an append to a row of the call's own. -/
theorem own_grow {w wr w' : World} {e : TypeId} {size : Nat} {v : Value} {n : Nat} {xs : List Value} {o : Obj} (hown : wr.ownsRow w.heap.size e size v n xs) (hb : Below w.heap.size w wr) (hg : (wr.alloc o).drew.grownBy w' v.ownBlock) : Below w.heap.size w w' :=
  ((hb.alloc hb.size o).drew).grown hg (by have := hb.size; simp; omega) (fun k h => (hown.lt k h).1)
end Go.Proofs.YtojnlngpgbcimaaDoor
namespace Go.Proofs.YtojnlngpgbcimaaDoor
open Go.RowKit
/-- The first n cells of block g hold these bytes, and may be written. -/
def BA (W : World) (g n : Nat) (f : Nat → Nat) : Prop := ∀ k, k < n → W.cell? ⟨g, k, none⟩ = some (.int .u8 (f k)) ∧ W.frozen? ⟨g, k, none⟩ = false
theorem BA.ext {W : World} {g n : Nat} {f f' : Nat → Nat} (h : BA W g n f) (e : ∀ k, k < n → f k = f' k) : BA W g n f' := fun k hk => by rw [← e k hk]; exact h k hk
theorem BA.set {W : World} {g n : Nat} {f : Nat → Nat} (h : BA W g n f) (j : Nat) (x : Nat) : BA (W.setCell ⟨g, j, none⟩ (.int .u8 x)) g n (fun k => if k = j then x else f k) := fun k hk => by
  obtain ⟨h1, h2⟩ := h k hk
  refine ⟨?_, by rw [World.frozen?_setCell]; exact h2⟩
  by_cases e : k = j
  · subst e; rw [World.cell?_setCell_same _ _ _ h1]; simp
  · rw [World.cell?_setCell_other _ _ _ _ (fun he => e (by cases he; rfl)), h1]; simp [e]
theorem BA.new (W : World) (t : TypeId) (n : Nat) (l : List Value) (hl : l = List.replicate n (.int .u8 0)) : BA (W.alloc (.cells l.toArray t)) W.heap.size n (fun _ => 0) := fun k hk => by
  subst hl
  have hh := heap_alloc_last W (.cells (List.replicate n (Value.int .u8 0)).toArray t)
  refine ⟨?_, frozen_of_row _ _ _ _ _ hh⟩
  rw [cell_of_row _ _ k _ t (0, 0) hh]
  simp [hk]
/-- What the bytes are as a text. -/
theorem BA.conv {W : World} {g n : Nat} {f : Nat → Nat} (h : BA W g n f) (l : List UInt8) (cap : Nat) (hl : l.length ≤ n) (e : ∀ k (hk : k < l.length), (l[k]).toNat = f k) :
    (convert 44 9 (.slice (some ⟨g, 0, none⟩) l.length cap)).run Tryd.prog W = .ok (.string ⟨l.toArray⟩) W :=
  run_convert_bytes_back W 44 9 5 ⟨g, 0, none⟩ cap l Tryd.underlying44 Tryd.underlying5 Tryd.underlying9 (fun j hj => by
    have := (h j (by omega)).1
    have ea : (⟨g, 0, none⟩ : Addr).add j = ⟨g, j, none⟩ := by unfold Addr.add; split <;> simp_all
    rw [ea, this, ← e j hj])
end Go.Proofs.YtojnlngpgbcimaaDoor
namespace Go.Proofs.YtojnlngpgbcimaaDoor
open Go.RowKit
/-- What stays behind a call that may write blocks of F alone. -/
structure Stay (F : Nat → Prop) (w w' : World) : Prop where
  os : w'.os = w.os
  tape : w'.tape = w.tape
  output : w'.output = w.output
  size : w.heap.size ≤ w'.heap.size
  block : ∀ k, k < w.heap.size → ¬ F k → w'.heap[k]? = w.heap[k]?
theorem Stay.refl (F : Nat → Prop) (w : World) : Stay F w w := ⟨rfl, rfl, rfl, Nat.le_refl _, fun _ _ _ => rfl⟩
theorem Stay.trans {F : Nat → Prop} {a b c : World} (h : Stay F a b) (k : Stay F b c) : Stay F a c :=
  ⟨k.os.trans h.os, k.tape.trans h.tape, k.output.trans h.output, Nat.le_trans h.size k.size, fun i hi hF => (k.block i (Nat.lt_of_lt_of_le hi h.size) hF).trans (h.block i hi hF)⟩
theorem Stay.mono {F G : Nat → Prop} {a b : World} (h : Stay F a b) (hG : ∀ k, k < a.heap.size → F k → G k) : Stay G a b :=
  ⟨h.os, h.tape, h.output, h.size, fun i hi hn => h.block i hi fun hF => hn (hG i hi hF)⟩
/-- .. the second may write what the first has made, too. -/
theorem Stay.andThen {F G : Nat → Prop} {a b c : World} (h : Stay F a b) (k : Stay G b c) (hG : ∀ i, i < a.heap.size → G i → F i) : Stay F a c :=
  ⟨k.os.trans h.os, k.tape.trans h.tape, k.output.trans h.output, Nat.le_trans h.size k.size, fun i hi hF => (k.block i (Nat.lt_of_lt_of_le hi h.size) fun hg => hF (hG i hi hg)).trans (h.block i hi hF)⟩
theorem Stay.below {F : Nat → Prop} {a b : World} (h : Below a.heap.size a b) : Stay F a b := ⟨h.os, h.tape, h.output, h.size, fun i hi _ => h.block i hi⟩
theorem Stay.toBelow {F : Nat → Prop} {a b : World} {B : Nat} (h : Stay F a b) (hF : ∀ k, k < B → ¬ F k) (hB : B ≤ a.heap.size) : Below B a b := ⟨h.os, h.tape, h.output, h.size, fun i hi => h.block i (Nat.lt_of_lt_of_le hi hB) (hF i hi)⟩
theorem Stay.grown {F : Nat → Prop} {a b : World} {r : Option Nat} (h : a.grownBy b r) (hF : ∀ k, r = some k → F k) : Stay F a b := ⟨h.os, h.tape, h.output, h.size, fun i hi hn => h.block i hi fun e => hn (hF i e.symm)⟩
theorem Stay.drew {F : Nat → Prop} {a b : World} (h : Stay F a b) : Stay F a b.drew := ⟨h.os, h.tape, h.output, h.size, h.block⟩
theorem Stay.undrew {F : Nat → Prop} {a b : World} (h : Stay F a.drew b) : Stay F a b := ⟨h.os, h.tape, h.output, h.size, h.block⟩
theorem Stay.alloc {F : Nat → Prop} {a b : World} (h : Stay F a b) (o : Obj) : Stay F a (b.alloc o) := h.trans (.grown (World.grownBy_alloc b o none) (by simp))
theorem Stay.setCell {F : Nat → Prop} {a b : World} (h : Stay F a b) {p : Addr} (hp : p.block < a.heap.size → F p.block) (u : Value) : Stay F a (b.setCell p u) :=
  ⟨h.os, h.tape, h.output, by simpa using h.size, fun i hi hn => (Below.heap_setCell b p u i fun e => hn (e ▸ hp (e ▸ hi))).trans (h.block i hi hn)⟩
theorem Hid.mk {p : Prop} (h : p) : Hid p := h
abbrev Pt (p : Nat) : Value := .pointer (some ⟨p, 0, none⟩)
theorem nm_size (s : ByteArray) : s.data.toList.length = s.size := by simp
theorem strCells_BV (s : ByteArray) : Lib.strCells s = s.data.toList.map BV := rfl
theorem row_kept {F : Nat → Prop} {w w' : World} {B e sz : Nat} {v : Value} {n : Nat} {xs : List Value} (h : w.ownsRow B e sz v n xs) (s : Stay F w w') (hn : ∀ k, v.ownBlock = some k → ¬ F k) : w'.ownsRow B e sz v n xs := by
  rcases h with ⟨h1, h2 | ⟨g, cap, cur, h2, h3, h4, h5⟩⟩
  · exact ⟨h1, .inl h2⟩
  · exact ⟨h1, .inr ⟨g, cap, cur, h2, h3, (s.block g (Array.getElem?_eq_some_iff.1 h4).1 (hn _ (by rw [h2]; rfl))).trans h4, h5⟩⟩
theorem slice_form {w : World} {B e sz : Nat} {v : Value} {n : Nat} {xs : List Value} (h : w.ownsRow B e sz v n xs) : ∃ a cap, v = .slice a n cap ∧ n ≤ cap := by
  rcases h.2 with ⟨rfl, rfl⟩ | ⟨g, cap, cur, rfl, _, _, hc, _⟩
  · exact ⟨none, 0, rfl, Nat.le_refl _⟩
  · exact ⟨_, cap, rfl, hc⟩
theorem row_block {w : World} {B e sz : Nat} {v : Value} {n k : Nat} {xs : List Value} (h : w.ownsRow B e sz v n xs) (hk : v.ownBlock = some k) : ∃ cur, w.heap[k]? = some (.cells cur e (0, 0)) := by
  rcases h.2 with ⟨rfl, _⟩ | ⟨g, cap, cur, rfl, _, hg, _⟩
  · cases hk
  · cases hk; exact ⟨cur, hg⟩
theorem row_lt {w : World} {B e sz : Nat} {v : Value} {n k : Nat} {xs : List Value} (h : w.ownsRow B e sz v n xs) (hk : v.ownBlock = some k) : k < w.heap.size := by
  obtain ⟨cur, hc⟩ := row_block h hk
  exact (Array.getElem?_eq_some_iff.1 hc).1
end Go.Proofs.YtojnlngpgbcimaaDoor
set_option linter.unusedVariables false
set_option linter.unusedSimpArgs false
namespace Go.Proofs.YtojnlngpgbcimaaDoor
open Go.RowKit
/-- How the steps of a kind are written. -/
structure Sh where
  k : Int
  w : ByteArray
  n : Nat
  t : Nat
  o : Bool
def shC (s : Sh) : List Value := [.int .i64 s.k, .string s.w, .int .i64 s.n, .int .i64 s.t, .bool s.o]
def zS : Sh := ⟨0, ⟨#[]⟩, 0, 0, false⟩
/-- The table. -/
def shL : List Sh := [⟨1, ⟨#[99, 114, 101, 97, 116, 101]⟩, 3, 0, false⟩, ⟨2, ⟨#[111, 112, 101, 110]⟩, 0, 0, false⟩, ⟨3, ⟨#[105, 110, 115, 101, 114, 116]⟩, 1, 1, false⟩, ⟨4, ⟨#[100, 101, 108, 101, 116, 101]⟩, 1, 0, false⟩, ⟨5, ⟨#[103, 101, 116]⟩, 1, 0, false⟩, ⟨6, ⟨#[116, 111, 112]⟩, 1, 1, false⟩, ⟨7, ⟨#[114, 97, 100, 105, 117, 115]⟩, 1, 1, false⟩, ⟨8, ⟨#[99, 111, 117, 110, 116]⟩, 0, 0, false⟩, ⟨9, ⟨#[115, 121, 110, 99]⟩, 0, 0, false⟩, ⟨10, ⟨#[99, 111, 109, 112, 97, 99, 116]⟩, 0, 0, false⟩, ⟨11, ⟨#[99, 108, 111, 115, 101]⟩, 0, 0, false⟩, ⟨12, ⟨#[97, 114, 109]⟩, 2, 0, false⟩, ⟨13, ⟨#[99, 114, 97, 115, 104]⟩, 2, 1, true⟩, ⟨14, ⟨#[105, 109, 97, 103, 101]⟩, 0, 0, false⟩, ⟨15, ⟨#[114, 111, 111, 109]⟩, 1, 0, false⟩, ⟨16, ⟨#[105, 110, 115, 112, 101, 99, 116]⟩, 0, 0, false⟩, ⟨17, ⟨#[114, 101, 112, 97, 105, 114]⟩, 0, 0, false⟩, ⟨18, ⟨#[103, 114, 111, 117, 112, 115]⟩, 2, 0, false⟩, ⟨19, ⟨#[106, 111, 105, 110]⟩, 1, 0, false⟩, ⟨20, ⟨#[115, 101, 110, 100]⟩, 1, 0, false⟩, ⟨21, ⟨#[102, 111, 108, 108, 111, 119]⟩, 1, 1, false⟩, ⟨22, ⟨#[97, 115, 107]⟩, 0, 1, false⟩, ⟨23, ⟨#[115, 112, 111, 105, 108]⟩, 2, 1, false⟩]
theorem shL_len : shL.length = 23 := rfl
/-- Of this kind; of this word. -/
def ofK (xs : List Sh) (k : Int) : Option Sh := xs.find? (fun p => p.k == k)
def ofW (xs : List Sh) (w : List UInt8) : Option Sh := xs.find? (fun p => p.w.data.toList == w)
/-- A digit of sixteen. -/
def hexd (n : Nat) : UInt8 := if n < 10 then UInt8.ofNat (48 + n) else UInt8.ofNat (55 + n)
/-- Does a byte stand as it is? -/
def stB (c : UInt8) : Bool := decide (32 < c.toNat) && decide (c.toNat < 127) && decide (c.toNat ≠ 37)
def escB (c : UInt8) : List UInt8 := if stB c = true then [c] else [37, hexd (c.toNat / 16), hexd (c.toNat % 16)]
/-- A text as a word. -/
def escL (l : List UInt8) : List UInt8 := if l = [] then [37] else l.flatMap escB
theorem escB_pos (c : UInt8) : 1 ≤ (escB c).length ∧ (escB c).length ≤ 3 := by
  unfold escB; split <;> simp
theorem escB_len (l : List UInt8) : (l.flatMap escB).length ≤ 3 * l.length := by
  induction l with
  | nil => simp
  | cons c l ih =>
    have := (escB_pos c).2
    rw [List.flatMap_cons, List.length_append, List.length_cons]; omega
theorem escL_len (l : List UInt8) : (escL l).length ≤ 3 * l.length + 1 := by
  unfold escL
  split
  · simp
  · have := escB_len l; omega
/-- Numbers, then texts, a blank ahead of each. -/
def numsL (ns : List Int) : List UInt8 := ns.flatMap (fun n => 32 :: Lib.itoa n)
def txtsL (ts : List ByteArray) : List UInt8 := ts.flatMap (fun t => 32 :: escL t.data.toList)
/-- A step. -/
structure St where
  k : Int
  N : List Int
  S : List ByteArray
  a : Int
  b : Int
  c : Int
/-- The i-th piece of so many of a list. -/
def pieceL {α : Type} (z : α) (l : List α) (i size : Nat) : List α := (List.range size).map (fun j => l.getD (i * size + j) z)
theorem pieceL_len {α : Type} (z : α) (l : List α) (i size : Nat) : (pieceL z l i size).length = size := by simp [pieceL]
def numsF (f : Sh) (s : St) : List Int := if f.k = 1 then [s.a, s.b, s.c] else s.N
def timesF (f : Sh) (s : St) : Nat := if f.o = true then s.S.length else 1
def wordsF (f : Sh) (s : St) (i : Nat) : List UInt8 := numsL (pieceL 0 (numsF f s) i f.n) ++ txtsL (pieceL ⟨#[]⟩ s.S i f.t)
/-- A step's line. -/
def lineF (f : Sh) (s : St) : List UInt8 := f.w.data.toList ++ (List.range (timesF f s)).flatMap (wordsF f s) ++ [10]
/-- A script. -/
def textF (l : List St) : List UInt8 := l.flatMap (fun s => match ofK shL s.k with | some f => lineF f s | none => [])
end Go.Proofs.YtojnlngpgbcimaaDoor
