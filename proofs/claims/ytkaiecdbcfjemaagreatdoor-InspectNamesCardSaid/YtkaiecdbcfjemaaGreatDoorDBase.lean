/-
  DERIVED. A disk in memory: its struct, its map, its files.
-/
import Derived.Test.YtkaiecdbcfjemaaGreatDoorDMath
import Derived.Test.YtkaiecdbcfjemaaGreatDoorSBase
import Derived.Maps.AppendAt
import Derived.Lib.AppendStr
namespace Go.Proofs.YtkaiecdbcfjemaaGreatDoor
open Go.RowKit Go.Maps Go.Proofs.DiskMath
/-- What stays behind a call that may write blocks of F alone. -/
structure Stay (F : Nat → Prop) (w w' : World) : Prop where
  os : w'.os = w.os
  tape : w'.tape = w.tape
  output : w'.output = w.output
  size : w.heap.size ≤ w'.heap.size
  block : ∀ k, k < w.heap.size → ¬ F k → w'.heap[k]? = w.heap[k]?
theorem Stay.refl (F : Nat → Prop) (w : World) : Stay F w w := ⟨rfl, rfl, rfl, Nat.le_refl _, fun _ _ _ => rfl⟩
theorem Stay.trans {F : Nat → Prop} {a b c : World} (h : Stay F a b) (k : Stay F b c) : Stay F a c :=
  ⟨k.os.trans h.os, k.tape.trans h.tape, k.output.trans h.output, Nat.le_trans h.size k.size, fun i hi hF => (k.block i (Nat.lt_of_lt_of_le hi h.size) hF).trans (h.block i hi hF)⟩
theorem Stay.mono {F G : Nat → Prop} {a b : World} (h : Stay F a b) (hG : ∀ k, k < a.heap.size → F k → G k) : Stay G a b :=
  ⟨h.os, h.tape, h.output, h.size, fun i hi hn => h.block i hi fun hF => hn (hG i hi hF)⟩
/-- .. the second may write what the first has made, too. -/
theorem Stay.andThen {F G : Nat → Prop} {a b c : World} (h : Stay F a b) (k : Stay G b c) (hG : ∀ i, i < a.heap.size → G i → F i) : Stay F a c :=
  ⟨k.os.trans h.os, k.tape.trans h.tape, k.output.trans h.output, Nat.le_trans h.size k.size, fun i hi hF => (k.block i (Nat.lt_of_lt_of_le hi h.size) fun hg => hF (hG i hi hg)).trans (h.block i hi hF)⟩
theorem Stay.below {F : Nat → Prop} {a b : World} (h : Below a.heap.size a b) : Stay F a b := ⟨h.os, h.tape, h.output, h.size, fun i hi _ => h.block i hi⟩
theorem Stay.toBelow {F : Nat → Prop} {a b : World} {B : Nat} (h : Stay F a b) (hF : ∀ k, k < B → ¬ F k) (hB : B ≤ a.heap.size) : Below B a b := ⟨h.os, h.tape, h.output, h.size, fun i hi => h.block i (Nat.lt_of_lt_of_le hi hB) (hF i hi)⟩
theorem Stay.grown {F : Nat → Prop} {a b : World} {r : Option Nat} (h : a.grownBy b r) (hF : ∀ k, r = some k → F k) : Stay F a b := ⟨h.os, h.tape, h.output, h.size, fun i hi hn => h.block i hi fun e => hn (hF i e.symm)⟩
theorem Stay.drew {F : Nat → Prop} {a b : World} (h : Stay F a b) : Stay F a b.drew := ⟨h.os, h.tape, h.output, h.size, h.block⟩
theorem Stay.undrew {F : Nat → Prop} {a b : World} (h : Stay F a.drew b) : Stay F a b := ⟨h.os, h.tape, h.output, h.size, h.block⟩
theorem Stay.alloc {F : Nat → Prop} {a b : World} (h : Stay F a b) (o : Obj) : Stay F a (b.alloc o) := h.trans (.grown (World.grownBy_alloc b o none) (by simp))
theorem Stay.setCell {F : Nat → Prop} {a b : World} (h : Stay F a b) {p : Addr} (hp : p.block < a.heap.size → F p.block) (u : Value) : Stay F a (b.setCell p u) :=
  ⟨h.os, h.tape, h.output, by simpa using h.size, fun i hi hn => (Below.heap_setCell b p u i fun e => hn (e ▸ hp (e ▸ hi))).trans (h.block i hi hn)⟩
/-- How an element of the map reads: a pointer to a file is its block's number. -/
def ptrE : Value → Option (DataW Unit × List MemPlace)
  | .pointer none => some (.nil, [])
  | .pointer (some a) => if a.off = 0 ∧ a.spot = none then some (.lit (.int .i64 a.block), []) else none
  | _ => none
theorem ptrE_mk (b : Nat) : ptrE (.pointer (some ⟨b, 0, none⟩)) = some (.lit (.int .i64 b), []) := by simp [ptrE]
theorem ptrE_inv {v : Value} {y : DataW Unit × List MemPlace} (h : ptrE v = some y) : ∃ a : Option Addr, v = .pointer a := by
  cases v <;> simp [ptrE] at h
  exact ⟨_, rfl⟩
theorem ptrE_block {v : Value} {b : Nat} {ps : List MemPlace} (h : ptrE v = some (.lit (.int .i64 b), ps)) : v = .pointer (some ⟨b, 0, none⟩) := by
  cases v <;> try (simp [ptrE] at h; done)
  rename_i a
  cases a with
  | none => simp [ptrE] at h
  | some a =>
    simp only [ptrE] at h
    split at h
    · rename_i hc
      obtain ⟨bk, off, sp⟩ := a
      simp at hc h
      obtain ⟨rfl, rfl⟩ := hc
      simp
    · cases h
theorem ptrE_nil {v : Value} {ps : List MemPlace} (h : ptrE v = some (.nil, ps)) : v = .pointer none := by
  cases v <;> try (simp [ptrE] at h; done)
  rename_i a
  cases a with
  | none => rfl
  | some a =>
    simp only [ptrE] at h
    split at h
    · simp at h
    · cases h
theorem law9 : Keyed Tryz.prog 9 := string_keyed Tryz.underlying9
theorem zeroP (w : World) : (zeroValue 132).run Tryz.prog w = .ok (.pointer none) w := by kernel_rfl
/-- A file. -/
structure FileAt (w : World) (e : Ent) : Prop where
  cells : w.heap[e.fb]? = some (.cells #[e.v, .int .i64 e.du] 137 (0, 0))
  row : w.ownsRow 0 5 1 e.v e.da.length (e.da.map BV)
  du : e.du ≤ e.da.length
  da : e.da.length ≤ 268435456
/-- The blocks of a file. -/
def foot (e : Ent) (k : Nat) : Prop := k = e.fb ∨ e.v.ownBlock = some k
/-- The numbers of a disk: its capacity; the power is off; what is armed; the age, the writes. -/
structure Ctl where
  cap : Nat
  off : Bool
  left : Nat
  dn : Bool
  age : Int
  wr : Int
/-- What can be a name. -/
def nameB (c : UInt8) : Bool := (97 ≤ c.toNat && c.toNat ≤ 122) || (48 ≤ c.toNat && c.toNat ≤ 57) || c.toNat == 46
def isNm (n : List UInt8) : Bool := 1 ≤ n.length && n.length ≤ 32 && n.all nameB
/-- A disk: its struct's block, its map's, its files, its numbers. -/
structure DK (w : World) (p mb : Nat) (es : List Ent) (c : Ctl) : Prop where
  hp : w.heap[p]? = some (.cells #[.map (some mb), .int .i64 c.cap, .int .i64 (used es), .bool c.off, .int .i64 c.left, .bool c.dn, .int .i64 c.age, .int .i64 c.wr] 38 (0, 0))
  hm : w.ownsMap Tryz.prog 9 ptrE mb es.length (dmap es)
  hf : ∀ e ∈ es, FileAt w e
  sep : es.Pairwise fun a b => a.fb ≠ b.fb ∧ ∀ k, a.v.ownBlock = some k → b.v.ownBlock ≠ some k
  srt : Srt es
  nms : ∀ e ∈ es, isNm e.nm = true
  many : es.length ≤ 4096
  full : used es ≤ c.cap
  cap : c.cap ≤ 1073741824
  left : c.left < 9223372036854775808
  age : (Lit.int .i64 c.age).wf = true
  wr : (Lit.int .i64 c.wr).wf = true
/-- The blocks of a disk. -/
def Foot (p mb : Nat) (es : List Ent) (k : Nat) : Prop := k = p ∨ k = mb ∨ ∃ e ∈ es, foot e k
theorem DK.lt {w : World} {p mb : Nat} {es : List Ent} {c : Ctl} (h : DK w p mb es c) {k : Nat} (hk : Foot p mb es k) : k < w.heap.size := by
  rcases hk with rfl | rfl | ⟨e, he, rfl | hk⟩
  · exact (Array.getElem?_eq_some_iff.1 h.hp).1
  · exact h.hm.lt
  · exact (Array.getElem?_eq_some_iff.1 (h.hf e he).cells).1
  · exact ((h.hf e he).row.lt k hk).2
theorem FileAt.kept {w w' : World} {e : Ent} {F : Nat → Prop} (h : FileAt w e) (s : Stay F w w') (hn : ∀ k, foot e k → ¬ F k) : FileAt w' e := by
  refine ⟨(s.block _ (Array.getElem?_eq_some_iff.1 h.cells).1 (hn _ (.inl rfl))).trans h.cells, ?_, h.du, h.da⟩
  rcases h.row with ⟨h1, h2 | ⟨g, cap, cur, h2, h3, h4, h5⟩⟩
  · exact ⟨h1, .inl h2⟩
  · exact ⟨h1, .inr ⟨g, cap, cur, h2, h3, (s.block g (Array.getElem?_eq_some_iff.1 h4).1 (hn _ (.inr (by rw [h2]; rfl)))).trans h4, h5⟩⟩
theorem map_kept {w w' : World} {mb n : Nat} {D : DataW Unit} {F : Nat → Prop} (h : w.ownsMap Tryz.prog 9 ptrE mb n D) (s : Stay F w w') (hn : ¬ F mb) : w'.ownsMap Tryz.prog 9 ptrE mb n D := by
  have hlt := h.lt
  obtain ⟨es, cl, hb, r⟩ := h
  exact ⟨es, cl, (s.block mb hlt hn).trans hb, r⟩
/-- The disk is as it was, while other blocks are written. -/
theorem DK.kept {w w' : World} {p mb : Nat} {es : List Ent} {c : Ctl} {F : Nat → Prop} (h : DK w p mb es c) (s : Stay F w w') (hn : ∀ k, Foot p mb es k → ¬ F k) : DK w' p mb es c :=
  { h with
    hp := (s.block p (h.lt (.inl rfl)) (hn p (.inl rfl))).trans h.hp
    hm := map_kept h.hm s (hn mb (.inr (.inl rfl)))
    hf := fun e he => (h.hf e he).kept s fun k hk => hn k (.inr (.inr ⟨e, he, hk⟩)) }
theorem DK.below {w w' : World} {p mb : Nat} {es : List Ent} {c : Ctl} (h : DK w p mb es c) (b : Below w.heap.size w w') : DK w' p mb es c :=
  h.kept (F := fun _ => False) (.below b) (fun _ _ hf => hf)
theorem DK.cell {w : World} {p mb : Nat} {es : List Ent} {c : Ctl} (h : DK w p mb es c) :
    w.cell? ⟨p, 0, none⟩ = some (.map (some mb)) ∧ w.cell? ⟨p, 1, none⟩ = some (.int .i64 c.cap) ∧ w.cell? ⟨p, 2, none⟩ = some (.int .i64 (used es)) ∧ w.cell? ⟨p, 3, none⟩ = some (.bool c.off) ∧ w.cell? ⟨p, 4, none⟩ = some (.int .i64 c.left) ∧
    w.cell? ⟨p, 5, none⟩ = some (.bool c.dn) ∧ w.cell? ⟨p, 6, none⟩ = some (.int .i64 c.age) ∧ w.cell? ⟨p, 7, none⟩ = some (.int .i64 c.wr) := by
  have := h.hp
  refine ⟨?_, ?_, ?_, ?_, ?_, ?_, ?_, ?_⟩ <;> simp [World.cell?, this]
theorem DK.frz {w : World} {p mb : Nat} {es : List Ent} {c : Ctl} (h : DK w p mb es c) (k : Nat) : w.frozen? ⟨p, k, none⟩ = false := by
  simp [World.frozen?, h.hp]
theorem FileAt.cell {w : World} {e : Ent} (h : FileAt w e) : w.cell? ⟨e.fb, 0, none⟩ = some e.v ∧ w.cell? ⟨e.fb, 1, none⟩ = some (.int .i64 e.du) := by
  have := h.cells
  refine ⟨?_, ?_⟩ <;> simp [World.cell?, this]
theorem FileAt.frz {w : World} {e : Ent} (h : FileAt w e) (k : Nat) : w.frozen? ⟨e.fb, k, none⟩ = false := by
  simp [World.frozen?, h.cells]
/-- The look into the map. -/
def ptrOf (es : List Ent) (n : List UInt8) : Value := match findE es n with | some e => .pointer (some ⟨e.fb, 0, none⟩) | none => .pointer none
theorem DK.look {w : World} {p mb : Nat} {es : List Ent} {c : Ctl} (h : DK w p mb es c) (s : ByteArray) (hs : s.size ≤ maxLen) :
    (Instr.lookup 36 (.map (some mb)) (.string s) false).run Tryz.prog w = .ok (ptrOf es s.data.toList) w := by
  obtain ⟨v, ps, hr, hv⟩ := h.hm.lookup law9 Tryz.underlying36 (zeroP w) (zd := .nil) (zp := []) rfl (Go.WideMaps.keyOf_string_mk Tryz.underlying9 hs)
  rw [hr]
  rw [dmap_at] at hv
  unfold ptrOf
  cases hf : findE es s.data.toList with
  | none => rw [hf] at hv; rw [ptrE_nil hv]
  | some e => rw [hf] at hv; rw [ptrE_block hv]
end Go.Proofs.YtkaiecdbcfjemaaGreatDoor
