/-
  DERIVED. DBase, DName, DWrite, as one text.
-/
import Derived.Test.YtfijjlkhgelmoaaGreatDoorTzAA
import Derived.Maps.AppendAt
import Derived.Lib.AppendStr
namespace Go.Proofs.YtfijjlkhgelmoaaGreatDoor.Dk
open Go.RowKit Go.Maps Go.Proofs.DiskMath
/-- How an element of the map reads: a pointer to a file is its block's number. -/
def ptrE : Value → Option (DataW Unit × List MemPlace)
  | .pointer none => some (.nil, [])
  | .pointer (some a) => if a.off = 0 ∧ a.spot = none then some (.lit (.int .i64 a.block), []) else none
  | _ => none
theorem ptrE_mk (b : Nat) : ptrE (.pointer (some ⟨b, 0, none⟩)) = some (.lit (.int .i64 b), []) := by simp [ptrE]
theorem ptrE_inv {v : Value} {y : DataW Unit × List MemPlace} (h : ptrE v = some y) : ∃ a : Option Addr, v = .pointer a := by
  cases v <;> simp [ptrE] at h
  exact ⟨_, rfl⟩
theorem ptrE_block {v : Value} {b : Nat} {ps : List MemPlace} (h : ptrE v = some (.lit (.int .i64 b), ps)) : v = .pointer (some ⟨b, 0, none⟩) := by
  cases v <;> try (simp [ptrE] at h; done)
  rename_i a
  cases a with
  | none => simp [ptrE] at h
  | some a =>
    simp only [ptrE] at h
    split at h
    · rename_i hc
      obtain ⟨bk, off, sp⟩ := a
      simp at hc h
      obtain ⟨rfl, rfl⟩ := hc
      simp
    · cases h
theorem ptrE_nil {v : Value} {ps : List MemPlace} (h : ptrE v = some (.nil, ps)) : v = .pointer none := by
  cases v <;> try (simp [ptrE] at h; done)
  rename_i a
  cases a with
  | none => rfl
  | some a =>
    simp only [ptrE] at h
    split at h
    · simp at h
    · cases h
theorem law9 : Keyed Tryz.prog 9 := string_keyed Tryz.underlying9
theorem zeroP (w : World) : (zeroValue 53).run Tryz.prog w = .ok (.pointer none) w := by kernel_rfl
/-- A file. -/
structure FileAt (w : World) (e : Ent) : Prop where
  cells : w.heap[e.fb]? = some (.cells #[e.v, .int .i64 e.du] 57 (0, 0))
  row : w.ownsRow 0 5 1 e.v e.da.length (e.da.map BV)
  du : e.du ≤ e.da.length
  da : e.da.length ≤ 268435456
/-- The blocks of a file. -/
def foot (e : Ent) (k : Nat) : Prop := k = e.fb ∨ e.v.ownBlock = some k
/-- The numbers of a disk: its capacity; the power is off; what is armed; the age, the writes. -/
structure Ctl where
  cap : Nat
  off : Bool
  left : Nat
  dn : Bool
  age : Int
  wr : Int
/-- What can be a name. -/
def nameB (c : UInt8) : Bool := (97 ≤ c.toNat && c.toNat ≤ 122) || (48 ≤ c.toNat && c.toNat ≤ 57) || c.toNat == 46
def isNm (n : List UInt8) : Bool := 1 ≤ n.length && n.length ≤ 32 && n.all nameB
/-- A disk: its struct's block, its map's, its files, its numbers. -/
structure DK (w : World) (p mb : Nat) (es : List Ent) (c : Ctl) : Prop where
  hp : w.heap[p]? = some (.cells #[.map (some mb), .int .i64 c.cap, .int .i64 (used es), .bool c.off, .int .i64 c.left, .bool c.dn, .int .i64 c.age, .int .i64 c.wr] 52 (0, 0))
  hm : w.ownsMap Tryz.prog 9 ptrE mb es.length (dmap es)
  hf : ∀ e ∈ es, FileAt w e
  sep : es.Pairwise fun a b => a.fb ≠ b.fb ∧ ∀ k, a.v.ownBlock = some k → b.v.ownBlock ≠ some k
  srt : Srt es
  nms : ∀ e ∈ es, isNm e.nm = true
  many : es.length ≤ 4096
  full : used es ≤ c.cap
  cap : c.cap ≤ 1073741824
  left : c.left < 9223372036854775808
  age : (Lit.int .i64 c.age).wf = true
  wr : (Lit.int .i64 c.wr).wf = true
/-- The blocks of a disk. -/
def Foot (p mb : Nat) (es : List Ent) (k : Nat) : Prop := k = p ∨ k = mb ∨ ∃ e ∈ es, foot e k
theorem DK.lt {w : World} {p mb : Nat} {es : List Ent} {c : Ctl} (h : DK w p mb es c) {k : Nat} (hk : Foot p mb es k) : k < w.heap.size := by
  rcases hk with rfl | rfl | ⟨e, he, rfl | hk⟩
  · exact (Array.getElem?_eq_some_iff.1 h.hp).1
  · exact h.hm.lt
  · exact (Array.getElem?_eq_some_iff.1 (h.hf e he).cells).1
  · exact ((h.hf e he).row.lt k hk).2
theorem FileAt.kept {w w' : World} {e : Ent} {F : Nat → Prop} (h : FileAt w e) (s : Stay F w w') (hn : ∀ k, foot e k → ¬ F k) : FileAt w' e := by
  refine ⟨(s.block _ (Array.getElem?_eq_some_iff.1 h.cells).1 (hn _ (.inl rfl))).trans h.cells, ?_, h.du, h.da⟩
  rcases h.row with ⟨h1, h2 | ⟨g, cap, cur, h2, h3, h4, h5⟩⟩
  · exact ⟨h1, .inl h2⟩
  · exact ⟨h1, .inr ⟨g, cap, cur, h2, h3, (s.block g (Array.getElem?_eq_some_iff.1 h4).1 (hn _ (.inr (by rw [h2]; rfl)))).trans h4, h5⟩⟩
theorem map_kept {w w' : World} {mb n : Nat} {D : DataW Unit} {F : Nat → Prop} (h : w.ownsMap Tryz.prog 9 ptrE mb n D) (s : Stay F w w') (hn : ¬ F mb) : w'.ownsMap Tryz.prog 9 ptrE mb n D := by
  have hlt := h.lt
  obtain ⟨es, cl, hb, r⟩ := h
  exact ⟨es, cl, (s.block mb hlt hn).trans hb, r⟩
/-- The disk is as it was, while other blocks are written. -/
theorem DK.kept {w w' : World} {p mb : Nat} {es : List Ent} {c : Ctl} {F : Nat → Prop} (h : DK w p mb es c) (s : Stay F w w') (hn : ∀ k, Foot p mb es k → ¬ F k) : DK w' p mb es c :=
  { h with
    hp := (s.block p (h.lt (.inl rfl)) (hn p (.inl rfl))).trans h.hp
    hm := map_kept h.hm s (hn mb (.inr (.inl rfl)))
    hf := fun e he => (h.hf e he).kept s fun k hk => hn k (.inr (.inr ⟨e, he, hk⟩)) }
theorem DK.below {w w' : World} {p mb : Nat} {es : List Ent} {c : Ctl} (h : DK w p mb es c) (b : Below w.heap.size w w') : DK w' p mb es c :=
  h.kept (F := fun _ => False) (.below b) (fun _ _ hf => hf)
theorem DK.cell {w : World} {p mb : Nat} {es : List Ent} {c : Ctl} (h : DK w p mb es c) :
    w.cell? ⟨p, 0, none⟩ = some (.map (some mb)) ∧ w.cell? ⟨p, 1, none⟩ = some (.int .i64 c.cap) ∧ w.cell? ⟨p, 2, none⟩ = some (.int .i64 (used es)) ∧ w.cell? ⟨p, 3, none⟩ = some (.bool c.off) ∧ w.cell? ⟨p, 4, none⟩ = some (.int .i64 c.left) ∧
    w.cell? ⟨p, 5, none⟩ = some (.bool c.dn) ∧ w.cell? ⟨p, 6, none⟩ = some (.int .i64 c.age) ∧ w.cell? ⟨p, 7, none⟩ = some (.int .i64 c.wr) := by
  have := h.hp
  refine ⟨?_, ?_, ?_, ?_, ?_, ?_, ?_, ?_⟩ <;> simp [World.cell?, this]
theorem DK.frz {w : World} {p mb : Nat} {es : List Ent} {c : Ctl} (h : DK w p mb es c) (k : Nat) : w.frozen? ⟨p, k, none⟩ = false := by
  simp [World.frozen?, h.hp]
theorem FileAt.cell {w : World} {e : Ent} (h : FileAt w e) : w.cell? ⟨e.fb, 0, none⟩ = some e.v ∧ w.cell? ⟨e.fb, 1, none⟩ = some (.int .i64 e.du) := by
  have := h.cells
  refine ⟨?_, ?_⟩ <;> simp [World.cell?, this]
theorem FileAt.frz {w : World} {e : Ent} (h : FileAt w e) (k : Nat) : w.frozen? ⟨e.fb, k, none⟩ = false := by
  simp [World.frozen?, h.cells]
/-- The look into the map. -/
def ptrOf (es : List Ent) (n : List UInt8) : Value := match findE es n with | some e => .pointer (some ⟨e.fb, 0, none⟩) | none => .pointer none
theorem DK.look {w : World} {p mb : Nat} {es : List Ent} {c : Ctl} (h : DK w p mb es c) (s : ByteArray) (hs : s.size ≤ maxLen) :
    (Instr.lookup 50 (.map (some mb)) (.string s) false).run Tryz.prog w = .ok (ptrOf es s.data.toList) w := by
  obtain ⟨v, ps, hr, hv⟩ := h.hm.lookup law9 Tryz.underlying50 (zeroP w) (zd := .nil) (zp := []) rfl (Go.WideMaps.keyOf_string_mk Tryz.underlying9 hs)
  rw [hr]
  rw [dmap_at] at hv
  unfold ptrOf
  cases hf : findE es s.data.toList with
  | none => rw [hf] at hv; rw [ptrE_nil hv]
  | some e => rw [hf] at hv; rw [ptrE_block hv]
end Go.Proofs.YtfijjlkhgelmoaaGreatDoor.Dk
namespace Go.Proofs.YtfijjlkhgelmoaaGreatDoor.Dk
open Go.RowKit Go.Maps Go.Proofs.DiskMath
theorem nameB_iff (c : UInt8) : nameB c = true ↔ ((97 ≤ c.toNat ∧ c.toNat ≤ 122) ∨ (48 ≤ c.toNat ∧ c.toNat ≤ 57) ∨ c.toNat = 46) := by
  unfold nameB
  simp [or_assoc]
theorem at_list (s : ByteArray) (k : Nat) (h : k < s.size) : s.data.toList[k]? = some s[k] := by
  rw [Array.getElem?_toList, Array.getElem?_eq_getElem h]; rfl
theorem all_take (s : ByteArray) (k : Nat) (h : k < s.size) (hc : nameB s[k] = true) (ha : (s.data.toList.take k).all nameB = true) : (s.data.toList.take (k + 1)).all nameB = true := by
  have h' : k < s.data.toList.length := by simpa using h
  rw [List.take_succ_eq_append_getElem h', List.all_append, ha, Bool.true_and]
  have : s.data.toList[k] = s[k] := by
    have := at_list s k h
    rw [List.getElem?_eq_getElem h'] at this
    exact Option.some.inj this
  rw [this]; simp [hc]
theorem all_not (s : ByteArray) (k : Nat) (h : k < s.size) (hc : ¬ nameB s[k] = true) : s.data.toList.all nameB = false := by
  rw [List.all_eq_false]
  exact ⟨s[k], List.mem_of_getElem? (at_list s k h), hc⟩
set_option maxHeartbeats 4000000 in
set_option maxRecDepth 100000 in
theorem isName_any (s : ByteArray) (w : World) :
    Calls Tryz.prog 51 #[.string s] w fun e w' => e = .returned (.bool (isNm s.data.toList)) ∧ w' = w := by
  by_cases hsz : 1 ≤ s.size ∧ s.size ≤ 32
  · have hno : ¬ (((s.size : Nat) : Int) < 1 ∨ 32 < ((s.size : Nat) : Int)) := by omega
    have e0 : isNm s.data.toList = s.data.toList.all nameB := by unfold isNm; rw [nm_size]; simp [hsz.1, hsz.2]
    rw [e0]
    obtain ⟨r, hr⟩ : ∃ r, r = s.data.toList.all nameB := ⟨_, rfl⟩
    rw [← hr]
    have HR : Hid (r = s.data.toList.all nameB) := hr
    clear hr e0
    go_enter Tryz.func51, Tryz.ntmps51
    go_wp2
    go_loopw [15] (fun v wr => ∃ i : Nat, v = .int .i64 i ∧ i ≤ s.size ∧ Hid ((s.data.toList.take i).all nameB = true) ∧ wr = w) (fun v _ => s.size - (intOf v).toNat)
    case atStart => exact ⟨0, rfl, Nat.zero_le _, rfl, rfl⟩
    case round =>
      obtain ⟨i, rfl, hi, HA, rfl⟩ := hrel
      by_cases hlt : i < s.size
      · have hn := nameB_iff s[i]
        have HT := fun h => all_take s i hlt h HA.out
        have HF := all_not s i hlt
        by_cases hb : nameB s[i] = true
        · have HT' : Hid ((s.data.toList.take (i + 1)).all nameB = true) := HT hb
          have HB := hn.1 hb
          clear HT HF hn hb HA
          go_wp2
          all_goals first
            | (exfalso; omega)
            | (exfalso; simp only [bne_eq_false_iff_eq] at *; omega)
            | (refine ⟨⟨i + 1, rfl, hlt, HT', trivial⟩, ?_⟩; simp only [intOf]; omega)
        · have HF' : Hid (r = false) := HR.out.trans (HF hb)
          have HB : ¬ ((97 ≤ s[i].toNat ∧ s[i].toNat ≤ 122) ∨ (48 ≤ s[i].toNat ∧ s[i].toNat ≤ 57) ∨ s[i].toNat = 46) := fun h => hb (hn.2 h)
          clear HT HF hn hb HA
          go_wp2
          all_goals first
            | (exfalso; omega)
            | (exfalso; simp only [bne_eq_false_iff_eq, bne_iff_ne, ne_eq] at *; omega)
            | (go_ret; exact ⟨ret_bool HF'.out.symm, rfl⟩)
      · have e : i = s.size := by omega
        subst e
        have HF' : Hid (r = true) := by
          have := HA.out; rw [List.take_of_length_le (by simp)] at this; exact HR.out.trans this
        go_wp2
        go_ret
        exact ⟨ret_bool HF'.out.symm, rfl⟩
  · have hno : ((s.size : Nat) : Int) < 1 ∨ 32 < ((s.size : Nat) : Int) := by omega
    have e0 : isNm s.data.toList = false := by unfold isNm; rw [nm_size]; simp; omega
    rw [e0]
    go_enter Tryz.func51, Tryz.ntmps51
    go_wp2
    all_goals first
      | (exfalso; omega)
      | (go_ret; exact ⟨rfl, rfl⟩)
theorem map_nil (w : World) (b : Nat) : (binOp BinOp.eql 50 (.map (some b)) (.map none)).run Tryz.prog w = .ok (.bool false) w := by kernel_rfl
set_option maxHeartbeats 4000000 in
set_option maxRecDepth 100000 in
theorem self_any {p mb : Nat} {es : List Ent} {c : Ctl} (w : World) (h : DK w p mb es c) :
    Calls Tryz.prog 39 #[Pt p] w fun e w' => e = .returned (Pt p) ∧ w' = w := by
  obtain ⟨h0, _⟩ := h.cell
  have hq := map_nil w mb
  go_enter Tryz.func39, Tryz.ntmps39
  go_wp2
  go_ret
  exact ⟨rfl, rfl⟩
set_option maxHeartbeats 4000000 in
theorem down_any {p mb : Nat} {es : List Ent} {c : Ctl} (w : World) (h : DK w p mb es c) :
    Calls Tryz.prog 50 #[Pt p] w fun e w' => e = .returned (.bool c.off) ∧ w' = w := by
  obtain ⟨h0, h1, h2, h3, h4, h5, h6, h7⟩ := h.cell
  go_enter Tryz.func50, Tryz.ntmps50
  go_wp2_with fail
  refine (self_any w h).mono ?_
  rintro e w' ⟨rfl, rfl⟩
  go_wp2
  go_ret
  exact ⟨rfl, rfl⟩
set_option maxHeartbeats 4000000 in
set_option maxHeartbeats 4000000 in
theorem writes_any {p mb : Nat} {es : List Ent} {c : Ctl} (w : World) (h : DK w p mb es c) :
    Calls Tryz.prog 16 #[Pt p] w fun e w' => e = .returned (.int .i64 c.wr) ∧ w' = w := by
  obtain ⟨h0, h1, h2, h3, h4, h5, h6, h7⟩ := h.cell
  go_enter Tryz.func16, Tryz.ntmps16
  go_wp2_with fail
  refine (self_any w h).mono ?_
  rintro e w' ⟨rfl, rfl⟩
  go_wp2
  go_ret
  exact ⟨rfl, rfl⟩
/-- What check answers. -/
def ckE (c : Ctl) (n : List UInt8) : Int := if c.off then 45 else if isNm n then 0 else 40
set_option maxHeartbeats 4000000 in
set_option maxRecDepth 100000 in
theorem check_any {p mb : Nat} {es : List Ent} {c : Ctl} (s : ByteArray) (w : World) (h : DK w p mb es c) :
    Calls Tryz.prog 20 #[Pt p, .string s] w fun e w' => e = .returned (.int .i64 (ckE c s.data.toList)) ∧ w' = w := by
  have hd := down_any w h
  cases ho : c.off
  · rw [ho] at hd
    cases hn : isNm s.data.toList
    · rw [show ckE c s.data.toList = 40 by simp [ckE, ho, hn]]
      have hi := isName_any s w
      rw [hn] at hi
      go_enter Tryz.func20, Tryz.ntmps20
      go_wp2_with fail
      refine hd.mono ?_
      rintro e w' ⟨rfl, rfl⟩
      go_wp2_with fail
      refine hi.mono ?_
      rintro e w'' ⟨rfl, rfl⟩
      go_wp2
      go_ret
      exact ⟨rfl, rfl⟩
    · rw [show ckE c s.data.toList = 0 by simp [ckE, ho, hn]]
      have hi := isName_any s w
      rw [hn] at hi
      go_enter Tryz.func20, Tryz.ntmps20
      go_wp2_with fail
      refine hd.mono ?_
      rintro e w' ⟨rfl, rfl⟩
      go_wp2_with fail
      refine hi.mono ?_
      rintro e w'' ⟨rfl, rfl⟩
      go_wp2
      go_ret
      exact ⟨rfl, rfl⟩
  · rw [ho] at hd
    rw [show ckE c s.data.toList = 45 by simp [ckE, ho]]
    go_enter Tryz.func20, Tryz.ntmps20
    go_wp2_with fail
    refine hd.mono ?_
    rintro e w' ⟨rfl, rfl⟩
    go_wp2
    go_ret
    exact ⟨rfl, rfl⟩
/-- What find answers. -/
def fdE (es : List Ent) (c : Ctl) (n : List UInt8) : Int := if ckE c n = 0 then (match findE es n with | some _ => 0 | none => 42) else ckE c n
def fdP (es : List Ent) (c : Ctl) (n : List UInt8) : Value := if ckE c n = 0 then ptrOf es n else .pointer none
theorem ck_size {c : Ctl} {s : ByteArray} (hc : ckE c s.data.toList = 0) : c.off = false ∧ isNm s.data.toList = true ∧ s.size ≤ 32 := by
  unfold ckE at hc
  split at hc
  · omega
  · rename_i ho
    split at hc
    · rename_i hn
      have hn' := hn
      unfold isNm at hn
      rw [nm_size] at hn
      simp at hn
      exact ⟨by simpa using ho, hn', by omega⟩
    · omega
set_option maxHeartbeats 4000000 in
set_option maxRecDepth 100000 in
theorem find_any {p mb : Nat} {es : List Ent} {c : Ctl} (s : ByteArray) (w : World) (h : DK w p mb es c) :
    Calls Tryz.prog 29 #[Pt p, .string s] w fun e w' => e = .returned (.tuple #[fdP es c s.data.toList, .int .i64 (fdE es c s.data.toList)]) ∧ w' = w := by
  obtain ⟨h0, _⟩ := h.cell
  have hk := check_any s w h
  by_cases hc : ckE c s.data.toList = 0
  · have hl := h.look s (by have := (ck_size hc).2.2; unfold maxLen; omega)
    rw [hc] at hk
    cases hf : findE es s.data.toList with
    | none =>
      rw [show fdP es c s.data.toList = .pointer none by simp [fdP, hc, ptrOf, hf], show fdE es c s.data.toList = 42 by simp [fdE, hc, hf]]
      rw [show ptrOf es s.data.toList = .pointer none by simp [ptrOf, hf]] at hl
      go_enter Tryz.func29, Tryz.ntmps29
      go_wp2_with fail
      refine hk.mono ?_
      rintro e w' ⟨rfl, rfl⟩
      go_wp2
      go_ret2
      exact ⟨rfl, rfl⟩
    | some e =>
      rw [show fdP es c s.data.toList = Pt e.fb by simp [fdP, hc, ptrOf, hf], show fdE es c s.data.toList = 0 by simp [fdE, hc, hf]]
      rw [show ptrOf es s.data.toList = Pt e.fb by simp [ptrOf, hf]] at hl
      go_enter Tryz.func29, Tryz.ntmps29
      go_wp2_with fail
      refine hk.mono ?_
      rintro e w' ⟨rfl, rfl⟩
      go_wp2
      go_ret2
      exact ⟨rfl, rfl⟩
  · rw [show fdP es c s.data.toList = .pointer none by simp [fdP, hc], show fdE es c s.data.toList = ckE c s.data.toList by simp [fdE, hc]]
    generalize ckE c s.data.toList = x at *
    go_enter Tryz.func29, Tryz.ntmps29
    go_wp2_with fail
    refine hk.mono ?_
    rintro e w' ⟨rfl, rfl⟩
    go_wp2
    go_ret2
    exact ⟨rfl, rfl⟩
end Go.Proofs.YtfijjlkhgelmoaaGreatDoor.Dk
namespace Go.Proofs.YtfijjlkhgelmoaaGreatDoor.Dk
open Go.RowKit Go.Maps Go.Proofs.DiskMath
theorem map_block {w : World} {mb n : Nat} {D : DataW Unit} (h : w.ownsMap Tryz.prog 9 ptrE mb n D) : ∃ es cl, w.heap[mb]? = some (.map es cl) := by
  obtain ⟨es, cl, hb, _⟩ := h; exact ⟨es, cl, hb⟩
theorem DK.p_mb {w : World} {p mb : Nat} {es : List Ent} {c : Ctl} (h : DK w p mb es c) : mb ≠ p := fun e => by
  obtain ⟨a, b, hb⟩ := map_block h.hm
  rw [e, h.hp] at hb; cases hb
theorem DK.p_foot {w : World} {p mb : Nat} {es : List Ent} {c : Ctl} (h : DK w p mb es c) {e : Ent} (he : e ∈ es) : ¬ foot e p := by
  rintro (hk | hk)
  · have := (h.hf e he).cells; rw [← hk, h.hp] at this; simp at this
  · obtain ⟨cur, hb⟩ := row_block (h.hf e he).row hk
    rw [h.hp] at hb; cases hb
theorem DK.mb_foot {w : World} {p mb : Nat} {es : List Ent} {c : Ctl} (h : DK w p mb es c) {e : Ent} (he : e ∈ es) : ¬ foot e mb := by
  obtain ⟨a, b, hm⟩ := map_block h.hm
  rintro (hk | hk)
  · have := (h.hf e he).cells; rw [← hk, hm] at this; cases this
  · obtain ⟨cur, hb⟩ := row_block (h.hf e he).row hk
    rw [hm] at hb; cases hb
/-- The disk with other numbers. -/
theorem DK.set {w W : World} {p mb : Nat} {es : List Ent} {c : Ctl} (h : DK w p mb es c) (s : Stay (· = p) w W) (c' : Ctl) (hcap : c'.cap = c.cap) (hl : c'.left < 9223372036854775808) (ha : (Lit.int .i64 c'.age).wf = true) (hw : (Lit.int .i64 c'.wr).wf = true)
    (hp : W.heap[p]? = some (.cells #[.map (some mb), .int .i64 c'.cap, .int .i64 (used es), .bool c'.off, .int .i64 c'.left, .bool c'.dn, .int .i64 c'.age, .int .i64 c'.wr] 52 (0, 0))) : DK W p mb es c' :=
  { h with
    hp := hp
    hm := map_kept h.hm s h.p_mb
    hf := fun e he => (h.hf e he).kept s fun k hk hkp => h.p_foot he (hkp ▸ hk)
    full := by rw [hcap]; exact h.full
    cap := by rw [hcap]; exact h.cap
    left := hl
    age := ha
    wr := hw }
/-- The numbers behind an accepted write. -/
def tick (c : Ctl) : Ctl := { c with wr := wrap64 (c.wr + 1), off := c.left == 1, left := c.left - 1 }
set_option maxHeartbeats 4000000 in
set_option maxRecDepth 100000 in
theorem write_case {p mb : Nat} {es : List Ent} {c : Ctl} (w : World) (h : DK w p mb es c) (lasts : Bool) (f : FuncId) (caps : Array Value) (hcf : ∀ W : World, (callFunc f caps).run Tryz.prog W = .ok (.enter f caps) W) (Q : World → Prop) (b : Bool) (l E : Int)
    (hb : ((c.left : Int) == 1) = b) (hb' : (c.left == 1) = b) (hl : ((c.left - 1 : Nat) : Int) = l) (hE : (if c.left = 1 then 45 else 0) = E) (hc : (c.left = 0 ∧ l = 0) ∨ (1 ≤ c.left ∧ l = (c.left : Int) - 1))
    (hdo : (lasts = true ∨ b = false) → ∀ W, DK W p mb es (tick c) → Stay (· = p) w W → Calls Tryz.prog f caps W fun e w' => e = .returned (.tuple #[]) ∧ Q w')
    (hno : lasts = false → b = true → ∀ W, DK W p mb es (tick c) → Stay (· = p) w W → Q W)
    (hQ : ∀ W, Q W → W.cell? ⟨p, 3, none⟩ = some (.bool b)) :
    Calls Tryz.prog 21 #[Pt p, .bool lasts, .func (.func f) #[] caps] w fun e w' => e = .returned (.int .i64 E) ∧ Q w' := by
  obtain ⟨h0, h1, h2, h3, h4, h5, h6, h7⟩ := h.cell
  have z3 := h.frz 3
  have z4 := h.frz 4
  have z7 := h.frz 7
  have hlt := h.left
  have sW : Stay (· = p) w (((w.setCell ⟨p, 7, none⟩ (.int .i64 (wrap64 (c.wr + 1)))).setCell ⟨p, 3, none⟩ (.bool b)).setCell ⟨p, 4, none⟩ (.int .i64 l)) :=
    (((Stay.refl (· = p) w).setCell (p := ⟨p, 7, none⟩) (fun _ => rfl) _).setCell (p := ⟨p, 3, none⟩) (fun _ => rfl) _).setCell (p := ⟨p, 4, none⟩) (fun _ => rfl) _
  have dW : DK (((w.setCell ⟨p, 7, none⟩ (.int .i64 (wrap64 (c.wr + 1)))).setCell ⟨p, 3, none⟩ (.bool b)).setCell ⟨p, 4, none⟩ (.int .i64 l)) p mb es (tick c) := by
    refine h.set sW (tick c) rfl (by unfold tick; dsimp only; omega) h.age (wrap64_wf _) ?_
    rw [heap_setCell_same _ _ _ _ _ _ (heap_setCell_same _ _ _ _ _ _ (heap_setCell_same _ _ _ _ _ _ h.hp))]
    unfold tick
    rw [hb', hl]
    rfl
  have hd := fun hl => hdo hl _ dW sW
  have hn := fun h1 h2 => hno h1 h2 _ dW sW
  have h3' : ∀ v x : Value, ((w.setCell ⟨p, 7, none⟩ v).setCell ⟨p, 3, none⟩ (.bool b)).cell? ⟨p, 3, none⟩ = some (.bool b) := fun v _ => by
    obtain ⟨v', hv'⟩ := cell?_setCell_some (p := ⟨p, 7, none⟩) (x := v) h3
    exact World.cell?_setCell_same _ _ _ hv'
  have HE : Hid ((if c.left = 1 then 45 else 0) = E) := hE
  clear hdo hno sW dW hE
  generalize c.left = L at *
  cases lasts
  · cases b
    · have hd2 := hd (.inr rfl)
      clear hd hn
      have hE0 : E = 0 := by rw [← HE.out, if_neg]; intro e; simp [e] at hb'
      subst hE0
      rcases hc with ⟨rfl, rfl⟩ | ⟨h1L, rfl⟩
      · go_enter Tryz.func21, Tryz.ntmps21
        go_wp2_with fail
        refine hd2.mono ?_
        rintro e w1 ⟨rfl, q1⟩
        have c3 := hQ w1 q1
        go_wp2
        go_ret
        exact ⟨rfl, q1⟩
      · go_enter Tryz.func21, Tryz.ntmps21
        go_wp2_with fail
        refine hd2.mono ?_
        rintro e w1 ⟨rfl, q1⟩
        have c3 := hQ w1 q1
        go_wp2
        go_ret
        exact ⟨rfl, q1⟩
    · have q1 := hn rfl rfl
      clear hd hn
      have hE0 : E = 45 := by rw [← HE.out, if_pos]; simpa using hb'
      subst hE0
      rcases hc with ⟨rfl, rfl⟩ | ⟨h1L, rfl⟩
      · simp at hb
      · go_enter Tryz.func21, Tryz.ntmps21
        go_wp2
        go_ret
        exact ⟨rfl, q1⟩
  · have hd2 := hd (.inl rfl)
    clear hd hn
    rcases hc with ⟨rfl, rfl⟩ | ⟨h1L, rfl⟩
    · have hE0 : E = 0 := by rw [← HE.out, if_neg]; omega
      subst hE0
      cases b
      · go_enter Tryz.func21, Tryz.ntmps21
        go_wp2_with fail
        refine hd2.mono ?_
        rintro e w1 ⟨rfl, q1⟩
        have c3 := hQ w1 q1
        go_wp2
        go_ret
        exact ⟨rfl, q1⟩
      · simp at hb
    · go_enter Tryz.func21, Tryz.ntmps21
      go_wp2_with fail
      refine hd2.mono ?_
      rintro e w1 ⟨rfl, q1⟩
      have c3 := hQ w1 q1
      cases b
      · have hE0 : E = 0 := by rw [← HE.out, if_neg]; intro e; simp [e] at hb'
        subst hE0
        go_wp2
        go_ret
        exact ⟨rfl, q1⟩
      · have hE0 : E = 45 := by rw [← HE.out, if_pos]; simpa using hb'
        subst hE0
        go_wp2
        go_ret
        exact ⟨rfl, q1⟩
theorem write_any {p mb : Nat} {es : List Ent} {c : Ctl} (w : World) (h : DK w p mb es c) (lasts : Bool) (f : FuncId) (caps : Array Value) (hcf : ∀ W : World, (callFunc f caps).run Tryz.prog W = .ok (.enter f caps) W) (Q : World → Prop)
    (hdo : (lasts = true ∨ (c.left == 1) = false) → ∀ W, DK W p mb es (tick c) → Stay (· = p) w W → Calls Tryz.prog f caps W fun e w' => e = .returned (.tuple #[]) ∧ Q w')
    (hno : lasts = false → (c.left == 1) = true → ∀ W, DK W p mb es (tick c) → Stay (· = p) w W → Q W)
    (hQ : ∀ W, Q W → W.cell? ⟨p, 3, none⟩ = some (.bool (c.left == 1))) :
    Calls Tryz.prog 21 #[Pt p, .bool lasts, .func (.func f) #[] caps] w fun e w' => e = .returned (.int .i64 (if c.left = 1 then 45 else 0)) ∧ Q w' := by
  refine write_case w h lasts f caps hcf Q _ _ _ ?_ rfl rfl rfl ?_ hdo hno hQ
  · rw [Bool.eq_iff_iff, beq_iff_eq, beq_iff_eq]; omega
  · omega
end Go.Proofs.YtfijjlkhgelmoaaGreatDoor.Dk
