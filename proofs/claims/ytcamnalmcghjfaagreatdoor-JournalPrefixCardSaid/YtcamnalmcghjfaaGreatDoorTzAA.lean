/-
  DERIVED. DMath, SBase, SBA, BStay, DBase, as one text.
-/
import Derived.Maps.OwnSet
import Derived.Maps.RangeWalk
import Derived.Sort.KeysCollected
import Derived.Test.YtcamnalmcghjfaaGreatDoorRows
import Derived.WalkKit
import Derived.WalkSpells
import Derived.WalkLawsBesides
import Derived.Deep.QuietTactic
import Derived.BigQuiet
import Derived.Laws.BitsAllLaws
import Derived.Laws.IdiomStrings
import Derived.Lib.ConvBytes
import Derived.Deep.RegionLaw
import Derived.Deep.MidRow
import Derived.Deep.WholeRow
import Derived.Maps.AppendAt
import Derived.Lib.AppendStr
namespace Go.Proofs.DiskMath
open Go.Maps
theorem before_lt : ∀ a b : List UInt8, bytesBefore a b = decide (a < b)
  | [], [] => by simp [bytesBefore]
  | [], _ :: _ => by simp [bytesBefore]
  | _ :: _, [] => by simp [bytesBefore]
  | a :: r, b :: s => by
    rw [bytesBefore, before_lt r s]
    by_cases h : a < b
    · simp [h, List.cons_lt_cons_iff]
    · by_cases e : a = b
      · subst e; simp
      · simp [h, e, List.cons_lt_cons_iff]
/-- A file: its name, its bytes, how many are durable; its block, and the slice in it. -/
structure Ent where
  nm : List UInt8
  da : List UInt8
  du : Nat
  fb : Nat
  v : Value
def pair (e : Ent) : Lit × DataW Unit := (.string e.nm, .lit (.int .i64 e.fb))
def dmap (es : List Ent) : DataW Unit := .map (es.map pair)
def insE (x : Ent) : List Ent → List Ent
  | [] => [x]
  | y :: r => if x.nm < y.nm then x :: y :: r else y :: insE x r
def delE (es : List Ent) (n : List UInt8) : List Ent := es.filter fun e => !(e.nm == n)
def findE (es : List Ent) (n : List UInt8) : Option Ent := es.find? fun e => e.nm == n
theorem ins_map (x : Ent) : ∀ es : List Ent, DataW.insert (pair x) (es.map pair) = (insE x es).map pair
  | [] => rfl
  | y :: r => by
    show (if (Lit.string x.nm).before (Lit.string y.nm) then _ else _) = _
    rw [show (Lit.string x.nm).before (Lit.string y.nm) = decide (x.nm < y.nm) from before_lt _ _]
    unfold insE
    by_cases h : x.nm < y.nm
    · simp [h]
    · simp only [h, decide_false, Bool.false_eq_true, if_false, List.map_cons]
      rw [ins_map x r]
theorem del_map (n : List UInt8) : ∀ es : List Ent, (es.map pair).filter (fun p => !p.1.sameKey (.string n)) = (delE es n).map pair := by
  intro es
  rw [List.filter_map]
  rfl
theorem dmap_del (es : List Ent) (n : List UInt8) : (dmap es).del (.string n) = dmap (delE es n) := by
  show DataW.map ((es.map pair).filter (fun p => !p.1.sameKey (.string n))) = _
  rw [del_map]; rfl
theorem dmap_put (es : List Ent) (x : Ent) : (dmap es).put (.string x.nm) (.lit (.int .i64 x.fb)) = dmap (insE x (delE es x.nm)) := by
  show DataW.map (DataW.insert (pair x) ((es.map pair).filter (fun p => !p.1.sameKey (.string x.nm)))) = _
  rw [del_map, ins_map]; rfl
theorem dmap_has (es : List Ent) (n : List UInt8) : Maps.has (dmap es) (.string n) = (findE es n).isSome := by
  show (es.map pair).any (fun p => p.1.sameKey (.string n)) = _
  rw [List.any_map, findE, List.isSome_find?]; rfl
theorem dmap_at (es : List Ent) (n : List UInt8) (z : DataW Unit) : (dmap es).atKey (.string n) z = match findE es n with | some e => .lit (.int .i64 e.fb) | none => z := by
  have h : (es.map pair).find? (fun p => p.1.sameKey (.string n)) = (findE es n).map pair := by rw [List.find?_map]; rfl
  unfold DataW.atKey dmap
  simp only [h]
  cases findE es n <;> rfl
theorem dmap_size (es : List Ent) : Maps.size (dmap es) = es.length := by simp [dmap, Maps.size]
theorem dmap_keys (es : List Ent) : strKeys (dmap es) = es.map Ent.nm := by
  show (es.map pair).map (fun p => strOf p.1) = _
  rw [List.map_map]; rfl
theorem findE_mem {es : List Ent} {n : List UInt8} {e : Ent} (h : findE es n = some e) : e ∈ es ∧ e.nm = n :=
  ⟨List.mem_of_find?_eq_some h, by simpa using List.find?_some h⟩
theorem delE_of_none {es : List Ent} {n : List UInt8} (h : findE es n = none) : delE es n = es := by
  refine List.filter_eq_self.2 fun a ha => ?_
  have := List.find?_eq_none.1 h a ha
  simpa using this
/-- Names rising. -/
def Srt (es : List Ent) : Prop := es.Pairwise fun a b => a.nm < b.nm
theorem lt_of_not {a b : List UInt8} (h : ¬ a < b) (hne : a ≠ b) : b < a := by
  exact Classical.byContradiction fun hn => hne (List.le_antisymm (List.not_lt.1 hn) (List.not_lt.1 h))
theorem insE_mem {x y : Ent} : ∀ {es : List Ent}, y ∈ insE x es ↔ y = x ∨ y ∈ es
  | [] => by simp [insE]
  | z :: r => by
    unfold insE
    split
    · simp
    · simp only [List.mem_cons, insE_mem (es := r)]
      constructor
      · rintro (h | h | h) <;> simp [h]
      · rintro (h | h | h) <;> simp [h]
theorem insE_perm (x : Ent) : ∀ es : List Ent, (insE x es).Perm (x :: es)
  | [] => .refl _
  | z :: r => by
    unfold insE
    split
    · exact .refl _
    · exact ((insE_perm x r).cons z).trans (.swap x z r)
theorem Srt.ins {x : Ent} : ∀ {es : List Ent}, Srt es → (∀ e ∈ es, e.nm ≠ x.nm) → Srt (insE x es)
  | [], _, _ => by simp [insE, Srt]
  | z :: r, h, hne => by
    unfold insE
    have h1 := List.pairwise_cons.1 h
    split
    · rename_i hlt
      refine List.pairwise_cons.2 ⟨fun a ha => ?_, h⟩
      rcases List.mem_cons.1 ha with rfl | ha
      · exact hlt
      · exact List.lt_trans hlt (h1.1 a ha)
    · rename_i hlt
      refine List.pairwise_cons.2 ⟨fun a ha => ?_, Srt.ins h1.2 (fun e he => hne e (by simp [he]))⟩
      rcases insE_mem.1 ha with rfl | ha
      · exact lt_of_not hlt (hne z (by simp)).symm
      · exact h1.1 a ha
theorem Srt.del {es : List Ent} (h : Srt es) (n : List UInt8) : Srt (delE es n) := List.Pairwise.filter _ h
theorem delE_mem {es : List Ent} {n : List UInt8} {e : Ent} : e ∈ delE es n ↔ e ∈ es ∧ e.nm ≠ n := by
  simp [delE, List.mem_filter]
theorem Srt.uniq {es : List Ent} (h : Srt es) {a b : Ent} (ha : a ∈ es) (hb : b ∈ es) (e : a.nm = b.nm) : a = b := by
  induction es with
  | nil => cases ha
  | cons z r ih =>
    have h1 := List.pairwise_cons.1 h
    rcases List.mem_cons.1 ha with ea | ha <;> rcases List.mem_cons.1 hb with eb | hb
    · rw [ea, eb]
    · exact absurd (h1.1 b hb) (by rw [← ea, e]; exact List.lt_irrefl _)
    · exact absurd (h1.1 a ha) (by rw [← eb, e]; exact List.lt_irrefl _)
    · exact ih h1.2 ha hb
theorem Srt.find {es : List Ent} (h : Srt es) {e : Ent} (he : e ∈ es) : findE es e.nm = some e := by
  cases hf : findE es e.nm with
  | none => exact absurd (List.find?_eq_none.1 hf e he) (by simp)
  | some a => rw [h.uniq (findE_mem hf).1 he (findE_mem hf).2]
theorem sorted_keys {es : List Ent} (h : Srt es) {ss : List (List UInt8)} (hp : ss.Perm (strKeys (dmap es))) : ss.mergeSort leB = es.map Ent.nm := by
  rw [mergeSort_of_perm hp, dmap_keys]
  refine List.mergeSort_of_pairwise ?_
  refine List.pairwise_map.2 (h.imp fun {a b} hab => ?_)
  simpa [leB] using List.le_of_lt hab
/-- One file is another one now (of the same name). -/
def modE (es : List Ent) (x : Ent) : List Ent := es.map fun e => if e.nm = x.nm then x else e
theorem modE_nm (es : List Ent) (x : Ent) : (modE es x).map Ent.nm = es.map Ent.nm := by
  unfold modE; rw [List.map_map]
  refine List.map_congr_left fun e _ => ?_
  show (if e.nm = x.nm then x else e).nm = e.nm
  split
  · rename_i h; exact h.symm
  · rfl
theorem Srt.mod {es : List Ent} (h : Srt es) (x : Ent) : Srt (modE es x) := by
  have h1 : (es.map Ent.nm).Pairwise (· < ·) := List.pairwise_map.2 h
  rw [← modE_nm es x] at h1
  exact List.pairwise_map.1 h1
theorem modE_mem {es : List Ent} {x y : Ent} (h : y ∈ modE es x) : (y = x) ∨ (y ∈ es ∧ y.nm ≠ x.nm) := by
  unfold modE at h
  obtain ⟨e, he, rfl⟩ := List.mem_map.1 h
  split
  · exact .inl rfl
  · rename_i hne; exact .inr ⟨he, hne⟩
theorem dmap_mod {es : List Ent} (hs : Srt es) {e x : Ent} (he : e ∈ es) (hn : x.nm = e.nm) (hb : x.fb = e.fb) : dmap (modE es x) = dmap es := by
  unfold dmap modE; rw [List.map_map]
  congr 1
  refine List.map_congr_left fun a ha => ?_
  show pair (if a.nm = x.nm then x else a) = pair a
  split
  · rename_i h
    have := hs.uniq ha he (by rw [h, hn])
    subst this
    unfold pair; rw [hn, hb]
  · rfl
theorem modE_len (es : List Ent) (x : Ent) : (modE es x).length = es.length := by simp [modE]
/-- How many bytes all files have. -/
def used (es : List Ent) : Nat := (es.map fun e => e.da.length).sum
theorem used_perm {a b : List Ent} (h : a.Perm b) : used a = used b := (h.map _).sum_nat
theorem used_ins (x : Ent) (es : List Ent) : used (insE x es) = x.da.length + used es := by rw [used_perm (insE_perm x es)]; simp [used]
theorem used_mem {es : List Ent} {e : Ent} (h : e ∈ es) : e.da.length ≤ used es := by
  induction es with
  | nil => cases h
  | cons z r ih =>
    have e1 : used (z :: r) = z.da.length + used r := by simp [used]
    rcases List.mem_cons.1 h with rfl | h
    · omega
    · have := ih h; omega
theorem used_del {es : List Ent} (hs : Srt es) {e : Ent} (h : e ∈ es) : used (delE es e.nm) + e.da.length = used es := by
  induction es with
  | nil => cases h
  | cons z r ih =>
    have e1 : used (z :: r) = z.da.length + used r := by simp [used]
    have h1 := List.pairwise_cons.1 hs
    by_cases hz : z.nm = e.nm
    · have := Srt.uniq hs (List.mem_cons_self ..) h hz
      subst this
      have e2 : delE (z :: r) z.nm = r := by
        unfold delE
        rw [List.filter_cons_of_neg (by simp)]
        refine List.filter_eq_self.2 fun a ha => ?_
        have := h1.1 a ha
        simp only [Bool.not_eq_true', beq_eq_false_iff_ne]
        intro he; rw [he] at this; exact List.lt_irrefl _ this
      rw [e2, e1]; omega
    · have e2 : delE (z :: r) e.nm = z :: delE r e.nm := by
        unfold delE; rw [List.filter_cons_of_pos (by simp [hz])]
      rcases List.mem_cons.1 h with rfl | h
      · exact absurd rfl hz
      · have := ih h1.2 h
        rw [e2, e1]
        have e3 : used (z :: delE r e.nm) = z.da.length + used (delE r e.nm) := by simp [used]
        omega
theorem used_mod {es : List Ent} (hs : Srt es) {e x : Ent} (h : e ∈ es) (hn : x.nm = e.nm) : used (modE es x) + e.da.length = used es + x.da.length := by
  induction es with
  | nil => cases h
  | cons z r ih =>
    have e1 : used (z :: r) = z.da.length + used r := by simp [used]
    have h1 := List.pairwise_cons.1 hs
    have e2 : modE (z :: r) x = (if z.nm = x.nm then x else z) :: modE r x := rfl
    have e3 : ∀ y l, used (y :: l) = y.da.length + used l := fun y l => by simp [used]
    rw [e2, e3, e1]
    by_cases hz : z.nm = e.nm
    · have := Srt.uniq hs (List.mem_cons_self ..) h hz
      subst this
      have e4 : modE r x = r := by
        unfold modE
        conv => rhs; rw [← List.map_id r]
        refine List.map_congr_left fun a ha => ?_
        have := h1.1 a ha
        rw [if_neg]; · rfl
        rw [hn]; intro he; rw [he] at this; exact List.lt_irrefl _ this
      rw [e4, if_pos hn.symm]; omega
    · rw [if_neg (by rw [hn]; exact hz)]
      rcases List.mem_cons.1 h with rfl | h
      · exact absurd rfl hz
      · have := ih h1.2 h; omega
end Go.Proofs.DiskMath
namespace Go.Proofs.YtcamnalmcghjfaaGreatDoor
open Go.RowKit
theorem ret2 {a b c d : Value} (h : a = c) (k : b = d) : Ending.returned (.tuple #[a, b]) = .returned (.tuple #[c, d]) := by rw [h, k]
theorem ival {k : IntKind} {a b : Int} (h : a = b) : Value.int k a = .int k b := by rw [h]
/-- The world, some draws later. -/
def Drew (w w' : World) : Prop := ∃ n, w' = w.drewN n
theorem Drew.refl (w : World) : Drew w w := ⟨0, rfl⟩
theorem Drew.trans {a b c : World} (h : Drew a b) (k : Drew b c) : Drew a c := by
  obtain ⟨n, rfl⟩ := h; obtain ⟨m, rfl⟩ := k; exact ⟨n + m, by rw [World.drewN_drewN]⟩
theorem Drew.more {a b : World} (h : Drew a b) (n : Nat) : Drew a (b.drewN n) := h.trans ⟨n, rfl⟩
theorem Drew.drew {a b : World} (h : Drew a b) : Drew a b.drew := h.trans ⟨1, rfl⟩
theorem Drew.below {a b : World} (h : Drew a b) (B : Nat) : Below B a b := by
  obtain ⟨n, rfl⟩ := h
  induction n with
  | zero => exact Below.refl _ _
  | succ n ih => exact ih.trans ⟨rfl, rfl, rfl, Nat.le_refl _, fun _ _ => rfl⟩
theorem ret_int {k : IntKind} {a b : Int} (h : a = b) : Ending.returned (.int k a) = .returned (.int k b) := by rw [h]
theorem ret_bool {a b : Bool} (h : a = b) : Ending.returned (.bool a) = .returned (.bool b) := by rw [h]
theorem chain {B : Nat} {a b c : World} (h : Below B a b) (k : Below b.heap.size b c) (hB : B ≤ a.heap.size) : Below B a c := h.trans (k.mono (Nat.le_trans hB h.size))
theorem i64_in (n : Int) (h0 : 0 ≤ n) (h1 : n < 2 ^ 63) : IntKind.i64.wrap n = n := by rw [IntKind.wrap_i64]; omega
theorem i64_and1 (x : Int) (h0 : 0 ≤ x) (h1 : x < 2 ^ 63) : bits .and .i64 x 1 = x % 2 := by
  have := bits_mask .i64 63 (by decide) i64_in 1 (by decide) x h0 h1
  simpa using this
theorem div_pow_le (a k : Nat) : (0 : Int) ≤ (a : Int) / 2 ^ k ∧ (a : Int) / 2 ^ k ≤ (a : Int) := by
  have e : ((a : Int) / 2 ^ k) = ((a / 2 ^ k : Nat) : Int) := by simp
  rw [e]; exact ⟨Int.natCast_nonneg _, Int.ofNat_le.2 (Nat.div_le_self a (2 ^ k))⟩
theorem Tryz.info5 : (Tryz.prog.info? 5).map (fun i => (i.zero, i.size, i.bytes)) = some (some (.int .u8 0), 1, 1) := by kernel_rfl
/-- A byte as a cell. -/
def BV (c : UInt8) : Value := .int .u8 c.toNat
theorem set_take (l : List UInt8) (k : Nat) (x : UInt8) (h : k < l.length) : (l.set k x).take (k + 1) = l.take k ++ [x] := by
  rw [List.take_succ_eq_append_getElem (by simpa using h), List.take_set_of_le (Nat.le_refl k)]; simp
theorem made_bytes (n : Nat) : (madeCells (Value.int .u8 0).cells (n * 1)).toList = (List.replicate n (0 : UInt8)).map BV := by
  rw [Nat.mul_one]; show (madeCells #[Value.int .u8 0] n).toList = _; rw [toList_madeCells_one, List.map_replicate]; rfl
theorem conv_row {w : World} {B g : Nat} {cap : Nat} (l : List UInt8) (h : w.ownsRow B 5 1 (.slice (some ⟨g, 0, none⟩) l.length cap) l.length (l.map BV)) :
    (convert 64 9 (.slice (some ⟨g, 0, none⟩) l.length cap)).run Tryz.prog w = .ok (.string ⟨l.toArray⟩) w :=
  run_convert_bytes_back w 64 9 5 ⟨g, 0, none⟩ cap l Tryz.underlying64 Tryz.underlying5 Tryz.underlying9 (fun j hj => by
    have := h.cellAt j (by omega)
    have e : (⟨g, 0, none⟩ : Addr).add j = ⟨g, j, none⟩ := by unfold Addr.add; split <;> simp_all
    rw [e, this, List.getElem?_map, List.getElem?_eq_getElem hj]; rfl)
/-- append to a row of the call's own, as one step of a region that draws. -/
theorem step_append_own {P : Program} {ops : Array Oper} {o : Oper} {a : Act} {w : World} {K : Act → World → Prop} {Q : Exit → Act → World → Prop} {E : Prop}
    (hg : o.guard = none) (s x : Operand) (t : TypeId) (hop : o.op = Op.call { callee := Callee.builtin Builtin.append, args := #[s, x], argTypes := #[t, t] })
    (base : Nat) (e : TypeId) (i : TypeInfo) (z : Value) (size bytes : Nat) (h1 : P.underlying t = some (.slice e)) (h2 : P.info? e = some i) (h3 : i.zero = some z) (h4 : i.size = size) (h5 : i.bytes = bytes) (h6 : z.cells.size = size) (h7 : 0 < size)
    (v : Value) (n : Nat) (xs : List Value) (hs : a.eval s = v) (hown : w.ownsRow base e size v n xs)
    (ad : Addr) (m c : Nat) (news : List Value) (hx : a.eval x = .slice (some ad) m c) (hn : news.length = m * size) (hc : ∀ j u, news[j]? = some u → w.cell? (ad.add j) = some u) (h1c : ∀ u ∈ news, u.oneCell' = true)
    (b1 : n + m ≤ maxLen) (b2 : (n + m) * bytes ≤ 140737488355328) (hbase : base ≤ w.heap.size)
    (hK : ∀ v' w', w'.ownsRow base e size v' (n + m) (xs ++ news) → w.grownBy w' v.ownBlock → K (a.put o.dst v') w') :
    if Region.wanted o (yielded ops a.tmps) = true then Oper.wp P o a w K Q else E := by
  have hw : Region.wanted o (yielded ops a.tmps) = true := by simp [Region.wanted, hg]
  rw [if_pos hw]
  obtain ⟨v', w', hrun, r1, r2, _⟩ := run_append_own (P := P) w base t o.type e i z size bytes h1 h2 h3 h4 h5 h6 h7 v n xs hown ad m c news hn hc h1c b1 b2 hbase
  unfold Oper.wp
  simp [execOp, hop, resolve, invoke, builtin, hs, hx, hrun, Result.andThen]
  exact hK v' w' r1 r2
theorem conv_own {w : World} {B : Nat} {v : Value} (l : List UInt8) (h : w.ownsRow B 5 1 v l.length (l.map BV)) :
    (convert 64 9 v).run Tryz.prog w = .ok (.string ⟨l.toArray⟩) w := by
  rcases h.2 with ⟨rfl, h0⟩ | ⟨g, cap, cur, rfl, _⟩
  · rw [run_convert_bytes_string w 64 9 5 none 0 0 Tryz.underlying64 Tryz.underlying5 Tryz.underlying9]
    rw [List.eq_nil_of_length_eq_zero h0]; rfl
  · exact conv_row l h
/-- What was there stays behind an append to a row of the call's own. -/
theorem own_grow {w wr w' : World} {e : TypeId} {size : Nat} {v : Value} {n : Nat} {xs : List Value} {o : Obj} (hown : wr.ownsRow w.heap.size e size v n xs) (hb : Below w.heap.size w wr) (hg : (wr.alloc o).drew.grownBy w' v.ownBlock) : Below w.heap.size w w' :=
  ((hb.alloc hb.size o).drew).grown hg (by have := hb.size; simp; omega) (fun k h => (hown.lt k h).1)
end Go.Proofs.YtcamnalmcghjfaaGreatDoor
namespace Go.Proofs.YtcamnalmcghjfaaGreatDoor
open Go.RowKit
/-- The first n cells of block g hold these bytes, and may be written. -/
def BA (W : World) (g n : Nat) (f : Nat → Nat) : Prop := ∀ k, k < n → W.cell? ⟨g, k, none⟩ = some (.int .u8 (f k)) ∧ W.frozen? ⟨g, k, none⟩ = false
theorem BA.ext {W : World} {g n : Nat} {f f' : Nat → Nat} (h : BA W g n f) (e : ∀ k, k < n → f k = f' k) : BA W g n f' := fun k hk => by rw [← e k hk]; exact h k hk
theorem BA.set {W : World} {g n : Nat} {f : Nat → Nat} (h : BA W g n f) (j : Nat) (x : Nat) : BA (W.setCell ⟨g, j, none⟩ (.int .u8 x)) g n (fun k => if k = j then x else f k) := fun k hk => by
  obtain ⟨h1, h2⟩ := h k hk
  refine ⟨?_, by rw [World.frozen?_setCell]; exact h2⟩
  by_cases e : k = j
  · subst e; rw [World.cell?_setCell_same _ _ _ h1]; simp
  · rw [World.cell?_setCell_other _ _ _ _ (fun he => e (by cases he; rfl)), h1]; simp [e]
theorem BA.new (W : World) (t : TypeId) (n : Nat) (l : List Value) (hl : l = List.replicate n (.int .u8 0)) : BA (W.alloc (.cells l.toArray t)) W.heap.size n (fun _ => 0) := fun k hk => by
  subst hl
  have hh := heap_alloc_last W (.cells (List.replicate n (Value.int .u8 0)).toArray t)
  refine ⟨?_, frozen_of_row _ _ _ _ _ hh⟩
  rw [cell_of_row _ _ k _ t (0, 0) hh]
  simp [hk]
/-- What the bytes are as a text. -/
theorem BA.conv {W : World} {g n : Nat} {f : Nat → Nat} (h : BA W g n f) (l : List UInt8) (cap : Nat) (hl : l.length ≤ n) (e : ∀ k (hk : k < l.length), (l[k]).toNat = f k) :
    (convert 64 9 (.slice (some ⟨g, 0, none⟩) l.length cap)).run Tryz.prog W = .ok (.string ⟨l.toArray⟩) W :=
  run_convert_bytes_back W 64 9 5 ⟨g, 0, none⟩ cap l Tryz.underlying64 Tryz.underlying5 Tryz.underlying9 (fun j hj => by
    have := (h j (by omega)).1
    have ea : (⟨g, 0, none⟩ : Addr).add j = ⟨g, j, none⟩ := by unfold Addr.add; split <;> simp_all
    rw [ea, this, ← e j hj])
end Go.Proofs.YtcamnalmcghjfaaGreatDoor
namespace Go.Proofs.YtcamnalmcghjfaaGreatDoor
open Go.RowKit
/-- What stays behind a call that may write blocks of F alone. -/
structure Stay (F : Nat → Prop) (w w' : World) : Prop where
  os : w'.os = w.os
  tape : w'.tape = w.tape
  output : w'.output = w.output
  size : w.heap.size ≤ w'.heap.size
  block : ∀ k, k < w.heap.size → ¬ F k → w'.heap[k]? = w.heap[k]?
theorem Stay.refl (F : Nat → Prop) (w : World) : Stay F w w := ⟨rfl, rfl, rfl, Nat.le_refl _, fun _ _ _ => rfl⟩
theorem Stay.trans {F : Nat → Prop} {a b c : World} (h : Stay F a b) (k : Stay F b c) : Stay F a c :=
  ⟨k.os.trans h.os, k.tape.trans h.tape, k.output.trans h.output, Nat.le_trans h.size k.size, fun i hi hF => (k.block i (Nat.lt_of_lt_of_le hi h.size) hF).trans (h.block i hi hF)⟩
theorem Stay.mono {F G : Nat → Prop} {a b : World} (h : Stay F a b) (hG : ∀ k, k < a.heap.size → F k → G k) : Stay G a b :=
  ⟨h.os, h.tape, h.output, h.size, fun i hi hn => h.block i hi fun hF => hn (hG i hi hF)⟩
/-- .. the second may write what the first has made, too. -/
theorem Stay.andThen {F G : Nat → Prop} {a b c : World} (h : Stay F a b) (k : Stay G b c) (hG : ∀ i, i < a.heap.size → G i → F i) : Stay F a c :=
  ⟨k.os.trans h.os, k.tape.trans h.tape, k.output.trans h.output, Nat.le_trans h.size k.size, fun i hi hF => (k.block i (Nat.lt_of_lt_of_le hi h.size) fun hg => hF (hG i hi hg)).trans (h.block i hi hF)⟩
theorem Stay.below {F : Nat → Prop} {a b : World} (h : Below a.heap.size a b) : Stay F a b := ⟨h.os, h.tape, h.output, h.size, fun i hi _ => h.block i hi⟩
theorem Stay.toBelow {F : Nat → Prop} {a b : World} {B : Nat} (h : Stay F a b) (hF : ∀ k, k < B → ¬ F k) (hB : B ≤ a.heap.size) : Below B a b := ⟨h.os, h.tape, h.output, h.size, fun i hi => h.block i (Nat.lt_of_lt_of_le hi hB) (hF i hi)⟩
theorem Stay.grown {F : Nat → Prop} {a b : World} {r : Option Nat} (h : a.grownBy b r) (hF : ∀ k, r = some k → F k) : Stay F a b := ⟨h.os, h.tape, h.output, h.size, fun i hi hn => h.block i hi fun e => hn (hF i e.symm)⟩
theorem Stay.drew {F : Nat → Prop} {a b : World} (h : Stay F a b) : Stay F a b.drew := ⟨h.os, h.tape, h.output, h.size, h.block⟩
theorem Stay.undrew {F : Nat → Prop} {a b : World} (h : Stay F a.drew b) : Stay F a b := ⟨h.os, h.tape, h.output, h.size, h.block⟩
theorem Stay.alloc {F : Nat → Prop} {a b : World} (h : Stay F a b) (o : Obj) : Stay F a (b.alloc o) := h.trans (.grown (World.grownBy_alloc b o none) (by simp))
theorem Stay.setCell {F : Nat → Prop} {a b : World} (h : Stay F a b) {p : Addr} (hp : p.block < a.heap.size → F p.block) (u : Value) : Stay F a (b.setCell p u) :=
  ⟨h.os, h.tape, h.output, by simpa using h.size, fun i hi hn => (Below.heap_setCell b p u i fun e => hn (e ▸ hp (e ▸ hi))).trans (h.block i hi hn)⟩
theorem Hid.mk {p : Prop} (h : p) : Hid p := h
abbrev Pt (p : Nat) : Value := .pointer (some ⟨p, 0, none⟩)
theorem nm_size (s : ByteArray) : s.data.toList.length = s.size := by simp
theorem strCells_BV (s : ByteArray) : Lib.strCells s = s.data.toList.map BV := rfl
theorem row_kept {F : Nat → Prop} {w w' : World} {B e sz : Nat} {v : Value} {n : Nat} {xs : List Value} (h : w.ownsRow B e sz v n xs) (s : Stay F w w') (hn : ∀ k, v.ownBlock = some k → ¬ F k) : w'.ownsRow B e sz v n xs := by
  rcases h with ⟨h1, h2 | ⟨g, cap, cur, h2, h3, h4, h5⟩⟩
  · exact ⟨h1, .inl h2⟩
  · exact ⟨h1, .inr ⟨g, cap, cur, h2, h3, (s.block g (Array.getElem?_eq_some_iff.1 h4).1 (hn _ (by rw [h2]; rfl))).trans h4, h5⟩⟩
theorem slice_form {w : World} {B e sz : Nat} {v : Value} {n : Nat} {xs : List Value} (h : w.ownsRow B e sz v n xs) : ∃ a cap, v = .slice a n cap ∧ n ≤ cap := by
  rcases h.2 with ⟨rfl, rfl⟩ | ⟨g, cap, cur, rfl, _, _, hc, _⟩
  · exact ⟨none, 0, rfl, Nat.le_refl _⟩
  · exact ⟨_, cap, rfl, hc⟩
theorem row_block {w : World} {B e sz : Nat} {v : Value} {n k : Nat} {xs : List Value} (h : w.ownsRow B e sz v n xs) (hk : v.ownBlock = some k) : ∃ cur, w.heap[k]? = some (.cells cur e (0, 0)) := by
  rcases h.2 with ⟨rfl, _⟩ | ⟨g, cap, cur, rfl, _, hg, _⟩
  · cases hk
  · cases hk; exact ⟨cur, hg⟩
theorem row_lt {w : World} {B e sz : Nat} {v : Value} {n k : Nat} {xs : List Value} (h : w.ownsRow B e sz v n xs) (hk : v.ownBlock = some k) : k < w.heap.size := by
  obtain ⟨cur, hc⟩ := row_block h hk
  exact (Array.getElem?_eq_some_iff.1 hc).1
end Go.Proofs.YtcamnalmcghjfaaGreatDoor
namespace Go.Proofs.YtcamnalmcghjfaaGreatDoor.Dk
open Go.RowKit Go.Maps Go.Proofs.DiskMath
/-- How an element of the map reads: a pointer to a file is its block's number. -/
def ptrE : Value → Option (DataW Unit × List MemPlace)
  | .pointer none => some (.nil, [])
  | .pointer (some a) => if a.off = 0 ∧ a.spot = none then some (.lit (.int .i64 a.block), []) else none
  | _ => none
theorem ptrE_mk (b : Nat) : ptrE (.pointer (some ⟨b, 0, none⟩)) = some (.lit (.int .i64 b), []) := by simp [ptrE]
theorem ptrE_inv {v : Value} {y : DataW Unit × List MemPlace} (h : ptrE v = some y) : ∃ a : Option Addr, v = .pointer a := by
  cases v <;> simp [ptrE] at h
  exact ⟨_, rfl⟩
theorem ptrE_block {v : Value} {b : Nat} {ps : List MemPlace} (h : ptrE v = some (.lit (.int .i64 b), ps)) : v = .pointer (some ⟨b, 0, none⟩) := by
  cases v <;> try (simp [ptrE] at h; done)
  rename_i a
  cases a with
  | none => simp [ptrE] at h
  | some a =>
    simp only [ptrE] at h
    split at h
    · rename_i hc
      obtain ⟨bk, off, sp⟩ := a
      simp at hc h
      obtain ⟨rfl, rfl⟩ := hc
      simp
    · cases h
theorem ptrE_nil {v : Value} {ps : List MemPlace} (h : ptrE v = some (.nil, ps)) : v = .pointer none := by
  cases v <;> try (simp [ptrE] at h; done)
  rename_i a
  cases a with
  | none => rfl
  | some a =>
    simp only [ptrE] at h
    split at h
    · simp at h
    · cases h
theorem law9 : Keyed Tryz.prog 9 := string_keyed Tryz.underlying9
theorem zeroP (w : World) : (zeroValue 62).run Tryz.prog w = .ok (.pointer none) w := by kernel_rfl
/-- A file. -/
structure FileAt (w : World) (e : Ent) : Prop where
  cells : w.heap[e.fb]? = some (.cells #[e.v, .int .i64 e.du] 66 (0, 0))
  row : w.ownsRow 0 5 1 e.v e.da.length (e.da.map BV)
  du : e.du ≤ e.da.length
  da : e.da.length ≤ 268435456
/-- The blocks of a file. -/
def foot (e : Ent) (k : Nat) : Prop := k = e.fb ∨ e.v.ownBlock = some k
/-- The numbers of a disk: its capacity; the power is off; what is armed; the age, the writes. -/
structure Ctl where
  cap : Nat
  off : Bool
  left : Nat
  dn : Bool
  age : Int
  wr : Int
/-- What can be a name. -/
def nameB (c : UInt8) : Bool := (97 ≤ c.toNat && c.toNat ≤ 122) || (48 ≤ c.toNat && c.toNat ≤ 57) || c.toNat == 46
def isNm (n : List UInt8) : Bool := 1 ≤ n.length && n.length ≤ 32 && n.all nameB
/-- A disk: its struct's block, its map's, its files, its numbers. -/
structure DK (w : World) (p mb : Nat) (es : List Ent) (c : Ctl) : Prop where
  hp : w.heap[p]? = some (.cells #[.map (some mb), .int .i64 c.cap, .int .i64 (used es), .bool c.off, .int .i64 c.left, .bool c.dn, .int .i64 c.age, .int .i64 c.wr] 53 (0, 0))
  hm : w.ownsMap Tryz.prog 9 ptrE mb es.length (dmap es)
  hf : ∀ e ∈ es, FileAt w e
  sep : es.Pairwise fun a b => a.fb ≠ b.fb ∧ ∀ k, a.v.ownBlock = some k → b.v.ownBlock ≠ some k
  srt : Srt es
  nms : ∀ e ∈ es, isNm e.nm = true
  many : es.length ≤ 4096
  full : used es ≤ c.cap
  cap : c.cap ≤ 1073741824
  left : c.left < 9223372036854775808
  age : (Lit.int .i64 c.age).wf = true
  wr : (Lit.int .i64 c.wr).wf = true
/-- The blocks of a disk. -/
def Foot (p mb : Nat) (es : List Ent) (k : Nat) : Prop := k = p ∨ k = mb ∨ ∃ e ∈ es, foot e k
theorem DK.lt {w : World} {p mb : Nat} {es : List Ent} {c : Ctl} (h : DK w p mb es c) {k : Nat} (hk : Foot p mb es k) : k < w.heap.size := by
  rcases hk with rfl | rfl | ⟨e, he, rfl | hk⟩
  · exact (Array.getElem?_eq_some_iff.1 h.hp).1
  · exact h.hm.lt
  · exact (Array.getElem?_eq_some_iff.1 (h.hf e he).cells).1
  · exact ((h.hf e he).row.lt k hk).2
theorem FileAt.kept {w w' : World} {e : Ent} {F : Nat → Prop} (h : FileAt w e) (s : Stay F w w') (hn : ∀ k, foot e k → ¬ F k) : FileAt w' e := by
  refine ⟨(s.block _ (Array.getElem?_eq_some_iff.1 h.cells).1 (hn _ (.inl rfl))).trans h.cells, ?_, h.du, h.da⟩
  rcases h.row with ⟨h1, h2 | ⟨g, cap, cur, h2, h3, h4, h5⟩⟩
  · exact ⟨h1, .inl h2⟩
  · exact ⟨h1, .inr ⟨g, cap, cur, h2, h3, (s.block g (Array.getElem?_eq_some_iff.1 h4).1 (hn _ (.inr (by rw [h2]; rfl)))).trans h4, h5⟩⟩
theorem map_kept {w w' : World} {mb n : Nat} {D : DataW Unit} {F : Nat → Prop} (h : w.ownsMap Tryz.prog 9 ptrE mb n D) (s : Stay F w w') (hn : ¬ F mb) : w'.ownsMap Tryz.prog 9 ptrE mb n D := by
  have hlt := h.lt
  obtain ⟨es, cl, hb, r⟩ := h
  exact ⟨es, cl, (s.block mb hlt hn).trans hb, r⟩
/-- The disk is as it was, while other blocks are written. -/
theorem DK.kept {w w' : World} {p mb : Nat} {es : List Ent} {c : Ctl} {F : Nat → Prop} (h : DK w p mb es c) (s : Stay F w w') (hn : ∀ k, Foot p mb es k → ¬ F k) : DK w' p mb es c :=
  { h with
    hp := (s.block p (h.lt (.inl rfl)) (hn p (.inl rfl))).trans h.hp
    hm := map_kept h.hm s (hn mb (.inr (.inl rfl)))
    hf := fun e he => (h.hf e he).kept s fun k hk => hn k (.inr (.inr ⟨e, he, hk⟩)) }
theorem DK.below {w w' : World} {p mb : Nat} {es : List Ent} {c : Ctl} (h : DK w p mb es c) (b : Below w.heap.size w w') : DK w' p mb es c :=
  h.kept (F := fun _ => False) (.below b) (fun _ _ hf => hf)
theorem DK.cell {w : World} {p mb : Nat} {es : List Ent} {c : Ctl} (h : DK w p mb es c) :
    w.cell? ⟨p, 0, none⟩ = some (.map (some mb)) ∧ w.cell? ⟨p, 1, none⟩ = some (.int .i64 c.cap) ∧ w.cell? ⟨p, 2, none⟩ = some (.int .i64 (used es)) ∧ w.cell? ⟨p, 3, none⟩ = some (.bool c.off) ∧ w.cell? ⟨p, 4, none⟩ = some (.int .i64 c.left) ∧
    w.cell? ⟨p, 5, none⟩ = some (.bool c.dn) ∧ w.cell? ⟨p, 6, none⟩ = some (.int .i64 c.age) ∧ w.cell? ⟨p, 7, none⟩ = some (.int .i64 c.wr) := by
  have := h.hp
  refine ⟨?_, ?_, ?_, ?_, ?_, ?_, ?_, ?_⟩ <;> simp [World.cell?, this]
theorem DK.frz {w : World} {p mb : Nat} {es : List Ent} {c : Ctl} (h : DK w p mb es c) (k : Nat) : w.frozen? ⟨p, k, none⟩ = false := by
  simp [World.frozen?, h.hp]
theorem FileAt.cell {w : World} {e : Ent} (h : FileAt w e) : w.cell? ⟨e.fb, 0, none⟩ = some e.v ∧ w.cell? ⟨e.fb, 1, none⟩ = some (.int .i64 e.du) := by
  have := h.cells
  refine ⟨?_, ?_⟩ <;> simp [World.cell?, this]
theorem FileAt.frz {w : World} {e : Ent} (h : FileAt w e) (k : Nat) : w.frozen? ⟨e.fb, k, none⟩ = false := by
  simp [World.frozen?, h.cells]
/-- The look into the map. -/
def ptrOf (es : List Ent) (n : List UInt8) : Value := match findE es n with | some e => .pointer (some ⟨e.fb, 0, none⟩) | none => .pointer none
theorem DK.look {w : World} {p mb : Nat} {es : List Ent} {c : Ctl} (h : DK w p mb es c) (s : ByteArray) (hs : s.size ≤ maxLen) :
    (Instr.lookup 51 (.map (some mb)) (.string s) false).run Tryz.prog w = .ok (ptrOf es s.data.toList) w := by
  obtain ⟨v, ps, hr, hv⟩ := h.hm.lookup law9 Tryz.underlying51 (zeroP w) (zd := .nil) (zp := []) rfl (Go.WideMaps.keyOf_string_mk Tryz.underlying9 hs)
  rw [hr]
  rw [dmap_at] at hv
  unfold ptrOf
  cases hf : findE es s.data.toList with
  | none => rw [hf] at hv; rw [ptrE_nil hv]
  | some e => rw [hf] at hv; rw [ptrE_block hv]
end Go.Proofs.YtcamnalmcghjfaaGreatDoor.Dk
