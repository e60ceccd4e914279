/-
  DERIVED. A disk's files as a sorted list, and the map that keeps them.
-/
import Derived.Maps.OwnSet
import Derived.Maps.RangeWalk
import Derived.Sort.KeysCollected
namespace Go.Proofs.DiskMath
open Go.Maps
theorem before_lt : ∀ a b : List UInt8, bytesBefore a b = decide (a < b)
  | [], [] => by simp [bytesBefore]
  | [], _ :: _ => by simp [bytesBefore]
  | _ :: _, [] => by simp [bytesBefore]
  | a :: r, b :: s => by
    rw [bytesBefore, before_lt r s]
    by_cases h : a < b
    · simp [h, List.cons_lt_cons_iff]
    · by_cases e : a = b
      · subst e; simp
      · simp [h, e, List.cons_lt_cons_iff]
/-- A file: its name, its bytes, how many are durable; its block, and the slice in it. -/
structure Ent where
  nm : List UInt8
  da : List UInt8
  du : Nat
  fb : Nat
  v : Value
def pair (e : Ent) : Lit × DataW Unit := (.string e.nm, .lit (.int .i64 e.fb))
def dmap (es : List Ent) : DataW Unit := .map (es.map pair)
def insE (x : Ent) : List Ent → List Ent
  | [] => [x]
  | y :: r => if x.nm < y.nm then x :: y :: r else y :: insE x r
def delE (es : List Ent) (n : List UInt8) : List Ent := es.filter fun e => !(e.nm == n)
def findE (es : List Ent) (n : List UInt8) : Option Ent := es.find? fun e => e.nm == n
theorem ins_map (x : Ent) : ∀ es : List Ent, DataW.insert (pair x) (es.map pair) = (insE x es).map pair
  | [] => rfl
  | y :: r => by
    show (if (Lit.string x.nm).before (Lit.string y.nm) then _ else _) = _
    rw [show (Lit.string x.nm).before (Lit.string y.nm) = decide (x.nm < y.nm) from before_lt _ _]
    unfold insE
    by_cases h : x.nm < y.nm
    · simp [h]
    · simp only [h, decide_false, Bool.false_eq_true, if_false, List.map_cons]
      rw [ins_map x r]
theorem del_map (n : List UInt8) : ∀ es : List Ent, (es.map pair).filter (fun p => !p.1.sameKey (.string n)) = (delE es n).map pair := by
  intro es
  rw [List.filter_map]
  rfl
theorem dmap_del (es : List Ent) (n : List UInt8) : (dmap es).del (.string n) = dmap (delE es n) := by
  show DataW.map ((es.map pair).filter (fun p => !p.1.sameKey (.string n))) = _
  rw [del_map]; rfl
theorem dmap_put (es : List Ent) (x : Ent) : (dmap es).put (.string x.nm) (.lit (.int .i64 x.fb)) = dmap (insE x (delE es x.nm)) := by
  show DataW.map (DataW.insert (pair x) ((es.map pair).filter (fun p => !p.1.sameKey (.string x.nm)))) = _
  rw [del_map, ins_map]; rfl
theorem dmap_has (es : List Ent) (n : List UInt8) : Maps.has (dmap es) (.string n) = (findE es n).isSome := by
  show (es.map pair).any (fun p => p.1.sameKey (.string n)) = _
  rw [List.any_map, findE, List.isSome_find?]; rfl
theorem dmap_at (es : List Ent) (n : List UInt8) (z : DataW Unit) : (dmap es).atKey (.string n) z = match findE es n with | some e => .lit (.int .i64 e.fb) | none => z := by
  have h : (es.map pair).find? (fun p => p.1.sameKey (.string n)) = (findE es n).map pair := by rw [List.find?_map]; rfl
  unfold DataW.atKey dmap
  simp only [h]
  cases findE es n <;> rfl
theorem dmap_size (es : List Ent) : Maps.size (dmap es) = es.length := by simp [dmap, Maps.size]
theorem dmap_keys (es : List Ent) : strKeys (dmap es) = es.map Ent.nm := by
  show (es.map pair).map (fun p => strOf p.1) = _
  rw [List.map_map]; rfl
theorem findE_mem {es : List Ent} {n : List UInt8} {e : Ent} (h : findE es n = some e) : e ∈ es ∧ e.nm = n :=
  ⟨List.mem_of_find?_eq_some h, by simpa using List.find?_some h⟩
theorem delE_of_none {es : List Ent} {n : List UInt8} (h : findE es n = none) : delE es n = es := by
  refine List.filter_eq_self.2 fun a ha => ?_
  have := List.find?_eq_none.1 h a ha
  simpa using this
/-- Names rising. -/
def Srt (es : List Ent) : Prop := es.Pairwise fun a b => a.nm < b.nm
theorem lt_of_not {a b : List UInt8} (h : ¬ a < b) (hne : a ≠ b) : b < a := by
  exact Classical.byContradiction fun hn => hne (List.le_antisymm (List.not_lt.1 hn) (List.not_lt.1 h))
theorem insE_mem {x y : Ent} : ∀ {es : List Ent}, y ∈ insE x es ↔ y = x ∨ y ∈ es
  | [] => by simp [insE]
  | z :: r => by
    unfold insE
    split
    · simp
    · simp only [List.mem_cons, insE_mem (es := r)]
      constructor
      · rintro (h | h | h) <;> simp [h]
      · rintro (h | h | h) <;> simp [h]
theorem insE_perm (x : Ent) : ∀ es : List Ent, (insE x es).Perm (x :: es)
  | [] => .refl _
  | z :: r => by
    unfold insE
    split
    · exact .refl _
    · exact ((insE_perm x r).cons z).trans (.swap x z r)
theorem Srt.ins {x : Ent} : ∀ {es : List Ent}, Srt es → (∀ e ∈ es, e.nm ≠ x.nm) → Srt (insE x es)
  | [], _, _ => by simp [insE, Srt]
  | z :: r, h, hne => by
    unfold insE
    have h1 := List.pairwise_cons.1 h
    split
    · rename_i hlt
      refine List.pairwise_cons.2 ⟨fun a ha => ?_, h⟩
      rcases List.mem_cons.1 ha with rfl | ha
      · exact hlt
      · exact List.lt_trans hlt (h1.1 a ha)
    · rename_i hlt
      refine List.pairwise_cons.2 ⟨fun a ha => ?_, Srt.ins h1.2 (fun e he => hne e (by simp [he]))⟩
      rcases insE_mem.1 ha with rfl | ha
      · exact lt_of_not hlt (hne z (by simp)).symm
      · exact h1.1 a ha
theorem Srt.del {es : List Ent} (h : Srt es) (n : List UInt8) : Srt (delE es n) := List.Pairwise.filter _ h
theorem delE_mem {es : List Ent} {n : List UInt8} {e : Ent} : e ∈ delE es n ↔ e ∈ es ∧ e.nm ≠ n := by
  simp [delE, List.mem_filter]
theorem Srt.uniq {es : List Ent} (h : Srt es) {a b : Ent} (ha : a ∈ es) (hb : b ∈ es) (e : a.nm = b.nm) : a = b := by
  induction es with
  | nil => cases ha
  | cons z r ih =>
    have h1 := List.pairwise_cons.1 h
    rcases List.mem_cons.1 ha with ea | ha <;> rcases List.mem_cons.1 hb with eb | hb
    · rw [ea, eb]
    · exact absurd (h1.1 b hb) (by rw [← ea, e]; exact List.lt_irrefl _)
    · exact absurd (h1.1 a ha) (by rw [← eb, e]; exact List.lt_irrefl _)
    · exact ih h1.2 ha hb
theorem Srt.find {es : List Ent} (h : Srt es) {e : Ent} (he : e ∈ es) : findE es e.nm = some e := by
  cases hf : findE es e.nm with
  | none => exact absurd (List.find?_eq_none.1 hf e he) (by simp)
  | some a => rw [h.uniq (findE_mem hf).1 he (findE_mem hf).2]
theorem sorted_keys {es : List Ent} (h : Srt es) {ss : List (List UInt8)} (hp : ss.Perm (strKeys (dmap es))) : ss.mergeSort leB = es.map Ent.nm := by
  rw [mergeSort_of_perm hp, dmap_keys]
  refine List.mergeSort_of_pairwise ?_
  refine List.pairwise_map.2 (h.imp fun {a b} hab => ?_)
  simpa [leB] using List.le_of_lt hab
/-- One file is another one now (of the same name). -/
def modE (es : List Ent) (x : Ent) : List Ent := es.map fun e => if e.nm = x.nm then x else e
theorem modE_nm (es : List Ent) (x : Ent) : (modE es x).map Ent.nm = es.map Ent.nm := by
  unfold modE; rw [List.map_map]
  refine List.map_congr_left fun e _ => ?_
  show (if e.nm = x.nm then x else e).nm = e.nm
  split
  · rename_i h; exact h.symm
  · rfl
theorem Srt.mod {es : List Ent} (h : Srt es) (x : Ent) : Srt (modE es x) := by
  have h1 : (es.map Ent.nm).Pairwise (· < ·) := List.pairwise_map.2 h
  rw [← modE_nm es x] at h1
  exact List.pairwise_map.1 h1
theorem modE_mem {es : List Ent} {x y : Ent} (h : y ∈ modE es x) : (y = x) ∨ (y ∈ es ∧ y.nm ≠ x.nm) := by
  unfold modE at h
  obtain ⟨e, he, rfl⟩ := List.mem_map.1 h
  split
  · exact .inl rfl
  · rename_i hne; exact .inr ⟨he, hne⟩
theorem dmap_mod {es : List Ent} (hs : Srt es) {e x : Ent} (he : e ∈ es) (hn : x.nm = e.nm) (hb : x.fb = e.fb) : dmap (modE es x) = dmap es := by
  unfold dmap modE; rw [List.map_map]
  congr 1
  refine List.map_congr_left fun a ha => ?_
  show pair (if a.nm = x.nm then x else a) = pair a
  split
  · rename_i h
    have := hs.uniq ha he (by rw [h, hn])
    subst this
    unfold pair; rw [hn, hb]
  · rfl
theorem modE_len (es : List Ent) (x : Ent) : (modE es x).length = es.length := by simp [modE]
/-- How many bytes all files have. -/
def used (es : List Ent) : Nat := (es.map fun e => e.da.length).sum
theorem used_perm {a b : List Ent} (h : a.Perm b) : used a = used b := (h.map _).sum_nat
theorem used_ins (x : Ent) (es : List Ent) : used (insE x es) = x.da.length + used es := by rw [used_perm (insE_perm x es)]; simp [used]
theorem used_mem {es : List Ent} {e : Ent} (h : e ∈ es) : e.da.length ≤ used es := by
  induction es with
  | nil => cases h
  | cons z r ih =>
    have e1 : used (z :: r) = z.da.length + used r := by simp [used]
    rcases List.mem_cons.1 h with rfl | h
    · omega
    · have := ih h; omega
theorem used_del {es : List Ent} (hs : Srt es) {e : Ent} (h : e ∈ es) : used (delE es e.nm) + e.da.length = used es := by
  induction es with
  | nil => cases h
  | cons z r ih =>
    have e1 : used (z :: r) = z.da.length + used r := by simp [used]
    have h1 := List.pairwise_cons.1 hs
    by_cases hz : z.nm = e.nm
    · have := Srt.uniq hs (List.mem_cons_self ..) h hz
      subst this
      have e2 : delE (z :: r) z.nm = r := by
        unfold delE
        rw [List.filter_cons_of_neg (by simp)]
        refine List.filter_eq_self.2 fun a ha => ?_
        have := h1.1 a ha
        simp only [Bool.not_eq_true', beq_eq_false_iff_ne]
        intro he; rw [he] at this; exact List.lt_irrefl _ this
      rw [e2, e1]; omega
    · have e2 : delE (z :: r) e.nm = z :: delE r e.nm := by
        unfold delE; rw [List.filter_cons_of_pos (by simp [hz])]
      rcases List.mem_cons.1 h with rfl | h
      · exact absurd rfl hz
      · have := ih h1.2 h
        rw [e2, e1]
        have e3 : used (z :: delE r e.nm) = z.da.length + used (delE r e.nm) := by simp [used]
        omega
theorem used_mod {es : List Ent} (hs : Srt es) {e x : Ent} (h : e ∈ es) (hn : x.nm = e.nm) : used (modE es x) + e.da.length = used es + x.da.length := by
  induction es with
  | nil => cases h
  | cons z r ih =>
    have e1 : used (z :: r) = z.da.length + used r := by simp [used]
    have h1 := List.pairwise_cons.1 hs
    have e2 : modE (z :: r) x = (if z.nm = x.nm then x else z) :: modE r x := rfl
    have e3 : ∀ y l, used (y :: l) = y.da.length + used l := fun y l => by simp [used]
    rw [e2, e3, e1]
    by_cases hz : z.nm = e.nm
    · have := Srt.uniq hs (List.mem_cons_self ..) h hz
      subst this
      have e4 : modE r x = r := by
        unfold modE
        conv => rhs; rw [← List.map_id r]
        refine List.map_congr_left fun a ha => ?_
        have := h1.1 a ha
        rw [if_neg]; · rfl
        rw [hn]; intro he; rw [he] at this; exact List.lt_irrefl _ this
      rw [e4, if_pos hn.symm]; omega
    · rw [if_neg (by rw [hn]; exact hz)]
      rcases List.mem_cons.1 h with rfl | h
      · exact absurd rfl hz
      · have := ih h1.2 h; omega
end Go.Proofs.DiskMath
