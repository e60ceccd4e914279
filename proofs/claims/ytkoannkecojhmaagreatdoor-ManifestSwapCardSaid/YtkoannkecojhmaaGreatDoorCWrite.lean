/-
  DERIVED. Numbers that are written one behind the other.
-/
import Derived.Test.YtkoannkecojhmaaGreatDoorCCheck
import Derived.Test.YtkoannkecojhmaaGreatDoorBBuild
import Derived.Test.YtkoannkecojhmaaGreatDoorBString
import Derived.Test.YtkoannkecojhmaaGreatDoorSVarB
import Derived.Shelf.RegionOpen
set_option linter.unusedVariables false
set_option linter.unusedSimpArgs false
namespace Go.Proofs.YtkoannkecojhmaaGreatDoor
open Go.RowKit
/-- The places of a struct's first n cells. -/
def ptsV (g n : Nat) : List Value := (List.range n).map fun k => .pointer (some ⟨g, k, none⟩)
theorem ptsV_at (g n k : Nat) (h : k < n) : (ptsV g n)[k]? = some (.pointer (some ⟨g, k, none⟩)) := by simp [ptsV, h]
set_option maxHeartbeats 1000000 in
set_option maxRecDepth 100000 in
theorem numbers_any (g : Nat) (w : World) : Calls Tryz.prog 20 #[Pt g] w fun e w' => e = .returned (.slice (some ⟨w.heap.size, 0, none⟩) 6 6) ∧ RowAt w' w.heap.size 0 (ptsV g 6) ∧ Below w.heap.size w w' := by
  have mixed : Tryz.prog.follows Departure.mixedOrders = true := by kernel_rfl
  go_enter Tryz.func20, Tryz.ntmps20
  go_wp2
  go_region_o
  go_wp2
  go_ret
  refine ⟨rfl, fun j x hx => ?_, ((Below.refl _ w).drew).alloc (Nat.le_refl _) _⟩
  rw [Nat.zero_add]
  exact SAt.new w.drew (ptsV g 6) 102 j x hx
set_option maxHeartbeats 1000000 in
set_option maxRecDepth 100000 in
theorem runNumbers_any (g : Nat) (w : World) : Calls Tryz.prog 23 #[Pt g] w fun e w' => e = .returned (.slice (some ⟨w.heap.size, 0, none⟩) 4 4) ∧ RowAt w' w.heap.size 0 (ptsV g 4) ∧ Below w.heap.size w w' := by
  have mixed : Tryz.prog.follows Departure.mixedOrders = true := by kernel_rfl
  go_enter Tryz.func23, Tryz.ntmps23
  go_wp2
  go_region_o
  go_wp2
  go_ret
  refine ⟨rfl, fun j x hx => ?_, ((Below.refl _ w).drew).alloc (Nat.le_refl _) _⟩
  rw [Nat.zero_add]
  exact SAt.new w.drew (ptsV g 4) 102 j x hx
/-- A number's bytes. -/
def pv (n : Nat) : List UInt8 := pvL 9 n
theorem pvL_len : ∀ f v, (pvL f v).length ≤ f + 1
  | 0, v => by simp [pvL]
  | f + 1, v => by
    rw [pvL]; split
    · simp
    · have := pvL_len f (v / 128); simp; omega
theorem pv_len (n : Nat) : (pv n).length ≤ 10 := pvL_len 9 n
theorem pvs_len (ns : List Nat) : (ns.flatMap pv).length ≤ ns.length * 10 := by
  induction ns with
  | nil => simp
  | cons n ns ih => have := pv_len n; rw [List.flatMap_cons, List.length_append, List.length_cons]; omega
/-- What is kept while numbers are written. -/
def RW (w : World) (b : Nat) (v : Value) (l : List UInt8) (ns : List Nat) (u : Value) (wr : World) : Prop :=
  ∃ (i : Nat) (p' v' : Value), u = .int .i64 i ∧ i ≤ ns.length ∧ BdC wr b p' v' (l ++ (ns.take i).flatMap pv) ∧ Stay (fun k => k = b ∨ v.ownBlock = some k) w wr ∧ (∀ k, v'.ownBlock = some k → v.ownBlock = some k ∨ w.heap.size ≤ k)
set_option maxHeartbeats 4000000 in
set_option maxRecDepth 100000 in
theorem cwrite_any (ns : List Nat) (g q b c : Nat) (p v : Value) (l : List UInt8) (w : World) (hB : BdC w b p v l) (hq : RowAt w q 0 (ptsV g ns.length)) (hg : SAt w g (ns.map fun (n : Nat) => Value.int .i64 (n : Int))) (hqb : q ≠ b) (hgb : g ≠ b)
    (hqv : ∀ k, v.ownBlock = some k → k ≠ q ∧ k ≠ g) (hns : ∀ n ∈ ns, n ≤ 1152921504606846976) (hlen : ns.length ≤ 100) (hl : l.length ≤ 100000) :
    Calls Tryz.prog 19 #[Pt b, .slice (some ⟨q, 0, none⟩) ns.length c] w fun e w' => e = .returned (.tuple #[]) ∧ ∃ p' v', BdC w' b p' v' (l ++ ns.flatMap pv) ∧ Stay (fun k => k = b ∨ v.ownBlock = some k) w w' ∧ (∀ k, v'.ownBlock = some k → v.ownBlock = some k ∨ w.heap.size ≤ k) := by
  have HB := Hid.mk hB
  have HQ := Hid.mk hq
  have HG := Hid.mk hg
  have HV := Hid.mk hqv
  have HN := Hid.mk hns
  clear hB hq hg hqv hns
  go_enter Tryz.func19, Tryz.ntmps19
  go_wp2
  go_loopw [8] (fun u wr => RW w b v l ns u wr) (fun u _ => ns.length - (intOf u).toNat)
  case atStart => exact ⟨0, p, v, rfl, Nat.zero_le _, by simpa using HB.out, .refl _ _, fun k hk => Or.inl hk⟩
  case round =>
    obtain ⟨i, p', v', rfl, hi, hB, st, loc⟩ := hrel
    by_cases hlt : i < ns.length
    · have fq : w.cell? ⟨q, i, none⟩ = some (.pointer (some ⟨g, i, none⟩)) := by have := HQ.out i _ (ptsV_at g ns.length i hlt); simpa using this
      have fg : w.cell? ⟨g, i, none⟩ = some (.int .i64 (ns[i] : Nat)) := HG.out i _ (by simp [hlt])
      have kq : ¬ (q = b ∨ v.ownBlock = some q) := fun h => h.elim hqb (fun h => (HV.out q h).1 rfl)
      have kg : ¬ (g = b ∨ v.ownBlock = some g) := fun h => h.elim hgb (fun h => (HV.out g h).2 rfl)
      have cq : wr.cell? ⟨q, i, none⟩ = some (.pointer (some ⟨g, i, none⟩)) := by
        have := st.block q (World.block_lt_of_cell? w _ fq) kq
        unfold World.cell? at fq ⊢; simp only at fq ⊢; rw [this]; exact fq
      have cg : wr.cell? ⟨g, i, none⟩ = some (.int .i64 (ns[i] : Nat)) := by
        have := st.block g (World.block_lt_of_cell? w _ fg) kg
        unfold World.cell? at fg ⊢; simp only at fg ⊢; rw [this]; exact fg
      have hn := HN.out ns[i] (List.getElem_mem hlt)
      have hT : l ++ (ns.take (i + 1)).flatMap pv = l ++ (ns.take i).flatMap pv ++ pv ns[i] := by rw [List.take_add_one, List.getElem?_eq_getElem hlt, List.flatMap_append, List.append_assoc]; simp only [Option.toList_some, List.flatMap_cons, List.flatMap_nil, List.append_nil]
      have hL : (l ++ (ns.take i).flatMap pv).length ≤ 101000 := by
        have := pvs_len (ns.take i)
        rw [List.length_take] at this
        rw [List.length_append]; omega
      obtain ⟨n, hnn⟩ : ∃ n, n = ns[i] := ⟨_, rfl⟩
      rw [← hnn] at cg hn hT
      have HT := Hid.mk hT
      have cp := putvar_any n wr (by omega)
      have HBd := Hid.mk hB
      have HS := Hid.mk st
      have HL := Hid.mk loc
      have pn := pv_len n
      have hsz : (⟨(pvL 9 n).toArray⟩ : ByteArray).size ≤ 10 := pn
      clear fq fg kq kg hnn hT hB st loc HQ HG HV HN HB
      go_wp2_with first
        | (go_at_call 22; refine cp.mono ?_; rintro e w1 ⟨rfl, b1⟩; clear cp)
        | (go_at_call 21; refine wstrC_any _ w1 (HBd.out.kept (F := fun _ => False) (.below b1) (fun h => h) (fun _ _ h => h)) (by omega) _ ?_; intro v2 w2 hB2 st2 loc2)
      refine ⟨⟨i + 1, Pt b, v2, rfl, hlt, by rw [HT.out]; exact hB2, ?_, ?_⟩, by simp only [intOf]; omega⟩
      · refine (HS.out.trans (.below b1)).andThen st2 (fun k hk h => ?_)
        rcases h with h | h
        · exact Or.inl h
        · rcases HL.out k h with h | h
          · exact Or.inr h
          · omega
      · intro k hk
        rcases loc2 k hk with h | h
        · exact HL.out k h
        · have := HS.out.size; have := b1.size; right; omega
    · have e : i = ns.length := by omega
      subst e
      rw [List.take_of_length_le (Nat.le_refl _)] at hB
      clear HQ HG HV HN HB
      go_wp2
      go_end0
      exact ⟨rfl, p', v', hB, st, loc⟩
end Go.Proofs.YtkoannkecojhmaaGreatDoor
