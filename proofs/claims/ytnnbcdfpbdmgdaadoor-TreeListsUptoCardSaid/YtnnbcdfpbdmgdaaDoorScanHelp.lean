/-
  DERIVED. TScan0, TScan2, TScanM, TScanP, TScanR, TScan1, TScanS, TScanQ, TScan3, TScanT, as one text.
-/
import Derived.Test.YtnnbcdfpbdmgdaaDoorTLaw0
import Derived.Test.YtnnbcdfpbdmgdaaDoorTDo
import Derived.Test.YtnnbcdfpbdmgdaaDoorTWork0
set_option linter.unusedVariables false
set_option linter.unusedSimpArgs false
namespace Go.Proofs.YtnnbcdfpbdmgdaaDoor
open Go.RowKit Go.Maps Go.Sort Go.Proofs.BitMath Go.Proofs.TreeMath
/-- Texts that lie somewhere. -/
def StA (w : World) (a : Option Addr) (l : List ByteArray) : Prop := ∀ i (hi : i < l.length), ∃ g, a = some ⟨g, 0, none⟩ ∧ w.cell? ⟨g, i, none⟩ = some (.string l[i])
theorem StA.below {w w' : World} {a : Option Addr} {l : List ByteArray} (h : StA w a l) (b : Below w.heap.size w w') : StA w' a l := fun i hi => by
  obtain ⟨g, e, c⟩ := h i hi
  exact ⟨g, e, cell_lat b c⟩
theorem StA.row {w : World} {B : Nat} {v : Value} {l : List ByteArray} (h : w.ownsRow B 9 1 v l.length (l.map .string)) : ∃ a c, v = .slice a l.length c ∧ l.length ≤ c ∧ StA w a l := by
  obtain ⟨a, c, rfl, hc⟩ := slice_form h
  refine ⟨a, c, rfl, hc, fun i hi => ?_⟩
  rcases h.2 with ⟨h2, h3⟩ | ⟨g, cap, cur, h2, h3⟩
  · omega
  · simp at h2
    obtain ⟨rfl, rfl⟩ := h2
    refine ⟨g, rfl, ?_⟩
    rw [row_cell h i hi]
    simp [hi]
/-- Hits that lie somewhere. -/
def HAt {n : Nat} (w : World) (a : Option Addr) (l : List (Nat × Cd n)) : Prop := ∀ i (hi : i < l.length), ∃ g, a = some ⟨g, 0, none⟩ ∧ w.cell? ⟨g, i * 3, none⟩ = some (.int .i64 (l[i].1 : Nat)) ∧ w.cell? ⟨g, i * 3 + 1, none⟩ = some (.int .i64 0) ∧ w.cell? ⟨g, i * 3 + 2, none⟩ = some (.string l[i].2.1)
theorem HAt.below {n : Nat} {w w' : World} {a : Option Addr} {l : List (Nat × Cd n)} (h : HAt w a l) (b : Below w.heap.size w w') : HAt w' a l := fun i hi => by
  obtain ⟨g, e, c0, c1, c2⟩ := h i hi
  exact ⟨g, e, cell_lat b c0, cell_lat b c1, cell_lat b c2⟩
theorem HAt.row {n : Nat} {w : World} {B : Nat} {v : Value} {l : List (Nat × Cd n)} (h : w.ownsRow B 36 3 v l.length (l.flatMap hV)) : ∃ a c, v = .slice a l.length c ∧ l.length ≤ c ∧ HAt w a l := by
  obtain ⟨a, c, rfl, hc⟩ := slice_form h
  refine ⟨a, c, rfl, hc, fun i hi => ?_⟩
  obtain ⟨g, cap, e, h0, h1, h2⟩ := hit_cell h i hi
  simp at e
  exact ⟨g, e.1, h0, h1, h2⟩
theorem HAt.take {n : Nat} {w : World} {a : Option Addr} {l : List (Nat × Cd n)} (h : HAt w a l) (k : Nat) : HAt w a (l.take k) := fun i hi => by
  have hi2 : i < l.length := by rw [List.length_take] at hi; omega
  obtain ⟨g, e, c0, c1, c2⟩ := h i hi2
  rw [List.getElem_take]
  exact ⟨g, e, c0, c1, c2⟩
def HoldsO (w : World) (s : ByteArray) (l : List ByteArray) (e : Ending) (w' : World) : Prop := ∃ b : Bool, e = .returned (.bool b) ∧ (b = true ↔ s ∈ l) ∧ Drew w w'
set_option maxHeartbeats 2000000 in
set_option maxRecDepth 100000 in
theorem holds_any (l : List ByteArray) (s : ByteArray) (a : Option Addr) (c : Nat) (w : World) (h : StA w a l) (hl : l.length < 4611686018427387904) :
    Calls Tryd.prog 26 #[.slice a l.length c, .string s] w (HoldsO w s l) := by
  obtain ⟨n, hn⟩ : ∃ n, n = l.length := ⟨_, rfl⟩
  have HA := Hid.mk (And.intro h hn)
  rw [← hn] at hl ⊢
  clear h hn
  go_enter Tryd.func26, Tryd.ntmps26
  go_wp2
  go_loopw [5] (fun u wr => ∃ i : Nat, u = .int .i64 i ∧ i ≤ n ∧ Drew w wr ∧ Hid (∀ j (hj : j < l.length), j < i → l[j] ≠ s)) (fun u _ => n - (intOf u).toNat)
  case atStart => exact ⟨0, rfl, Nat.zero_le _, Drew.refl _, Hid.mk (fun j _ h => by omega)⟩
  case round =>
    obtain ⟨i, rfl, hi, hd, HJ⟩ := hrel
    by_cases hlt : i < n
    · have hln : i < l.length := by have := HA.out.2; omega
      obtain ⟨g, e, c0⟩ := (HA.out.1.below (hd.below _)) i hln
      subst e
      obtain ⟨x, hx⟩ : ∃ x, x = l[i] := ⟨_, rfl⟩
      rw [← hx] at c0
      have HX := Hid.mk hx
      have i1 : (i : Int) < (n : Int) := by omega
      have i2 : 0 ≤ (i : Int) := by omega
      have hwi : IntKind.i64.wrap ((i : Int) + 1) = ((i + 1 : Nat) : Int) := by rw [IntKind.wrap_i64]; omega
      clear hx
      by_cases hxs : x = s
      · subst hxs
        have hm : x ∈ l := by
          rw [HX.out]
          exact List.getElem_mem _
        have HM := Hid.mk hm
        clear hm
        go_wp2
        all_goals (go_ret; unfold HoldsO; exact ⟨true, rfl, ⟨fun _ => HM.out, fun _ => rfl⟩, by first | exact hd | exact hd.drew | exact hd.more _⟩)
      · have hx1 : (x.toList == s.toList) = false := by
          rw [ByteArray.toList_eq, ByteArray.toList_eq, beq_eq_false_iff_ne]
          intro h
          exact hxs (ByteArray.ext (Array.toList_inj.1 h))
        go_wp2
        all_goals refine ⟨⟨i + 1, by push_cast; rfl, hlt, by first | exact hd | exact hd.drew | exact hd.more _, Hid.mk (fun j hj hji => ?_)⟩, by simp only [intOf]; omega⟩
        all_goals (
          by_cases e : j = i
          · subst e; rw [← HX.out]; exact hxs
          · exact HJ.out j hj (by omega))
    · have i1 : ¬ (i : Int) < (n : Int) := by omega
      have hm : ¬ s ∈ l := by
        intro hm
        obtain ⟨j, hj, e⟩ := List.getElem_of_mem hm
        exact HJ.out j hj (by have := HA.out.2; omega) e
      have HM := Hid.mk hm
      clear hm
      go_wp2
      go_ret
      unfold HoldsO
      exact ⟨false, rfl, ⟨fun h => (Bool.noConfusion h), fun h => absurd h HM.out⟩, hd⟩
set_option maxHeartbeats 2000000 in
set_option maxRecDepth 100000 in
theorem sameHits_any {m : Nat} (l : List (Nat × Cd m)) (la lb : Option Addr) (ca cb : Nat) (w : World) (ha : HAt w la l) (hb : HAt w lb l) (hl : l.length < 4611686018427387904) :
    Calls Tryd.prog 23 #[.slice la l.length ca, .slice lb l.length cb] w fun e w' => e = .returned (.bool true) ∧ Drew w w' := by
  obtain ⟨n, hn⟩ : ∃ n, n = l.length := ⟨_, rfl⟩
  have HA := Hid.mk (And.intro ha (And.intro hb hn))
  rw [← hn] at hl ⊢
  clear ha hb hn
  go_enter Tryd.func23, Tryd.ntmps23
  go_wp2
  go_loopw [5] (fun u wr => ∃ i : Nat, u = .int .i64 i ∧ i ≤ n ∧ Drew w wr) (fun u _ => n - (intOf u).toNat)
  case atStart => exact ⟨0, rfl, Nat.zero_le _, Drew.refl _⟩
  case round =>
    obtain ⟨i, rfl, hi, hd⟩ := hrel
    by_cases hlt : i < n
    · have hln : i < l.length := by have := HA.out.2.2; omega
      obtain ⟨g1, e1, x0, x1, x2⟩ := (HA.out.1.below (hd.below _)) i hln
      obtain ⟨g2, e2, y0, y1, y2⟩ := (HA.out.2.1.below (hd.below _)) i hln
      subst e1
      subst e2
      obtain ⟨e, he⟩ : ∃ e, e = l[i].1 := ⟨_, rfl⟩
      obtain ⟨s, hs⟩ : ∃ s, s = l[i].2.1 := ⟨_, rfl⟩
      rw [← he] at x0 y0
      rw [← hs] at x2 y2
      have i1 : (i : Int) < (n : Int) := by omega
      have i2 : 0 ≤ (i : Int) := by omega
      clear he hs hln
      go_wp2
      go_quiet (fail)
      go_wp2
      refine ⟨⟨i + 1, rfl, hlt, hd.more _⟩, by simp only [intOf]; omega⟩
    · go_wp2
      go_ret
      exact ⟨rfl, hd⟩
end Go.Proofs.YtnnbcdfpbdmgdaaDoor
set_option linter.unusedVariables false
set_option linter.unusedSimpArgs false
namespace Go.Proofs.YtnnbcdfpbdmgdaaDoor
open Go.RowKit Go.Maps Go.Sort Go.Proofs.BitMath Go.Proofs.TreeMath
/-- How many first takes. -/
def FstM {m : Nat} (l : List (Nat × Cd m)) (k : Int) (x : Nat) : Prop :=
  x ≤ l.length ∧ (((k ≤ 0 ∨ l = []) ∧ x = 0) ∨ (0 < k ∧ ∃ p, ∃ hp : p < l.length, p = min k.toNat l.length - 1 ∧ (∀ j (hj : j < l.length), j < x → l[j].1 ≤ l[p].1) ∧ (∀ hx : x < l.length, l[p].1 < l[x].1)))
def FstO {m : Nat} (w : World) (l : List (Nat × Cd m)) (k : Int) (e : Ending) (w' : World) : Prop := ∃ a' c' x, e = .returned (.slice a' x c') ∧ Drew w w' ∧ HAt w' a' (l.take x) ∧ FstM l k x
theorem hat_drew {m : Nat} {w w' : World} {a : Option Addr} {l : List (Nat × Cd m)} (h : HAt w a l) (d : Drew w w') : HAt w' a l := h.below (d.below _)
set_option maxHeartbeats 4000000 in
set_option maxRecDepth 100000 in
theorem first_any {m : Nat} (l : List (Nat × Cd m)) (a : Option Addr) (c : Nat) (k : Int) (w : World) (h : HAt w a l) (hl : l.length < 4611686018427387904) (hc : l.length ≤ c) (hc2 : c < 4611686018427387904) :
    Calls Tryd.prog 25 #[.slice a l.length c, .int .i64 k] w (FstO w l k) := by
  obtain ⟨ln, hln⟩ : ∃ ln, ln = l.length := ⟨_, rfl⟩
  have HA := Hid.mk (And.intro h hln)
  rw [← hln] at hl hc ⊢
  clear h hln
  by_cases hz : k ≤ 0 ∨ ln = 0
  · have hnil : FstO w l k (.returned (.slice none 0 0)) w := ⟨none, 0, 0, rfl, Drew.refl _, fun i hi => by simp at hi, Nat.zero_le _, .inl ⟨hz.elim .inl (fun e => .inr (List.length_eq_zero_iff.1 (by rw [← HA.out.2]; exact e))), rfl⟩⟩
    have HN := Hid.mk hnil
    clear hnil
    by_cases hk0 : k ≤ 0
    · go_enter Tryd.func25, Tryd.ntmps25
      go_wp2_with fail
      all_goals (go_ret; exact HN.out)
    · have h0 : ln = 0 := by omega
      subst h0
      go_enter Tryd.func25, Tryd.ntmps25
      go_wp2_with fail
      all_goals (go_ret; exact HN.out)
  · have hk0 : ¬ k ≤ 0 := fun e => hz (.inl e)
    have hn0 : ln ≠ 0 := fun e => hz (.inr e)
    have hn1 : ((ln : Int) == 0) = false := by simp; omega
    clear hz
    obtain ⟨p, hp⟩ : ∃ p, p = min k.toNat l.length - 1 := ⟨_, rfl⟩
    have hpl : p < l.length := by have := HA.out.2; omega
    have hpm : min k (ln : Int) = ((p + 1 : Nat) : Int) := by have := HA.out.2; omega
    obtain ⟨g, e, c0, -, -⟩ := HA.out.1 p hpl
    subst e
    obtain ⟨D, hD⟩ : ∃ D, D = l[p].1 := ⟨_, rfl⟩
    rw [← hD] at c0
    have HP := Hid.mk (And.intro hp hD)
    go_enter Tryd.func25, Tryd.ntmps25
    clear hp hD
    go_wp2_with fail
    go_loopw [6] (fun u wr => ∃ i : Nat, u = .int .i64 i ∧ i ≤ ln ∧ Drew w wr ∧ Hid (∀ j (hj : j < l.length), j < i → l[j].1 ≤ D)) (fun u _ => ln - (intOf u).toNat)
    case atStart => exact ⟨0, rfl, Nat.zero_le _, Drew.refl _, Hid.mk (fun j _ h => by omega)⟩
    case round =>
      obtain ⟨i, rfl, hi, hd, HJ⟩ := hrel
      have i2 : 0 ≤ (i : Int) := by omega
      have ic : (i : Int) ≤ (c : Int) := by omega
      have hfin : (∀ hx : i < l.length, D < l[i].1) → FstO w l k (.returned (.slice (some ⟨g, 0, none⟩) i c)) wr := fun hx => ⟨_, c, i, rfl, hd, hat_drew (HA.out.1.take i) hd, by have := HA.out.2; omega, .inr ⟨by omega, p, hpl, HP.out.1, fun j hj hji => by rw [← HP.out.2]; exact HJ.out j hj hji, fun h => by rw [← HP.out.2]; exact hx h⟩⟩
      by_cases hlt : i < ln
      · have hln : i < l.length := by have := HA.out.2; omega
        obtain ⟨g', e, d0, -, -⟩ := (hat_drew HA.out.1 hd) i hln
        cases e
        have i1 : (i : Int) < (ln : Int) := by omega
        have hwi : IntKind.i64.wrap ((i : Int) + 1) = ((i + 1 : Nat) : Int) := by rw [IntKind.wrap_i64]; omega
        obtain ⟨x, hx⟩ : ∃ x, x = l[i].1 := ⟨_, rfl⟩
        rw [← hx] at d0
        have HX := Hid.mk hx
        clear hx
        by_cases hxd : x ≤ D
        · have j1 : ((x : Nat) : Int) ≤ ((D : Nat) : Int) := by omega
          have HF := Hid.mk hfin
          clear hfin
          go_wp2_with fail
          all_goals exact ⟨⟨i + 1, by push_cast; rfl, hlt, hd, Hid.mk (fun j hj hji => by
            by_cases e : j = i
            · subst e; rw [← HX.out]; exact hxd
            · exact HJ.out j hj (by omega))⟩, by simp only [intOf]; omega⟩
        · have j1 : ¬ ((x : Nat) : Int) ≤ ((D : Nat) : Int) := by omega
          have hE := hfin (fun _ => by rw [← HX.out]; omega)
          have HE := Hid.mk hE
          clear hE hfin
          go_wp2_with fail
          all_goals (go_ret; exact HE.out)
      · have i1 : ¬ (i : Int) < (ln : Int) := by omega
        have hE := hfin (fun h => by have := HA.out.2; omega)
        have HE := Hid.mk hE
        clear hE hfin
        go_wp2_with fail
        all_goals (go_ret; exact HE.out)
end Go.Proofs.YtnnbcdfpbdmgdaaDoor
set_option linter.unusedVariables false
set_option linter.unusedSimpArgs false
namespace Go.Proofs.YtnnbcdfpbdmgdaaDoor
open Go.RowKit Go.Maps Go.Sort Go.Proofs.BitMath Go.Proofs.TreeMath
theorem count_lt {ds : List Nat} (hs : ds.Pairwise (· ≤ ·)) {p : Nat} (hp : p < ds.length) : lc ds ds[p] ≤ p := by
  unfold lc
  have e : ds.countP (fun x => decide (x < ds[p])) = (ds.take p).countP (fun x => decide (x < ds[p])) + (ds.drop p).countP (fun x => decide (x < ds[p])) := by
    rw [← List.countP_append, List.take_append_drop]
  have h0 : (ds.drop p).countP (fun x => decide (x < ds[p])) = 0 := by
    rw [List.countP_eq_zero]
    intro a ha
    obtain ⟨j, hj, rfl⟩ := List.getElem_of_mem ha
    rw [List.getElem_drop]
    have hj2 : p + j < ds.length := by rw [List.length_drop] at hj; omega
    have : ds[p] ≤ ds[p + j] := by
      rcases Nat.eq_zero_or_pos j with h | h
      · subst h; exact Nat.le_refl _
      · exact List.pairwise_iff_getElem.1 hs p (p + j) hp hj2 (by omega)
    simp
    omega
  have h1 : (ds.take p).countP (fun x => decide (x < ds[p])) ≤ p := Nat.le_trans List.countP_le_length (by rw [List.length_take]; omega)
  omega
theorem count_le {ds : List Nat} (hs : ds.Pairwise (· ≤ ·)) {p : Nat} (hp : p < ds.length) : p + 1 ≤ lc ds (ds[p] + 1) := by
  unfold lc
  have e : ds.countP (fun x => decide (x < ds[p] + 1)) = (ds.take (p + 1)).countP (fun x => decide (x < ds[p] + 1)) + (ds.drop (p + 1)).countP (fun x => decide (x < ds[p] + 1)) := by
    rw [← List.countP_append, List.take_append_drop]
  have h0 : (ds.take (p + 1)).countP (fun x => decide (x < ds[p] + 1)) = (ds.take (p + 1)).length := by
    rw [List.countP_eq_length]
    intro a ha
    obtain ⟨j, hj, rfl⟩ := List.getElem_of_mem ha
    rw [List.getElem_take]
    rw [List.length_take] at hj
    have : ds[j]'(by omega) ≤ ds[p] := by
      by_cases h : j = p
      · subst h; exact Nat.le_refl _
      · exact List.pairwise_iff_getElem.1 hs j p (by omega) hp (by omega)
    simp
    omega
  rw [List.length_take] at h0
  omega
theorem hlt_le {n : Nat} {x y : Nat × Cd n} (h : hlt x y) : x.1 ≤ y.1 := by
  rcases h with h | h
  · omega
  · omega
theorem ans_perm {n : Nat} {k b0 : Nat} {q : Cd n} {A : List (Cd n)} (hA : A.Nodup) (hall : ∀ c ∈ A, dC c q ≤ bdM k b0 q A) : ((ansL k b0 q A).map Prod.fst).Perm (dqs q A) := by
  have hs := ansL_sorted k b0 q hA
  have hnd : ((ansL k b0 q A).map Prod.snd).Nodup := by
    unfold List.Nodup
    rw [List.pairwise_map]
    refine (List.Pairwise.imp_of_mem ?_ hs)
    intro a b ha hb h e
    have h1 := (mem_ansL.1 ha).2.1
    have h2 := (mem_ansL.1 hb).2.1
    rw [e] at h1
    rcases h with h | h
    · omega
    · rw [e] at h
      exact List.lt_irrefl _ h.2
  have hp : ((ansL k b0 q A).map Prod.snd).Perm A := (List.perm_ext_iff_of_nodup hnd hA).2 fun c => by
    rw [List.mem_map]
    constructor
    · rintro ⟨y, hy, rfl⟩
      exact (mem_ansL.1 hy).1
    · intro hc
      exact ⟨(dC c q, c), mem_ansL.2 ⟨hc, rfl, hall c hc⟩, rfl⟩
  have h2 := hp.map (fun c => dC c q)
  have e : ((ansL k b0 q A).map Prod.snd).map (fun c => dC c q) = (ansL k b0 q A).map Prod.fst := by
    rw [List.map_map]
    exact List.map_congr_left fun y hy => (mem_ansL.1 hy).2.1
  rw [e] at h2
  exact h2
/-- The first k of all hits, and all that are as far as the k-th. -/
theorem first_ans {n : Nat} {wd : Nat} {q : Cd n} {A : List (Cd n)} (hA : A.Nodup) (hlen : A.length < 9223372036854775807) (hwd : 8 * n ≤ wd) {k : Int} (hk : 1 ≤ k) {x : Nat} (hx : FstM (ansL 9223372036854775807 wd q A) k x) : (ansL 9223372036854775807 wd q A).take x = ansL k.toNat wd q A := by
  have hbd := bdM_all wd q A hlen
  have hall : ∀ c ∈ A, dC c q ≤ bdM 9223372036854775807 wd q A := fun c hc => by rw [hbd]; exact Nat.le_trans (dC_le c q) hwd
  have hperm := ans_perm hA hall
  have hs := ansL_sorted 9223372036854775807 wd q hA
  have hmem := fun y => mem_ansL (k := 9223372036854775807) (b0 := wd) (q := q) (A := A) (x := y)
  rw [hbd] at hmem
  generalize ansL 9223372036854775807 wd q A = l at *
  have hsd : (l.map Prod.fst).Pairwise (· ≤ ·) := by
    rw [List.pairwise_map]
    exact hs.imp fun h => hlt_le h
  have hpl := hperm.length_eq
  rw [List.length_map] at hpl
  have hql : (dqs q A).length = A.length := by simp [dqs]
  refine (ansL_eq hA (hs.sublist (List.take_sublist x l)) fun y => ?_).symm
  obtain ⟨hxl, ⟨h0, h1⟩ | ⟨hk0, p, hp, hpe, h2, h3⟩⟩ := hx
  · subst h1
    have hl0 : l = [] := h0.elim (fun h => by omega) id
    subst hl0
    have hA0 : A = [] := List.length_eq_zero_iff.1 (by simp at hpl; omega)
    subst hA0
    simp
  · have hin : y ∈ l.take x ↔ y ∈ l ∧ y.1 ≤ l[p].1 := by
      constructor
      · intro h
        obtain ⟨j, hj, rfl⟩ := List.getElem_of_mem h
        rw [List.length_take] at hj
        rw [List.getElem_take]
        exact ⟨List.getElem_mem _, h2 j (by omega) (by omega)⟩
      · rintro ⟨h, hd⟩
        obtain ⟨j, hj, rfl⟩ := List.getElem_of_mem h
        by_cases hjx : j < x
        · rw [List.mem_take_iff_getElem]
          exact ⟨j, by omega, rfl⟩
        · exfalso
          have h4 := h3 (by omega)
          have h5 : l[x].1 ≤ l[j].1 := by
            by_cases e : x = j
            · subst e; exact Nat.le_refl _
            · exact hlt_le (List.pairwise_iff_getElem.1 hs x j (by omega) hj (by omega))
          omega
    rw [hin, hmem]
    have hkey : (y.2 ∈ A ∧ dC y.2 q = y.1 ∧ y.1 ≤ wd) → (y.1 ≤ l[p].1 ↔ y.1 ≤ bdM k.toNat wd q A) := by
      intro hy
      by_cases hkl : k.toNat ≤ l.length
      · have hpk : p + 1 = k.toNat := by omega
        have hlp : l[p].1 ≤ wd := ((hmem l[p]).1 (List.getElem_mem _)).2.2
        have c1 := count_lt hsd (p := p) (by simpa using hp)
        have c2 := count_le hsd (p := p) (by simpa using hp)
        rw [List.getElem_map] at c1 c2
        have e1 : lc (l.map Prod.fst) l[p].1 = lc (dqs q A) l[p].1 := hperm.countP_eq _
        have e2 : lc (l.map Prod.fst) (l[p].1 + 1) = lc (dqs q A) (l[p].1 + 1) := hperm.countP_eq _
        have hb : bdM k.toNat wd q A = l[p].1 := by
          unfold bdM
          exact lower_one (by omega) hlp (by omega) (.inr (by omega))
        rw [hb]
      · have hb : bdM k.toNat wd q A = wd := by
          unfold bdM
          exact lower_few _ _ (by omega)
        rw [hb]
        have hpk : p + 1 = l.length := by omega
        have hyl : y ∈ l := (hmem y).2 hy
        obtain ⟨j, hj, rfl⟩ := List.getElem_of_mem hyl
        have h5 : l[j].1 ≤ l[p].1 := by
          by_cases e : j = p
          · subst e; exact Nat.le_refl _
          · exact hlt_le (List.pairwise_iff_getElem.1 hs j p hj hp (by omega))
        exact ⟨fun _ => hy.2.2, fun _ => h5⟩
    constructor
    · rintro ⟨h, hd⟩
      exact ⟨h.1, h.2.1, (hkey h).1 hd⟩
    · rintro ⟨a1, a2, a3⟩
      have hy : y.2 ∈ A ∧ dC y.2 q = y.1 ∧ y.1 ≤ wd := ⟨a1, a2, Nat.le_trans a3 (bdM_le _ _ _ _)⟩
      exact ⟨hy, (hkey hy).2 a3⟩
end Go.Proofs.YtnnbcdfpbdmgdaaDoor
set_option linter.unusedVariables false
set_option linter.unusedSimpArgs false
namespace Go.Proofs.YtnnbcdfpbdmgdaaDoor
open Go.RowKit Go.Maps Go.Sort Go.Proofs.BitMath Go.Proofs.TreeMath
/-- What scan keeps. -/
structure ScL {n : Nat} (q : Cd n) (r : Nat) (A : List (Cd n)) (L : List (Nat × Cd n)) : Prop where
  srt : L.Pairwise hlt
  mem : ∀ x, x ∈ L ↔ x.2 ∈ A ∧ dC x.2 q = x.1 ∧ x.1 ≤ r
theorem ScL.nil {n : Nat} (q : Cd n) (r : Nat) : ScL q r [] [] := ⟨List.Pairwise.nil, fun x => by simp⟩
theorem ScL.skip {n : Nat} {q : Cd n} {r : Nat} {A : List (Cd n)} {L : List (Nat × Cd n)} (h : ScL q r A L) {c : Cd n} (hc : r < dC c q) : ScL q r (A ++ [c]) L := ⟨h.srt, fun x => by
  rw [h.mem, List.mem_append, List.mem_singleton]
  constructor
  · rintro ⟨h1, h2⟩
    exact ⟨.inl h1, h2⟩
  · rintro ⟨h1 | h1, h2, h3⟩
    · exact ⟨h1, h2, h3⟩
    · exfalso
      rw [h1] at h2
      omega⟩
theorem ScL.put {n : Nat} {q : Cd n} {r : Nat} {A : List (Cd n)} {L : List (Nat × Cd n)} (h : ScL q r A L) {c : Cd n} (hc : dC c q ≤ r) {k : Nat} (h1 : ∀ j (hj : j < L.length), j < k → hlt L[j] (dC c q, c)) (h2 : ∀ j (hj : j < L.length), k ≤ j → hlt (dC c q, c) L[j]) : ScL q r (A ++ [c]) (L.take k ++ (dC c q, c) :: L.drop k) := by
  have t1 : ∀ y ∈ L.take k, hlt y (dC c q, c) := fun y hy => by
    obtain ⟨j, hj, rfl⟩ := List.getElem_of_mem hy
    rw [List.length_take] at hj
    rw [List.getElem_take]
    exact h1 j (by omega) (by omega)
  have t2 : ∀ y ∈ L.drop k, hlt (dC c q, c) y := fun y hy => by
    obtain ⟨j, hj, rfl⟩ := List.getElem_of_mem hy
    rw [List.length_drop] at hj
    rw [List.getElem_drop]
    exact h2 (k + j) (by omega) (by omega)
  have hs : (L.take k ++ L.drop k).Pairwise hlt := by rw [List.take_append_drop]; exact h.srt
  obtain ⟨s1, s2, s3⟩ := List.pairwise_append.1 hs
  refine ⟨?_, fun x => ?_⟩
  · rw [List.pairwise_append]
    refine ⟨s1, List.pairwise_cons.2 ⟨t2, s2⟩, fun a ha b hb => ?_⟩
    rcases List.mem_cons.1 hb with rfl | hb
    · exact t1 a ha
    · exact s3 a ha b hb
  · have hm : x ∈ L.take k ++ (dC c q, c) :: L.drop k ↔ x ∈ L ∨ x = (dC c q, c) := by
      rw [List.mem_append, List.mem_cons]
      have : x ∈ L ↔ x ∈ L.take k ∨ x ∈ L.drop k := by rw [← List.mem_append, List.take_append_drop]
      rw [this]
      constructor
      · rintro (h | h | h)
        · exact .inl (.inl h)
        · exact .inr h
        · exact .inl (.inr h)
      · rintro ((h | h) | h)
        · exact .inl h
        · exact .inr (.inr h)
        · exact .inr (.inl h)
    rw [hm, h.mem, List.mem_append, List.mem_singleton]
    constructor
    · rintro (⟨a1, a2⟩ | a1)
      · exact ⟨.inl a1, a2⟩
      · subst a1
        exact ⟨.inr rfl, rfl, hc⟩
    · rintro ⟨a1 | a1, a2, a3⟩
      · exact .inl ⟨a1, a2, a3⟩
      · right
        exact Prod.ext (by rw [← a2, a1]) a1
/-- What scan keeps is what Within answers. -/
theorem ScL.ans {n : Nat} {q : Cd n} {r : Nat} {A : List (Cd n)} {L : List (Nat × Cd n)} (h : ScL q r A L) (hA : A.Nodup) (hlen : A.length < 9223372036854775807) : ansL 9223372036854775807 r q A = L :=
  ansL_eq hA h.srt fun x => by rw [bdM_all r q A hlen]; exact h.mem x
/-- The members alone matter. -/
theorem ScL.perm {n : Nat} {q : Cd n} {r : Nat} {A B : List (Cd n)} {L : List (Nat × Cd n)} (h : ScL q r A L) (hm : ∀ c, c ∈ A ↔ c ∈ B) : ScL q r B L := ⟨h.srt, fun x => by rw [h.mem, hm]⟩
theorem hlt_trans {n : Nat} {x y z : Nat × Cd n} (h : hlt x y) (k : hlt y z) : hlt x z := by
  rcases h with h | h
  · rcases k with k | k
    · exact .inl (by omega)
    · exact .inl (by omega)
  · rcases k with k | k
    · exact .inl (by omega)
    · exact .inr ⟨by omega, List.lt_trans h.2 k.2⟩
/-- A row of hits with a hole. -/
def holed {n : Nat} (L : List (Nat × Cd n)) (k : Nat) (us : List Value) : List Value := (L.take k).flatMap hV ++ (us ++ (L.drop k).flatMap hV)
theorem hV_flat {n : Nat} (L : List (Nat × Cd n)) : (L.flatMap hV).length = L.length * 3 := by
  induction L with
  | nil => rfl
  | cons x L ih => rw [List.flatMap_cons, List.length_append, ih]; simp [hV]; omega
/-- The hole goes down by one. -/
theorem holed_step {n : Nat} {L : List (Nat × Cd n)} {k : Nat} (hk : k < L.length) : holed L (k + 1) (hV L[k]) = holed L k (hV L[k]) := by
  have e : (L.drop k).flatMap hV = hV L[k] ++ (L.drop (k + 1)).flatMap hV := by rw [List.drop_eq_getElem_cons hk, List.flatMap_cons]
  have e2 : [L[k]].flatMap hV = hV L[k] := by simp
  unfold holed
  rw [e, List.take_succ_eq_append_getElem hk, List.flatMap_append, List.append_assoc, e2]
/-- The hole is filled. -/
theorem holed_put {n : Nat} {L : List (Nat × Cd n)} {k : Nat} (x : Nat × Cd n) : holed L k (hV x) = (L.take k ++ x :: L.drop k).flatMap hV := by
  unfold holed
  rw [List.flatMap_append, List.flatMap_cons]
theorem holed_set {n : Nat} {L : List (Nat × Cd n)} {k : Nat} (hk : k ≤ L.length) (a b c x y z : Value) : (((holed L k [a, b, c]).set (k * 3) x).set (k * 3 + 1) y).set (k * 3 + 2) z = holed L k [x, y, z] := by
  unfold holed
  have hl : ((L.take k).flatMap hV).length = k * 3 := by rw [hV_flat, List.length_take, Nat.min_eq_left hk]
  generalize (L.take k).flatMap hV = P at *
  generalize (L.drop k).flatMap hV = Q at *
  rw [List.set_append_right _ _ (by omega), List.set_append_right _ _ (by omega), List.set_append_right _ _ (by omega)]
  rw [hl, Nat.sub_self, Nat.add_sub_cancel_left, Nat.add_sub_cancel_left]
  rfl
end Go.Proofs.YtnnbcdfpbdmgdaaDoor
set_option linter.unusedVariables false
set_option linter.unusedSimpArgs false
namespace Go.Proofs.YtnnbcdfpbdmgdaaDoor
open Go.RowKit Go.Maps Go.Sort Go.Proofs.BitMath Go.Proofs.TreeMath
theorem hang_mem {n : Nat} {T : List (Nd (Cd n))} (wf : WF dC T) (c c' : Cd n) : c' ∈ lives (TreeMath.hang dC T c) ↔ c' ∈ lives T ∨ c' = c := by
  rw [hang_lives wf, List.mem_append, List.mem_singleton]
theorem on_mem {n : Nat} {T : List (Nd (Cd n))} {j : Nat} {nd : Nd (Cd n)} (hj : T[j]? = some nd) (c : Cd n) : c ∈ lives (setLive T j true) ↔ c ∈ lives T ∨ c = nd.code := by
  rw [mem_lives, mem_lives]
  constructor
  · rintro ⟨i, m, h1, h2, h3⟩
    by_cases e : j = i
    · subst e
      rw [live_at hj] at h1
      cases h1
      exact .inr h3.symm
    · rw [live_ne e] at h1
      exact .inl ⟨i, m, h1, h2, h3⟩
  · rintro (⟨i, m, h1, h2, h3⟩ | h)
    · by_cases e : j = i
      · subst e
        rw [hj] at h1
        cases h1
        exact ⟨j, _, live_at hj, rfl, h3⟩
      · exact ⟨i, m, by rw [live_ne e]; exact h1, h2, h3⟩
    · exact ⟨j, _, live_at hj, rfl, h.symm⟩
theorem code_one {n : Nat} {T : List (Nd (Cd n))} (wf : WF dC T) {i j : Nat} {a b : Nd (Cd n)} (h1 : T[i]? = some a) (h2 : T[j]? = some b) (h : a.code = b.code) : i = j := by
  have hnd := wf.nodup
  obtain ⟨l1, e1⟩ := List.getElem?_eq_some_iff.1 h1
  obtain ⟨l2, e2⟩ := List.getElem?_eq_some_iff.1 h2
  rcases Nat.lt_trichotomy i j with h3 | h3 | h3
  · exfalso
    exact List.pairwise_iff_getElem.1 hnd i j (by simpa using l1) (by simpa using l2) h3 (by rw [List.getElem_map, List.getElem_map, e1, e2]; exact h)
  · exact h3
  · exfalso
    exact List.pairwise_iff_getElem.1 hnd j i (by simpa using l2) (by simpa using l1) h3 (by rw [List.getElem_map, List.getElem_map, e1, e2]; exact h.symm)
theorem off_mem {n : Nat} {T : List (Nd (Cd n))} (wf : WF dC T) {j : Nat} {nd : Nd (Cd n)} (hj : T[j]? = some nd) (c : Cd n) : c ∈ lives (setLive T j false) ↔ c ∈ lives T ∧ c ≠ nd.code := by
  rw [mem_lives, mem_lives]
  constructor
  · rintro ⟨i, m, h1, h2, h3⟩
    by_cases e : j = i
    · subst e
      rw [live_at hj] at h1
      cases h1
      cases h2
    · rw [live_ne e] at h1
      refine ⟨⟨i, m, h1, h2, h3⟩, fun ec => e ?_⟩
      exact code_one wf hj h1 (by rw [h3, ec])
  · rintro ⟨⟨i, m, h1, h2, h3⟩, hne⟩
    have e : j ≠ i := fun e => by
      subst e
      rw [hj] at h1
      cases h1
      exact hne h3.symm
    exact ⟨i, m, by rw [live_ne e]; exact h1, h2, h3⟩
/-- Behind Add. -/
theorem add_mem {n : Nat} {W W' : World} {t wd : Nat} {T : List (Nd (Cd n))} {bs : List Nat} {ms : List (Option Nat)} {x : Num} {s : ByteArray} {r : Ending} (wf : WF dC T) (h : AddO W t wd T bs ms x s r W') :
    ∃ (T' : List (Nd (Cd n))) (y : Bool) (e : Int), r = .returned (.tuple #[.bool y, .int .i64 e]) ∧ Moved W W' t wd T' bs ms x ∧ T'.length ≤ T.length + 1 ∧ (e = 0 ↔ s.size = n) ∧
      (s.size ≠ n → y = false ∧ lives T' = lives T) ∧ (∀ hs : s.size = n, (y = true ↔ (⟨s, hs⟩ : Cd n) ∉ lives T) ∧ ∀ c, c ∈ lives T' ↔ c ∈ lives T ∨ c = ⟨s, hs⟩) := by
  rcases h with ⟨h1, h2, h3⟩ | ⟨hs, (⟨h1, h2, h3⟩ | ⟨j, nd, hj, hc, (⟨hl, h2, h3⟩ | ⟨hl, h2, h3⟩)⟩)⟩
  · exact ⟨T, false, 11, h2, h3, by omega, ⟨fun h => by omega, fun h => absurd h h1⟩, fun _ => ⟨rfl, rfl⟩, fun hs => absurd hs h1⟩
  · refine ⟨_, true, 0, h2, h3, by rw [hang_len wf]; exact Nat.le_refl _, ⟨fun _ => hs, fun _ => rfl⟩, fun h => absurd hs h, fun hs' => ⟨⟨fun _ hm => ?_, fun _ => rfl⟩, fun c => hang_mem wf _ c⟩⟩
    obtain ⟨j, nd, a1, -, a3⟩ := mem_lives.1 hm
    exact h1 j nd a1 a3
  · have hm : (⟨s, hs⟩ : Cd n) ∈ lives T := mem_lives.2 ⟨j, nd, hj, hl, hc⟩
    refine ⟨T, false, 0, h2, h3, by omega, ⟨fun _ => hs, fun _ => rfl⟩, fun h => absurd hs h, fun hs' => ⟨⟨fun h => (Bool.noConfusion h), fun h => absurd hm h⟩, fun c => ⟨.inl, fun h => h.elim id (fun e => by rw [e]; exact hm)⟩⟩⟩
  · refine ⟨_, true, 0, h2, h3, by rw [setLive_len]; omega, ⟨fun _ => hs, fun _ => rfl⟩, fun h => absurd hs h, fun hs' => ⟨⟨fun _ hm => ?_, fun _ => rfl⟩, fun c => by rw [on_mem hj, hc]⟩⟩
    obtain ⟨i, m, a1, a2, a3⟩ := mem_lives.1 hm
    have e := code_one wf a1 hj (by rw [a3, hc])
    subst e
    rw [hj] at a1
    cases a1
    rw [hl] at a2
    cases a2
/-- Behind Drop. -/
theorem drop_mem {n : Nat} {W W' : World} {t wd : Nat} {T : List (Nd (Cd n))} {bs : List Nat} {ms : List (Option Nat)} {x : Num} {s : ByteArray} {r : Ending} (wf : WF dC T) (h : DropO W t wd T bs ms x s r W') :
    ∃ (T' : List (Nd (Cd n))) (y : Bool), r = .returned (.bool y) ∧ Moved W W' t wd T' bs ms x ∧ T'.length ≤ T.length ∧ (y = true ↔ ∃ c ∈ lives T, c.1 = s) ∧ ∀ c, c ∈ lives T' ↔ c ∈ lives T ∧ c.1 ≠ s := by
  rcases h with ⟨h0, h1, h2⟩ | ⟨j, nd, hj, hc, hl, h1, (⟨-, h2⟩ | ⟨-, cs, hp, -, h2⟩)⟩
  · exact ⟨T, false, h1, h2, Nat.le_refl _, ⟨fun h => (Bool.noConfusion h), fun ⟨c, a1, a2⟩ => absurd a2 (h0 c a1)⟩, fun c => ⟨fun h => ⟨h, h0 c h⟩, fun h => h.1⟩⟩
  · have hm : nd.code ∈ lives T := mem_lives.2 ⟨j, nd, hj, hl, rfl⟩
    refine ⟨_, true, h1, h2, by rw [setLive_len]; exact Nat.le_refl _, ⟨fun _ => ⟨_, hm, hc⟩, fun _ => rfl⟩, fun c => ?_⟩
    rw [off_mem wf hj]
    exact ⟨fun h => ⟨h.1, fun e => h.2 (Subtype.ext (by rw [e, hc]))⟩, fun h => ⟨h.1, fun e => h.2 (by rw [e, hc])⟩⟩
  · have hm : nd.code ∈ lives T := mem_lives.2 ⟨j, nd, hj, hl, rfl⟩
    have hwf : WF dC (setLive T j false) := wf.setLive j false
    have hnd : cs.Nodup := hp.nodup_iff.2 hwf.lives_nodup
    obtain ⟨w1, w2, w3⟩ := hangs_wf (d := dC) (fun a b => dC_zero a b) cs [] (WF.nil _) (by simpa using hnd)
    have hcl := hp.length_eq
    have hle : (lives (setLive T j false)).length ≤ (setLive T j false).length := by
      unfold lives
      rw [List.length_map]
      exact List.length_filter_le _ _
    rw [setLive_len] at hle
    have h6 : (hangs dC [] cs).length = cs.length := by simpa using w3
    have e2 : lives (hangs dC [] cs) = cs := by rw [w2]; rfl
    refine ⟨_, true, h1, h2, by rw [h6, hcl]; exact hle, ⟨fun _ => ⟨_, hm, hc⟩, fun _ => rfl⟩, fun c => ?_⟩
    rw [e2, hp.mem_iff, off_mem wf hj]
    exact ⟨fun h => ⟨h.1, fun e => h.2 (Subtype.ext (by rw [e, hc]))⟩, fun h => ⟨h.1, fun e => h.2 (by rw [e, hc])⟩⟩
end Go.Proofs.YtnnbcdfpbdmgdaaDoor
set_option linter.unusedVariables false
set_option linter.unusedSimpArgs false
namespace Go.Proofs.YtnnbcdfpbdmgdaaDoor
open Go.RowKit Go.Maps Go.Sort Go.Proofs.BitMath Go.Proofs.TreeMath
/-- The others. -/
def oth (s : ByteArray) (l : List ByteArray) : List ByteArray := l.filter (fun x => !(x.toList == s.toList))
theorem ba_of {x s : ByteArray} (h : x.toList = s.toList) : x = s := by
  rw [ByteArray.toList_eq, ByteArray.toList_eq] at h
  exact ByteArray.ext (Array.toList_inj.1 h)
theorem mem_oth {s x : ByteArray} {l : List ByteArray} : x ∈ oth s l ↔ x ∈ l ∧ x ≠ s := by
  unfold oth
  rw [List.mem_filter]
  constructor
  · rintro ⟨h1, h2⟩
    refine ⟨h1, fun e => ?_⟩
    subst e
    simp at h2
  · rintro ⟨h1, h2⟩
    refine ⟨h1, ?_⟩
    have : (x.toList == s.toList) = false := beq_false_of_ne (fun h => h2 (ba_of h))
    simp [this]
theorem oth_take {s : ByteArray} {l : List ByteArray} {i : Nat} (h : i < l.length) : oth s (l.take (i + 1)) = oth s (l.take i) ++ (if (l[i].toList == s.toList) = true then [] else [l[i]]) := by
  unfold oth
  rw [List.take_succ_eq_append_getElem h, List.filter_append]
  congr 1
  cases hb : (l[i].toList == s.toList) <;> simp [hb]
theorem oth_le (s : ByteArray) (l : List ByteArray) : (oth s l).length ≤ l.length := List.length_filter_le _ _
/-- What set answers. -/
def setL (K : Int) (s : ByteArray) (n : Nat) (l : List ByteArray) : List ByteArray := if K = 1 ∧ s.size = n then oth s l ++ [s] else oth s l
def SetO (W : World) (a : Option Addr) (c : Nat) (l : List ByteArray) (K : Int) (s : ByteArray) (n : Nat) (e : Ending) (w' : World) : Prop :=
  ∃ v, e = .returned v ∧ Below W.heap.size W w' ∧ ((¬ (K = 1 ∨ K = 2) ∧ v = .slice a l.length c) ∨ ((K = 1 ∨ K = 2) ∧ w'.ownsRow W.heap.size 9 1 v (setL K s n l).length ((setL K s n l).map .string)))
theorem infT : (Tryd.prog.info? 9).map (fun i => (i.zero, i.size, i.bytes)) = some (some (.string ⟨#[]⟩), 1, 16) := by kernel_rfl
theorem row_mono {w : World} {B B' e sz m : Nat} {v : Value} {xs : List Value} (h : w.ownsRow B e sz v m xs) (hB : B' ≤ B) : w.ownsRow B' e sz v m xs := by
  refine ⟨h.1, ?_⟩
  rcases h.2 with h2 | ⟨g, cap, cur, h2, h3, h4⟩
  · exact .inl h2
  · exact .inr ⟨g, cap, cur, h2, Nat.le_trans hB h3, h4⟩
/-- A text more. -/
theorem app_str {WA wz w3 : World} {u v3 : Value} {l : List ByteArray} {x : ByteArray} {o : Obj} (hst : Below WA.heap.size WA wz) (hlr : wz.ownsRow WA.heap.size 9 1 u l.length (l.map .string)) (hg3 : (wz.alloc o).grownBy w3 u.ownBlock) : Below WA.heap.size WA w3 :=
  (hst.alloc hst.size _).grown hg3 (by have := hst.size; simp; omega) (fun j hj => (hlr.lt j hj).1)
set_option maxHeartbeats 4000000 in
set_option maxRecDepth 100000 in
theorem set_any (l : List ByteArray) (a : Option Addr) (c : Nat) (K : Int) (s : ByteArray) (N : Int) (wd n : Nat) (W : World) (h : StA W a l) (hl : l.length ≤ 1099511627776) (hn : wd = 8 * n) (hw : wd ≤ 1024) :
    Calls Tryd.prog 22 #[.slice a l.length c, opV K s N, .int .i64 wd] W (SetO W a c l K s n) := by
  obtain ⟨i0, hi0, hz0, hz1, hz2⟩ := info_parts infT
  obtain ⟨WA, hWA⟩ : ∃ WA, WA = W.alloc (.cells #[.int .i64 K, .string s, .int .i64 N] 40) := ⟨_, rfl⟩
  have bA : Below W.heap.size W WA := by rw [hWA]; exact (Below.refl _ W).alloc (Nat.le_refl _) _
  have hA1 : WA.heap.size = W.heap.size + 1 := by rw [hWA]; simp
  obtain ⟨gb, hgb⟩ : ∃ gb, gb = W.heap.size := ⟨_, rfl⟩
  have x0 : WA.cell? ⟨gb, 0, none⟩ = some (.int .i64 K) := by rw [hgb, hWA]; go_simp
  have x1 : WA.cell? ⟨gb, 1, none⟩ = some (.string s) := by rw [hgb, hWA]; go_simp
  have hd8 : (wd : Int) / 8 = (n : Int) := by omega
  obtain ⟨ln, hln⟩ : ∃ ln, ln = l.length := ⟨_, rfl⟩
  have HA := Hid.mk (And.intro (h.below bA) (And.intro hln (And.intro x0 (And.intro x1 (And.intro bA hA1)))))
  have hll : ln ≤ 1099511627776 := by omega
  have hfin : ∀ (v : Value) (w' : World), Below WA.heap.size WA w' → ((¬ (K = 1 ∨ K = 2) ∧ v = .slice a ln c) ∨ ((K = 1 ∨ K = 2) ∧ w'.ownsRow WA.heap.size 9 1 v (setL K s n l).length ((setL K s n l).map .string))) → SetO W a c l K s n (.returned v) w' := fun v w' b hv => ⟨v, rfl, chain bA b (by omega), by
    rcases hv with ⟨h1, h2⟩ | ⟨h1, h2⟩
    · exact .inl ⟨h1, by rw [h2, hln]⟩
    · exact .inr ⟨h1, row_mono h2 (by omega)⟩⟩
  have HF := Hid.mk hfin
  rw [← hln]
  clear h hl hn hfin hln bA hA1 x0 x1
  go_enter Tryd.func22, Tryd.ntmps22
  go_wp2_with fail
  rw [← hWA, ← hgb]
  clear hWA hgb
  go_loopw [7, 8] (fun u7 u8 wr => ∃ i : Nat, u8 = .int .i64 i ∧ i ≤ ln ∧ Hid (Below WA.heap.size WA wr ∧ wr.ownsRow WA.heap.size 9 1 u7 (oth s (l.take i)).length ((oth s (l.take i)).map .string))) (fun _ u8 _ => ln - (intOf u8).toNat)
  case atStart => exact ⟨0, rfl, Nat.zero_le _, Hid.mk ⟨Below.refl _ _, ⟨rfl, .inl ⟨rfl, rfl⟩⟩⟩⟩
  case round =>
    obtain ⟨i, rfl, hi, HJ⟩ := hrel
    by_cases hlt : i < ln
    · have hln : i < l.length := by have := HA.out.2.1; omega
      obtain ⟨g, e, c0⟩ := (HA.out.1.below HJ.out.1) i hln
      subst e
      have y1 := cell_lat HJ.out.1 HA.out.2.2.2.1
      have hot := oth_take (s := s) hln
      obtain ⟨x, hx⟩ : ∃ x, x = l[i] := ⟨_, rfl⟩
      rw [← hx] at c0 hot
      have i1 : (i : Int) < (ln : Int) := by omega
      have i2 : 0 ≤ (i : Int) := by omega
      have hwi : IntKind.i64.wrap ((i : Int) + 1) = ((i + 1 : Nat) : Int) := by rw [IntKind.wrap_i64]; omega
      have hol : (oth s (l.take i)).length ≤ i := Nat.le_trans (oth_le _ _) (by simp; omega)
      clear hx hln
      cases hxs : (x.toList == s.toList) with
      | true =>
        rw [if_pos hxs, List.append_nil] at hot
        have HJ' := HJ
        rw [← hot] at HJ'
        clear hot
        go_wp2
        go_quiet (fail)
        go_wp2
        exact ⟨⟨i + 1, by push_cast; rfl, hlt, Hid.mk ⟨HJ'.out.1.trans (Drew.below (show Drew wr (wr.drewN nq) from ⟨nq, rfl⟩) _), HJ'.out.2⟩⟩, by simp only [intOf]; omega⟩
      | false =>
        rw [if_neg (by rw [hxs]; exact Bool.false_ne_true)] at hot
        have hb1 : (oth s (l.take i)).length + 1 ≤ maxLen := by unfold maxLen; omega
        have hb2 : ((oth s (l.take i)).length + 1) * 16 ≤ 140737488355328 := by omega
        have HO := Hid.mk hot
        clear hot
        go_wp2
        go_quiet (fail)
        obtain ⟨wz, hwz⟩ : ∃ wz, wz = wr.drewN nq := ⟨_, rfl⟩
        have hst : Below WA.heap.size WA wz := by rw [hwz]; exact HJ.out.1.trans (Drew.below (show Drew wr (wr.drewN nq) from ⟨nq, rfl⟩) _)
        have hlr : wz.ownsRow WA.heap.size 9 1 u7 (oth s (l.take i)).length ((oth s (l.take i)).map .string) := by rw [hwz]; exact HJ.out.2
        have c1 : wz.cell? ⟨g, i, none⟩ = some (.string x) := by rw [hwz]; exact c0
        rw [← hwz]
        clear c0 y1 hwz
        go_wp2_with (first
          | (at_builtin; refine wpList_append_own _ rfl _ _ 45 rfl WA.heap.size 9 i0 (.string ⟨#[]⟩) 1 16 Tryd.underlying45 hi0 hz0 hz1 hz2 rfl (by decide) _ _ _ rfl (hlr.alloc _) ⟨wz.heap.size, 0, none⟩ 1 1 [.string x] rfl rfl (cell_one_new _ _ _) (by simp [Value.oneCell']) hb1 hb2 (by have := hst.size; simp; omega) ?_; intro v3 w3 hr3 hg3 hnil3; have hB3 := app_str (v3 := v3) (x := x) hst hlr hg3)
          | go_in)
        refine ⟨⟨i + 1, by push_cast; rfl, hlt, Hid.mk ⟨hB3, ?_⟩⟩, by simp only [intOf]; omega⟩
        rw [HO.out]
        simpa using hr3
    · have i1 : ¬ (i : Int) < (ln : Int) := by omega
      have hie : i = l.length := by have := HA.out.2.1; omega
      have hst := HJ.out.1
      have hlr := HJ.out.2
      rw [hie, List.take_length] at hlr
      have x0 := cell_lat hst HA.out.2.2.1
      have x1 := cell_lat hst HA.out.2.2.2.1
      have hol : (oth s l).length ≤ 1099511627776 := Nat.le_trans (oth_le _ _) (by have := HA.out.2.1; omega)
      have hb1 : (oth s l).length + 1 ≤ maxLen := by unfold maxLen; omega
      have hb2 : ((oth s l).length + 1) * 16 ≤ 140737488355328 := by omega
      clear hie hi hlt
      by_cases k1 : K = 1
      · subst k1
        by_cases hz : s.size = n
        · have hz' : ((s.size : Nat) : Int) = (n : Int) := by rw [hz]
          go_wp2_with (first
            | (at_builtin; refine wpList_append_own _ rfl _ _ 45 rfl WA.heap.size 9 i0 (.string ⟨#[]⟩) 1 16 Tryd.underlying45 hi0 hz0 hz1 hz2 rfl (by decide) _ _ _ rfl (hlr.alloc _) ⟨wr.heap.size, 0, none⟩ 1 1 [.string s] rfl rfl (cell_one_new _ _ _) (by simp [Value.oneCell']) hb1 hb2 (by have := hst.size; simp; omega) ?_; intro v3 w3 hr3 hg3 hnil3; have hB3 := app_str (v3 := v3) (x := s) hst hlr hg3; have y0 := cell_lat hB3 HA.out.2.2.1)
            | go_in)
          go_ret
          refine HF.out _ _ hB3 (.inr ⟨by simp, ?_⟩)
          unfold setL
          rw [if_pos ⟨rfl, hz⟩]
          simpa using hr3
        · go_wp2_with fail
          go_ret
          refine HF.out _ _ hst (.inr ⟨by simp, ?_⟩)
          unfold setL
          rw [if_neg (fun h => hz h.2)]
          exact hlr
      · by_cases k2 : K = 2
        · subst k2
          go_wp2_with fail
          go_ret
          refine HF.out _ _ hst (.inr ⟨by simp, ?_⟩)
          unfold setL
          rw [if_neg (fun h => by have := h.1; omega)]
          exact hlr
        · have e1 : (K == 1) = false := by simpa using k1
          have e2 : (K == 2) = false := by simpa using k2
          have e3 : (K != 1) = true := by simpa using k1
          have e4 : (K != 2) = true := by simpa using k2
          have HK := Hid.mk (And.intro k1 k2)
          clear k1 k2
          go_wp2_with fail
          all_goals (go_ret; exact HF.out _ _ hst (.inl ⟨fun h => h.elim HK.out.1 HK.out.2, rfl⟩))
end Go.Proofs.YtnnbcdfpbdmgdaaDoor
set_option linter.unusedVariables false
set_option linter.unusedSimpArgs false
namespace Go.Proofs.YtnnbcdfpbdmgdaaDoor
open Go.RowKit Go.Maps Go.Sort Go.Proofs.BitMath Go.Proofs.TreeMath
/-- The codes behind a call. -/
def othA {n : Nat} (s : ByteArray) (A : List (Cd n)) : List (Cd n) := A.filter (fun c => !(c.1.toList == s.toList))
def setA {n : Nat} (K : Int) (s : ByteArray) (A : List (Cd n)) : List (Cd n) := if h : K = 1 ∧ s.size = n then othA s A ++ [⟨s, h.2⟩] else othA s A
def nxtA {n : Nat} (K : Int) (s : ByteArray) (A : List (Cd n)) : List (Cd n) := if K = 1 ∨ K = 2 then setA K s A else A
theorem othA_map {n : Nat} (s : ByteArray) (A : List (Cd n)) : (othA s A).map (·.1) = oth s (A.map (·.1)) := by
  unfold othA oth
  rw [List.filter_map]
  rfl
theorem setA_map {n : Nat} (K : Int) (s : ByteArray) (A : List (Cd n)) : (setA K s A).map (·.1) = setL K s n (A.map (·.1)) := by
  unfold setA setL
  by_cases h : K = 1 ∧ s.size = n
  · rw [dif_pos h, if_pos h, List.map_append, othA_map]
    rfl
  · rw [dif_neg h, if_neg h, othA_map]
theorem mem_othA {n : Nat} {s : ByteArray} {A : List (Cd n)} {c : Cd n} : c ∈ othA s A ↔ c ∈ A ∧ c.1 ≠ s := by
  unfold othA
  rw [List.mem_filter]
  constructor
  · rintro ⟨h1, h2⟩
    refine ⟨h1, fun e => ?_⟩
    rw [e] at h2
    simp at h2
  · rintro ⟨h1, h2⟩
    refine ⟨h1, ?_⟩
    have : (c.1.toList == s.toList) = false := beq_false_of_ne (fun h => h2 (ba_of h))
    simp [this]
theorem othA_self {n : Nat} {s : ByteArray} {A : List (Cd n)} (h : ∀ c ∈ A, c.1 ≠ s) : othA s A = A := by
  unfold othA
  rw [List.filter_eq_self]
  intro c hc
  have : (c.1.toList == s.toList) = false := beq_false_of_ne (fun h' => h c hc (ba_of h'))
  simp [this]
theorem othA_nodup {n : Nat} (s : ByteArray) {A : List (Cd n)} (h : A.Nodup) : (othA s A).Nodup := h.sublist List.filter_sublist
theorem nxt_one {n : Nat} {s : ByteArray} {A : List (Cd n)} (hs : s.size = n) (c : Cd n) : c ∈ nxtA 1 s A ↔ c ∈ A ∨ c = ⟨s, hs⟩ := by
  unfold nxtA setA
  rw [if_pos (.inl rfl), dif_pos ⟨rfl, hs⟩, List.mem_append, List.mem_singleton, mem_othA]
  constructor
  · rintro (h | h)
    · exact .inl h.1
    · exact .inr h
  · rintro (h | h)
    · by_cases e : c.1 = s
      · exact .inr (Subtype.ext e)
      · exact .inl ⟨h, e⟩
    · exact .inr h
theorem nxt_one_no {n : Nat} {s : ByteArray} {A : List (Cd n)} (hs : s.size ≠ n) : nxtA 1 s A = A := by
  unfold nxtA setA
  rw [if_pos (.inl rfl), dif_neg (fun h => hs h.2)]
  exact othA_self fun c _ e => hs (by rw [← e]; exact c.2)
theorem nxt_two {n : Nat} {s : ByteArray} {A : List (Cd n)} : nxtA 2 s A = othA s A := by
  unfold nxtA setA
  rw [if_pos (.inr rfl), dif_neg (fun h => by have := h.1; omega)]
theorem nxt_other {n : Nat} {K : Int} {s : ByteArray} {A : List (Cd n)} (h : ¬ (K = 1 ∨ K = 2)) : nxtA K s A = A := if_neg h
theorem nxt_nodup {n : Nat} (K : Int) (s : ByteArray) {A : List (Cd n)} (h : A.Nodup) : (nxtA K s A).Nodup := by
  unfold nxtA setA
  split
  · split
    · refine List.nodup_append.2 ⟨othA_nodup s h, by simp, ?_⟩
      intro a ha b hb e
      rw [List.mem_singleton] at hb
      rw [hb] at e
      exact (mem_othA.1 ha).2 (by rw [e])
    · exact othA_nodup s h
  · exact h
theorem othA_le {n : Nat} (s : ByteArray) (A : List (Cd n)) : (othA s A).length ≤ A.length := List.length_filter_le _ _
theorem nxt_le {n : Nat} (K : Int) (s : ByteArray) (A : List (Cd n)) : (nxtA K s A).length ≤ A.length + 1 := by
  have := othA_le s A
  unfold nxtA setA
  split
  · split
    · rw [List.length_append, List.length_singleton]; omega
    · omega
  · omega
theorem same_len {n : Nat} {A B : List (Cd n)} (hA : A.Nodup) (hB : B.Nodup) (h : ∀ c, c ∈ A ↔ c ∈ B) : A.length = B.length := ((List.perm_ext_iff_of_nodup hA hB).2 h).length_eq
theorem one_len {n : Nat} {s : ByteArray} {A : List (Cd n)} (hA : A.Nodup) (hs : s.size = n) : A.length < (nxtA 1 s A).length ↔ (⟨s, hs⟩ : Cd n) ∉ A := by
  by_cases h : (⟨s, hs⟩ : Cd n) ∈ A
  · have := same_len hA (nxt_nodup 1 s hA) (fun c => by
      rw [nxt_one hs]
      exact ⟨.inl, fun h' => h'.elim id (fun e => by rw [e]; exact h)⟩)
    constructor
    · intro h'; omega
    · intro h'; exact absurd h h'
  · have e : othA s A = A := othA_self fun c hc e => h (by
      have : c = ⟨s, hs⟩ := Subtype.ext e
      rw [← this]; exact hc)
    constructor
    · intro _; exact h
    · intro _
      unfold nxtA setA
      rw [if_pos (.inl rfl), dif_pos ⟨rfl, hs⟩, e, List.length_append, List.length_singleton]
      omega
theorem two_len {n : Nat} {s : ByteArray} {A : List (Cd n)} : (nxtA 2 s A).length < A.length ↔ ∃ c ∈ A, c.1 = s := by
  rw [nxt_two]
  constructor
  · intro h
    by_cases hx : ∃ c ∈ A, c.1 = s
    · exact hx
    · rw [othA_self (fun c hc e => hx ⟨c, hc, e⟩)] at h
      omega
  · rintro ⟨c, hc, e⟩
    rcases Nat.lt_or_eq_of_le (othA_le s A) with h | h
    · exact h
    · have h2 : othA s A = A := List.Sublist.eq_of_length (show List.Sublist (A.filter _) A from List.filter_sublist) h
      rw [← h2] at hc
      exact absurd e (mem_othA.1 hc).2
/-- What TreeScan asks of a call. -/
structure Sk {n : Nat} (W0 W' : World) (t wd : Nat) (T : List (Nd (Cd n))) (A : List (Cd n)) (K : Int) (s : ByteArray) (N : Int) (r : Ending) : Prop where
  ex : ∃ (T' : List (Nd (Cd n))) (bs' : List Nat) (ms' : List (Option Nat)) (x' : Num) (len : Nat) (y : Bool) (e a b c d : Int) (va : Option Addr) (vc : Nat),
    OT W0 W' t wd T' bs' ms' x' ∧ T'.length ≤ T.length + 1 ∧ (∀ c, c ∈ lives T' ↔ c ∈ nxtA K s A) ∧ r = .returned (gotV y e (.slice va len vc) a b c d) ∧
    (K = 1 → (y = true ↔ A.length < (nxtA K s A).length) ∧ (e = 0 ↔ s.size = n)) ∧ (K = 2 → (y = true ↔ (nxtA K s A).length < A.length)) ∧
    (K = 4 → ∀ hs : s.size = n, 0 ≤ N → N ≤ wd → e = 0 ∧ len = (ansL 9223372036854775807 N.toNat ⟨s, hs⟩ (lives T')).length ∧ HAt W' va (ansL 9223372036854775807 N.toNat ⟨s, hs⟩ (lives T'))) ∧
    (K = 5 → ∀ hs : s.size = n, 0 ≤ N → N ≤ 4096 → e = 0 ∧ ((N = 0 ∧ len = 0) ∨ (1 ≤ N ∧ len = (ansL N.toNat wd ⟨s, hs⟩ (lives T')).length ∧ HAt W' va (ansL N.toNat wd ⟨s, hs⟩ (lives T')))))
theorem do_scan {n : Nat} {W0 wr W' : World} {t wd : Nat} {T : List (Nd (Cd n))} {bs : List Nat} {ms : List (Option Nat)} {x : Num} {A : List (Cd n)} {K N : Int} {s : ByteArray} {r : Ending} (h : OT W0 wr t wd T bs ms x) (hA : A.Nodup) (hm : ∀ c, c ∈ lives T ↔ c ∈ A) (hd : DoO wr t wd T bs ms x K s N r W') : Sk W0 W' t wd T A K s N r := by
  obtain ⟨W1, w1, gb, b1, htr1, hg1, hg2, hc, hst⟩ := hd
  have o1 := h.below b1
  have hft : ∀ k, TFoot t bs ms k → k < wr.heap.size := fun k hk => h.tr.lt hk
  have hgW : W0.heap.size ≤ gb := Nat.le_trans h.be.size hg1
  have same : ∀ w1', Below W1.heap.size W1 w1' → Stay (fun k => k = gb) w1' W' → OT W0 W' t wd T bs ms x := fun w1' b hs => (o1.below b).boxed (wd1 := W0) (W1 := W0) (fun k hk e => by have := hft k hk; omega) hgW hs
  have moved : ∀ (T' : List (Nd (Cd n))), Moved W1 w1 t wd T' bs ms x → ∃ bs' ms' x', OT W0 W' t wd T' bs' ms' x' := fun T' m => by
    obtain ⟨⟨bs', ms', x', m1, m2, m3⟩, m4⟩ := m
    have hf : ∀ k, TFoot t bs' ms' k → k ≠ gb := fun k hk e => by
      rcases m3 k hk with e2 | e2
      · have := hft k e2; omega
      · omega
    refine ⟨bs', ms', x', OT.boxed (wd1 := W0) (W1 := W0) ⟨m1, fun k hk => ?_, o1.be.trans (m4.toBelow (fun k hk e => by have := h.own k e; omega) o1.be.size)⟩ hf hgW hst⟩
    rcases m3 k hk with e2 | e2
    · exact h.own k e2
    · exact Nat.le_trans o1.be.size e2
  have hats : ∀ {v : Value} {L : List (Nat × Cd n)}, w1.ownsRow W1.heap.size 36 3 v L.length (L.flatMap hV) → ∃ va vc, v = .slice va L.length vc ∧ HAt W' va L := fun {v L} hr => by
    have hr' := row_kept hr hst (fun k hk e => by have := (hr.lt k hk).1; omega)
    obtain ⟨a, c, e, -, ha⟩ := HAt.row hr'
    exact ⟨a, c, e, ha⟩
  rcases hc with ⟨rfl, y, e, rfl, ho⟩ | ⟨rfl, y, rfl, ho⟩ | ⟨rfl, y, rfl, hb, -⟩ | ⟨rfl, v, e, d, rfl, ho, -⟩ | ⟨rfl, v, e, d, rfl, ho, -⟩ | ⟨hK, a, b, c, d, rfl, hb, -⟩
  · obtain ⟨T', y', e', hr, m, hl1, he, hno, hyes⟩ := add_mem htr1.wf ho
    simp at hr
    obtain ⟨rfl, rfl⟩ := hr
    obtain ⟨bs', ms', x', o⟩ := moved T' m
    refine ⟨T', bs', ms', x', 0, y, e, 0, 0, 0, 0, none, 0, o, hl1, ?_, rfl, fun _ => ⟨?_, he⟩, fun h => by omega, fun h => by omega, fun h => by omega⟩
    · intro c
      by_cases hs : s.size = n
      · rw [(hyes hs).2, nxt_one hs, hm]
      · rw [(hno hs).2, nxt_one_no hs, hm]
    · by_cases hs : s.size = n
      · rw [(hyes hs).1, one_len hA hs, hm]
      · rw [(hno hs).1, nxt_one_no hs]
        constructor
        · intro h; cases h
        · intro h; omega
  · obtain ⟨T', y', hr, m, hl1, hy, hmm⟩ := drop_mem htr1.wf ho
    simp at hr
    subst hr
    obtain ⟨bs', ms', x', o⟩ := moved T' m
    refine ⟨T', bs', ms', x', 0, y, 0, 0, 0, 0, 0, none, 0, o, by omega, ?_, rfl, fun h => by omega, fun _ => ?_, fun h => by omega, fun h => by omega⟩
    · intro c
      rw [hmm, nxt_two, mem_othA, hm]
    · rw [hy, two_len]
      constructor
      · rintro ⟨c, h1, h2⟩; exact ⟨c, (hm c).1 h1, h2⟩
      · rintro ⟨c, h1, h2⟩; exact ⟨c, (hm c).2 h1, h2⟩
  · exact ⟨T, bs, ms, x, 0, y, 0, 0, 0, 0, 0, none, 0, same _ hb hst, by omega, fun c => by rw [nxt_other (by omega), hm], rfl, fun h => by omega, fun h => by omega, fun h => by omega, fun h => by omega⟩
  · rcases ho with ⟨hs, h2, hb⟩ | ⟨-, hr, h2, hb⟩ | ⟨hs, v', nv, hr0, hr1, h2, sr⟩
    · cases h2
      exact ⟨T, bs, ms, x, 0, false, 11, 0, 0, 0, d, none, 0, same _ hb hst, by omega, fun c => by rw [nxt_other (by omega), hm], rfl, fun h => by omega, fun h => by omega, fun _ h => absurd h hs, fun h => by omega⟩
    · cases h2
      exact ⟨T, bs, ms, x, 0, false, 101, 0, 0, 0, d, none, 0, same _ hb hst, by omega, fun c => by rw [nxt_other (by omega), hm], rfl, fun h => by omega, fun h => by omega, fun _ _ h1 h2 => absurd ⟨h1, h2⟩ hr, fun h => by omega⟩
    · cases h2
      obtain ⟨va, vc, rfl, ha⟩ := hats sr.row
      exact ⟨T, bs, ms, _, _, false, 0, 0, 0, 0, d, va, vc, (o1.srch sr).boxed (wd1 := W0) (W1 := W0) (fun k hk e => by have := hft k hk; omega) hgW hst, by omega, fun c => by rw [nxt_other (by omega), hm], rfl, fun h => by omega, fun h => by omega, fun _ hs' _ _ => ⟨rfl, rfl, ha⟩, fun h => by omega⟩
  · rcases ho with ⟨hs, h2, hb⟩ | ⟨-, hr, h2, hb⟩ | ⟨hs, hk, h2, hb⟩ | ⟨hs, v', nv, hr0, hr1, h2, sr⟩
    · cases h2
      exact ⟨T, bs, ms, x, 0, false, 11, 0, 0, 0, d, none, 0, same _ hb hst, by omega, fun c => by rw [nxt_other (by omega), hm], rfl, fun h => by omega, fun h => by omega, fun h => by omega, fun _ h => absurd h hs⟩
    · cases h2
      exact ⟨T, bs, ms, x, 0, false, 100, 0, 0, 0, d, none, 0, same _ hb hst, by omega, fun c => by rw [nxt_other (by omega), hm], rfl, fun h => by omega, fun h => by omega, fun h => by omega, fun _ _ h1 h2 => absurd ⟨h1, h2⟩ hr⟩
    · cases h2
      exact ⟨T, bs, ms, x, 0, false, 0, 0, 0, 0, d, none, 0, same _ hb hst, by omega, fun c => by rw [nxt_other (by omega), hm], rfl, fun h => by omega, fun h => by omega, fun h => by omega, fun _ _ _ _ => ⟨rfl, .inl ⟨hk, rfl⟩⟩⟩
    · cases h2
      obtain ⟨va, vc, rfl, ha⟩ := hats sr.row
      exact ⟨T, bs, ms, _, _, false, 0, 0, 0, 0, d, va, vc, (o1.srch sr).boxed (wd1 := W0) (W1 := W0) (fun k hk e => by have := hft k hk; omega) hgW hst, by omega, fun c => by rw [nxt_other (by omega), hm], rfl, fun h => by omega, fun h => by omega, fun h => by omega, fun _ hs' _ _ => ⟨rfl, .inr ⟨hr0, rfl, ha⟩⟩⟩
  · exact ⟨T, bs, ms, x, 0, false, 0, a, b, c, d, none, 0, same _ hb hst, by omega, fun c => by rw [nxt_other (by omega), hm], rfl, fun h => by omega, fun h => by omega, fun h => by omega, fun h => by omega⟩
end Go.Proofs.YtnnbcdfpbdmgdaaDoor
set_option linter.unusedVariables false
set_option linter.unusedSimpArgs false
namespace Go.Proofs.YtnnbcdfpbdmgdaaDoor
open Go.RowKit Go.Maps Go.Sort Go.Proofs.BitMath Go.Proofs.TreeMath
def ScanO {n : Nat} (W : World) (q : Cd n) (r : Nat) (A : List (Cd n)) (e : Ending) (w' : World) : Prop :=
  ∃ v L, e = .returned v ∧ Below W.heap.size W w' ∧ w'.ownsRow W.heap.size 36 3 v L.length (L.flatMap hV) ∧ ScL q r A L
/-- While codes are looked at. -/
structure SCI {n : Nat} (W wr : World) (q : Cd n) (r : Nat) (A : List (Cd n)) (u : Value) (L : List (Nat × Cd n)) : Prop where
  be : Below W.heap.size W wr
  row : wr.ownsRow W.heap.size 36 3 u L.length (L.flatMap hV)
  sc : ScL q r A L
theorem nodup_len {α : Type} [DecidableEq α] : ∀ {l m : List α}, l.Nodup → (∀ x ∈ l, x ∈ m) → l.length ≤ m.length
  | [], _, _, _ => Nat.zero_le _
  | x :: l, m, h, hs => by
    rw [List.nodup_cons] at h
    have hx : x ∈ m := hs x List.mem_cons_self
    have := nodup_len (m := m.erase x) h.2 (fun y hy => (List.mem_erase_of_ne (fun (e : y = x) => h.1 (e ▸ hy))).2 (hs y (List.mem_cons_of_mem _ hy)))
    have h2 := List.length_erase_of_mem hx
    have h3 := List.length_pos_of_mem hx
    simp; omega
theorem ScL.len {n : Nat} {q : Cd n} {r : Nat} {A : List (Cd n)} {L : List (Nat × Cd n)} (h : ScL q r A L) : L.length ≤ A.length := by
  have hnd : (L.map Prod.snd).Nodup := by
    unfold List.Nodup
    rw [List.pairwise_map]
    refine (List.Pairwise.imp_of_mem ?_ h.srt)
    intro a b ha hb hl e
    have h1 := ((h.mem a).1 ha).2.1
    have h2 := ((h.mem b).1 hb).2.1
    rw [e] at h1
    rcases hl with hl | hl
    · omega
    · rw [e] at hl
      exact List.lt_irrefl _ hl.2
  have hs : ∀ c ∈ L.map Prod.snd, c ∈ A := fun c hc => by
    obtain ⟨y, hy, rfl⟩ := List.mem_map.1 hc
    exact ((h.mem y).1 hy).1
  haveI : DecidableEq (Cd n) := fun a b => Classical.propDecidable _
  have := nodup_len hnd hs
  simpa using this
/-- While a hit's place is sought: the row has a hole at k. -/
structure SCH {n : Nat} (W wr : World) (g c : Nat) (x : Nat × Cd n) (L : List (Nat × Cd n)) (k : Nat) : Prop where
  be : Below W.heap.size W wr
  row : ∃ u0 u1 u2, wr.ownsRow W.heap.size 36 3 (.slice (some ⟨g, 0, none⟩) (L.length + 1) c) (L.length + 1) (holed L k [u0, u1, u2])
  up : ∀ j (hj : j < L.length), k ≤ j → hlt x L[j]
theorem hV_at {n : Nat} : ∀ (l : List (Nat × Cd n)) (i j : Nat) (hi : i < l.length), j < 3 → (l.flatMap hV)[i * 3 + j]? = (hV l[i])[j]?
  | [], _, _, hi, _ => by simp at hi
  | x :: l, 0, j, _, hj => by rw [List.flatMap_cons, Nat.zero_mul, Nat.zero_add, List.getElem?_append_left (by simpa [hV] using hj)]; rfl
  | x :: l, i + 1, j, hi, hj => by
    rw [List.flatMap_cons, List.getElem?_append_right (by simp [hV]; omega), show (i + 1) * 3 + j - (hV x).length = i * 3 + j from by simp [hV]; omega, hV_at l i j (by simpa using hi) hj]
    rfl
theorem holed_at {n : Nat} {L : List (Nat × Cd n)} {k : Nat} (hk : k ≤ L.length) (us : List Value) (hu : us.length = 3) (j : Nat) (hj : j < 3) : (holed L k us)[k * 3 + j]? = us[j]? := by
  unfold holed
  have hl : ((L.take k).flatMap hV).length = k * 3 := by rw [hV_flat, List.length_take, Nat.min_eq_left hk]
  rw [List.getElem?_append_right (by omega), hl, Nat.add_sub_cancel_left, List.getElem?_append_left (by omega)]
theorem holed_prev {n : Nat} {L : List (Nat × Cd n)} {k : Nat} (hk : k + 1 ≤ L.length) (us : List Value) (j : Nat) (hj : j < 3) : (holed L (k + 1) us)[k * 3 + j]? = (hV L[k])[j]? := by
  unfold holed
  have hl : ((L.take (k + 1)).flatMap hV).length = (k + 1) * 3 := by rw [hV_flat, List.length_take, Nat.min_eq_left hk]
  rw [List.getElem?_append_left (by omega), hV_at _ k j (by rw [List.length_take]; omega) hj, List.getElem_take]
theorem row_at {w : World} {B e sz g m cap : Nat} {xs : List Value} (h : w.ownsRow B e sz (.slice (some ⟨g, 0, none⟩) m cap) m xs) (j : Nat) (hj : j < m * sz) : w.cell? ⟨g, j, none⟩ = xs[j]? ∧ ∀ j, w.frozen? ⟨g, j, none⟩ = false := by
  rcases h with ⟨h1, ⟨h2, h3⟩ | ⟨g', cap', cur, h2, h3, h4, h5, h6, h7, h8⟩⟩
  · cases h2
  · cases h2
    refine ⟨?_, fun j => by simp [World.frozen?, h4]⟩
    rw [← h8, List.getElem?_take_of_lt (by omega)]
    simp [World.cell?, h4]
abbrev set3 (w : World) (g o : Nat) (x y z : Value) : World := ((w.setCell ⟨g, o, none⟩ x).setCell ⟨g, o + 1, none⟩ y).setCell ⟨g, o + 2, none⟩ z
theorem set3_below {W w : World} {g : Nat} (b : Below W.heap.size W w) (hg : W.heap.size ≤ g) (o : Nat) (x y z : Value) : Below W.heap.size W (set3 w g o x y z) := ((b.setCell hg _).setCell hg _).setCell hg _
/-- The hole's cells. -/
theorem SCH.hole {n : Nat} {W wr : World} {g c : Nat} {x : Nat × Cd n} {L : List (Nat × Cd n)} {k : Nat} (h : SCH W wr g c x L k) (hk : k ≤ L.length) :
    ∃ u0 u1 u2, wr.cell? ⟨g, k * 3, none⟩ = some u0 ∧ wr.cell? ⟨g, k * 3 + 1, none⟩ = some u1 ∧ wr.cell? ⟨g, k * 3 + 2, none⟩ = some u2 ∧ (∀ j, wr.frozen? ⟨g, j, none⟩ = false) ∧ ∀ y0 y1 y2, (set3 wr g (k * 3) y0 y1 y2).ownsRow W.heap.size 36 3 (.slice (some ⟨g, 0, none⟩) (L.length + 1) c) (L.length + 1) (holed L k [y0, y1, y2]) := by
  obtain ⟨u0, u1, u2, hr⟩ := h.row
  refine ⟨u0, u1, u2, ?_, ?_, ?_, (row_at hr 0 (by omega)).2, fun y0 y1 y2 => ?_⟩
  · rw [(row_at hr (k * 3) (by omega)).1]; exact holed_at hk _ rfl 0 (by omega)
  · rw [(row_at hr (k * 3 + 1) (by omega)).1]; exact holed_at hk _ rfl 1 (by omega)
  · rw [(row_at hr (k * 3 + 2) (by omega)).1]; exact holed_at hk _ rfl 2 (by omega)
  · rw [← holed_set hk u0 u1 u2 y0 y1 y2]
    exact (World.ownsRow.stored (World.ownsRow.stored (World.ownsRow.stored hr _ _).1 _ _).1 _ _).1
theorem SCH.prev {n : Nat} {W wr : World} {g c : Nat} {x : Nat × Cd n} {L : List (Nat × Cd n)} {k : Nat} (h : SCH W wr g c x L (k + 1)) (hk : k + 1 ≤ L.length) :
    wr.cell? ⟨g, k * 3, none⟩ = some (.int .i64 (L[k].1 : Nat)) ∧ wr.cell? ⟨g, k * 3 + 1, none⟩ = some (.int .i64 0) ∧ wr.cell? ⟨g, k * 3 + 2, none⟩ = some (.string L[k].2.1) := by
  obtain ⟨u0, u1, u2, hr⟩ := h.row
  refine ⟨?_, ?_, ?_⟩
  · rw [(row_at hr (k * 3) (by omega)).1]; exact holed_prev hk _ 0 (by omega)
  · rw [(row_at hr (k * 3 + 1) (by omega)).1]; exact holed_prev hk _ 1 (by omega)
  · rw [(row_at hr (k * 3 + 2) (by omega)).1]; exact holed_prev hk _ 2 (by omega)
/-- One place down. -/
theorem SCH.down {n : Nat} {W wr : World} {g c : Nat} {x : Nat × Cd n} {L : List (Nat × Cd n)} {k : Nat} (h : SCH W wr g c x L (k + 1)) (hg : W.heap.size ≤ g) (hk : k + 1 ≤ L.length) (hx : hlt x L[k]) :
    SCH W (set3 wr g ((k + 1) * 3) (.int .i64 (L[k].1 : Nat)) (.int .i64 0) (.string L[k].2.1)) g c x L k := by
  obtain ⟨u0, u1, u2, -, -, -, -, hs⟩ := h.hole hk
  have h1 := hs (.int .i64 (L[k].1 : Nat)) (.int .i64 0) (.string L[k].2.1)
  have e : holed L (k + 1) [.int .i64 (L[k].1 : Nat), .int .i64 0, .string L[k].2.1] = holed L k [.int .i64 (L[k].1 : Nat), .int .i64 0, .string L[k].2.1] := holed_step hk
  rw [e] at h1
  refine ⟨set3_below h.be hg _ _ _ _, ⟨_, _, _, h1⟩, fun j hj hkj => ?_⟩
  by_cases ej : j = k
  · subst ej; exact hx
  · exact h.up j hj (by omega)
/-- The hit is put there. -/
theorem SCH.fill {n : Nat} {W wr : World} {g c : Nat} {q : Cd n} {r : Nat} {A : List (Cd n)} {x : Cd n} {L : List (Nat × Cd n)} {k d : Nat} (hd : d = dC x q) (h : SCH W wr g c (d, x) L k) (hs : ScL q r A L) (hg : W.heap.size ≤ g) (hk : k ≤ L.length) (hr : d ≤ r) (hlo : ∀ j (hj : j < L.length), j < k → hlt L[j] (d, x)) :
    SCI W (set3 wr g (k * 3) (.int .i64 (d : Nat)) (.int .i64 0) (.string x.1)) q r (A ++ [x]) (.slice (some ⟨g, 0, none⟩) (L.length + 1) c) (L.take k ++ (d, x) :: L.drop k) := by
  subst hd
  obtain ⟨u0, u1, u2, -, -, -, -, hs1⟩ := h.hole hk
  have h1 := hs1 (.int .i64 (dC x q : Nat)) (.int .i64 0) (.string x.1)
  have e : holed L k [.int .i64 (dC x q : Nat), .int .i64 0, .string x.1] = (L.take k ++ (dC x q, x) :: L.drop k).flatMap hV := holed_put (dC x q, x)
  have el : (L.take k ++ (dC x q, x) :: L.drop k).length = L.length + 1 := by simp; omega
  rw [e] at h1
  refine ⟨set3_below h.be hg _ _ _ _, by rw [el]; exact h1, hs.put hr hlo h.up⟩
theorem cell_three_new (W : World) (x y z : Value) (t : TypeId) : ∀ j u, ([x, y, z] : List Value)[j]? = some u → (W.alloc (.cells #[x, y, z] t)).cell? ((⟨W.heap.size, 0, none⟩ : Addr).add j) = some u := fun j u hu => by
  have hj : (⟨W.heap.size, 0, none⟩ : Addr).add j = ⟨W.heap.size, j, none⟩ := by unfold Addr.add; split <;> simp_all
  rw [hj]
  have hb : (W.alloc (.cells #[x, y, z] t)).heap[W.heap.size]? = some (.cells #[x, y, z] t (0, 0)) := Array.getElem?_push_size
  simp only [World.cell?, hb]
  simpa using hu
end Go.Proofs.YtnnbcdfpbdmgdaaDoor
set_option linter.unusedVariables false
set_option linter.unusedSimpArgs false
namespace Go.Proofs.YtnnbcdfpbdmgdaaDoor
open Go.RowKit Go.Maps Go.Sort Go.Proofs.BitMath Go.Proofs.TreeMath
theorem less_lt : ∀ a b : List UInt8, Op.bytesLess a b = decide (a < b)
  | [], [] => by simp [Op.bytesLess]
  | [], _ :: _ => by simp [Op.bytesLess]
  | _ :: _, [] => by simp [Op.bytesLess]
  | a :: r, b :: s => by
    rw [Op.bytesLess, less_lt r s]
    by_cases h : a < b
    · simp [h, List.cons_lt_cons_iff]
    · by_cases e : a = b
      · subst e; simp
      · simp [h, e, List.cons_lt_cons_iff]
theorem lt_tot : ∀ a b : List UInt8, a ≠ b → ¬ a < b → b < a
  | [], [], h, _ => absurd rfl h
  | [], _ :: _, _, h => absurd (List.nil_lt_cons _ _) h
  | _ :: _, [], _, _ => List.nil_lt_cons _ _
  | x :: a, y :: b, h, hl => by
    rw [List.cons_lt_cons_iff] at hl ⊢
    by_cases e : x = y
    · subst e
      exact .inr ⟨rfl, lt_tot a b (fun h' => h (by rw [h'])) (fun h' => hl (.inr ⟨rfl, h'⟩))⟩
    · left
      have h1 : ¬ x < y := fun h' => hl (.inl h')
      have h2 : x.toNat ≠ y.toNat := fun h' => e (UInt8.toNat_inj.1 h')
      rw [UInt8.lt_iff_toNat_lt] at *
      omega
theorem SCH.step {n : Nat} {W wr : World} {g c : Nat} {x y : Nat × Cd n} {L : List (Nat × Cd n)} {k m y1 : Nat} {ys : ByteArray} (hk : k = m + 1) (hm : m < L.length) (hy : y = L[m]) (h1 : y1 = y.1) (h2 : ys = y.2.1) (h : SCH W wr g c x L k) (hg : W.heap.size ≤ g) (hx : hlt x y) :
    SCH W (set3 wr g (k * 3) (.int .i64 (y1 : Nat)) (.int .i64 0) (.string ys)) g c x L m := by
  subst hk h1 h2
  subst hy
  exact h.down hg hm hx
theorem bl_of {n : Nat} {x y : Cd n} : Op.bytesLess x.1.toList y.1.toList = decide (byC x < byC y) := by
  rw [ByteArray.toList_eq, ByteArray.toList_eq, less_lt]
  rfl
set_option maxHeartbeats 4000000 in
set_option maxRecDepth 100000 in
theorem scan_any {n : Nat} (A : List (Cd n)) (hA : A.Nodup) (a : Option Addr) (c : Nat) (q : Cd n) (r : Nat) (W : World) (h : StA W a (A.map (·.1))) (hl : A.length ≤ 1099511627776) (hn : n ≤ 128) (ht : Tab W) :
    Calls Tryd.prog 24 #[.slice a A.length c, .string q.1, .int .i64 r] W (ScanO W q r A) := by
  obtain ⟨i0, hi0, hz0, hz1, hz2⟩ := info_parts infH
  have hW0 : 0 < W.heap.size := World.block_lt_of_cell? W ⟨0, 0, none⟩ (ht 0 (by omega))
  have htW : ∀ (w : World), Below W.heap.size W w → Tab w := fun w b => ht.below b hW0
  have hdist : ∀ (x : Cd n) (w : World), Below W.heap.size W w → Calls Tryd.prog 42 #[.string x.1, .string q.1] w fun e w' => e = .returned (.tuple #[.int .i64 (dC x q : Nat), .int .i64 0]) ∧ Drew w w' := fun x w b => distance_yes x.1 q.1 w (by rw [x.2]; omega) (by rw [x.2, q.2]) (htW w b)
  obtain ⟨ln, hln⟩ : ∃ ln, ln = A.length := ⟨_, rfl⟩
  have HA := Hid.mk (And.intro h (And.intro hln (And.intro hA hdist)))
  have hll : ln ≤ 1099511627776 := by omega
  rw [← hln]
  clear h hl ht htW hA hln hdist
  go_enter Tryd.func24, Tryd.ntmps24
  go_wp2_with fail
  go_loopw [7, 8, 9, 10, 11] (fun u7 u8 u9 u10 u11 wr => ∃ (i : Nat) (L : List (Nat × Cd n)), u8 = .int .i64 i ∧ i ≤ ln ∧ Hid (SCI W wr q r (A.take i) u7 L)) (fun _ u8 _ _ _ _ => ln - (intOf u8).toNat)
  case atStart => exact ⟨0, [], rfl, Nat.zero_le _, Hid.mk ⟨Below.refl _ _, ⟨rfl, .inl ⟨rfl, rfl⟩⟩, ScL.nil _ _⟩⟩
  case round =>
    obtain ⟨i, L, rfl, hi, HJ⟩ := hrel
    by_cases hil : i < ln
    · have hlA : i < A.length := by have := HA.out.2.1; omega
      obtain ⟨g, e, cW⟩ := HA.out.1 i (by rw [List.length_map]; exact hlA)
      subst e
      have htk : A.take (i + 1) = A.take i ++ [A[i]] := List.take_succ_eq_append_getElem hlA
      have hni : A[i] ∉ A.take i := fun hm => by
        obtain ⟨j, hj, e⟩ := List.getElem_of_mem hm
        rw [List.length_take] at hj
        rw [List.getElem_take] at e
        exact List.pairwise_iff_getElem.1 HA.out.2.2.1 j i (by omega) hlA (by omega) e
      obtain ⟨x, hx⟩ : ∃ x, x = A[i] := ⟨_, rfl⟩
      rw [List.getElem_map, ← hx] at cW
      have HC := Hid.mk cW
      have c0 := cell_lat HJ.out.be cW
      clear cW
      rw [← hx] at htk hni
      have hdi := HA.out.2.2.2 x wr HJ.out.be
      obtain ⟨d, hd⟩ : ∃ d, d = dC x q := ⟨_, rfl⟩
      rw [← hd] at hdi
      have HX := Hid.mk (And.intro htk (And.intro hni hd))
      have i1 : (i : Int) < (ln : Int) := by omega
      have i2 : 0 ≤ (i : Int) := by omega
      have hwi : IntKind.i64.wrap ((i : Int) + 1) = ((i + 1 : Nat) : Int) := by rw [IntKind.wrap_i64]; omega
      have hLl : L.length ≤ i := Nat.le_trans HJ.out.sc.len (by rw [List.length_take]; omega)
      have hd8 : d ≤ 8 * n := by rw [hd]; exact dC_le x q
      clear hx htk hni hd hlA
      go_wp2_with fail
      refine hdi.mono ?_
      rintro e w1 ⟨rfl, hw1⟩
      have b1 : Below W.heap.size W w1 := HJ.out.be.trans (hw1.below _)
      have r1 : w1.ownsRow W.heap.size 36 3 u7 L.length (L.flatMap hV) := row_kept (F := fun _ => False) HJ.out.row (.below (hw1.below _)) (fun _ _ h => h)
      have c1 : w1.cell? ⟨g, i, none⟩ = some (.string x.1) := cell_lat (hw1.below _) c0
      clear hdi hw1 c0
      by_cases hdr : d ≤ r
      · have d1 : ¬ ((r : Nat) : Int) < ((d : Nat) : Int) := by omega
        have d2 : decide (r < d) = false := by simp; omega
        obtain ⟨a7, c7, rfl, hc7⟩ := slice_form r1
        have hb1 : L.length + 1 ≤ maxLen := by unfold maxLen; omega
        have hb2 : (L.length + 1) * 32 ≤ 140737488355328 := by omega
        go_wp2_with (first
          | (at_builtin; refine wpList_append_own _ rfl _ _ 32 rfl W.heap.size 36 i0 (.agg #[.int .i64 0, .int .i64 0, .string ⟨#[]⟩]) 3 32 Tryd.underlying32 hi0 hz0 hz1 hz2 rfl (by decide) _ _ _ rfl (r1.alloc _) ⟨w1.heap.size, 0, none⟩ 1 1 [.int .i64 0, .int .i64 0, .string ⟨#[]⟩] rfl rfl (cell_three_new _ _ _ _ _) (by simp [Value.oneCell']) hb1 hb2 (by have := b1.size; simp; omega) ?_; intro v3 w3 hr3 hg3 hnil3)
          | go_in)
        have b3 : Below W.heap.size W w3 := (b1.alloc b1.size _).grown hg3 (by have := b1.size; simp; omega) (fun j hj => (r1.lt j hj).1)
        obtain ⟨g3, c3, rfl, hg3B⟩ : ∃ g3 c3, v3 = .slice (some ⟨g3, 0, none⟩) (L.length + 1) c3 ∧ W.heap.size ≤ g3 := by
          rcases hr3.2 with ⟨h2, h3⟩ | ⟨g3, c3, cur, h2, h3, -⟩
          · omega
          · exact ⟨g3, c3, h2, h3⟩
        obtain ⟨nL, hnL⟩ : ∃ nL, nL = L.length := ⟨_, rfl⟩
        have H3 := Hid.mk (show SCH W w3 g3 c3 (d, x) L L.length from ⟨b3, ⟨_, _, _, by unfold holed; rw [List.take_length, List.drop_length]; exact hr3⟩, fun j hj h => by omega⟩)
        have HL := Hid.mk (And.intro hnL (And.intro hg3B HJ.out.sc))
        rw [← hnL] at H3 hLl ⊢
        clear hr3 hg3 hnil3 b3 b1 r1 c1 hnL hg3B HJ hb1 hb2 hc7
        go_loopw [11] (fun u wr => ∃ k : Nat, u = .int .i64 k ∧ k ≤ nL ∧ Hid (SCH W wr g3 c3 (d, x) L k)) (fun u _ => (intOf u).toNat)
        case atStart => exact ⟨nL, rfl, Nat.le_refl _, H3⟩
        case round =>
          obtain ⟨k, rfl, hk, HK⟩ := hrel
          have kb0 : (0 : Int) ≤ (k : Int) := by omega
          have kb1 : (k : Int) < (nL : Int) + 1 := by omega
          rcases Nat.eq_zero_or_pos k with hk0 | hk0
          · have k1 : decide ((0 : Int) < (k : Int)) = false := by simp; omega
            have k2 : decide (0 < k) = false := by simp; omega
            have HLo := Hid.mk (show ∀ j (hj : j < L.length), j < k → hlt L[j] (d, x) from fun j hj h => by omega)
            clear hk0
            go_wp2_with fail
            refine wp_region_held_drew (S := fun _ => True) (by kernel_rfl) ?_ (fun hHeld => ?_)
            · trivial
            refine wpAnyH_take (i := 0) (oi := { dst := some 40, op := Op.move (Operand.tmp 11), type := 3, pos := "plain.go:58", after := #[], guard := none }) (v := ?va0) rfl (by kernel_rfl) (by kernel_rfl) (by kernel_rfl) (fun _ _ _ h => h) (Or.inl ⟨by rfl, ?ha0⟩) (by assumption) ?ra0
            case ha0 => (intro w0 hSw; (try dsimp only at hSw); go_simp; try (with_reducible rfl))
            simp only [Act.put, List.setIfInBounds_toArray, List.set_cons_zero, List.set_cons_succ]
            refine wpAnyH_take (i := 1) (oi := { dst := some 41, op := Op.binOp BinOp.gtr 3 (Operand.tmp 40) (Operand.const (Value.int IntKind.i64 0)) 3, type := 4, pos := "plain.go:58", after := #[{ on := 0, ground := Ground.data }], guard := none }) (v := ?va1) rfl (by kernel_rfl) (by kernel_rfl) (by kernel_rfl) (fun _ _ _ h => h) (Or.inl ⟨by rfl, ?ha1⟩) (by assumption) ?ra1
            case ha1 => (intro w0 hSw; (try dsimp only at hSw); go_simp; try (with_reducible rfl))
            simp only [Act.put, List.setIfInBounds_toArray, List.set_cons_zero, List.set_cons_succ]
            refine wpAnyH_take (i := 2) (oi := { dst := some 42, op := Op.move (Operand.tmp 41), type := 4, pos := "plain.go:58", after := #[{ on := 1, ground := Ground.data }], guard := none }) (v := ?va2) rfl (by kernel_rfl) (by kernel_rfl) (by kernel_rfl) (fun _ _ _ h => h) (Or.inl ⟨by rfl, ?ha2⟩) (by assumption) ?ra2
            case ha2 => (intro w0 hSw; (try dsimp only at hSw); go_simp; try (with_reducible rfl))
            simp only [Act.put, List.setIfInBounds_toArray, List.set_cons_zero, List.set_cons_succ]
            refine wpAnyH_take (i := 3) (oi := { dst := some 43, op := Op.move (Operand.tmp 7), type := 32, pos := "plain.go:58", after := #[{ on := 2, ground := Ground.guard }], guard := some (2, true) }) rfl (by kernel_rfl) (by kernel_rfl) (by kernel_rfl) (fun _ _ _ h => h) (Or.inr ⟨by rfl, rfl⟩) (by assumption) ?_
            simp only [Act.put, List.setIfInBounds_toArray, List.set_cons_zero, List.set_cons_succ]
            refine wpAnyH_take (i := 4) (oi := { dst := some 44, op := Op.move (Operand.tmp 11), type := 3, pos := "plain.go:58", after := #[{ on := 2, ground := Ground.guard }], guard := some (2, true) }) rfl (by kernel_rfl) (by kernel_rfl) (by kernel_rfl) (fun _ _ _ h => h) (Or.inr ⟨by rfl, rfl⟩) (by assumption) ?_
            simp only [Act.put, List.setIfInBounds_toArray, List.set_cons_zero, List.set_cons_succ]
            refine wpAnyH_take (i := 5) (oi := { dst := some 45, op := Op.binOp BinOp.sub 3 (Operand.tmp 44) (Operand.const (Value.int IntKind.i64 1)) 3, type := 3, pos := "plain.go:58", after := #[{ on := 4, ground := Ground.data }, { on := 2, ground := Ground.guard }], guard := some (2, true) }) rfl (by kernel_rfl) (by kernel_rfl) (by kernel_rfl) (fun _ _ _ h => h) (Or.inr ⟨by rfl, rfl⟩) (by assumption) ?_
            simp only [Act.put, List.setIfInBounds_toArray, List.set_cons_zero, List.set_cons_succ]
            refine wpAnyH_take (i := 6) (oi := { dst := some 46, op := Op.indexAddr 32 (Operand.tmp 43) (Operand.tmp 45), type := 0, pos := "plain.go:58", after := #[{ on := 3, ground := Ground.data }, { on := 5, ground := Ground.data }, { on := 2, ground := Ground.guard }], guard := some (2, true) }) rfl (by kernel_rfl) (by kernel_rfl) (by kernel_rfl) (fun _ _ _ h => h) (Or.inr ⟨by rfl, rfl⟩) (by assumption) ?_
            simp only [Act.put, List.setIfInBounds_toArray, List.set_cons_zero, List.set_cons_succ]
            refine wpAnyH_take (i := 7) (oi := { dst := some 47, op := Op.fieldAddr 36 (Operand.tmp 46) 0, type := 0, pos := "plain.go:58", after := #[{ on := 6, ground := Ground.data }, { on := 2, ground := Ground.guard }], guard := some (2, true) }) rfl (by kernel_rfl) (by kernel_rfl) (by kernel_rfl) (fun _ _ _ h => h) (Or.inr ⟨by rfl, rfl⟩) (by assumption) ?_
            simp only [Act.put, List.setIfInBounds_toArray, List.set_cons_zero, List.set_cons_succ]
            refine wpAnyH_take (i := 8) (oi := { dst := some 48, op := Op.load 3 (Operand.tmp 47), type := 3, pos := "plain.go:58", after := #[{ on := 7, ground := Ground.data }, { on := 2, ground := Ground.guard }], guard := some (2, true) }) rfl (by kernel_rfl) (by kernel_rfl) (by kernel_rfl) (fun _ _ _ h => h) (Or.inr ⟨by rfl, rfl⟩) (by assumption) ?_
            simp only [Act.put, List.setIfInBounds_toArray, List.set_cons_zero, List.set_cons_succ]
            refine wpAnyH_take (i := 9) (oi := { dst := some 49, op := Op.move (Operand.tmp 9), type := 3, pos := "plain.go:58", after := #[{ on := 2, ground := Ground.guard }], guard := some (2, true) }) rfl (by kernel_rfl) (by kernel_rfl) (by kernel_rfl) (fun _ _ _ h => h) (Or.inr ⟨by rfl, rfl⟩) (by assumption) ?_
            simp only [Act.put, List.setIfInBounds_toArray, List.set_cons_zero, List.set_cons_succ]
            refine wpAnyH_take (i := 10) (oi := { dst := some 50, op := Op.binOp BinOp.gtr 3 (Operand.tmp 48) (Operand.tmp 49) 3, type := 4, pos := "plain.go:58", after := #[{ on := 8, ground := Ground.data }, { on := 9, ground := Ground.data }, { on := 2, ground := Ground.guard }], guard := some (2, true) }) rfl (by kernel_rfl) (by kernel_rfl) (by kernel_rfl) (fun _ _ _ h => h) (Or.inr ⟨by rfl, rfl⟩) (by assumption) ?_
            simp only [Act.put, List.setIfInBounds_toArray, List.set_cons_zero, List.set_cons_succ]
            refine wpAnyH_take (i := 11) (oi := { dst := some 51, op := Op.move (Operand.tmp 50), type := 4, pos := "plain.go:58", after := #[{ on := 10, ground := Ground.data }, { on := 2, ground := Ground.chain }, { on := 2, ground := Ground.guard }], guard := some (2, true) }) rfl (by kernel_rfl) (by kernel_rfl) (by kernel_rfl) (fun _ _ _ h => h) (Or.inr ⟨by rfl, rfl⟩) (by assumption) ?_
            simp only [Act.put, List.setIfInBounds_toArray, List.set_cons_zero, List.set_cons_succ]
            refine wpAnyH_take (i := 12) (oi := { dst := some 52, op := Op.move (Operand.tmp 7), type := 32, pos := "plain.go:58", after := #[{ on := 11, ground := Ground.guard }], guard := some (11, false) }) rfl (by kernel_rfl) (by kernel_rfl) (by kernel_rfl) (fun _ _ _ h => h) (Or.inr ⟨by rfl, rfl⟩) (by assumption) ?_
            simp only [Act.put, List.setIfInBounds_toArray, List.set_cons_zero, List.set_cons_succ]
            refine wpAnyH_take (i := 13) (oi := { dst := some 53, op := Op.move (Operand.tmp 11), type := 3, pos := "plain.go:58", after := #[{ on := 11, ground := Ground.guard }], guard := some (11, false) }) rfl (by kernel_rfl) (by kernel_rfl) (by kernel_rfl) (fun _ _ _ h => h) (Or.inr ⟨by rfl, rfl⟩) (by assumption) ?_
            simp only [Act.put, List.setIfInBounds_toArray, List.set_cons_zero, List.set_cons_succ]
            refine wpAnyH_take (i := 14) (oi := { dst := some 54, op := Op.binOp BinOp.sub 3 (Operand.tmp 53) (Operand.const (Value.int IntKind.i64 1)) 3, type := 3, pos := "plain.go:58", after := #[{ on := 13, ground := Ground.data }, { on := 11, ground := Ground.guard }], guard := some (11, false) }) rfl (by kernel_rfl) (by kernel_rfl) (by kernel_rfl) (fun _ _ _ h => h) (Or.inr ⟨by rfl, rfl⟩) (by assumption) ?_
            simp only [Act.put, List.setIfInBounds_toArray, List.set_cons_zero, List.set_cons_succ]
            refine wpAnyH_take (i := 15) (oi := { dst := some 55, op := Op.indexAddr 32 (Operand.tmp 52) (Operand.tmp 54), type := 0, pos := "plain.go:58", after := #[{ on := 12, ground := Ground.data }, { on := 14, ground := Ground.data }, { on := 11, ground := Ground.guard }], guard := some (11, false) }) rfl (by kernel_rfl) (by kernel_rfl) (by kernel_rfl) (fun _ _ _ h => h) (Or.inr ⟨by rfl, rfl⟩) (by assumption) ?_
            simp only [Act.put, List.setIfInBounds_toArray, List.set_cons_zero, List.set_cons_succ]
            refine wpAnyH_take (i := 16) (oi := { dst := some 56, op := Op.fieldAddr 36 (Operand.tmp 55) 0, type := 0, pos := "plain.go:58", after := #[{ on := 15, ground := Ground.data }, { on := 11, ground := Ground.guard }], guard := some (11, false) }) rfl (by kernel_rfl) (by kernel_rfl) (by kernel_rfl) (fun _ _ _ h => h) (Or.inr ⟨by rfl, rfl⟩) (by assumption) ?_
            simp only [Act.put, List.setIfInBounds_toArray, List.set_cons_zero, List.set_cons_succ]
            refine wpAnyH_take (i := 17) (oi := { dst := some 57, op := Op.load 3 (Operand.tmp 56), type := 3, pos := "plain.go:58", after := #[{ on := 16, ground := Ground.data }, { on := 11, ground := Ground.guard }], guard := some (11, false) }) rfl (by kernel_rfl) (by kernel_rfl) (by kernel_rfl) (fun _ _ _ h => h) (Or.inr ⟨by rfl, rfl⟩) (by assumption) ?_
            simp only [Act.put, List.setIfInBounds_toArray, List.set_cons_zero, List.set_cons_succ]
            refine wpAnyH_take (i := 18) (oi := { dst := some 58, op := Op.move (Operand.tmp 9), type := 3, pos := "plain.go:58", after := #[{ on := 11, ground := Ground.guard }], guard := some (11, false) }) rfl (by kernel_rfl) (by kernel_rfl) (by kernel_rfl) (fun _ _ _ h => h) (Or.inr ⟨by rfl, rfl⟩) (by assumption) ?_
            simp only [Act.put, List.setIfInBounds_toArray, List.set_cons_zero, List.set_cons_succ]
            refine wpAnyH_take (i := 19) (oi := { dst := some 59, op := Op.binOp BinOp.eql 3 (Operand.tmp 57) (Operand.tmp 58) 3, type := 4, pos := "plain.go:58", after := #[{ on := 17, ground := Ground.data }, { on := 18, ground := Ground.data }, { on := 11, ground := Ground.guard }], guard := some (11, false) }) rfl (by kernel_rfl) (by kernel_rfl) (by kernel_rfl) (fun _ _ _ h => h) (Or.inr ⟨by rfl, rfl⟩) (by assumption) ?_
            simp only [Act.put, List.setIfInBounds_toArray, List.set_cons_zero, List.set_cons_succ]
            refine wpAnyH_take (i := 20) (oi := { dst := some 60, op := Op.move (Operand.tmp 59), type := 4, pos := "plain.go:58", after := #[{ on := 19, ground := Ground.data }, { on := 11, ground := Ground.chain }, { on := 11, ground := Ground.guard }], guard := some (11, false) }) rfl (by kernel_rfl) (by kernel_rfl) (by kernel_rfl) (fun _ _ _ h => h) (Or.inr ⟨by rfl, rfl⟩) (by assumption) ?_
            simp only [Act.put, List.setIfInBounds_toArray, List.set_cons_zero, List.set_cons_succ]
            refine wpAnyH_take (i := 21) (oi := { dst := some 61, op := Op.move (Operand.tmp 7), type := 32, pos := "plain.go:58", after := #[{ on := 20, ground := Ground.guard }], guard := some (20, true) }) rfl (by kernel_rfl) (by kernel_rfl) (by kernel_rfl) (fun _ _ _ h => h) (Or.inr ⟨by rfl, rfl⟩) (by assumption) ?_
            simp only [Act.put, List.setIfInBounds_toArray, List.set_cons_zero, List.set_cons_succ]
            refine wpAnyH_take (i := 22) (oi := { dst := some 62, op := Op.move (Operand.tmp 11), type := 3, pos := "plain.go:58", after := #[{ on := 20, ground := Ground.guard }], guard := some (20, true) }) rfl (by kernel_rfl) (by kernel_rfl) (by kernel_rfl) (fun _ _ _ h => h) (Or.inr ⟨by rfl, rfl⟩) (by assumption) ?_
            simp only [Act.put, List.setIfInBounds_toArray, List.set_cons_zero, List.set_cons_succ]
            refine wpAnyH_take (i := 23) (oi := { dst := some 63, op := Op.binOp BinOp.sub 3 (Operand.tmp 62) (Operand.const (Value.int IntKind.i64 1)) 3, type := 3, pos := "plain.go:58", after := #[{ on := 22, ground := Ground.data }, { on := 20, ground := Ground.guard }], guard := some (20, true) }) rfl (by kernel_rfl) (by kernel_rfl) (by kernel_rfl) (fun _ _ _ h => h) (Or.inr ⟨by rfl, rfl⟩) (by assumption) ?_
            simp only [Act.put, List.setIfInBounds_toArray, List.set_cons_zero, List.set_cons_succ]
            refine wpAnyH_take (i := 24) (oi := { dst := some 64, op := Op.indexAddr 32 (Operand.tmp 61) (Operand.tmp 63), type := 0, pos := "plain.go:58", after := #[{ on := 21, ground := Ground.data }, { on := 23, ground := Ground.data }, { on := 20, ground := Ground.guard }], guard := some (20, true) }) rfl (by kernel_rfl) (by kernel_rfl) (by kernel_rfl) (fun _ _ _ h => h) (Or.inr ⟨by rfl, rfl⟩) (by assumption) ?_
            simp only [Act.put, List.setIfInBounds_toArray, List.set_cons_zero, List.set_cons_succ]
            refine wpAnyH_take (i := 25) (oi := { dst := some 65, op := Op.fieldAddr 36 (Operand.tmp 64) 2, type := 0, pos := "plain.go:58", after := #[{ on := 24, ground := Ground.data }, { on := 20, ground := Ground.guard }], guard := some (20, true) }) rfl (by kernel_rfl) (by kernel_rfl) (by kernel_rfl) (fun _ _ _ h => h) (Or.inr ⟨by rfl, rfl⟩) (by assumption) ?_
            simp only [Act.put, List.setIfInBounds_toArray, List.set_cons_zero, List.set_cons_succ]
            refine wpAnyH_take (i := 26) (oi := { dst := some 66, op := Op.load 9 (Operand.tmp 65), type := 9, pos := "plain.go:58", after := #[{ on := 25, ground := Ground.data }, { on := 20, ground := Ground.guard }], guard := some (20, true) }) rfl (by kernel_rfl) (by kernel_rfl) (by kernel_rfl) (fun _ _ _ h => h) (Or.inr ⟨by rfl, rfl⟩) (by assumption) ?_
            simp only [Act.put, List.setIfInBounds_toArray, List.set_cons_zero, List.set_cons_succ]
            refine wpAnyH_take (i := 27) (oi := { dst := some 67, op := Op.move (Operand.tmp 0), type := 45, pos := "plain.go:58", after := #[{ on := 20, ground := Ground.guard }], guard := some (20, true) }) rfl (by kernel_rfl) (by kernel_rfl) (by kernel_rfl) (fun _ _ _ h => h) (Or.inr ⟨by rfl, rfl⟩) (by assumption) ?_
            simp only [Act.put, List.setIfInBounds_toArray, List.set_cons_zero, List.set_cons_succ]
            refine wpAnyH_take (i := 28) (oi := { dst := some 68, op := Op.move (Operand.tmp 8), type := 3, pos := "plain.go:58", after := #[{ on := 20, ground := Ground.guard }], guard := some (20, true) }) rfl (by kernel_rfl) (by kernel_rfl) (by kernel_rfl) (fun _ _ _ h => h) (Or.inr ⟨by rfl, rfl⟩) (by assumption) ?_
            simp only [Act.put, List.setIfInBounds_toArray, List.set_cons_zero, List.set_cons_succ]
            refine wpAnyH_take (i := 29) (oi := { dst := some 69, op := Op.indexAddr 45 (Operand.tmp 67) (Operand.tmp 68), type := 0, pos := "plain.go:58", after := #[{ on := 27, ground := Ground.data }, { on := 28, ground := Ground.data }, { on := 20, ground := Ground.guard }], guard := some (20, true) }) rfl (by kernel_rfl) (by kernel_rfl) (by kernel_rfl) (fun _ _ _ h => h) (Or.inr ⟨by rfl, rfl⟩) (by assumption) ?_
            simp only [Act.put, List.setIfInBounds_toArray, List.set_cons_zero, List.set_cons_succ]
            refine wpAnyH_take (i := 30) (oi := { dst := some 70, op := Op.load 9 (Operand.tmp 69), type := 9, pos := "plain.go:58", after := #[{ on := 29, ground := Ground.data }, { on := 20, ground := Ground.guard }], guard := some (20, true) }) rfl (by kernel_rfl) (by kernel_rfl) (by kernel_rfl) (fun _ _ _ h => h) (Or.inr ⟨by rfl, rfl⟩) (by assumption) ?_
            simp only [Act.put, List.setIfInBounds_toArray, List.set_cons_zero, List.set_cons_succ]
            refine wpAnyH_take (i := 31) (oi := { dst := some 71, op := Op.binOp BinOp.gtr 9 (Operand.tmp 66) (Operand.tmp 70) 9, type := 4, pos := "plain.go:58", after := #[{ on := 26, ground := Ground.data }, { on := 30, ground := Ground.data }, { on := 20, ground := Ground.guard }], guard := some (20, true) }) rfl (by kernel_rfl) (by kernel_rfl) (by kernel_rfl) (fun _ _ _ h => h) (Or.inr ⟨by rfl, rfl⟩) (by assumption) ?_
            simp only [Act.put, List.setIfInBounds_toArray, List.set_cons_zero, List.set_cons_succ]
            refine wpAnyH_take (i := 32) (oi := { dst := some 72, op := Op.pick (Operand.tmp 60) (Operand.tmp 71) (Operand.const (Value.bool false)), type := 4, pos := "plain.go:58", after := #[{ on := 20, ground := Ground.data }, { on := 31, ground := Ground.data }, { on := 11, ground := Ground.guard }], guard := some (11, false) }) rfl (by kernel_rfl) (by kernel_rfl) (by kernel_rfl) (fun _ _ _ h => h) (Or.inr ⟨by rfl, rfl⟩) (by assumption) ?_
            simp only [Act.put, List.setIfInBounds_toArray, List.set_cons_zero, List.set_cons_succ]
            refine wpAnyH_take (i := 33) (oi := { dst := some 73, op := Op.pick (Operand.tmp 51) (Operand.const (Value.bool true)) (Operand.tmp 72), type := 4, pos := "plain.go:58", after := #[{ on := 11, ground := Ground.data }, { on := 32, ground := Ground.data }, { on := 2, ground := Ground.guard }], guard := some (2, true) }) rfl (by kernel_rfl) (by kernel_rfl) (by kernel_rfl) (fun _ _ _ h => h) (Or.inr ⟨by rfl, rfl⟩) (by assumption) ?_
            simp only [Act.put, List.setIfInBounds_toArray, List.set_cons_zero, List.set_cons_succ]
            refine wpAnyH_take (i := 34) (oi := { dst := some 74, op := Op.pick (Operand.tmp 42) (Operand.tmp 73) (Operand.const (Value.bool false)), type := 4, pos := "plain.go:58", after := #[{ on := 2, ground := Ground.data }, { on := 33, ground := Ground.data }], guard := none }) (v := ?va34) rfl (by kernel_rfl) (by kernel_rfl) (by kernel_rfl) (fun _ _ _ h => h) (Or.inl ⟨by rfl, ?ha34⟩) (by assumption) ?ra34
            case ha34 => (intro w0 hSw; (try dsimp only at hSw); go_simp; try (with_reducible rfl))
            simp only [Act.put, List.setIfInBounds_toArray, List.set_cons_zero, List.set_cons_succ]
            refine wpAnyH_done (by kernel_rfl) ?_ _
            obtain ⟨wz, hwz⟩ : ∃ wz, wz = wr.drew := ⟨_, rfl⟩
            rw [← hwz]
            have HZ := Hid.mk (show SCH W wz g3 c3 (d, x) L k from by rw [hwz]; exact ⟨HK.out.be.drew, HK.out.row, HK.out.up⟩)
            obtain ⟨u0, u1, u2, z0, z1, z2, zf, -⟩ := HZ.out.hole (by have := HL.out.1; omega)
            have zf0 := zf (k * 3)
            have zf1 := zf (k * 3 + 1)
            have zf2 := zf (k * 3 + 2)
            have cx := cell_lat HZ.out.be HC.out
            clear hwz zf HK
            go_wp2_with fail
            exact ⟨⟨i + 1, _, by push_cast; rfl, hil, Hid.mk (by rw [HX.out.1, HL.out.1]; exact SCH.fill HX.out.2.2 HZ.out HL.out.2.2 HL.out.2.1 (by have := HL.out.1; omega) hdr HLo.out)⟩, by simp only [intOf]; omega⟩
          · obtain ⟨m, hm⟩ : ∃ m, k = m + 1 := ⟨k - 1, by omega⟩
            have hmL : m < L.length := by have := HL.out.1; omega
            have k1 : decide ((0 : Int) < (k : Int)) = true := by simp; omega
            have k2 : decide (0 < k) = true := by simp; omega
            have km : IntKind.i64.wrap ((k : Int) - 1) = (m : Int) := by rw [IntKind.wrap_i64]; omega
            have m0 : (0 : Int) ≤ (m : Int) := by omega
            have m1 : (m : Int) < (nL : Int) + 1 := by omega
            have m2 : m ≤ nL := by omega
            have HK' := HK.out
            rw [hm] at HK'
            obtain ⟨p0, p1, p2⟩ := HK'.prev (by omega)
            have HP := Hid.mk HK'
            obtain ⟨y, hy⟩ : ∃ y, y = L[m] := ⟨_, rfl⟩
            have hsrt : ∀ j (hj : j < L.length), j < k → hlt L[j] (d, x) ∨ ¬ hlt y (d, x) := fun j hj hjk => by
              by_cases hyx : hlt y (d, x)
              · left
                by_cases e : j = m
                · subst e; rw [← hy]; exact hyx
                · exact hlt_trans (by rw [hy]; exact List.pairwise_iff_getElem.1 HL.out.2.2.srt j m hj hmL (by omega)) hyx
              · exact .inr hyx
            have hyA : y.2 ≠ x := fun e => HX.out.2.1 (by
              have := (HL.out.2.2.mem y).1 (by rw [hy]; exact List.getElem_mem _)
              rw [← e]; exact this.1)
            have HY := Hid.mk (And.intro hm (And.intro hmL (And.intro hy (And.intro hsrt hyA))))
            rw [← hy] at p0 p2
            clear hm hk0 HK' hy hsrt hyA
            obtain ⟨y1, hy1⟩ : ∃ y1, y1 = y.1 := ⟨_, rfl⟩
            obtain ⟨ys, hys⟩ : ∃ ys, ys = y.2.1 := ⟨_, rfl⟩
            rw [← hy1] at p0
            rw [← hys] at p2
            have HYY := Hid.mk (And.intro hy1 hys)
            have cw := cell_lat HK.out.be HC.out
            clear hy1 hys
            by_cases hgt : d < y1
            · have g1 : decide ((d : Int) < (y1 : Int)) = true := by simp; omega
              have g2 : decide (d < y1) = true := by simp; omega
              have HGT := Hid.mk (show hlt (d, x) y from .inl (by show d < y.1; rw [← HYY.out.1]; exact hgt))
              clear hgt
              go_wp2_with fail
              refine wp_region_held_drew (S := fun w' => w'.cell? ⟨g3, m * 3, none⟩ = some (.int .i64 (y1 : Nat)) ∧ w'.cell? ⟨g3, m * 3 + 2, none⟩ = some (.string ys) ∧ w'.cell? ⟨g, i, none⟩ = some (.string x.1)) (by kernel_rfl) ?_ (fun hHeld => ?_)
              · exact ⟨p0, p2, cw⟩
              refine wpAnyH_take (i := 0) (oi := { dst := some 40, op := Op.move (Operand.tmp 11), type := 3, pos := "plain.go:58", after := #[], guard := none }) (v := ?vb0) rfl (by kernel_rfl) (by kernel_rfl) (by kernel_rfl) (fun _ _ _ h => h) (Or.inl ⟨by rfl, ?hb0⟩) (by assumption) ?rb0
              case hb0 => (intro w0 hSw; (try dsimp only at hSw); go_simp; try (with_reducible rfl))
              simp only [Act.put, List.setIfInBounds_toArray, List.set_cons_zero, List.set_cons_succ]
              refine wpAnyH_take (i := 1) (oi := { dst := some 41, op := Op.binOp BinOp.gtr 3 (Operand.tmp 40) (Operand.const (Value.int IntKind.i64 0)) 3, type := 4, pos := "plain.go:58", after := #[{ on := 0, ground := Ground.data }], guard := none }) (v := ?vb1) rfl (by kernel_rfl) (by kernel_rfl) (by kernel_rfl) (fun _ _ _ h => h) (Or.inl ⟨by rfl, ?hb1⟩) (by assumption) ?rb1
              case hb1 => (intro w0 hSw; (try dsimp only at hSw); go_simp; try (with_reducible rfl))
              simp only [Act.put, List.setIfInBounds_toArray, List.set_cons_zero, List.set_cons_succ]
              refine wpAnyH_take (i := 2) (oi := { dst := some 42, op := Op.move (Operand.tmp 41), type := 4, pos := "plain.go:58", after := #[{ on := 1, ground := Ground.data }], guard := none }) (v := ?vb2) rfl (by kernel_rfl) (by kernel_rfl) (by kernel_rfl) (fun _ _ _ h => h) (Or.inl ⟨by rfl, ?hb2⟩) (by assumption) ?rb2
              case hb2 => (intro w0 hSw; (try dsimp only at hSw); go_simp; try (with_reducible rfl))
              simp only [Act.put, List.setIfInBounds_toArray, List.set_cons_zero, List.set_cons_succ]
              refine wpAnyH_take (i := 3) (oi := { dst := some 43, op := Op.move (Operand.tmp 7), type := 32, pos := "plain.go:58", after := #[{ on := 2, ground := Ground.guard }], guard := some (2, true) }) (v := ?vb3) rfl (by kernel_rfl) (by kernel_rfl) (by kernel_rfl) (fun _ _ _ h => h) (Or.inl ⟨by rfl, ?hb3⟩) (by assumption) ?rb3
              case hb3 => (intro w0 hSw; (try dsimp only at hSw); go_simp; try (with_reducible rfl))
              simp only [Act.put, List.setIfInBounds_toArray, List.set_cons_zero, List.set_cons_succ]
              refine wpAnyH_take (i := 4) (oi := { dst := some 44, op := Op.move (Operand.tmp 11), type := 3, pos := "plain.go:58", after := #[{ on := 2, ground := Ground.guard }], guard := some (2, true) }) (v := ?vb4) rfl (by kernel_rfl) (by kernel_rfl) (by kernel_rfl) (fun _ _ _ h => h) (Or.inl ⟨by rfl, ?hb4⟩) (by assumption) ?rb4
              case hb4 => (intro w0 hSw; (try dsimp only at hSw); go_simp; try (with_reducible rfl))
              simp only [Act.put, List.setIfInBounds_toArray, List.set_cons_zero, List.set_cons_succ]
              refine wpAnyH_take (i := 5) (oi := { dst := some 45, op := Op.binOp BinOp.sub 3 (Operand.tmp 44) (Operand.const (Value.int IntKind.i64 1)) 3, type := 3, pos := "plain.go:58", after := #[{ on := 4, ground := Ground.data }, { on := 2, ground := Ground.guard }], guard := some (2, true) }) (v := ?vb5) rfl (by kernel_rfl) (by kernel_rfl) (by kernel_rfl) (fun _ _ _ h => h) (Or.inl ⟨by rfl, ?hb5⟩) (by assumption) ?rb5
              case hb5 => (intro w0 hSw; (try dsimp only at hSw); go_simp; try (with_reducible rfl))
              simp only [Act.put, List.setIfInBounds_toArray, List.set_cons_zero, List.set_cons_succ]
              refine wpAnyH_take (i := 6) (oi := { dst := some 46, op := Op.indexAddr 32 (Operand.tmp 43) (Operand.tmp 45), type := 0, pos := "plain.go:58", after := #[{ on := 3, ground := Ground.data }, { on := 5, ground := Ground.data }, { on := 2, ground := Ground.guard }], guard := some (2, true) }) (v := ?vb6) rfl (by kernel_rfl) (by kernel_rfl) (by kernel_rfl) (fun _ _ _ h => h) (Or.inl ⟨by rfl, ?hb6⟩) (by assumption) ?rb6
              case hb6 => (intro w0 hSw; (try dsimp only at hSw); go_simp; try (with_reducible rfl))
              simp only [Act.put, List.setIfInBounds_toArray, List.set_cons_zero, List.set_cons_succ]
              refine wpAnyH_take (i := 7) (oi := { dst := some 47, op := Op.fieldAddr 36 (Operand.tmp 46) 0, type := 0, pos := "plain.go:58", after := #[{ on := 6, ground := Ground.data }, { on := 2, ground := Ground.guard }], guard := some (2, true) }) (v := ?vb7) rfl (by kernel_rfl) (by kernel_rfl) (by kernel_rfl) (fun _ _ _ h => h) (Or.inl ⟨by rfl, ?hb7⟩) (by assumption) ?rb7
              case hb7 => (intro w0 hSw; (try dsimp only at hSw); go_simp; try (with_reducible rfl))
              simp only [Act.put, List.setIfInBounds_toArray, List.set_cons_zero, List.set_cons_succ]
              refine wpAnyH_take (i := 8) (oi := { dst := some 48, op := Op.load 3 (Operand.tmp 47), type := 3, pos := "plain.go:58", after := #[{ on := 7, ground := Ground.data }, { on := 2, ground := Ground.guard }], guard := some (2, true) }) (v := ?vb8) rfl (by kernel_rfl) (by kernel_rfl) (by kernel_rfl) (fun _ _ _ h => h) (Or.inl ⟨by rfl, ?hb8⟩) (by assumption) ?rb8
              case hb8 => (intro w0 hSw; (try dsimp only at hSw); go_simp; try (with_reducible rfl))
              simp only [Act.put, List.setIfInBounds_toArray, List.set_cons_zero, List.set_cons_succ]
              refine wpAnyH_take (i := 9) (oi := { dst := some 49, op := Op.move (Operand.tmp 9), type := 3, pos := "plain.go:58", after := #[{ on := 2, ground := Ground.guard }], guard := some (2, true) }) (v := ?vb9) rfl (by kernel_rfl) (by kernel_rfl) (by kernel_rfl) (fun _ _ _ h => h) (Or.inl ⟨by rfl, ?hb9⟩) (by assumption) ?rb9
              case hb9 => (intro w0 hSw; (try dsimp only at hSw); go_simp; try (with_reducible rfl))
              simp only [Act.put, List.setIfInBounds_toArray, List.set_cons_zero, List.set_cons_succ]
              refine wpAnyH_take (i := 10) (oi := { dst := some 50, op := Op.binOp BinOp.gtr 3 (Operand.tmp 48) (Operand.tmp 49) 3, type := 4, pos := "plain.go:58", after := #[{ on := 8, ground := Ground.data }, { on := 9, ground := Ground.data }, { on := 2, ground := Ground.guard }], guard := some (2, true) }) (v := ?vb10) rfl (by kernel_rfl) (by kernel_rfl) (by kernel_rfl) (fun _ _ _ h => h) (Or.inl ⟨by rfl, ?hb10⟩) (by assumption) ?rb10
              case hb10 => (intro w0 hSw; (try dsimp only at hSw); go_simp; try (with_reducible rfl))
              simp only [Act.put, List.setIfInBounds_toArray, List.set_cons_zero, List.set_cons_succ]
              refine wpAnyH_take (i := 11) (oi := { dst := some 51, op := Op.move (Operand.tmp 50), type := 4, pos := "plain.go:58", after := #[{ on := 10, ground := Ground.data }, { on := 2, ground := Ground.chain }, { on := 2, ground := Ground.guard }], guard := some (2, true) }) (v := ?vb11) rfl (by kernel_rfl) (by kernel_rfl) (by kernel_rfl) (fun _ _ _ h => h) (Or.inl ⟨by rfl, ?hb11⟩) (by assumption) ?rb11
              case hb11 => (intro w0 hSw; (try dsimp only at hSw); go_simp; try (with_reducible rfl))
              simp only [Act.put, List.setIfInBounds_toArray, List.set_cons_zero, List.set_cons_succ]
              refine wpAnyH_take (i := 12) (oi := { dst := some 52, op := Op.move (Operand.tmp 7), type := 32, pos := "plain.go:58", after := #[{ on := 11, ground := Ground.guard }], guard := some (11, false) }) rfl (by kernel_rfl) (by kernel_rfl) (by kernel_rfl) (fun _ _ _ h => h) (Or.inr ⟨by rfl, rfl⟩) (by assumption) ?_
              simp only [Act.put, List.setIfInBounds_toArray, List.set_cons_zero, List.set_cons_succ]
              refine wpAnyH_take (i := 13) (oi := { dst := some 53, op := Op.move (Operand.tmp 11), type := 3, pos := "plain.go:58", after := #[{ on := 11, ground := Ground.guard }], guard := some (11, false) }) rfl (by kernel_rfl) (by kernel_rfl) (by kernel_rfl) (fun _ _ _ h => h) (Or.inr ⟨by rfl, rfl⟩) (by assumption) ?_
              simp only [Act.put, List.setIfInBounds_toArray, List.set_cons_zero, List.set_cons_succ]
              refine wpAnyH_take (i := 14) (oi := { dst := some 54, op := Op.binOp BinOp.sub 3 (Operand.tmp 53) (Operand.const (Value.int IntKind.i64 1)) 3, type := 3, pos := "plain.go:58", after := #[{ on := 13, ground := Ground.data }, { on := 11, ground := Ground.guard }], guard := some (11, false) }) rfl (by kernel_rfl) (by kernel_rfl) (by kernel_rfl) (fun _ _ _ h => h) (Or.inr ⟨by rfl, rfl⟩) (by assumption) ?_
              simp only [Act.put, List.setIfInBounds_toArray, List.set_cons_zero, List.set_cons_succ]
              refine wpAnyH_take (i := 15) (oi := { dst := some 55, op := Op.indexAddr 32 (Operand.tmp 52) (Operand.tmp 54), type := 0, pos := "plain.go:58", after := #[{ on := 12, ground := Ground.data }, { on := 14, ground := Ground.data }, { on := 11, ground := Ground.guard }], guard := some (11, false) }) rfl (by kernel_rfl) (by kernel_rfl) (by kernel_rfl) (fun _ _ _ h => h) (Or.inr ⟨by rfl, rfl⟩) (by assumption) ?_
              simp only [Act.put, List.setIfInBounds_toArray, List.set_cons_zero, List.set_cons_succ]
              refine wpAnyH_take (i := 16) (oi := { dst := some 56, op := Op.fieldAddr 36 (Operand.tmp 55) 0, type := 0, pos := "plain.go:58", after := #[{ on := 15, ground := Ground.data }, { on := 11, ground := Ground.guard }], guard := some (11, false) }) rfl (by kernel_rfl) (by kernel_rfl) (by kernel_rfl) (fun _ _ _ h => h) (Or.inr ⟨by rfl, rfl⟩) (by assumption) ?_
              simp only [Act.put, List.setIfInBounds_toArray, List.set_cons_zero, List.set_cons_succ]
              refine wpAnyH_take (i := 17) (oi := { dst := some 57, op := Op.load 3 (Operand.tmp 56), type := 3, pos := "plain.go:58", after := #[{ on := 16, ground := Ground.data }, { on := 11, ground := Ground.guard }], guard := some (11, false) }) rfl (by kernel_rfl) (by kernel_rfl) (by kernel_rfl) (fun _ _ _ h => h) (Or.inr ⟨by rfl, rfl⟩) (by assumption) ?_
              simp only [Act.put, List.setIfInBounds_toArray, List.set_cons_zero, List.set_cons_succ]
              refine wpAnyH_take (i := 18) (oi := { dst := some 58, op := Op.move (Operand.tmp 9), type := 3, pos := "plain.go:58", after := #[{ on := 11, ground := Ground.guard }], guard := some (11, false) }) rfl (by kernel_rfl) (by kernel_rfl) (by kernel_rfl) (fun _ _ _ h => h) (Or.inr ⟨by rfl, rfl⟩) (by assumption) ?_
              simp only [Act.put, List.setIfInBounds_toArray, List.set_cons_zero, List.set_cons_succ]
              refine wpAnyH_take (i := 19) (oi := { dst := some 59, op := Op.binOp BinOp.eql 3 (Operand.tmp 57) (Operand.tmp 58) 3, type := 4, pos := "plain.go:58", after := #[{ on := 17, ground := Ground.data }, { on := 18, ground := Ground.data }, { on := 11, ground := Ground.guard }], guard := some (11, false) }) rfl (by kernel_rfl) (by kernel_rfl) (by kernel_rfl) (fun _ _ _ h => h) (Or.inr ⟨by rfl, rfl⟩) (by assumption) ?_
              simp only [Act.put, List.setIfInBounds_toArray, List.set_cons_zero, List.set_cons_succ]
              refine wpAnyH_take (i := 20) (oi := { dst := some 60, op := Op.move (Operand.tmp 59), type := 4, pos := "plain.go:58", after := #[{ on := 19, ground := Ground.data }, { on := 11, ground := Ground.chain }, { on := 11, ground := Ground.guard }], guard := some (11, false) }) rfl (by kernel_rfl) (by kernel_rfl) (by kernel_rfl) (fun _ _ _ h => h) (Or.inr ⟨by rfl, rfl⟩) (by assumption) ?_
              simp only [Act.put, List.setIfInBounds_toArray, List.set_cons_zero, List.set_cons_succ]
              refine wpAnyH_take (i := 21) (oi := { dst := some 61, op := Op.move (Operand.tmp 7), type := 32, pos := "plain.go:58", after := #[{ on := 20, ground := Ground.guard }], guard := some (20, true) }) rfl (by kernel_rfl) (by kernel_rfl) (by kernel_rfl) (fun _ _ _ h => h) (Or.inr ⟨by rfl, rfl⟩) (by assumption) ?_
              simp only [Act.put, List.setIfInBounds_toArray, List.set_cons_zero, List.set_cons_succ]
              refine wpAnyH_take (i := 22) (oi := { dst := some 62, op := Op.move (Operand.tmp 11), type := 3, pos := "plain.go:58", after := #[{ on := 20, ground := Ground.guard }], guard := some (20, true) }) rfl (by kernel_rfl) (by kernel_rfl) (by kernel_rfl) (fun _ _ _ h => h) (Or.inr ⟨by rfl, rfl⟩) (by assumption) ?_
              simp only [Act.put, List.setIfInBounds_toArray, List.set_cons_zero, List.set_cons_succ]
              refine wpAnyH_take (i := 23) (oi := { dst := some 63, op := Op.binOp BinOp.sub 3 (Operand.tmp 62) (Operand.const (Value.int IntKind.i64 1)) 3, type := 3, pos := "plain.go:58", after := #[{ on := 22, ground := Ground.data }, { on := 20, ground := Ground.guard }], guard := some (20, true) }) rfl (by kernel_rfl) (by kernel_rfl) (by kernel_rfl) (fun _ _ _ h => h) (Or.inr ⟨by rfl, rfl⟩) (by assumption) ?_
              simp only [Act.put, List.setIfInBounds_toArray, List.set_cons_zero, List.set_cons_succ]
              refine wpAnyH_take (i := 24) (oi := { dst := some 64, op := Op.indexAddr 32 (Operand.tmp 61) (Operand.tmp 63), type := 0, pos := "plain.go:58", after := #[{ on := 21, ground := Ground.data }, { on := 23, ground := Ground.data }, { on := 20, ground := Ground.guard }], guard := some (20, true) }) rfl (by kernel_rfl) (by kernel_rfl) (by kernel_rfl) (fun _ _ _ h => h) (Or.inr ⟨by rfl, rfl⟩) (by assumption) ?_
              simp only [Act.put, List.setIfInBounds_toArray, List.set_cons_zero, List.set_cons_succ]
              refine wpAnyH_take (i := 25) (oi := { dst := some 65, op := Op.fieldAddr 36 (Operand.tmp 64) 2, type := 0, pos := "plain.go:58", after := #[{ on := 24, ground := Ground.data }, { on := 20, ground := Ground.guard }], guard := some (20, true) }) rfl (by kernel_rfl) (by kernel_rfl) (by kernel_rfl) (fun _ _ _ h => h) (Or.inr ⟨by rfl, rfl⟩) (by assumption) ?_
              simp only [Act.put, List.setIfInBounds_toArray, List.set_cons_zero, List.set_cons_succ]
              refine wpAnyH_take (i := 26) (oi := { dst := some 66, op := Op.load 9 (Operand.tmp 65), type := 9, pos := "plain.go:58", after := #[{ on := 25, ground := Ground.data }, { on := 20, ground := Ground.guard }], guard := some (20, true) }) rfl (by kernel_rfl) (by kernel_rfl) (by kernel_rfl) (fun _ _ _ h => h) (Or.inr ⟨by rfl, rfl⟩) (by assumption) ?_
              simp only [Act.put, List.setIfInBounds_toArray, List.set_cons_zero, List.set_cons_succ]
              refine wpAnyH_take (i := 27) (oi := { dst := some 67, op := Op.move (Operand.tmp 0), type := 45, pos := "plain.go:58", after := #[{ on := 20, ground := Ground.guard }], guard := some (20, true) }) rfl (by kernel_rfl) (by kernel_rfl) (by kernel_rfl) (fun _ _ _ h => h) (Or.inr ⟨by rfl, rfl⟩) (by assumption) ?_
              simp only [Act.put, List.setIfInBounds_toArray, List.set_cons_zero, List.set_cons_succ]
              refine wpAnyH_take (i := 28) (oi := { dst := some 68, op := Op.move (Operand.tmp 8), type := 3, pos := "plain.go:58", after := #[{ on := 20, ground := Ground.guard }], guard := some (20, true) }) rfl (by kernel_rfl) (by kernel_rfl) (by kernel_rfl) (fun _ _ _ h => h) (Or.inr ⟨by rfl, rfl⟩) (by assumption) ?_
              simp only [Act.put, List.setIfInBounds_toArray, List.set_cons_zero, List.set_cons_succ]
              refine wpAnyH_take (i := 29) (oi := { dst := some 69, op := Op.indexAddr 45 (Operand.tmp 67) (Operand.tmp 68), type := 0, pos := "plain.go:58", after := #[{ on := 27, ground := Ground.data }, { on := 28, ground := Ground.data }, { on := 20, ground := Ground.guard }], guard := some (20, true) }) rfl (by kernel_rfl) (by kernel_rfl) (by kernel_rfl) (fun _ _ _ h => h) (Or.inr ⟨by rfl, rfl⟩) (by assumption) ?_
              simp only [Act.put, List.setIfInBounds_toArray, List.set_cons_zero, List.set_cons_succ]
              refine wpAnyH_take (i := 30) (oi := { dst := some 70, op := Op.load 9 (Operand.tmp 69), type := 9, pos := "plain.go:58", after := #[{ on := 29, ground := Ground.data }, { on := 20, ground := Ground.guard }], guard := some (20, true) }) rfl (by kernel_rfl) (by kernel_rfl) (by kernel_rfl) (fun _ _ _ h => h) (Or.inr ⟨by rfl, rfl⟩) (by assumption) ?_
              simp only [Act.put, List.setIfInBounds_toArray, List.set_cons_zero, List.set_cons_succ]
              refine wpAnyH_take (i := 31) (oi := { dst := some 71, op := Op.binOp BinOp.gtr 9 (Operand.tmp 66) (Operand.tmp 70) 9, type := 4, pos := "plain.go:58", after := #[{ on := 26, ground := Ground.data }, { on := 30, ground := Ground.data }, { on := 20, ground := Ground.guard }], guard := some (20, true) }) rfl (by kernel_rfl) (by kernel_rfl) (by kernel_rfl) (fun _ _ _ h => h) (Or.inr ⟨by rfl, rfl⟩) (by assumption) ?_
              simp only [Act.put, List.setIfInBounds_toArray, List.set_cons_zero, List.set_cons_succ]
              refine wpAnyH_take (i := 32) (oi := { dst := some 72, op := Op.pick (Operand.tmp 60) (Operand.tmp 71) (Operand.const (Value.bool false)), type := 4, pos := "plain.go:58", after := #[{ on := 20, ground := Ground.data }, { on := 31, ground := Ground.data }, { on := 11, ground := Ground.guard }], guard := some (11, false) }) rfl (by kernel_rfl) (by kernel_rfl) (by kernel_rfl) (fun _ _ _ h => h) (Or.inr ⟨by rfl, rfl⟩) (by assumption) ?_
              simp only [Act.put, List.setIfInBounds_toArray, List.set_cons_zero, List.set_cons_succ]
              refine wpAnyH_take (i := 33) (oi := { dst := some 73, op := Op.pick (Operand.tmp 51) (Operand.const (Value.bool true)) (Operand.tmp 72), type := 4, pos := "plain.go:58", after := #[{ on := 11, ground := Ground.data }, { on := 32, ground := Ground.data }, { on := 2, ground := Ground.guard }], guard := some (2, true) }) (v := ?vb33) rfl (by kernel_rfl) (by kernel_rfl) (by kernel_rfl) (fun _ _ _ h => h) (Or.inl ⟨by rfl, ?hb33⟩) (by assumption) ?rb33
              case hb33 => (intro w0 hSw; (try dsimp only at hSw); go_simp; try (with_reducible rfl))
              simp only [Act.put, List.setIfInBounds_toArray, List.set_cons_zero, List.set_cons_succ]
              refine wpAnyH_take (i := 34) (oi := { dst := some 74, op := Op.pick (Operand.tmp 42) (Operand.tmp 73) (Operand.const (Value.bool false)), type := 4, pos := "plain.go:58", after := #[{ on := 2, ground := Ground.data }, { on := 33, ground := Ground.data }], guard := none }) (v := ?vb34) rfl (by kernel_rfl) (by kernel_rfl) (by kernel_rfl) (fun _ _ _ h => h) (Or.inl ⟨by rfl, ?hb34⟩) (by assumption) ?rb34
              case hb34 => (intro w0 hSw; (try dsimp only at hSw); go_simp; try (with_reducible rfl))
              simp only [Act.put, List.setIfInBounds_toArray, List.set_cons_zero, List.set_cons_succ]
              refine wpAnyH_done (by kernel_rfl) ?_ _
              obtain ⟨wz, hwz⟩ : ∃ wz, wz = wr.drew := ⟨_, rfl⟩
              rw [← hwz]
              have HZ := Hid.mk (show SCH W wz g3 c3 (d, x) L k from by rw [hwz]; exact ⟨HK.out.be.drew, HK.out.row, HK.out.up⟩)
              obtain ⟨u0, u1, u2, z0, z1, z2, zf, -⟩ := HZ.out.hole (by have := HL.out.1; omega)
              have zf0 := zf (k * 3)
              have zf1 := zf (k * 3 + 1)
              have zf2 := zf (k * 3 + 2)
              have q0 : wz.cell? ⟨g3, m * 3, none⟩ = some (.int .i64 (y1 : Nat)) := by rw [hwz]; exact p0
              have q1 : wz.cell? ⟨g3, m * 3 + 1, none⟩ = some (.int .i64 0) := by rw [hwz]; exact p1
              have q2 : wz.cell? ⟨g3, m * 3 + 2, none⟩ = some (.string ys) := by rw [hwz]; exact p2
              clear hwz zf HK p0 p1 p2 cw
              go_wp2_with fail
              exact ⟨⟨m, rfl, m2, Hid.mk (SCH.step HY.out.1 HY.out.2.1 HY.out.2.2.1 HYY.out.1 HYY.out.2 HZ.out HL.out.2.1 HGT.out)⟩, by simp only [intOf]; have := HY.out.1; omega⟩
            · have g1 : decide ((d : Int) < (y1 : Int)) = false := by simp; omega
              have g2 : decide (d < y1) = false := by simp; omega
              by_cases heq : y1 = d
              · subst heq
                by_cases hbl : byC x < byC y.2
                · have bl : Op.bytesLess ys.toList x.1.toList = false := by
                    rw [HYY.out.2, bl_of]
                    simp only [decide_eq_false_iff_not]
                    exact fun h => List.lt_irrefl _ (List.lt_trans hbl h)
                  have bl2 : (ys.toList == x.1.toList) = false := beq_false_of_ne (fun h => HY.out.2.2.2.2 (Subtype.ext (by rw [← HYY.out.2]; exact ba_of h)))
                  have HGT := Hid.mk (show hlt (y1, x) y from .inr ⟨HYY.out.1, hbl⟩)
                  clear hgt hbl
                  go_wp2_with fail
                  refine wp_region_held_drew (S := fun w' => w'.cell? ⟨g3, m * 3, none⟩ = some (.int .i64 (y1 : Nat)) ∧ w'.cell? ⟨g3, m * 3 + 2, none⟩ = some (.string ys) ∧ w'.cell? ⟨g, i, none⟩ = some (.string x.1)) (by kernel_rfl) ?_ (fun hHeld => ?_)
                  · exact ⟨p0, p2, cw⟩
                  refine wpAnyH_take (i := 0) (oi := { dst := some 40, op := Op.move (Operand.tmp 11), type := 3, pos := "plain.go:58", after := #[], guard := none }) (v := ?vc0) rfl (by kernel_rfl) (by kernel_rfl) (by kernel_rfl) (fun _ _ _ h => h) (Or.inl ⟨by rfl, ?hc0⟩) (by assumption) ?rc0
                  case hc0 => (intro w0 hSw; (try dsimp only at hSw); go_simp; try (with_reducible rfl))
                  simp only [Act.put, List.setIfInBounds_toArray, List.set_cons_zero, List.set_cons_succ]
                  refine wpAnyH_take (i := 1) (oi := { dst := some 41, op := Op.binOp BinOp.gtr 3 (Operand.tmp 40) (Operand.const (Value.int IntKind.i64 0)) 3, type := 4, pos := "plain.go:58", after := #[{ on := 0, ground := Ground.data }], guard := none }) (v := ?vc1) rfl (by kernel_rfl) (by kernel_rfl) (by kernel_rfl) (fun _ _ _ h => h) (Or.inl ⟨by rfl, ?hc1⟩) (by assumption) ?rc1
                  case hc1 => (intro w0 hSw; (try dsimp only at hSw); go_simp; try (with_reducible rfl))
                  simp only [Act.put, List.setIfInBounds_toArray, List.set_cons_zero, List.set_cons_succ]
                  refine wpAnyH_take (i := 2) (oi := { dst := some 42, op := Op.move (Operand.tmp 41), type := 4, pos := "plain.go:58", after := #[{ on := 1, ground := Ground.data }], guard := none }) (v := ?vc2) rfl (by kernel_rfl) (by kernel_rfl) (by kernel_rfl) (fun _ _ _ h => h) (Or.inl ⟨by rfl, ?hc2⟩) (by assumption) ?rc2
                  case hc2 => (intro w0 hSw; (try dsimp only at hSw); go_simp; try (with_reducible rfl))
                  simp only [Act.put, List.setIfInBounds_toArray, List.set_cons_zero, List.set_cons_succ]
                  refine wpAnyH_take (i := 3) (oi := { dst := some 43, op := Op.move (Operand.tmp 7), type := 32, pos := "plain.go:58", after := #[{ on := 2, ground := Ground.guard }], guard := some (2, true) }) (v := ?vc3) rfl (by kernel_rfl) (by kernel_rfl) (by kernel_rfl) (fun _ _ _ h => h) (Or.inl ⟨by rfl, ?hc3⟩) (by assumption) ?rc3
                  case hc3 => (intro w0 hSw; (try dsimp only at hSw); go_simp; try (with_reducible rfl))
                  simp only [Act.put, List.setIfInBounds_toArray, List.set_cons_zero, List.set_cons_succ]
                  refine wpAnyH_take (i := 4) (oi := { dst := some 44, op := Op.move (Operand.tmp 11), type := 3, pos := "plain.go:58", after := #[{ on := 2, ground := Ground.guard }], guard := some (2, true) }) (v := ?vc4) rfl (by kernel_rfl) (by kernel_rfl) (by kernel_rfl) (fun _ _ _ h => h) (Or.inl ⟨by rfl, ?hc4⟩) (by assumption) ?rc4
                  case hc4 => (intro w0 hSw; (try dsimp only at hSw); go_simp; try (with_reducible rfl))
                  simp only [Act.put, List.setIfInBounds_toArray, List.set_cons_zero, List.set_cons_succ]
                  refine wpAnyH_take (i := 5) (oi := { dst := some 45, op := Op.binOp BinOp.sub 3 (Operand.tmp 44) (Operand.const (Value.int IntKind.i64 1)) 3, type := 3, pos := "plain.go:58", after := #[{ on := 4, ground := Ground.data }, { on := 2, ground := Ground.guard }], guard := some (2, true) }) (v := ?vc5) rfl (by kernel_rfl) (by kernel_rfl) (by kernel_rfl) (fun _ _ _ h => h) (Or.inl ⟨by rfl, ?hc5⟩) (by assumption) ?rc5
                  case hc5 => (intro w0 hSw; (try dsimp only at hSw); go_simp; try (with_reducible rfl))
                  simp only [Act.put, List.setIfInBounds_toArray, List.set_cons_zero, List.set_cons_succ]
                  refine wpAnyH_take (i := 6) (oi := { dst := some 46, op := Op.indexAddr 32 (Operand.tmp 43) (Operand.tmp 45), type := 0, pos := "plain.go:58", after := #[{ on := 3, ground := Ground.data }, { on := 5, ground := Ground.data }, { on := 2, ground := Ground.guard }], guard := some (2, true) }) (v := ?vc6) rfl (by kernel_rfl) (by kernel_rfl) (by kernel_rfl) (fun _ _ _ h => h) (Or.inl ⟨by rfl, ?hc6⟩) (by assumption) ?rc6
                  case hc6 => (intro w0 hSw; (try dsimp only at hSw); go_simp; try (with_reducible rfl))
                  simp only [Act.put, List.setIfInBounds_toArray, List.set_cons_zero, List.set_cons_succ]
                  refine wpAnyH_take (i := 7) (oi := { dst := some 47, op := Op.fieldAddr 36 (Operand.tmp 46) 0, type := 0, pos := "plain.go:58", after := #[{ on := 6, ground := Ground.data }, { on := 2, ground := Ground.guard }], guard := some (2, true) }) (v := ?vc7) rfl (by kernel_rfl) (by kernel_rfl) (by kernel_rfl) (fun _ _ _ h => h) (Or.inl ⟨by rfl, ?hc7⟩) (by assumption) ?rc7
                  case hc7 => (intro w0 hSw; (try dsimp only at hSw); go_simp; try (with_reducible rfl))
                  simp only [Act.put, List.setIfInBounds_toArray, List.set_cons_zero, List.set_cons_succ]
                  refine wpAnyH_take (i := 8) (oi := { dst := some 48, op := Op.load 3 (Operand.tmp 47), type := 3, pos := "plain.go:58", after := #[{ on := 7, ground := Ground.data }, { on := 2, ground := Ground.guard }], guard := some (2, true) }) (v := ?vc8) rfl (by kernel_rfl) (by kernel_rfl) (by kernel_rfl) (fun _ _ _ h => h) (Or.inl ⟨by rfl, ?hc8⟩) (by assumption) ?rc8
                  case hc8 => (intro w0 hSw; (try dsimp only at hSw); go_simp; try (with_reducible rfl))
                  simp only [Act.put, List.setIfInBounds_toArray, List.set_cons_zero, List.set_cons_succ]
                  refine wpAnyH_take (i := 9) (oi := { dst := some 49, op := Op.move (Operand.tmp 9), type := 3, pos := "plain.go:58", after := #[{ on := 2, ground := Ground.guard }], guard := some (2, true) }) (v := ?vc9) rfl (by kernel_rfl) (by kernel_rfl) (by kernel_rfl) (fun _ _ _ h => h) (Or.inl ⟨by rfl, ?hc9⟩) (by assumption) ?rc9
                  case hc9 => (intro w0 hSw; (try dsimp only at hSw); go_simp; try (with_reducible rfl))
                  simp only [Act.put, List.setIfInBounds_toArray, List.set_cons_zero, List.set_cons_succ]
                  refine wpAnyH_take (i := 10) (oi := { dst := some 50, op := Op.binOp BinOp.gtr 3 (Operand.tmp 48) (Operand.tmp 49) 3, type := 4, pos := "plain.go:58", after := #[{ on := 8, ground := Ground.data }, { on := 9, ground := Ground.data }, { on := 2, ground := Ground.guard }], guard := some (2, true) }) (v := ?vc10) rfl (by kernel_rfl) (by kernel_rfl) (by kernel_rfl) (fun _ _ _ h => h) (Or.inl ⟨by rfl, ?hc10⟩) (by assumption) ?rc10
                  case hc10 => (intro w0 hSw; (try dsimp only at hSw); go_simp; try (with_reducible rfl))
                  simp only [Act.put, List.setIfInBounds_toArray, List.set_cons_zero, List.set_cons_succ]
                  refine wpAnyH_take (i := 11) (oi := { dst := some 51, op := Op.move (Operand.tmp 50), type := 4, pos := "plain.go:58", after := #[{ on := 10, ground := Ground.data }, { on := 2, ground := Ground.chain }, { on := 2, ground := Ground.guard }], guard := some (2, true) }) (v := ?vc11) rfl (by kernel_rfl) (by kernel_rfl) (by kernel_rfl) (fun _ _ _ h => h) (Or.inl ⟨by rfl, ?hc11⟩) (by assumption) ?rc11
                  case hc11 => (intro w0 hSw; (try dsimp only at hSw); go_simp; try (with_reducible rfl))
                  simp only [Act.put, List.setIfInBounds_toArray, List.set_cons_zero, List.set_cons_succ]
                  refine wpAnyH_take (i := 12) (oi := { dst := some 52, op := Op.move (Operand.tmp 7), type := 32, pos := "plain.go:58", after := #[{ on := 11, ground := Ground.guard }], guard := some (11, false) }) (v := ?vc12) rfl (by kernel_rfl) (by kernel_rfl) (by kernel_rfl) (fun _ _ _ h => h) (Or.inl ⟨by rfl, ?hc12⟩) (by assumption) ?rc12
                  case hc12 => (intro w0 hSw; (try dsimp only at hSw); go_simp; try (with_reducible rfl))
                  simp only [Act.put, List.setIfInBounds_toArray, List.set_cons_zero, List.set_cons_succ]
                  refine wpAnyH_take (i := 13) (oi := { dst := some 53, op := Op.move (Operand.tmp 11), type := 3, pos := "plain.go:58", after := #[{ on := 11, ground := Ground.guard }], guard := some (11, false) }) (v := ?vc13) rfl (by kernel_rfl) (by kernel_rfl) (by kernel_rfl) (fun _ _ _ h => h) (Or.inl ⟨by rfl, ?hc13⟩) (by assumption) ?rc13
                  case hc13 => (intro w0 hSw; (try dsimp only at hSw); go_simp; try (with_reducible rfl))
                  simp only [Act.put, List.setIfInBounds_toArray, List.set_cons_zero, List.set_cons_succ]
                  refine wpAnyH_take (i := 14) (oi := { dst := some 54, op := Op.binOp BinOp.sub 3 (Operand.tmp 53) (Operand.const (Value.int IntKind.i64 1)) 3, type := 3, pos := "plain.go:58", after := #[{ on := 13, ground := Ground.data }, { on := 11, ground := Ground.guard }], guard := some (11, false) }) (v := ?vc14) rfl (by kernel_rfl) (by kernel_rfl) (by kernel_rfl) (fun _ _ _ h => h) (Or.inl ⟨by rfl, ?hc14⟩) (by assumption) ?rc14
                  case hc14 => (intro w0 hSw; (try dsimp only at hSw); go_simp; try (with_reducible rfl))
                  simp only [Act.put, List.setIfInBounds_toArray, List.set_cons_zero, List.set_cons_succ]
                  refine wpAnyH_take (i := 15) (oi := { dst := some 55, op := Op.indexAddr 32 (Operand.tmp 52) (Operand.tmp 54), type := 0, pos := "plain.go:58", after := #[{ on := 12, ground := Ground.data }, { on := 14, ground := Ground.data }, { on := 11, ground := Ground.guard }], guard := some (11, false) }) (v := ?vc15) rfl (by kernel_rfl) (by kernel_rfl) (by kernel_rfl) (fun _ _ _ h => h) (Or.inl ⟨by rfl, ?hc15⟩) (by assumption) ?rc15
                  case hc15 => (intro w0 hSw; (try dsimp only at hSw); go_simp; try (with_reducible rfl))
                  simp only [Act.put, List.setIfInBounds_toArray, List.set_cons_zero, List.set_cons_succ]
                  refine wpAnyH_take (i := 16) (oi := { dst := some 56, op := Op.fieldAddr 36 (Operand.tmp 55) 0, type := 0, pos := "plain.go:58", after := #[{ on := 15, ground := Ground.data }, { on := 11, ground := Ground.guard }], guard := some (11, false) }) (v := ?vc16) rfl (by kernel_rfl) (by kernel_rfl) (by kernel_rfl) (fun _ _ _ h => h) (Or.inl ⟨by rfl, ?hc16⟩) (by assumption) ?rc16
                  case hc16 => (intro w0 hSw; (try dsimp only at hSw); go_simp; try (with_reducible rfl))
                  simp only [Act.put, List.setIfInBounds_toArray, List.set_cons_zero, List.set_cons_succ]
                  refine wpAnyH_take (i := 17) (oi := { dst := some 57, op := Op.load 3 (Operand.tmp 56), type := 3, pos := "plain.go:58", after := #[{ on := 16, ground := Ground.data }, { on := 11, ground := Ground.guard }], guard := some (11, false) }) (v := ?vc17) rfl (by kernel_rfl) (by kernel_rfl) (by kernel_rfl) (fun _ _ _ h => h) (Or.inl ⟨by rfl, ?hc17⟩) (by assumption) ?rc17
                  case hc17 => (intro w0 hSw; (try dsimp only at hSw); go_simp; try (with_reducible rfl))
                  simp only [Act.put, List.setIfInBounds_toArray, List.set_cons_zero, List.set_cons_succ]
                  refine wpAnyH_take (i := 18) (oi := { dst := some 58, op := Op.move (Operand.tmp 9), type := 3, pos := "plain.go:58", after := #[{ on := 11, ground := Ground.guard }], guard := some (11, false) }) (v := ?vc18) rfl (by kernel_rfl) (by kernel_rfl) (by kernel_rfl) (fun _ _ _ h => h) (Or.inl ⟨by rfl, ?hc18⟩) (by assumption) ?rc18
                  case hc18 => (intro w0 hSw; (try dsimp only at hSw); go_simp; try (with_reducible rfl))
                  simp only [Act.put, List.setIfInBounds_toArray, List.set_cons_zero, List.set_cons_succ]
                  refine wpAnyH_take (i := 19) (oi := { dst := some 59, op := Op.binOp BinOp.eql 3 (Operand.tmp 57) (Operand.tmp 58) 3, type := 4, pos := "plain.go:58", after := #[{ on := 17, ground := Ground.data }, { on := 18, ground := Ground.data }, { on := 11, ground := Ground.guard }], guard := some (11, false) }) (v := ?vc19) rfl (by kernel_rfl) (by kernel_rfl) (by kernel_rfl) (fun _ _ _ h => h) (Or.inl ⟨by rfl, ?hc19⟩) (by assumption) ?rc19
                  case hc19 => (intro w0 hSw; (try dsimp only at hSw); go_simp; try (with_reducible rfl))
                  simp only [Act.put, List.setIfInBounds_toArray, List.set_cons_zero, List.set_cons_succ]
                  refine wpAnyH_take (i := 20) (oi := { dst := some 60, op := Op.move (Operand.tmp 59), type := 4, pos := "plain.go:58", after := #[{ on := 19, ground := Ground.data }, { on := 11, ground := Ground.chain }, { on := 11, ground := Ground.guard }], guard := some (11, false) }) (v := ?vc20) rfl (by kernel_rfl) (by kernel_rfl) (by kernel_rfl) (fun _ _ _ h => h) (Or.inl ⟨by rfl, ?hc20⟩) (by assumption) ?rc20
                  case hc20 => (intro w0 hSw; (try dsimp only at hSw); go_simp; try (with_reducible rfl))
                  simp only [Act.put, List.setIfInBounds_toArray, List.set_cons_zero, List.set_cons_succ]
                  refine wpAnyH_take (i := 21) (oi := { dst := some 61, op := Op.move (Operand.tmp 7), type := 32, pos := "plain.go:58", after := #[{ on := 20, ground := Ground.guard }], guard := some (20, true) }) (v := ?vc21) rfl (by kernel_rfl) (by kernel_rfl) (by kernel_rfl) (fun _ _ _ h => h) (Or.inl ⟨by rfl, ?hc21⟩) (by assumption) ?rc21
                  case hc21 => (intro w0 hSw; (try dsimp only at hSw); go_simp; try (with_reducible rfl))
                  simp only [Act.put, List.setIfInBounds_toArray, List.set_cons_zero, List.set_cons_succ]
                  refine wpAnyH_take (i := 22) (oi := { dst := some 62, op := Op.move (Operand.tmp 11), type := 3, pos := "plain.go:58", after := #[{ on := 20, ground := Ground.guard }], guard := some (20, true) }) (v := ?vc22) rfl (by kernel_rfl) (by kernel_rfl) (by kernel_rfl) (fun _ _ _ h => h) (Or.inl ⟨by rfl, ?hc22⟩) (by assumption) ?rc22
                  case hc22 => (intro w0 hSw; (try dsimp only at hSw); go_simp; try (with_reducible rfl))
                  simp only [Act.put, List.setIfInBounds_toArray, List.set_cons_zero, List.set_cons_succ]
                  refine wpAnyH_take (i := 23) (oi := { dst := some 63, op := Op.binOp BinOp.sub 3 (Operand.tmp 62) (Operand.const (Value.int IntKind.i64 1)) 3, type := 3, pos := "plain.go:58", after := #[{ on := 22, ground := Ground.data }, { on := 20, ground := Ground.guard }], guard := some (20, true) }) (v := ?vc23) rfl (by kernel_rfl) (by kernel_rfl) (by kernel_rfl) (fun _ _ _ h => h) (Or.inl ⟨by rfl, ?hc23⟩) (by assumption) ?rc23
                  case hc23 => (intro w0 hSw; (try dsimp only at hSw); go_simp; try (with_reducible rfl))
                  simp only [Act.put, List.setIfInBounds_toArray, List.set_cons_zero, List.set_cons_succ]
                  refine wpAnyH_take (i := 24) (oi := { dst := some 64, op := Op.indexAddr 32 (Operand.tmp 61) (Operand.tmp 63), type := 0, pos := "plain.go:58", after := #[{ on := 21, ground := Ground.data }, { on := 23, ground := Ground.data }, { on := 20, ground := Ground.guard }], guard := some (20, true) }) (v := ?vc24) rfl (by kernel_rfl) (by kernel_rfl) (by kernel_rfl) (fun _ _ _ h => h) (Or.inl ⟨by rfl, ?hc24⟩) (by assumption) ?rc24
                  case hc24 => (intro w0 hSw; (try dsimp only at hSw); go_simp; try (with_reducible rfl))
                  simp only [Act.put, List.setIfInBounds_toArray, List.set_cons_zero, List.set_cons_succ]
                  refine wpAnyH_take (i := 25) (oi := { dst := some 65, op := Op.fieldAddr 36 (Operand.tmp 64) 2, type := 0, pos := "plain.go:58", after := #[{ on := 24, ground := Ground.data }, { on := 20, ground := Ground.guard }], guard := some (20, true) }) (v := ?vc25) rfl (by kernel_rfl) (by kernel_rfl) (by kernel_rfl) (fun _ _ _ h => h) (Or.inl ⟨by rfl, ?hc25⟩) (by assumption) ?rc25
                  case hc25 => (intro w0 hSw; (try dsimp only at hSw); go_simp; try (with_reducible rfl))
                  simp only [Act.put, List.setIfInBounds_toArray, List.set_cons_zero, List.set_cons_succ]
                  refine wpAnyH_take (i := 26) (oi := { dst := some 66, op := Op.load 9 (Operand.tmp 65), type := 9, pos := "plain.go:58", after := #[{ on := 25, ground := Ground.data }, { on := 20, ground := Ground.guard }], guard := some (20, true) }) (v := ?vc26) rfl (by kernel_rfl) (by kernel_rfl) (by kernel_rfl) (fun _ _ _ h => h) (Or.inl ⟨by rfl, ?hc26⟩) (by assumption) ?rc26
                  case hc26 => (intro w0 hSw; (try dsimp only at hSw); go_simp; try (with_reducible rfl))
                  simp only [Act.put, List.setIfInBounds_toArray, List.set_cons_zero, List.set_cons_succ]
                  refine wpAnyH_take (i := 27) (oi := { dst := some 67, op := Op.move (Operand.tmp 0), type := 45, pos := "plain.go:58", after := #[{ on := 20, ground := Ground.guard }], guard := some (20, true) }) (v := ?vc27) rfl (by kernel_rfl) (by kernel_rfl) (by kernel_rfl) (fun _ _ _ h => h) (Or.inl ⟨by rfl, ?hc27⟩) (by assumption) ?rc27
                  case hc27 => (intro w0 hSw; (try dsimp only at hSw); go_simp; try (with_reducible rfl))
                  simp only [Act.put, List.setIfInBounds_toArray, List.set_cons_zero, List.set_cons_succ]
                  refine wpAnyH_take (i := 28) (oi := { dst := some 68, op := Op.move (Operand.tmp 8), type := 3, pos := "plain.go:58", after := #[{ on := 20, ground := Ground.guard }], guard := some (20, true) }) (v := ?vc28) rfl (by kernel_rfl) (by kernel_rfl) (by kernel_rfl) (fun _ _ _ h => h) (Or.inl ⟨by rfl, ?hc28⟩) (by assumption) ?rc28
                  case hc28 => (intro w0 hSw; (try dsimp only at hSw); go_simp; try (with_reducible rfl))
                  simp only [Act.put, List.setIfInBounds_toArray, List.set_cons_zero, List.set_cons_succ]
                  refine wpAnyH_take (i := 29) (oi := { dst := some 69, op := Op.indexAddr 45 (Operand.tmp 67) (Operand.tmp 68), type := 0, pos := "plain.go:58", after := #[{ on := 27, ground := Ground.data }, { on := 28, ground := Ground.data }, { on := 20, ground := Ground.guard }], guard := some (20, true) }) (v := ?vc29) rfl (by kernel_rfl) (by kernel_rfl) (by kernel_rfl) (fun _ _ _ h => h) (Or.inl ⟨by rfl, ?hc29⟩) (by assumption) ?rc29
                  case hc29 => (intro w0 hSw; (try dsimp only at hSw); go_simp; try (with_reducible rfl))
                  simp only [Act.put, List.setIfInBounds_toArray, List.set_cons_zero, List.set_cons_succ]
                  refine wpAnyH_take (i := 30) (oi := { dst := some 70, op := Op.load 9 (Operand.tmp 69), type := 9, pos := "plain.go:58", after := #[{ on := 29, ground := Ground.data }, { on := 20, ground := Ground.guard }], guard := some (20, true) }) (v := ?vc30) rfl (by kernel_rfl) (by kernel_rfl) (by kernel_rfl) (fun _ _ _ h => h) (Or.inl ⟨by rfl, ?hc30⟩) (by assumption) ?rc30
                  case hc30 => (intro w0 hSw; (try dsimp only at hSw); go_simp; try (with_reducible rfl))
                  simp only [Act.put, List.setIfInBounds_toArray, List.set_cons_zero, List.set_cons_succ]
                  refine wpAnyH_take (i := 31) (oi := { dst := some 71, op := Op.binOp BinOp.gtr 9 (Operand.tmp 66) (Operand.tmp 70) 9, type := 4, pos := "plain.go:58", after := #[{ on := 26, ground := Ground.data }, { on := 30, ground := Ground.data }, { on := 20, ground := Ground.guard }], guard := some (20, true) }) (v := ?vc31) rfl (by kernel_rfl) (by kernel_rfl) (by kernel_rfl) (fun _ _ _ h => h) (Or.inl ⟨by rfl, ?hc31⟩) (by assumption) ?rc31
                  case hc31 => (intro w0 hSw; (try dsimp only at hSw); go_simp; try (with_reducible rfl))
                  simp only [Act.put, List.setIfInBounds_toArray, List.set_cons_zero, List.set_cons_succ]
                  refine wpAnyH_take (i := 32) (oi := { dst := some 72, op := Op.pick (Operand.tmp 60) (Operand.tmp 71) (Operand.const (Value.bool false)), type := 4, pos := "plain.go:58", after := #[{ on := 20, ground := Ground.data }, { on := 31, ground := Ground.data }, { on := 11, ground := Ground.guard }], guard := some (11, false) }) (v := ?vc32) rfl (by kernel_rfl) (by kernel_rfl) (by kernel_rfl) (fun _ _ _ h => h) (Or.inl ⟨by rfl, ?hc32⟩) (by assumption) ?rc32
                  case hc32 => (intro w0 hSw; (try dsimp only at hSw); go_simp; try (with_reducible rfl))
                  simp only [Act.put, List.setIfInBounds_toArray, List.set_cons_zero, List.set_cons_succ]
                  refine wpAnyH_take (i := 33) (oi := { dst := some 73, op := Op.pick (Operand.tmp 51) (Operand.const (Value.bool true)) (Operand.tmp 72), type := 4, pos := "plain.go:58", after := #[{ on := 11, ground := Ground.data }, { on := 32, ground := Ground.data }, { on := 2, ground := Ground.guard }], guard := some (2, true) }) (v := ?vc33) rfl (by kernel_rfl) (by kernel_rfl) (by kernel_rfl) (fun _ _ _ h => h) (Or.inl ⟨by rfl, ?hc33⟩) (by assumption) ?rc33
                  case hc33 => (intro w0 hSw; (try dsimp only at hSw); go_simp; try (with_reducible rfl))
                  simp only [Act.put, List.setIfInBounds_toArray, List.set_cons_zero, List.set_cons_succ]
                  refine wpAnyH_take (i := 34) (oi := { dst := some 74, op := Op.pick (Operand.tmp 42) (Operand.tmp 73) (Operand.const (Value.bool false)), type := 4, pos := "plain.go:58", after := #[{ on := 2, ground := Ground.data }, { on := 33, ground := Ground.data }], guard := none }) (v := ?vc34) rfl (by kernel_rfl) (by kernel_rfl) (by kernel_rfl) (fun _ _ _ h => h) (Or.inl ⟨by rfl, ?hc34⟩) (by assumption) ?rc34
                  case hc34 => (intro w0 hSw; (try dsimp only at hSw); go_simp; try (with_reducible rfl))
                  simp only [Act.put, List.setIfInBounds_toArray, List.set_cons_zero, List.set_cons_succ]
                  refine wpAnyH_done (by kernel_rfl) ?_ _
                  obtain ⟨wz, hwz⟩ : ∃ wz, wz = wr.drew := ⟨_, rfl⟩
                  rw [← hwz]
                  have HZ := Hid.mk (show SCH W wz g3 c3 (y1, x) L k from by rw [hwz]; exact ⟨HK.out.be.drew, HK.out.row, HK.out.up⟩)
                  obtain ⟨u0, u1, u2, z0, z1, z2, zf, -⟩ := HZ.out.hole (by have := HL.out.1; omega)
                  have zf0 := zf (k * 3)
                  have zf1 := zf (k * 3 + 1)
                  have zf2 := zf (k * 3 + 2)
                  have q0 : wz.cell? ⟨g3, m * 3, none⟩ = some (.int .i64 (y1 : Nat)) := by rw [hwz]; exact p0
                  have q1 : wz.cell? ⟨g3, m * 3 + 1, none⟩ = some (.int .i64 0) := by rw [hwz]; exact p1
                  have q2 : wz.cell? ⟨g3, m * 3 + 2, none⟩ = some (.string ys) := by rw [hwz]; exact p2
                  clear hwz zf HK p0 p1 p2 cw
                  go_wp2_with fail
                  exact ⟨⟨m, rfl, m2, Hid.mk (SCH.step HY.out.1 HY.out.2.1 HY.out.2.2.1 HYY.out.1 HYY.out.2 HZ.out HL.out.2.1 HGT.out)⟩, by simp only [intOf]; have := HY.out.1; omega⟩
                · have hyx : byC y.2 < byC x := lt_tot _ _ (fun e => HY.out.2.2.2.2 (Subtype.ext (ByteArray.ext (Array.toList_inj.1 e.symm)))) hbl
                  have bl : Op.bytesLess ys.toList x.1.toList = true := by rw [HYY.out.2, bl_of]; simpa using hyx
                  have HLo := Hid.mk (show ∀ j (hj : j < L.length), j < k → hlt L[j] (y1, x) from fun j hj h => (HY.out.2.2.2.1 j hj h).resolve_right (fun hn => hn (.inr ⟨HYY.out.1.symm, hyx⟩)))
                  clear hgt hbl hyx
                  go_wp2_with fail
                  refine wp_region_held_drew (S := fun w' => w'.cell? ⟨g3, m * 3, none⟩ = some (.int .i64 (y1 : Nat)) ∧ w'.cell? ⟨g3, m * 3 + 2, none⟩ = some (.string ys) ∧ w'.cell? ⟨g, i, none⟩ = some (.string x.1)) (by kernel_rfl) ?_ (fun hHeld => ?_)
                  · exact ⟨p0, p2, cw⟩
                  refine wpAnyH_take (i := 0) (oi := { dst := some 40, op := Op.move (Operand.tmp 11), type := 3, pos := "plain.go:58", after := #[], guard := none }) (v := ?vd0) rfl (by kernel_rfl) (by kernel_rfl) (by kernel_rfl) (fun _ _ _ h => h) (Or.inl ⟨by rfl, ?hd0⟩) (by assumption) ?rd0
                  case hd0 => (intro w0 hSw; (try dsimp only at hSw); go_simp; try (with_reducible rfl))
                  simp only [Act.put, List.setIfInBounds_toArray, List.set_cons_zero, List.set_cons_succ]
                  refine wpAnyH_take (i := 1) (oi := { dst := some 41, op := Op.binOp BinOp.gtr 3 (Operand.tmp 40) (Operand.const (Value.int IntKind.i64 0)) 3, type := 4, pos := "plain.go:58", after := #[{ on := 0, ground := Ground.data }], guard := none }) (v := ?vd1) rfl (by kernel_rfl) (by kernel_rfl) (by kernel_rfl) (fun _ _ _ h => h) (Or.inl ⟨by rfl, ?hd1⟩) (by assumption) ?rd1
                  case hd1 => (intro w0 hSw; (try dsimp only at hSw); go_simp; try (with_reducible rfl))
                  simp only [Act.put, List.setIfInBounds_toArray, List.set_cons_zero, List.set_cons_succ]
                  refine wpAnyH_take (i := 2) (oi := { dst := some 42, op := Op.move (Operand.tmp 41), type := 4, pos := "plain.go:58", after := #[{ on := 1, ground := Ground.data }], guard := none }) (v := ?vd2) rfl (by kernel_rfl) (by kernel_rfl) (by kernel_rfl) (fun _ _ _ h => h) (Or.inl ⟨by rfl, ?hd2⟩) (by assumption) ?rd2
                  case hd2 => (intro w0 hSw; (try dsimp only at hSw); go_simp; try (with_reducible rfl))
                  simp only [Act.put, List.setIfInBounds_toArray, List.set_cons_zero, List.set_cons_succ]
                  refine wpAnyH_take (i := 3) (oi := { dst := some 43, op := Op.move (Operand.tmp 7), type := 32, pos := "plain.go:58", after := #[{ on := 2, ground := Ground.guard }], guard := some (2, true) }) (v := ?vd3) rfl (by kernel_rfl) (by kernel_rfl) (by kernel_rfl) (fun _ _ _ h => h) (Or.inl ⟨by rfl, ?hd3⟩) (by assumption) ?rd3
                  case hd3 => (intro w0 hSw; (try dsimp only at hSw); go_simp; try (with_reducible rfl))
                  simp only [Act.put, List.setIfInBounds_toArray, List.set_cons_zero, List.set_cons_succ]
                  refine wpAnyH_take (i := 4) (oi := { dst := some 44, op := Op.move (Operand.tmp 11), type := 3, pos := "plain.go:58", after := #[{ on := 2, ground := Ground.guard }], guard := some (2, true) }) (v := ?vd4) rfl (by kernel_rfl) (by kernel_rfl) (by kernel_rfl) (fun _ _ _ h => h) (Or.inl ⟨by rfl, ?hd4⟩) (by assumption) ?rd4
                  case hd4 => (intro w0 hSw; (try dsimp only at hSw); go_simp; try (with_reducible rfl))
                  simp only [Act.put, List.setIfInBounds_toArray, List.set_cons_zero, List.set_cons_succ]
                  refine wpAnyH_take (i := 5) (oi := { dst := some 45, op := Op.binOp BinOp.sub 3 (Operand.tmp 44) (Operand.const (Value.int IntKind.i64 1)) 3, type := 3, pos := "plain.go:58", after := #[{ on := 4, ground := Ground.data }, { on := 2, ground := Ground.guard }], guard := some (2, true) }) (v := ?vd5) rfl (by kernel_rfl) (by kernel_rfl) (by kernel_rfl) (fun _ _ _ h => h) (Or.inl ⟨by rfl, ?hd5⟩) (by assumption) ?rd5
                  case hd5 => (intro w0 hSw; (try dsimp only at hSw); go_simp; try (with_reducible rfl))
                  simp only [Act.put, List.setIfInBounds_toArray, List.set_cons_zero, List.set_cons_succ]
                  refine wpAnyH_take (i := 6) (oi := { dst := some 46, op := Op.indexAddr 32 (Operand.tmp 43) (Operand.tmp 45), type := 0, pos := "plain.go:58", after := #[{ on := 3, ground := Ground.data }, { on := 5, ground := Ground.data }, { on := 2, ground := Ground.guard }], guard := some (2, true) }) (v := ?vd6) rfl (by kernel_rfl) (by kernel_rfl) (by kernel_rfl) (fun _ _ _ h => h) (Or.inl ⟨by rfl, ?hd6⟩) (by assumption) ?rd6
                  case hd6 => (intro w0 hSw; (try dsimp only at hSw); go_simp; try (with_reducible rfl))
                  simp only [Act.put, List.setIfInBounds_toArray, List.set_cons_zero, List.set_cons_succ]
                  refine wpAnyH_take (i := 7) (oi := { dst := some 47, op := Op.fieldAddr 36 (Operand.tmp 46) 0, type := 0, pos := "plain.go:58", after := #[{ on := 6, ground := Ground.data }, { on := 2, ground := Ground.guard }], guard := some (2, true) }) (v := ?vd7) rfl (by kernel_rfl) (by kernel_rfl) (by kernel_rfl) (fun _ _ _ h => h) (Or.inl ⟨by rfl, ?hd7⟩) (by assumption) ?rd7
                  case hd7 => (intro w0 hSw; (try dsimp only at hSw); go_simp; try (with_reducible rfl))
                  simp only [Act.put, List.setIfInBounds_toArray, List.set_cons_zero, List.set_cons_succ]
                  refine wpAnyH_take (i := 8) (oi := { dst := some 48, op := Op.load 3 (Operand.tmp 47), type := 3, pos := "plain.go:58", after := #[{ on := 7, ground := Ground.data }, { on := 2, ground := Ground.guard }], guard := some (2, true) }) (v := ?vd8) rfl (by kernel_rfl) (by kernel_rfl) (by kernel_rfl) (fun _ _ _ h => h) (Or.inl ⟨by rfl, ?hd8⟩) (by assumption) ?rd8
                  case hd8 => (intro w0 hSw; (try dsimp only at hSw); go_simp; try (with_reducible rfl))
                  simp only [Act.put, List.setIfInBounds_toArray, List.set_cons_zero, List.set_cons_succ]
                  refine wpAnyH_take (i := 9) (oi := { dst := some 49, op := Op.move (Operand.tmp 9), type := 3, pos := "plain.go:58", after := #[{ on := 2, ground := Ground.guard }], guard := some (2, true) }) (v := ?vd9) rfl (by kernel_rfl) (by kernel_rfl) (by kernel_rfl) (fun _ _ _ h => h) (Or.inl ⟨by rfl, ?hd9⟩) (by assumption) ?rd9
                  case hd9 => (intro w0 hSw; (try dsimp only at hSw); go_simp; try (with_reducible rfl))
                  simp only [Act.put, List.setIfInBounds_toArray, List.set_cons_zero, List.set_cons_succ]
                  refine wpAnyH_take (i := 10) (oi := { dst := some 50, op := Op.binOp BinOp.gtr 3 (Operand.tmp 48) (Operand.tmp 49) 3, type := 4, pos := "plain.go:58", after := #[{ on := 8, ground := Ground.data }, { on := 9, ground := Ground.data }, { on := 2, ground := Ground.guard }], guard := some (2, true) }) (v := ?vd10) rfl (by kernel_rfl) (by kernel_rfl) (by kernel_rfl) (fun _ _ _ h => h) (Or.inl ⟨by rfl, ?hd10⟩) (by assumption) ?rd10
                  case hd10 => (intro w0 hSw; (try dsimp only at hSw); go_simp; try (with_reducible rfl))
                  simp only [Act.put, List.setIfInBounds_toArray, List.set_cons_zero, List.set_cons_succ]
                  refine wpAnyH_take (i := 11) (oi := { dst := some 51, op := Op.move (Operand.tmp 50), type := 4, pos := "plain.go:58", after := #[{ on := 10, ground := Ground.data }, { on := 2, ground := Ground.chain }, { on := 2, ground := Ground.guard }], guard := some (2, true) }) (v := ?vd11) rfl (by kernel_rfl) (by kernel_rfl) (by kernel_rfl) (fun _ _ _ h => h) (Or.inl ⟨by rfl, ?hd11⟩) (by assumption) ?rd11
                  case hd11 => (intro w0 hSw; (try dsimp only at hSw); go_simp; try (with_reducible rfl))
                  simp only [Act.put, List.setIfInBounds_toArray, List.set_cons_zero, List.set_cons_succ]
                  refine wpAnyH_take (i := 12) (oi := { dst := some 52, op := Op.move (Operand.tmp 7), type := 32, pos := "plain.go:58", after := #[{ on := 11, ground := Ground.guard }], guard := some (11, false) }) (v := ?vd12) rfl (by kernel_rfl) (by kernel_rfl) (by kernel_rfl) (fun _ _ _ h => h) (Or.inl ⟨by rfl, ?hd12⟩) (by assumption) ?rd12
                  case hd12 => (intro w0 hSw; (try dsimp only at hSw); go_simp; try (with_reducible rfl))
                  simp only [Act.put, List.setIfInBounds_toArray, List.set_cons_zero, List.set_cons_succ]
                  refine wpAnyH_take (i := 13) (oi := { dst := some 53, op := Op.move (Operand.tmp 11), type := 3, pos := "plain.go:58", after := #[{ on := 11, ground := Ground.guard }], guard := some (11, false) }) (v := ?vd13) rfl (by kernel_rfl) (by kernel_rfl) (by kernel_rfl) (fun _ _ _ h => h) (Or.inl ⟨by rfl, ?hd13⟩) (by assumption) ?rd13
                  case hd13 => (intro w0 hSw; (try dsimp only at hSw); go_simp; try (with_reducible rfl))
                  simp only [Act.put, List.setIfInBounds_toArray, List.set_cons_zero, List.set_cons_succ]
                  refine wpAnyH_take (i := 14) (oi := { dst := some 54, op := Op.binOp BinOp.sub 3 (Operand.tmp 53) (Operand.const (Value.int IntKind.i64 1)) 3, type := 3, pos := "plain.go:58", after := #[{ on := 13, ground := Ground.data }, { on := 11, ground := Ground.guard }], guard := some (11, false) }) (v := ?vd14) rfl (by kernel_rfl) (by kernel_rfl) (by kernel_rfl) (fun _ _ _ h => h) (Or.inl ⟨by rfl, ?hd14⟩) (by assumption) ?rd14
                  case hd14 => (intro w0 hSw; (try dsimp only at hSw); go_simp; try (with_reducible rfl))
                  simp only [Act.put, List.setIfInBounds_toArray, List.set_cons_zero, List.set_cons_succ]
                  refine wpAnyH_take (i := 15) (oi := { dst := some 55, op := Op.indexAddr 32 (Operand.tmp 52) (Operand.tmp 54), type := 0, pos := "plain.go:58", after := #[{ on := 12, ground := Ground.data }, { on := 14, ground := Ground.data }, { on := 11, ground := Ground.guard }], guard := some (11, false) }) (v := ?vd15) rfl (by kernel_rfl) (by kernel_rfl) (by kernel_rfl) (fun _ _ _ h => h) (Or.inl ⟨by rfl, ?hd15⟩) (by assumption) ?rd15
                  case hd15 => (intro w0 hSw; (try dsimp only at hSw); go_simp; try (with_reducible rfl))
                  simp only [Act.put, List.setIfInBounds_toArray, List.set_cons_zero, List.set_cons_succ]
                  refine wpAnyH_take (i := 16) (oi := { dst := some 56, op := Op.fieldAddr 36 (Operand.tmp 55) 0, type := 0, pos := "plain.go:58", after := #[{ on := 15, ground := Ground.data }, { on := 11, ground := Ground.guard }], guard := some (11, false) }) (v := ?vd16) rfl (by kernel_rfl) (by kernel_rfl) (by kernel_rfl) (fun _ _ _ h => h) (Or.inl ⟨by rfl, ?hd16⟩) (by assumption) ?rd16
                  case hd16 => (intro w0 hSw; (try dsimp only at hSw); go_simp; try (with_reducible rfl))
                  simp only [Act.put, List.setIfInBounds_toArray, List.set_cons_zero, List.set_cons_succ]
                  refine wpAnyH_take (i := 17) (oi := { dst := some 57, op := Op.load 3 (Operand.tmp 56), type := 3, pos := "plain.go:58", after := #[{ on := 16, ground := Ground.data }, { on := 11, ground := Ground.guard }], guard := some (11, false) }) (v := ?vd17) rfl (by kernel_rfl) (by kernel_rfl) (by kernel_rfl) (fun _ _ _ h => h) (Or.inl ⟨by rfl, ?hd17⟩) (by assumption) ?rd17
                  case hd17 => (intro w0 hSw; (try dsimp only at hSw); go_simp; try (with_reducible rfl))
                  simp only [Act.put, List.setIfInBounds_toArray, List.set_cons_zero, List.set_cons_succ]
                  refine wpAnyH_take (i := 18) (oi := { dst := some 58, op := Op.move (Operand.tmp 9), type := 3, pos := "plain.go:58", after := #[{ on := 11, ground := Ground.guard }], guard := some (11, false) }) (v := ?vd18) rfl (by kernel_rfl) (by kernel_rfl) (by kernel_rfl) (fun _ _ _ h => h) (Or.inl ⟨by rfl, ?hd18⟩) (by assumption) ?rd18
                  case hd18 => (intro w0 hSw; (try dsimp only at hSw); go_simp; try (with_reducible rfl))
                  simp only [Act.put, List.setIfInBounds_toArray, List.set_cons_zero, List.set_cons_succ]
                  refine wpAnyH_take (i := 19) (oi := { dst := some 59, op := Op.binOp BinOp.eql 3 (Operand.tmp 57) (Operand.tmp 58) 3, type := 4, pos := "plain.go:58", after := #[{ on := 17, ground := Ground.data }, { on := 18, ground := Ground.data }, { on := 11, ground := Ground.guard }], guard := some (11, false) }) (v := ?vd19) rfl (by kernel_rfl) (by kernel_rfl) (by kernel_rfl) (fun _ _ _ h => h) (Or.inl ⟨by rfl, ?hd19⟩) (by assumption) ?rd19
                  case hd19 => (intro w0 hSw; (try dsimp only at hSw); go_simp; try (with_reducible rfl))
                  simp only [Act.put, List.setIfInBounds_toArray, List.set_cons_zero, List.set_cons_succ]
                  refine wpAnyH_take (i := 20) (oi := { dst := some 60, op := Op.move (Operand.tmp 59), type := 4, pos := "plain.go:58", after := #[{ on := 19, ground := Ground.data }, { on := 11, ground := Ground.chain }, { on := 11, ground := Ground.guard }], guard := some (11, false) }) (v := ?vd20) rfl (by kernel_rfl) (by kernel_rfl) (by kernel_rfl) (fun _ _ _ h => h) (Or.inl ⟨by rfl, ?hd20⟩) (by assumption) ?rd20
                  case hd20 => (intro w0 hSw; (try dsimp only at hSw); go_simp; try (with_reducible rfl))
                  simp only [Act.put, List.setIfInBounds_toArray, List.set_cons_zero, List.set_cons_succ]
                  refine wpAnyH_take (i := 21) (oi := { dst := some 61, op := Op.move (Operand.tmp 7), type := 32, pos := "plain.go:58", after := #[{ on := 20, ground := Ground.guard }], guard := some (20, true) }) (v := ?vd21) rfl (by kernel_rfl) (by kernel_rfl) (by kernel_rfl) (fun _ _ _ h => h) (Or.inl ⟨by rfl, ?hd21⟩) (by assumption) ?rd21
                  case hd21 => (intro w0 hSw; (try dsimp only at hSw); go_simp; try (with_reducible rfl))
                  simp only [Act.put, List.setIfInBounds_toArray, List.set_cons_zero, List.set_cons_succ]
                  refine wpAnyH_take (i := 22) (oi := { dst := some 62, op := Op.move (Operand.tmp 11), type := 3, pos := "plain.go:58", after := #[{ on := 20, ground := Ground.guard }], guard := some (20, true) }) (v := ?vd22) rfl (by kernel_rfl) (by kernel_rfl) (by kernel_rfl) (fun _ _ _ h => h) (Or.inl ⟨by rfl, ?hd22⟩) (by assumption) ?rd22
                  case hd22 => (intro w0 hSw; (try dsimp only at hSw); go_simp; try (with_reducible rfl))
                  simp only [Act.put, List.setIfInBounds_toArray, List.set_cons_zero, List.set_cons_succ]
                  refine wpAnyH_take (i := 23) (oi := { dst := some 63, op := Op.binOp BinOp.sub 3 (Operand.tmp 62) (Operand.const (Value.int IntKind.i64 1)) 3, type := 3, pos := "plain.go:58", after := #[{ on := 22, ground := Ground.data }, { on := 20, ground := Ground.guard }], guard := some (20, true) }) (v := ?vd23) rfl (by kernel_rfl) (by kernel_rfl) (by kernel_rfl) (fun _ _ _ h => h) (Or.inl ⟨by rfl, ?hd23⟩) (by assumption) ?rd23
                  case hd23 => (intro w0 hSw; (try dsimp only at hSw); go_simp; try (with_reducible rfl))
                  simp only [Act.put, List.setIfInBounds_toArray, List.set_cons_zero, List.set_cons_succ]
                  refine wpAnyH_take (i := 24) (oi := { dst := some 64, op := Op.indexAddr 32 (Operand.tmp 61) (Operand.tmp 63), type := 0, pos := "plain.go:58", after := #[{ on := 21, ground := Ground.data }, { on := 23, ground := Ground.data }, { on := 20, ground := Ground.guard }], guard := some (20, true) }) (v := ?vd24) rfl (by kernel_rfl) (by kernel_rfl) (by kernel_rfl) (fun _ _ _ h => h) (Or.inl ⟨by rfl, ?hd24⟩) (by assumption) ?rd24
                  case hd24 => (intro w0 hSw; (try dsimp only at hSw); go_simp; try (with_reducible rfl))
                  simp only [Act.put, List.setIfInBounds_toArray, List.set_cons_zero, List.set_cons_succ]
                  refine wpAnyH_take (i := 25) (oi := { dst := some 65, op := Op.fieldAddr 36 (Operand.tmp 64) 2, type := 0, pos := "plain.go:58", after := #[{ on := 24, ground := Ground.data }, { on := 20, ground := Ground.guard }], guard := some (20, true) }) (v := ?vd25) rfl (by kernel_rfl) (by kernel_rfl) (by kernel_rfl) (fun _ _ _ h => h) (Or.inl ⟨by rfl, ?hd25⟩) (by assumption) ?rd25
                  case hd25 => (intro w0 hSw; (try dsimp only at hSw); go_simp; try (with_reducible rfl))
                  simp only [Act.put, List.setIfInBounds_toArray, List.set_cons_zero, List.set_cons_succ]
                  refine wpAnyH_take (i := 26) (oi := { dst := some 66, op := Op.load 9 (Operand.tmp 65), type := 9, pos := "plain.go:58", after := #[{ on := 25, ground := Ground.data }, { on := 20, ground := Ground.guard }], guard := some (20, true) }) (v := ?vd26) rfl (by kernel_rfl) (by kernel_rfl) (by kernel_rfl) (fun _ _ _ h => h) (Or.inl ⟨by rfl, ?hd26⟩) (by assumption) ?rd26
                  case hd26 => (intro w0 hSw; (try dsimp only at hSw); go_simp; try (with_reducible rfl))
                  simp only [Act.put, List.setIfInBounds_toArray, List.set_cons_zero, List.set_cons_succ]
                  refine wpAnyH_take (i := 27) (oi := { dst := some 67, op := Op.move (Operand.tmp 0), type := 45, pos := "plain.go:58", after := #[{ on := 20, ground := Ground.guard }], guard := some (20, true) }) (v := ?vd27) rfl (by kernel_rfl) (by kernel_rfl) (by kernel_rfl) (fun _ _ _ h => h) (Or.inl ⟨by rfl, ?hd27⟩) (by assumption) ?rd27
                  case hd27 => (intro w0 hSw; (try dsimp only at hSw); go_simp; try (with_reducible rfl))
                  simp only [Act.put, List.setIfInBounds_toArray, List.set_cons_zero, List.set_cons_succ]
                  refine wpAnyH_take (i := 28) (oi := { dst := some 68, op := Op.move (Operand.tmp 8), type := 3, pos := "plain.go:58", after := #[{ on := 20, ground := Ground.guard }], guard := some (20, true) }) (v := ?vd28) rfl (by kernel_rfl) (by kernel_rfl) (by kernel_rfl) (fun _ _ _ h => h) (Or.inl ⟨by rfl, ?hd28⟩) (by assumption) ?rd28
                  case hd28 => (intro w0 hSw; (try dsimp only at hSw); go_simp; try (with_reducible rfl))
                  simp only [Act.put, List.setIfInBounds_toArray, List.set_cons_zero, List.set_cons_succ]
                  refine wpAnyH_take (i := 29) (oi := { dst := some 69, op := Op.indexAddr 45 (Operand.tmp 67) (Operand.tmp 68), type := 0, pos := "plain.go:58", after := #[{ on := 27, ground := Ground.data }, { on := 28, ground := Ground.data }, { on := 20, ground := Ground.guard }], guard := some (20, true) }) (v := ?vd29) rfl (by kernel_rfl) (by kernel_rfl) (by kernel_rfl) (fun _ _ _ h => h) (Or.inl ⟨by rfl, ?hd29⟩) (by assumption) ?rd29
                  case hd29 => (intro w0 hSw; (try dsimp only at hSw); go_simp; try (with_reducible rfl))
                  simp only [Act.put, List.setIfInBounds_toArray, List.set_cons_zero, List.set_cons_succ]
                  refine wpAnyH_take (i := 30) (oi := { dst := some 70, op := Op.load 9 (Operand.tmp 69), type := 9, pos := "plain.go:58", after := #[{ on := 29, ground := Ground.data }, { on := 20, ground := Ground.guard }], guard := some (20, true) }) (v := ?vd30) rfl (by kernel_rfl) (by kernel_rfl) (by kernel_rfl) (fun _ _ _ h => h) (Or.inl ⟨by rfl, ?hd30⟩) (by assumption) ?rd30
                  case hd30 => (intro w0 hSw; (try dsimp only at hSw); go_simp; try (with_reducible rfl))
                  simp only [Act.put, List.setIfInBounds_toArray, List.set_cons_zero, List.set_cons_succ]
                  refine wpAnyH_take (i := 31) (oi := { dst := some 71, op := Op.binOp BinOp.gtr 9 (Operand.tmp 66) (Operand.tmp 70) 9, type := 4, pos := "plain.go:58", after := #[{ on := 26, ground := Ground.data }, { on := 30, ground := Ground.data }, { on := 20, ground := Ground.guard }], guard := some (20, true) }) (v := ?vd31) rfl (by kernel_rfl) (by kernel_rfl) (by kernel_rfl) (fun _ _ _ h => h) (Or.inl ⟨by rfl, ?hd31⟩) (by assumption) ?rd31
                  case hd31 => (intro w0 hSw; (try dsimp only at hSw); go_simp; try (with_reducible rfl))
                  simp only [Act.put, List.setIfInBounds_toArray, List.set_cons_zero, List.set_cons_succ]
                  refine wpAnyH_take (i := 32) (oi := { dst := some 72, op := Op.pick (Operand.tmp 60) (Operand.tmp 71) (Operand.const (Value.bool false)), type := 4, pos := "plain.go:58", after := #[{ on := 20, ground := Ground.data }, { on := 31, ground := Ground.data }, { on := 11, ground := Ground.guard }], guard := some (11, false) }) (v := ?vd32) rfl (by kernel_rfl) (by kernel_rfl) (by kernel_rfl) (fun _ _ _ h => h) (Or.inl ⟨by rfl, ?hd32⟩) (by assumption) ?rd32
                  case hd32 => (intro w0 hSw; (try dsimp only at hSw); go_simp; try (with_reducible rfl))
                  simp only [Act.put, List.setIfInBounds_toArray, List.set_cons_zero, List.set_cons_succ]
                  refine wpAnyH_take (i := 33) (oi := { dst := some 73, op := Op.pick (Operand.tmp 51) (Operand.const (Value.bool true)) (Operand.tmp 72), type := 4, pos := "plain.go:58", after := #[{ on := 11, ground := Ground.data }, { on := 32, ground := Ground.data }, { on := 2, ground := Ground.guard }], guard := some (2, true) }) (v := ?vd33) rfl (by kernel_rfl) (by kernel_rfl) (by kernel_rfl) (fun _ _ _ h => h) (Or.inl ⟨by rfl, ?hd33⟩) (by assumption) ?rd33
                  case hd33 => (intro w0 hSw; (try dsimp only at hSw); go_simp; try (with_reducible rfl))
                  simp only [Act.put, List.setIfInBounds_toArray, List.set_cons_zero, List.set_cons_succ]
                  refine wpAnyH_take (i := 34) (oi := { dst := some 74, op := Op.pick (Operand.tmp 42) (Operand.tmp 73) (Operand.const (Value.bool false)), type := 4, pos := "plain.go:58", after := #[{ on := 2, ground := Ground.data }, { on := 33, ground := Ground.data }], guard := none }) (v := ?vd34) rfl (by kernel_rfl) (by kernel_rfl) (by kernel_rfl) (fun _ _ _ h => h) (Or.inl ⟨by rfl, ?hd34⟩) (by assumption) ?rd34
                  case hd34 => (intro w0 hSw; (try dsimp only at hSw); go_simp; try (with_reducible rfl))
                  simp only [Act.put, List.setIfInBounds_toArray, List.set_cons_zero, List.set_cons_succ]
                  refine wpAnyH_done (by kernel_rfl) ?_ _
                  obtain ⟨wz, hwz⟩ : ∃ wz, wz = wr.drew := ⟨_, rfl⟩
                  rw [← hwz]
                  have HZ := Hid.mk (show SCH W wz g3 c3 (y1, x) L k from by rw [hwz]; exact ⟨HK.out.be.drew, HK.out.row, HK.out.up⟩)
                  obtain ⟨u0, u1, u2, z0, z1, z2, zf, -⟩ := HZ.out.hole (by have := HL.out.1; omega)
                  have zf0 := zf (k * 3)
                  have zf1 := zf (k * 3 + 1)
                  have zf2 := zf (k * 3 + 2)
                  have cx := cell_lat HZ.out.be HC.out
                  clear hwz zf HK p0 p1 p2 cw
                  go_wp2_with fail
                  exact ⟨⟨i + 1, _, by push_cast; rfl, hil, Hid.mk (by rw [HX.out.1, HL.out.1]; exact SCH.fill HX.out.2.2 HZ.out HL.out.2.2 HL.out.2.1 (by have := HL.out.1; omega) hdr HLo.out)⟩, by simp only [intOf]; omega⟩
              · have e1 : ((y1 : Int) == (d : Int)) = false := by simp; omega
                have e2 : (y1 == d) = false := by simp; omega
                have HLo := Hid.mk (show ∀ j (hj : j < L.length), j < k → hlt L[j] (d, x) from fun j hj h => (HY.out.2.2.2.1 j hj h).resolve_right (fun hn => hn (.inl (by show y.1 < d; rw [← HYY.out.1]; omega))))
                clear hgt heq
                go_wp2_with fail
                refine wp_region_held_drew (S := fun w' => w'.cell? ⟨g3, m * 3, none⟩ = some (.int .i64 (y1 : Nat)) ∧ w'.cell? ⟨g3, m * 3 + 2, none⟩ = some (.string ys) ∧ w'.cell? ⟨g, i, none⟩ = some (.string x.1)) (by kernel_rfl) ?_ (fun hHeld => ?_)
                · exact ⟨p0, p2, cw⟩
                refine wpAnyH_take (i := 0) (oi := { dst := some 40, op := Op.move (Operand.tmp 11), type := 3, pos := "plain.go:58", after := #[], guard := none }) (v := ?ve0) rfl (by kernel_rfl) (by kernel_rfl) (by kernel_rfl) (fun _ _ _ h => h) (Or.inl ⟨by rfl, ?he0⟩) (by assumption) ?re0
                case he0 => (intro w0 hSw; (try dsimp only at hSw); go_simp; try (with_reducible rfl))
                simp only [Act.put, List.setIfInBounds_toArray, List.set_cons_zero, List.set_cons_succ]
                refine wpAnyH_take (i := 1) (oi := { dst := some 41, op := Op.binOp BinOp.gtr 3 (Operand.tmp 40) (Operand.const (Value.int IntKind.i64 0)) 3, type := 4, pos := "plain.go:58", after := #[{ on := 0, ground := Ground.data }], guard := none }) (v := ?ve1) rfl (by kernel_rfl) (by kernel_rfl) (by kernel_rfl) (fun _ _ _ h => h) (Or.inl ⟨by rfl, ?he1⟩) (by assumption) ?re1
                case he1 => (intro w0 hSw; (try dsimp only at hSw); go_simp; try (with_reducible rfl))
                simp only [Act.put, List.setIfInBounds_toArray, List.set_cons_zero, List.set_cons_succ]
                refine wpAnyH_take (i := 2) (oi := { dst := some 42, op := Op.move (Operand.tmp 41), type := 4, pos := "plain.go:58", after := #[{ on := 1, ground := Ground.data }], guard := none }) (v := ?ve2) rfl (by kernel_rfl) (by kernel_rfl) (by kernel_rfl) (fun _ _ _ h => h) (Or.inl ⟨by rfl, ?he2⟩) (by assumption) ?re2
                case he2 => (intro w0 hSw; (try dsimp only at hSw); go_simp; try (with_reducible rfl))
                simp only [Act.put, List.setIfInBounds_toArray, List.set_cons_zero, List.set_cons_succ]
                refine wpAnyH_take (i := 3) (oi := { dst := some 43, op := Op.move (Operand.tmp 7), type := 32, pos := "plain.go:58", after := #[{ on := 2, ground := Ground.guard }], guard := some (2, true) }) (v := ?ve3) rfl (by kernel_rfl) (by kernel_rfl) (by kernel_rfl) (fun _ _ _ h => h) (Or.inl ⟨by rfl, ?he3⟩) (by assumption) ?re3
                case he3 => (intro w0 hSw; (try dsimp only at hSw); go_simp; try (with_reducible rfl))
                simp only [Act.put, List.setIfInBounds_toArray, List.set_cons_zero, List.set_cons_succ]
                refine wpAnyH_take (i := 4) (oi := { dst := some 44, op := Op.move (Operand.tmp 11), type := 3, pos := "plain.go:58", after := #[{ on := 2, ground := Ground.guard }], guard := some (2, true) }) (v := ?ve4) rfl (by kernel_rfl) (by kernel_rfl) (by kernel_rfl) (fun _ _ _ h => h) (Or.inl ⟨by rfl, ?he4⟩) (by assumption) ?re4
                case he4 => (intro w0 hSw; (try dsimp only at hSw); go_simp; try (with_reducible rfl))
                simp only [Act.put, List.setIfInBounds_toArray, List.set_cons_zero, List.set_cons_succ]
                refine wpAnyH_take (i := 5) (oi := { dst := some 45, op := Op.binOp BinOp.sub 3 (Operand.tmp 44) (Operand.const (Value.int IntKind.i64 1)) 3, type := 3, pos := "plain.go:58", after := #[{ on := 4, ground := Ground.data }, { on := 2, ground := Ground.guard }], guard := some (2, true) }) (v := ?ve5) rfl (by kernel_rfl) (by kernel_rfl) (by kernel_rfl) (fun _ _ _ h => h) (Or.inl ⟨by rfl, ?he5⟩) (by assumption) ?re5
                case he5 => (intro w0 hSw; (try dsimp only at hSw); go_simp; try (with_reducible rfl))
                simp only [Act.put, List.setIfInBounds_toArray, List.set_cons_zero, List.set_cons_succ]
                refine wpAnyH_take (i := 6) (oi := { dst := some 46, op := Op.indexAddr 32 (Operand.tmp 43) (Operand.tmp 45), type := 0, pos := "plain.go:58", after := #[{ on := 3, ground := Ground.data }, { on := 5, ground := Ground.data }, { on := 2, ground := Ground.guard }], guard := some (2, true) }) (v := ?ve6) rfl (by kernel_rfl) (by kernel_rfl) (by kernel_rfl) (fun _ _ _ h => h) (Or.inl ⟨by rfl, ?he6⟩) (by assumption) ?re6
                case he6 => (intro w0 hSw; (try dsimp only at hSw); go_simp; try (with_reducible rfl))
                simp only [Act.put, List.setIfInBounds_toArray, List.set_cons_zero, List.set_cons_succ]
                refine wpAnyH_take (i := 7) (oi := { dst := some 47, op := Op.fieldAddr 36 (Operand.tmp 46) 0, type := 0, pos := "plain.go:58", after := #[{ on := 6, ground := Ground.data }, { on := 2, ground := Ground.guard }], guard := some (2, true) }) (v := ?ve7) rfl (by kernel_rfl) (by kernel_rfl) (by kernel_rfl) (fun _ _ _ h => h) (Or.inl ⟨by rfl, ?he7⟩) (by assumption) ?re7
                case he7 => (intro w0 hSw; (try dsimp only at hSw); go_simp; try (with_reducible rfl))
                simp only [Act.put, List.setIfInBounds_toArray, List.set_cons_zero, List.set_cons_succ]
                refine wpAnyH_take (i := 8) (oi := { dst := some 48, op := Op.load 3 (Operand.tmp 47), type := 3, pos := "plain.go:58", after := #[{ on := 7, ground := Ground.data }, { on := 2, ground := Ground.guard }], guard := some (2, true) }) (v := ?ve8) rfl (by kernel_rfl) (by kernel_rfl) (by kernel_rfl) (fun _ _ _ h => h) (Or.inl ⟨by rfl, ?he8⟩) (by assumption) ?re8
                case he8 => (intro w0 hSw; (try dsimp only at hSw); go_simp; try (with_reducible rfl))
                simp only [Act.put, List.setIfInBounds_toArray, List.set_cons_zero, List.set_cons_succ]
                refine wpAnyH_take (i := 9) (oi := { dst := some 49, op := Op.move (Operand.tmp 9), type := 3, pos := "plain.go:58", after := #[{ on := 2, ground := Ground.guard }], guard := some (2, true) }) (v := ?ve9) rfl (by kernel_rfl) (by kernel_rfl) (by kernel_rfl) (fun _ _ _ h => h) (Or.inl ⟨by rfl, ?he9⟩) (by assumption) ?re9
                case he9 => (intro w0 hSw; (try dsimp only at hSw); go_simp; try (with_reducible rfl))
                simp only [Act.put, List.setIfInBounds_toArray, List.set_cons_zero, List.set_cons_succ]
                refine wpAnyH_take (i := 10) (oi := { dst := some 50, op := Op.binOp BinOp.gtr 3 (Operand.tmp 48) (Operand.tmp 49) 3, type := 4, pos := "plain.go:58", after := #[{ on := 8, ground := Ground.data }, { on := 9, ground := Ground.data }, { on := 2, ground := Ground.guard }], guard := some (2, true) }) (v := ?ve10) rfl (by kernel_rfl) (by kernel_rfl) (by kernel_rfl) (fun _ _ _ h => h) (Or.inl ⟨by rfl, ?he10⟩) (by assumption) ?re10
                case he10 => (intro w0 hSw; (try dsimp only at hSw); go_simp; try (with_reducible rfl))
                simp only [Act.put, List.setIfInBounds_toArray, List.set_cons_zero, List.set_cons_succ]
                refine wpAnyH_take (i := 11) (oi := { dst := some 51, op := Op.move (Operand.tmp 50), type := 4, pos := "plain.go:58", after := #[{ on := 10, ground := Ground.data }, { on := 2, ground := Ground.chain }, { on := 2, ground := Ground.guard }], guard := some (2, true) }) (v := ?ve11) rfl (by kernel_rfl) (by kernel_rfl) (by kernel_rfl) (fun _ _ _ h => h) (Or.inl ⟨by rfl, ?he11⟩) (by assumption) ?re11
                case he11 => (intro w0 hSw; (try dsimp only at hSw); go_simp; try (with_reducible rfl))
                simp only [Act.put, List.setIfInBounds_toArray, List.set_cons_zero, List.set_cons_succ]
                refine wpAnyH_take (i := 12) (oi := { dst := some 52, op := Op.move (Operand.tmp 7), type := 32, pos := "plain.go:58", after := #[{ on := 11, ground := Ground.guard }], guard := some (11, false) }) (v := ?ve12) rfl (by kernel_rfl) (by kernel_rfl) (by kernel_rfl) (fun _ _ _ h => h) (Or.inl ⟨by rfl, ?he12⟩) (by assumption) ?re12
                case he12 => (intro w0 hSw; (try dsimp only at hSw); go_simp; try (with_reducible rfl))
                simp only [Act.put, List.setIfInBounds_toArray, List.set_cons_zero, List.set_cons_succ]
                refine wpAnyH_take (i := 13) (oi := { dst := some 53, op := Op.move (Operand.tmp 11), type := 3, pos := "plain.go:58", after := #[{ on := 11, ground := Ground.guard }], guard := some (11, false) }) (v := ?ve13) rfl (by kernel_rfl) (by kernel_rfl) (by kernel_rfl) (fun _ _ _ h => h) (Or.inl ⟨by rfl, ?he13⟩) (by assumption) ?re13
                case he13 => (intro w0 hSw; (try dsimp only at hSw); go_simp; try (with_reducible rfl))
                simp only [Act.put, List.setIfInBounds_toArray, List.set_cons_zero, List.set_cons_succ]
                refine wpAnyH_take (i := 14) (oi := { dst := some 54, op := Op.binOp BinOp.sub 3 (Operand.tmp 53) (Operand.const (Value.int IntKind.i64 1)) 3, type := 3, pos := "plain.go:58", after := #[{ on := 13, ground := Ground.data }, { on := 11, ground := Ground.guard }], guard := some (11, false) }) (v := ?ve14) rfl (by kernel_rfl) (by kernel_rfl) (by kernel_rfl) (fun _ _ _ h => h) (Or.inl ⟨by rfl, ?he14⟩) (by assumption) ?re14
                case he14 => (intro w0 hSw; (try dsimp only at hSw); go_simp; try (with_reducible rfl))
                simp only [Act.put, List.setIfInBounds_toArray, List.set_cons_zero, List.set_cons_succ]
                refine wpAnyH_take (i := 15) (oi := { dst := some 55, op := Op.indexAddr 32 (Operand.tmp 52) (Operand.tmp 54), type := 0, pos := "plain.go:58", after := #[{ on := 12, ground := Ground.data }, { on := 14, ground := Ground.data }, { on := 11, ground := Ground.guard }], guard := some (11, false) }) (v := ?ve15) rfl (by kernel_rfl) (by kernel_rfl) (by kernel_rfl) (fun _ _ _ h => h) (Or.inl ⟨by rfl, ?he15⟩) (by assumption) ?re15
                case he15 => (intro w0 hSw; (try dsimp only at hSw); go_simp; try (with_reducible rfl))
                simp only [Act.put, List.setIfInBounds_toArray, List.set_cons_zero, List.set_cons_succ]
                refine wpAnyH_take (i := 16) (oi := { dst := some 56, op := Op.fieldAddr 36 (Operand.tmp 55) 0, type := 0, pos := "plain.go:58", after := #[{ on := 15, ground := Ground.data }, { on := 11, ground := Ground.guard }], guard := some (11, false) }) (v := ?ve16) rfl (by kernel_rfl) (by kernel_rfl) (by kernel_rfl) (fun _ _ _ h => h) (Or.inl ⟨by rfl, ?he16⟩) (by assumption) ?re16
                case he16 => (intro w0 hSw; (try dsimp only at hSw); go_simp; try (with_reducible rfl))
                simp only [Act.put, List.setIfInBounds_toArray, List.set_cons_zero, List.set_cons_succ]
                refine wpAnyH_take (i := 17) (oi := { dst := some 57, op := Op.load 3 (Operand.tmp 56), type := 3, pos := "plain.go:58", after := #[{ on := 16, ground := Ground.data }, { on := 11, ground := Ground.guard }], guard := some (11, false) }) (v := ?ve17) rfl (by kernel_rfl) (by kernel_rfl) (by kernel_rfl) (fun _ _ _ h => h) (Or.inl ⟨by rfl, ?he17⟩) (by assumption) ?re17
                case he17 => (intro w0 hSw; (try dsimp only at hSw); go_simp; try (with_reducible rfl))
                simp only [Act.put, List.setIfInBounds_toArray, List.set_cons_zero, List.set_cons_succ]
                refine wpAnyH_take (i := 18) (oi := { dst := some 58, op := Op.move (Operand.tmp 9), type := 3, pos := "plain.go:58", after := #[{ on := 11, ground := Ground.guard }], guard := some (11, false) }) (v := ?ve18) rfl (by kernel_rfl) (by kernel_rfl) (by kernel_rfl) (fun _ _ _ h => h) (Or.inl ⟨by rfl, ?he18⟩) (by assumption) ?re18
                case he18 => (intro w0 hSw; (try dsimp only at hSw); go_simp; try (with_reducible rfl))
                simp only [Act.put, List.setIfInBounds_toArray, List.set_cons_zero, List.set_cons_succ]
                refine wpAnyH_take (i := 19) (oi := { dst := some 59, op := Op.binOp BinOp.eql 3 (Operand.tmp 57) (Operand.tmp 58) 3, type := 4, pos := "plain.go:58", after := #[{ on := 17, ground := Ground.data }, { on := 18, ground := Ground.data }, { on := 11, ground := Ground.guard }], guard := some (11, false) }) (v := ?ve19) rfl (by kernel_rfl) (by kernel_rfl) (by kernel_rfl) (fun _ _ _ h => h) (Or.inl ⟨by rfl, ?he19⟩) (by assumption) ?re19
                case he19 => (intro w0 hSw; (try dsimp only at hSw); go_simp; try (with_reducible rfl))
                simp only [Act.put, List.setIfInBounds_toArray, List.set_cons_zero, List.set_cons_succ]
                refine wpAnyH_take (i := 20) (oi := { dst := some 60, op := Op.move (Operand.tmp 59), type := 4, pos := "plain.go:58", after := #[{ on := 19, ground := Ground.data }, { on := 11, ground := Ground.chain }, { on := 11, ground := Ground.guard }], guard := some (11, false) }) (v := ?ve20) rfl (by kernel_rfl) (by kernel_rfl) (by kernel_rfl) (fun _ _ _ h => h) (Or.inl ⟨by rfl, ?he20⟩) (by assumption) ?re20
                case he20 => (intro w0 hSw; (try dsimp only at hSw); go_simp; try (with_reducible rfl))
                simp only [Act.put, List.setIfInBounds_toArray, List.set_cons_zero, List.set_cons_succ]
                refine wpAnyH_take (i := 21) (oi := { dst := some 61, op := Op.move (Operand.tmp 7), type := 32, pos := "plain.go:58", after := #[{ on := 20, ground := Ground.guard }], guard := some (20, true) }) rfl (by kernel_rfl) (by kernel_rfl) (by kernel_rfl) (fun _ _ _ h => h) (Or.inr ⟨by rfl, rfl⟩) (by assumption) ?_
                simp only [Act.put, List.setIfInBounds_toArray, List.set_cons_zero, List.set_cons_succ]
                refine wpAnyH_take (i := 22) (oi := { dst := some 62, op := Op.move (Operand.tmp 11), type := 3, pos := "plain.go:58", after := #[{ on := 20, ground := Ground.guard }], guard := some (20, true) }) rfl (by kernel_rfl) (by kernel_rfl) (by kernel_rfl) (fun _ _ _ h => h) (Or.inr ⟨by rfl, rfl⟩) (by assumption) ?_
                simp only [Act.put, List.setIfInBounds_toArray, List.set_cons_zero, List.set_cons_succ]
                refine wpAnyH_take (i := 23) (oi := { dst := some 63, op := Op.binOp BinOp.sub 3 (Operand.tmp 62) (Operand.const (Value.int IntKind.i64 1)) 3, type := 3, pos := "plain.go:58", after := #[{ on := 22, ground := Ground.data }, { on := 20, ground := Ground.guard }], guard := some (20, true) }) rfl (by kernel_rfl) (by kernel_rfl) (by kernel_rfl) (fun _ _ _ h => h) (Or.inr ⟨by rfl, rfl⟩) (by assumption) ?_
                simp only [Act.put, List.setIfInBounds_toArray, List.set_cons_zero, List.set_cons_succ]
                refine wpAnyH_take (i := 24) (oi := { dst := some 64, op := Op.indexAddr 32 (Operand.tmp 61) (Operand.tmp 63), type := 0, pos := "plain.go:58", after := #[{ on := 21, ground := Ground.data }, { on := 23, ground := Ground.data }, { on := 20, ground := Ground.guard }], guard := some (20, true) }) rfl (by kernel_rfl) (by kernel_rfl) (by kernel_rfl) (fun _ _ _ h => h) (Or.inr ⟨by rfl, rfl⟩) (by assumption) ?_
                simp only [Act.put, List.setIfInBounds_toArray, List.set_cons_zero, List.set_cons_succ]
                refine wpAnyH_take (i := 25) (oi := { dst := some 65, op := Op.fieldAddr 36 (Operand.tmp 64) 2, type := 0, pos := "plain.go:58", after := #[{ on := 24, ground := Ground.data }, { on := 20, ground := Ground.guard }], guard := some (20, true) }) rfl (by kernel_rfl) (by kernel_rfl) (by kernel_rfl) (fun _ _ _ h => h) (Or.inr ⟨by rfl, rfl⟩) (by assumption) ?_
                simp only [Act.put, List.setIfInBounds_toArray, List.set_cons_zero, List.set_cons_succ]
                refine wpAnyH_take (i := 26) (oi := { dst := some 66, op := Op.load 9 (Operand.tmp 65), type := 9, pos := "plain.go:58", after := #[{ on := 25, ground := Ground.data }, { on := 20, ground := Ground.guard }], guard := some (20, true) }) rfl (by kernel_rfl) (by kernel_rfl) (by kernel_rfl) (fun _ _ _ h => h) (Or.inr ⟨by rfl, rfl⟩) (by assumption) ?_
                simp only [Act.put, List.setIfInBounds_toArray, List.set_cons_zero, List.set_cons_succ]
                refine wpAnyH_take (i := 27) (oi := { dst := some 67, op := Op.move (Operand.tmp 0), type := 45, pos := "plain.go:58", after := #[{ on := 20, ground := Ground.guard }], guard := some (20, true) }) rfl (by kernel_rfl) (by kernel_rfl) (by kernel_rfl) (fun _ _ _ h => h) (Or.inr ⟨by rfl, rfl⟩) (by assumption) ?_
                simp only [Act.put, List.setIfInBounds_toArray, List.set_cons_zero, List.set_cons_succ]
                refine wpAnyH_take (i := 28) (oi := { dst := some 68, op := Op.move (Operand.tmp 8), type := 3, pos := "plain.go:58", after := #[{ on := 20, ground := Ground.guard }], guard := some (20, true) }) rfl (by kernel_rfl) (by kernel_rfl) (by kernel_rfl) (fun _ _ _ h => h) (Or.inr ⟨by rfl, rfl⟩) (by assumption) ?_
                simp only [Act.put, List.setIfInBounds_toArray, List.set_cons_zero, List.set_cons_succ]
                refine wpAnyH_take (i := 29) (oi := { dst := some 69, op := Op.indexAddr 45 (Operand.tmp 67) (Operand.tmp 68), type := 0, pos := "plain.go:58", after := #[{ on := 27, ground := Ground.data }, { on := 28, ground := Ground.data }, { on := 20, ground := Ground.guard }], guard := some (20, true) }) rfl (by kernel_rfl) (by kernel_rfl) (by kernel_rfl) (fun _ _ _ h => h) (Or.inr ⟨by rfl, rfl⟩) (by assumption) ?_
                simp only [Act.put, List.setIfInBounds_toArray, List.set_cons_zero, List.set_cons_succ]
                refine wpAnyH_take (i := 30) (oi := { dst := some 70, op := Op.load 9 (Operand.tmp 69), type := 9, pos := "plain.go:58", after := #[{ on := 29, ground := Ground.data }, { on := 20, ground := Ground.guard }], guard := some (20, true) }) rfl (by kernel_rfl) (by kernel_rfl) (by kernel_rfl) (fun _ _ _ h => h) (Or.inr ⟨by rfl, rfl⟩) (by assumption) ?_
                simp only [Act.put, List.setIfInBounds_toArray, List.set_cons_zero, List.set_cons_succ]
                refine wpAnyH_take (i := 31) (oi := { dst := some 71, op := Op.binOp BinOp.gtr 9 (Operand.tmp 66) (Operand.tmp 70) 9, type := 4, pos := "plain.go:58", after := #[{ on := 26, ground := Ground.data }, { on := 30, ground := Ground.data }, { on := 20, ground := Ground.guard }], guard := some (20, true) }) rfl (by kernel_rfl) (by kernel_rfl) (by kernel_rfl) (fun _ _ _ h => h) (Or.inr ⟨by rfl, rfl⟩) (by assumption) ?_
                simp only [Act.put, List.setIfInBounds_toArray, List.set_cons_zero, List.set_cons_succ]
                refine wpAnyH_take (i := 32) (oi := { dst := some 72, op := Op.pick (Operand.tmp 60) (Operand.tmp 71) (Operand.const (Value.bool false)), type := 4, pos := "plain.go:58", after := #[{ on := 20, ground := Ground.data }, { on := 31, ground := Ground.data }, { on := 11, ground := Ground.guard }], guard := some (11, false) }) (v := ?ve32) rfl (by kernel_rfl) (by kernel_rfl) (by kernel_rfl) (fun _ _ _ h => h) (Or.inl ⟨by rfl, ?he32⟩) (by assumption) ?re32
                case he32 => (intro w0 hSw; (try dsimp only at hSw); go_simp; try (with_reducible rfl))
                simp only [Act.put, List.setIfInBounds_toArray, List.set_cons_zero, List.set_cons_succ]
                refine wpAnyH_take (i := 33) (oi := { dst := some 73, op := Op.pick (Operand.tmp 51) (Operand.const (Value.bool true)) (Operand.tmp 72), type := 4, pos := "plain.go:58", after := #[{ on := 11, ground := Ground.data }, { on := 32, ground := Ground.data }, { on := 2, ground := Ground.guard }], guard := some (2, true) }) (v := ?ve33) rfl (by kernel_rfl) (by kernel_rfl) (by kernel_rfl) (fun _ _ _ h => h) (Or.inl ⟨by rfl, ?he33⟩) (by assumption) ?re33
                case he33 => (intro w0 hSw; (try dsimp only at hSw); go_simp; try (with_reducible rfl))
                simp only [Act.put, List.setIfInBounds_toArray, List.set_cons_zero, List.set_cons_succ]
                refine wpAnyH_take (i := 34) (oi := { dst := some 74, op := Op.pick (Operand.tmp 42) (Operand.tmp 73) (Operand.const (Value.bool false)), type := 4, pos := "plain.go:58", after := #[{ on := 2, ground := Ground.data }, { on := 33, ground := Ground.data }], guard := none }) (v := ?ve34) rfl (by kernel_rfl) (by kernel_rfl) (by kernel_rfl) (fun _ _ _ h => h) (Or.inl ⟨by rfl, ?he34⟩) (by assumption) ?re34
                case he34 => (intro w0 hSw; (try dsimp only at hSw); go_simp; try (with_reducible rfl))
                simp only [Act.put, List.setIfInBounds_toArray, List.set_cons_zero, List.set_cons_succ]
                refine wpAnyH_done (by kernel_rfl) ?_ _
                obtain ⟨wz, hwz⟩ : ∃ wz, wz = wr.drew := ⟨_, rfl⟩
                rw [← hwz]
                have HZ := Hid.mk (show SCH W wz g3 c3 (d, x) L k from by rw [hwz]; exact ⟨HK.out.be.drew, HK.out.row, HK.out.up⟩)
                obtain ⟨u0, u1, u2, z0, z1, z2, zf, -⟩ := HZ.out.hole (by have := HL.out.1; omega)
                have zf0 := zf (k * 3)
                have zf1 := zf (k * 3 + 1)
                have zf2 := zf (k * 3 + 2)
                have cx := cell_lat HZ.out.be HC.out
                clear hwz zf HK p0 p1 p2 cw
                go_wp2_with fail
                exact ⟨⟨i + 1, _, by push_cast; rfl, hil, Hid.mk (by rw [HX.out.1, HL.out.1]; exact SCH.fill HX.out.2.2 HZ.out HL.out.2.2 HL.out.2.1 (by have := HL.out.1; omega) hdr HLo.out)⟩, by simp only [intOf]; omega⟩
      · have d1 : ((r : Nat) : Int) < ((d : Nat) : Int) := by omega
        go_wp2_with fail
        all_goals exact ⟨⟨i + 1, L, by push_cast; rfl, hil, Hid.mk ⟨b1, r1, by rw [HX.out.1]; exact HJ.out.sc.skip (by rw [← HX.out.2.2]; omega)⟩⟩, by simp only [intOf]; omega⟩
    · have i1 : ¬ (i : Int) < (ln : Int) := by omega
      have hE : ScanO W q r A (.returned u7) wr := ⟨u7, L, rfl, HJ.out.be, HJ.out.row, by
        have := HJ.out.sc
        rwa [List.take_of_length_le (by have := HA.out.2.1; omega)] at this⟩
      have HE := Hid.mk hE
      clear hE
      go_wp2_with fail
      go_ret
      exact HE.out
end Go.Proofs.YtnnbcdfpbdmgdaaDoor
set_option linter.unusedVariables false
set_option linter.unusedSimpArgs false
namespace Go.Proofs.YtnnbcdfpbdmgdaaDoor
open Go.RowKit Go.Maps Go.Sort Go.Proofs.BitMath Go.Proofs.TreeMath
set_option maxHeartbeats 4000000 in
set_option maxRecDepth 100000 in
theorem first_all {m : Nat} (l : List (Nat × Cd m)) (a : Option Addr) (c : Nat) (k : Int) (w : World) (h : HAt w a l) (hl : l.length < 4611686018427387904) (hc : l.length ≤ c) (hc2 : c ≤ maxLen) :
    Calls Tryd.prog 25 #[.slice a l.length c, .int .i64 k] w (FstO w l k) := by
  have hc3 : c ≤ 9223372036854775807 := by simp only [maxLen] at hc2; omega
  clear hc2
  obtain ⟨ln, hln⟩ : ∃ ln, ln = l.length := ⟨_, rfl⟩
  have HA := Hid.mk (And.intro h hln)
  rw [← hln] at hl hc ⊢
  clear h hln
  by_cases hz : k ≤ 0 ∨ ln = 0
  · have hnil : FstO w l k (.returned (.slice none 0 0)) w := ⟨none, 0, 0, rfl, Drew.refl _, fun i hi => by simp at hi, Nat.zero_le _, .inl ⟨hz.elim .inl (fun e => .inr (List.length_eq_zero_iff.1 (by rw [← HA.out.2]; exact e))), rfl⟩⟩
    have HN := Hid.mk hnil
    clear hnil
    by_cases hk0 : k ≤ 0
    · go_enter Tryd.func25, Tryd.ntmps25
      go_wp2_with fail
      all_goals (go_ret; exact HN.out)
    · have h0 : ln = 0 := by omega
      subst h0
      go_enter Tryd.func25, Tryd.ntmps25
      go_wp2_with fail
      all_goals (go_ret; exact HN.out)
  · have hk0 : ¬ k ≤ 0 := fun e => hz (.inl e)
    have hn0 : ln ≠ 0 := fun e => hz (.inr e)
    have hn1 : ((ln : Int) == 0) = false := by simp; omega
    clear hz
    obtain ⟨p, hp⟩ : ∃ p, p = min k.toNat l.length - 1 := ⟨_, rfl⟩
    have hpl : p < l.length := by have := HA.out.2; omega
    have hpm : min k (ln : Int) = ((p + 1 : Nat) : Int) := by have := HA.out.2; omega
    obtain ⟨g, e, c0, -, -⟩ := HA.out.1 p hpl
    subst e
    obtain ⟨D, hD⟩ : ∃ D, D = l[p].1 := ⟨_, rfl⟩
    rw [← hD] at c0
    have HP := Hid.mk (And.intro hp hD)
    go_enter Tryd.func25, Tryd.ntmps25
    clear hp hD
    go_wp2_with fail
    go_loopw [6] (fun u wr => ∃ i : Nat, u = .int .i64 i ∧ i ≤ ln ∧ Drew w wr ∧ Hid (∀ j (hj : j < l.length), j < i → l[j].1 ≤ D)) (fun u _ => ln - (intOf u).toNat)
    case atStart => exact ⟨0, rfl, Nat.zero_le _, Drew.refl _, Hid.mk (fun j _ h => by omega)⟩
    case round =>
      obtain ⟨i, rfl, hi, hd, HJ⟩ := hrel
      have i2 : 0 ≤ (i : Int) := by omega
      have ic : (i : Int) ≤ (c : Int) := by omega
      have hfin : (∀ hx : i < l.length, D < l[i].1) → FstO w l k (.returned (.slice (some ⟨g, 0, none⟩) i c)) wr := fun hx => ⟨_, c, i, rfl, hd, hat_drew (HA.out.1.take i) hd, by have := HA.out.2; omega, .inr ⟨by omega, p, hpl, HP.out.1, fun j hj hji => by rw [← HP.out.2]; exact HJ.out j hj hji, fun h => by rw [← HP.out.2]; exact hx h⟩⟩
      by_cases hlt : i < ln
      · have hln : i < l.length := by have := HA.out.2; omega
        obtain ⟨g', e, d0, -, -⟩ := (hat_drew HA.out.1 hd) i hln
        cases e
        have i1 : (i : Int) < (ln : Int) := by omega
        have hwi : IntKind.i64.wrap ((i : Int) + 1) = ((i + 1 : Nat) : Int) := by rw [IntKind.wrap_i64]; omega
        obtain ⟨x, hx⟩ : ∃ x, x = l[i].1 := ⟨_, rfl⟩
        rw [← hx] at d0
        have HX := Hid.mk hx
        clear hx
        by_cases hxd : x ≤ D
        · have j1 : ((x : Nat) : Int) ≤ ((D : Nat) : Int) := by omega
          have HF := Hid.mk hfin
          clear hfin
          go_wp2_with fail
          all_goals exact ⟨⟨i + 1, by push_cast; rfl, hlt, hd, Hid.mk (fun j hj hji => by
            by_cases e : j = i
            · subst e; rw [← HX.out]; exact hxd
            · exact HJ.out j hj (by omega))⟩, by simp only [intOf]; omega⟩
        · have j1 : ¬ ((x : Nat) : Int) ≤ ((D : Nat) : Int) := by omega
          have hE := hfin (fun _ => by rw [← HX.out]; omega)
          have HE := Hid.mk hE
          clear hE hfin
          go_wp2_with fail
          all_goals (go_ret; exact HE.out)
      · have i1 : ¬ (i : Int) < (ln : Int) := by omega
        have hE := hfin (fun h => by have := HA.out.2; omega)
        have HE := Hid.mk hE
        clear hE hfin
        go_wp2_with fail
        all_goals (go_ret; exact HE.out)
end Go.Proofs.YtnnbcdfpbdmgdaaDoor
