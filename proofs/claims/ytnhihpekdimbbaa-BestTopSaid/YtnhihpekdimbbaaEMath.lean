/-
  DERIVED. The order of hits; lists in order, without doubles.
-/
import Derived.Test.YtnhihpekdimbbaaMBase
import Derived.Lib.Small
set_option linter.unusedVariables false
set_option linter.unusedSimpArgs false
namespace Go.Proofs.Ytnhihpekdimbbaa
open Go.RowKit
theorem cmpI (a b : Int) : (Lib.compareInt a b < 0 ↔ a < b) ∧ (Lib.compareInt a b = 0 ↔ a = b) ∧ (0 < Lib.compareInt a b ↔ b < a) := by
  unfold Lib.compareInt
  split
  · omega
  · split <;> omega
theorem cmpB_tr : ∀ a b c : List UInt8, Lib.compareBytes a b ≤ 0 → Lib.compareBytes b c ≤ 0 → Lib.compareBytes a c ≤ 0 ∧ (Lib.compareBytes a c = 0 → Lib.compareBytes a b = 0 ∧ Lib.compareBytes b c = 0)
  | [], [], [] => by simp [Lib.compareBytes]
  | [], [], _ :: _ => by simp [Lib.compareBytes]
  | [], _ :: _, [] => by simp [Lib.compareBytes]
  | [], _ :: _, _ :: _ => by simp [Lib.compareBytes]
  | _ :: _, [], [] => by simp [Lib.compareBytes]
  | _ :: _, [], _ :: _ => by simp [Lib.compareBytes]
  | _ :: _, _ :: _, [] => by simp [Lib.compareBytes]
  | a :: x, b :: y, c :: z => by
    unfold Lib.compareBytes
    intro h1 h2
    by_cases p1 : a < b
    · by_cases q1 : b < c
      · have : a < c := UInt8.lt_trans p1 q1
        simp [this]
      · by_cases q2 : c < b
        · simp [q1, q2] at h2
        · have e : b = c := UInt8.le_antisymm (UInt8.not_lt.1 q2) (UInt8.not_lt.1 q1)
          subst e
          simp [p1]
    · by_cases p2 : b < a
      · simp [p1, p2] at h1
      · have e : a = b := UInt8.le_antisymm (UInt8.not_lt.1 p2) (UInt8.not_lt.1 p1)
        subst e
        simp [p1] at h1
        by_cases q1 : a < c
        · simp [q1]
        · by_cases q2 : c < a
          · simp [q1, q2] at h2
          · have e : a = c := UInt8.le_antisymm (UInt8.not_lt.1 q2) (UInt8.not_lt.1 q1)
            subst e
            simp [q1] at h2
            have := cmpB_tr x y z h1 h2
            simpa [p1] using this
theorem cmpB_tri (a b : List UInt8) : Lib.compareBytes a b < 0 ∨ Lib.compareBytes a b = 0 ∨ 0 < Lib.compareBytes a b := by omega
/-- How two hits stand. -/
def cpH (a b : Ht) : Int := if a.d = b.d then (if a.i = b.i then Lib.compareBytes a.c.data.toList b.c.data.toList else Lib.compareInt a.i b.i) else Lib.compareInt a.d b.d
theorem cpH_zero (a b : Ht) : cpH a b = 0 ↔ a = b := by
  obtain ⟨d, i, c⟩ := a
  obtain ⟨d', i', c'⟩ := b
  unfold cpH
  simp only [Ht.mk.injEq]
  have h1 := cmpI d d'
  have h2 := cmpI i i'
  have h3 := cmp_zero c.data.toList c'.data.toList
  by_cases e1 : d = d'
  · rw [if_pos e1]
    by_cases e2 : i = i'
    · rw [if_pos e2, h3]
      exact ⟨fun h => ⟨e1, e2, ba_ext h⟩, fun h => by rw [h.2.2]⟩
    · rw [if_neg e2]
      exact ⟨fun h => absurd (h2.2.1.1 h) e2, fun h => absurd h.2.1 e2⟩
  · rw [if_neg e1]
    exact ⟨fun h => absurd (h1.2.1.1 h) e1, fun h => absurd h.1 e1⟩
theorem cpH_rev (a b : Ht) : cpH b a = - cpH a b := by
  unfold cpH
  have hb := cmpB_rev a.c.data.toList b.c.data.toList
  have hi : ∀ x y : Int, Lib.compareInt y x = - Lib.compareInt x y := fun x y => by
    unfold Lib.compareInt
    split <;> split <;> first | omega | (split <;> omega)
  by_cases h1 : a.d = b.d
  · rw [if_pos h1, if_pos h1.symm]
    by_cases h2 : a.i = b.i
    · rw [if_pos h2, if_pos h2.symm, hb]
    · rw [if_neg h2, if_neg (fun h => h2 h.symm), hi]
  · rw [if_neg h1, if_neg (fun h => h1 h.symm), hi]
theorem cpH_tr {a b c : Ht} (h1 : cpH a b < 0) (h2 : cpH b c < 0) : cpH a c < 0 := by
  have tr := cmpB_tr a.c.data.toList b.c.data.toList c.c.data.toList
  have i1 := cmpI a.d b.d
  have i2 := cmpI b.d c.d
  have i3 := cmpI a.d c.d
  have j1 := cmpI a.i b.i
  have j2 := cmpI b.i c.i
  have j3 := cmpI a.i c.i
  unfold cpH at h1 h2 ⊢
  by_cases p1 : a.d = b.d
  · rw [if_pos p1] at h1
    by_cases p2 : b.d = c.d
    · rw [if_pos p2] at h2
      rw [if_pos (p1.trans p2)]
      by_cases q1 : a.i = b.i
      · rw [if_pos q1] at h1
        by_cases q2 : b.i = c.i
        · rw [if_pos q2] at h2
          rw [if_pos (q1.trans q2)]
          have := tr (by omega) (by omega)
          omega
        · rw [if_neg q2] at h2
          rw [if_neg (by omega)]
          omega
      · rw [if_neg q1] at h1
        have : b.i ≤ c.i := by
          by_cases q2 : b.i = c.i
          · omega
          · rw [if_neg q2] at h2; omega
        rw [if_neg (by omega)]
        omega
    · rw [if_neg p2] at h2
      rw [if_neg (by omega)]
      omega
  · rw [if_neg p1] at h1
    have : b.d ≤ c.d := by
      by_cases p2 : b.d = c.d
      · omega
      · rw [if_neg p2] at h2; omega
    rw [if_neg (by omega)]
    omega
theorem cpH_self (a : Ht) : cpH a a = 0 := (cpH_zero a a).2 rfl
/-- Not above, and not above: not above. -/
theorem cpH_le {a b c : Ht} (h1 : cpH a b ≤ 0) (h2 : cpH b c ≤ 0) : cpH a c ≤ 0 := by
  rcases Int.lt_or_eq_of_le h1 with h1 | h1
  · rcases Int.lt_or_eq_of_le h2 with h2 | h2
    · exact Int.le_of_lt (cpH_tr h1 h2)
    · rw [← (cpH_zero b c).1 h2]; exact Int.le_of_lt h1
  · rw [(cpH_zero a b).1 h1]; exact h2
/-- In order, without doubles. -/
def Srt (l : List Ht) : Prop := l.Pairwise (fun a b => cpH a b < 0)
theorem Srt.cons {x : Ht} {l : List Ht} : Srt (x :: l) ↔ (∀ y ∈ l, cpH x y < 0) ∧ Srt l := List.pairwise_cons
theorem Srt.nodup {l : List Ht} (h : Srt l) : l.Nodup := List.Pairwise.imp (fun {a b} (hab : cpH a b < 0) e => by subst e; rw [cpH_self] at hab; omega) h
theorem Srt.take {l : List Ht} (h : Srt l) (k : Nat) : Srt (l.take k) := List.Pairwise.sublist (List.take_sublist k l) h
/-- A hit put in, if it is not there. -/
def ins (h : Ht) : List Ht → List Ht
  | [] => [h]
  | x :: l => if cpH x h < 0 then x :: ins h l else @ite _ (x = h) (Ht.dec x h) (x :: l) (h :: x :: l)
theorem ins_mem (h y : Ht) : ∀ l, y ∈ ins h l ↔ y = h ∨ y ∈ l
  | [] => by simp [ins]
  | x :: l => by
    unfold ins
    split
    · simp [ins_mem h y l]
      constructor
      · rintro (h | h | h) <;> simp [h]
      · rintro (h | h | h) <;> simp [h]
    · split
      · rename_i e; subst e
        simp
      · simp
theorem ins_srt (h : Ht) : ∀ l, Srt l → Srt (ins h l)
  | [], _ => by simp [ins, Srt]
  | x :: l, hs => by
    obtain ⟨h1, h2⟩ := Srt.cons.1 hs
    unfold ins
    split
    · rename_i hx
      refine Srt.cons.2 ⟨fun y hy => ?_, ins_srt h l h2⟩
      rcases (ins_mem h y l).1 hy with rfl | hy
      · exact hx
      · exact h1 y hy
    · split
      · exact hs
      · rename_i hx hne
        have hlt : cpH h x < 0 := by
          have r := cpH_rev h x
          have z := cpH_zero x h
          have : cpH x h ≠ 0 := fun e => hne (z.1 e)
          omega
        refine Srt.cons.2 ⟨fun y hy => ?_, hs⟩
        rcases List.mem_cons.1 hy with rfl | hy
        · exact hlt
        · exact cpH_tr hlt (h1 y hy)
theorem ins_in {h : Ht} : ∀ {l}, Srt l → h ∈ l → ins h l = l
  | [], _, hm => by simp at hm
  | x :: l, hs, hm => by
    obtain ⟨h1, h2⟩ := Srt.cons.1 hs
    unfold ins
    by_cases e : x = h
    · subst e
      rw [if_neg (by rw [cpH_self]; omega), if_pos rfl]
    · have hm' : h ∈ l := by
        rcases List.mem_cons.1 hm with e' | hm
        · exact absurd e'.symm e
        · exact hm
      rw [if_pos (h1 h hm'), ins_in h2 hm']
theorem ins_perm {h : Ht} : ∀ {l}, h ∉ l → (ins h l).Perm (h :: l)
  | [], _ => .refl _
  | x :: l, hm => by
    unfold ins
    split
    · exact ((ins_perm (fun e => hm (List.mem_cons_of_mem _ e))).cons x).trans (.swap _ _ _)
    · split
      · rename_i e; subst e; exact absurd (List.mem_cons_self) hm
      · exact .refl _
theorem ins_len {h : Ht} {l : List Ht} (hm : h ∉ l) : (ins h l).length = l.length + 1 := by rw [(ins_perm hm).length_eq]; rfl
theorem take_cons_take (x : Ht) (l : List Ht) (k : Nat) : (x :: l).take k = (x :: l.take k).take k := by
  cases k with
  | zero => rfl
  | succ k => rw [List.take_succ_cons, List.take_succ_cons, List.take_take, Nat.min_eq_left (by omega)]
theorem ins_take (h : Ht) : ∀ (l : List Ht) (k : Nat), (ins h l).take k = (ins h (l.take k)).take k
  | [], k => by simp
  | x :: l, 0 => by simp
  | x :: l, k + 1 => by
    rw [List.take_succ_cons]
    unfold ins
    split
    · rw [List.take_succ_cons, List.take_succ_cons, ins_take h l k]
    · split
      · rw [List.take_succ_cons, List.take_succ_cons, List.take_take, Nat.min_self]
      · rw [List.take_succ_cons, List.take_succ_cons, ← take_cons_take]
/-- Lists in order with the same members are one. -/
theorem srt_ext : ∀ {l m : List Ht}, Srt l → Srt m → (∀ x, x ∈ l ↔ x ∈ m) → l = m
  | [], [], _, _, _ => rfl
  | [], y :: m, _, _, h => by have := (h y).2 List.mem_cons_self; simp at this
  | x :: l, [], _, _, h => by have := (h x).1 List.mem_cons_self; simp at this
  | x :: l, y :: m, hl, hm, h => by
    obtain ⟨l1, l2⟩ := Srt.cons.1 hl
    obtain ⟨m1, m2⟩ := Srt.cons.1 hm
    have hxy : x = y := by
      rcases List.mem_cons.1 ((h x).1 List.mem_cons_self) with e | e
      · exact e
      · rcases List.mem_cons.1 ((h y).2 List.mem_cons_self) with e' | e'
        · exact e'.symm
        · have a := m1 x e
          have b := l1 y e'
          have := cpH_rev x y
          omega
    subst hxy
    rw [srt_ext l2 m2 (fun z => ?_)]
    constructor
    · intro hz
      rcases List.mem_cons.1 ((h z).1 (List.mem_cons_of_mem _ hz)) with e | e
      · subst e; have := l1 z hz; rw [cpH_self] at this; omega
      · exact e
    · intro hz
      rcases List.mem_cons.1 ((h z).2 (List.mem_cons_of_mem _ hz)) with e | e
      · subst e; have := m1 z hz; rw [cpH_self] at this; omega
      · exact e
/-- All unlike hits, in order. -/
def srtL (L : List Ht) : List Ht := L.foldl (fun l h => ins h l) []
theorem foldl_mem (L : List Ht) : ∀ (l : List Ht) (x : Ht), x ∈ L.foldl (fun l h => ins h l) l ↔ x ∈ l ∨ x ∈ L := by
  induction L with
  | nil => simp
  | cons h L ih =>
    intro l x
    rw [List.foldl_cons, ih, ins_mem, List.mem_cons]
    constructor
    · rintro ((h | h) | h) <;> simp [h]
    · rintro (h | h | h) <;> simp [h]
theorem foldl_srt (L : List Ht) : ∀ (l : List Ht), Srt l → Srt (L.foldl (fun l h => ins h l) l) := by
  induction L with
  | nil => exact fun l h => h
  | cons h L ih => exact fun l hl => ih _ (ins_srt h l hl)
theorem srtL_mem (L : List Ht) (x : Ht) : x ∈ srtL L ↔ x ∈ L := by unfold srtL; rw [foldl_mem]; simp
theorem srtL_srt (L : List Ht) : Srt (srtL L) := foldl_srt L [] (by simp [Srt])
theorem srtL_ext {L M : List Ht} (h : ∀ x, x ∈ L ↔ x ∈ M) : srtL L = srtL M := srt_ext (srtL_srt L) (srtL_srt M) (fun x => by rw [srtL_mem, srtL_mem, h])
/-- What a top of k keeps. -/
def topL (k : Nat) (L : List Ht) : List Ht := L.foldl (fun T h => (ins h T).take k) []
theorem top_fold (k : Nat) (L : List Ht) : ∀ (S : List Ht), L.foldl (fun T h => (ins h T).take k) (S.take k) = (L.foldl (fun l h => ins h l) S).take k := by
  induction L with
  | nil => exact fun S => rfl
  | cons h L ih => exact fun S => by rw [List.foldl_cons, List.foldl_cons, ← ins_take, ih]
theorem topL_eq (k : Nat) (L : List Ht) : topL k L = (srtL L).take k := by
  have := top_fold k L []
  simpa [topL, srtL] using this
theorem topL_snoc (k : Nat) (L : List Ht) (h : Ht) : topL k (L ++ [h]) = (ins h (topL k L)).take k := by unfold topL; rw [List.foldl_append]; rfl
theorem topL_srt (k : Nat) (L : List Ht) : Srt (topL k L) := by rw [topL_eq]; exact (srtL_srt L).take k
theorem topL_len (k : Nat) (L : List Ht) : (topL k L).length ≤ k := by rw [topL_eq, List.length_take]; omega
theorem topL_ext {k : Nat} {L M : List Ht} (h : ∀ x, x ∈ L ↔ x ∈ M) : topL k L = topL k M := by rw [topL_eq, topL_eq, srtL_ext h]
theorem topL_sub {k : Nat} {L : List Ht} {x : Ht} (h : x ∈ topL k L) : x ∈ L := by rw [topL_eq] at h; exact (srtL_mem L x).1 (List.mem_of_mem_take h)
/-- What is left out stands behind k others. -/
theorem topL_out {k : Nat} {L : List Ht} {x : Ht} (hL : x ∈ L) (h : x ∉ topL k L) : (topL k L).length = k ∧ ∀ y ∈ topL k L, cpH y x < 0 := by
  rw [topL_eq] at h ⊢
  have hx := (srtL_mem L x).2 hL
  have hs := srtL_srt L
  rw [← List.take_append_drop k (srtL L)] at hx hs
  have hd : x ∈ (srtL L).drop k := (List.mem_append.1 hx).resolve_left h
  refine ⟨?_, fun y hy => (List.pairwise_append.1 hs).2.2 y hy x hd⟩
  rw [List.length_take]
  have : k < (srtL L).length := by
    rcases Nat.lt_or_ge k (srtL L).length with h' | h'
    · exact h'
    · rw [List.drop_eq_nil_of_le h'] at hd; simp at hd
  omega
/-- The last one of a list in order. -/
theorem srt_last {X xs : List Ht} {x : Ht} (hX : Srt X) (hp : xs.Perm X) (hx : x ∈ xs) (hm : ∀ y ∈ xs, cpH y x ≤ 0) : X = X.dropLast ++ [x] := by
  have hne : X ≠ [] := fun e => by subst e; have := hp.mem_iff.1 hx; simp at this
  have hl := List.dropLast_concat_getLast hne
  have hg : X.getLast hne = x := by
    have hxX := hp.mem_iff.1 hx
    rw [← hl] at hxX
    rcases List.mem_append.1 hxX with h | h
    · have hs := hX
      rw [← hl] at hs
      have a := (List.pairwise_append.1 hs).2.2 x h (X.getLast hne) (by simp)
      have b := hm _ (hp.mem_iff.2 (List.getLast_mem hne))
      have := cpH_rev x (X.getLast hne)
      omega
    · simpa using (List.mem_singleton.1 h).symm
  rw [hg] at hl
  exact hl.symm
theorem dropLast_perm {X ys xs : List Ht} {x : Ht} (hX : X = X.dropLast ++ [x]) (hp : (x :: ys).Perm xs) (hq : xs.Perm X) : ys.Perm X.dropLast := by
  have h0 : X.Perm (x :: X.dropLast) := by
    conv => lhs; rw [hX]
    exact List.perm_append_comm
  exact List.Perm.cons_inv (hp.trans (hq.trans h0))
theorem srt_drop {X : List Ht} (h : Srt X) : Srt X.dropLast := List.Pairwise.sublist (List.dropLast_sublist X) h
/-- A full top lets in a hit that is not there and not behind its last one. -/
theorem top_in {X : List Ht} {x h : Ht} (hX : Srt X) (he : X = X.dropLast ++ [x]) (hn : h ∉ X) (hlt : cpH h x < 0) : (ins h X).take X.length = ins h X.dropLast := by
  obtain ⟨Y, hY⟩ : ∃ Y, Y = X.dropLast := ⟨_, rfl⟩
  rw [← hY] at he ⊢
  subst he
  have hi : ins h (Y ++ [x]) = ins h Y ++ [x] := by
    clear hY hX
    induction Y with
    | nil =>
      have r := cpH_rev h x
      simp only [List.nil_append, ins]
      rw [if_neg (by omega), if_neg (fun e => by subst e; rw [cpH_self] at hlt; omega)]
      rfl
    | cons y Y ih =>
      have ih' := ih (fun e => hn (by simp at e ⊢; rcases e with e | e <;> simp [e]))
      simp only [List.cons_append, ins]
      split
      · rw [ih']; rfl
      · rw [if_neg (fun e => hn (by simp [e]))]
        rw [if_neg (fun e => hn (by simp [e]))]; rfl
  have hl : (ins h Y).length = Y.length + 1 := ins_len (fun e => hn (by simp [e]))
  rw [hi, List.take_append_of_le_length (by simp; omega), List.take_of_length_le (by simp; omega)]
/-- .. and none that stands behind it. -/
theorem top_out {X : List Ht} {x h : Ht} (hX : Srt X) (he : X = X.dropLast ++ [x]) (hgt : 0 < cpH h x) : (ins h X).take X.length = X ∧ h ∉ X := by
  have hall : ∀ y ∈ X, cpH y h < 0 := fun y hy => by
    have r := cpH_rev h x
    rw [he] at hy
    rcases List.mem_append.1 hy with hy | hy
    · have hs := hX
      rw [he] at hs
      exact cpH_tr ((List.pairwise_append.1 hs).2.2 y hy x (by simp)) (by omega)
    · rw [List.mem_singleton.1 hy]; omega
  refine ⟨?_, fun hm => by have := hall h hm; rw [cpH_self] at this; omega⟩
  have hi : ins h X = X ++ [h] := by
    clear he hX
    induction X with
    | nil => rfl
    | cons y Y ih =>
      simp only [ins]
      rw [if_pos (hall y List.mem_cons_self), ih (fun z hz => hall z (List.mem_cons_of_mem _ hz))]; rfl
  rw [hi, List.take_append_of_le_length (Nat.le_refl _), List.take_of_length_le (Nat.le_refl _)]
end Go.Proofs.Ytnhihpekdimbbaa
