/-
  DERIVED. Names: numbers as texts, and what a file's name says.
-/
import Derived.Lib.AtoiAllCases
import Derived.Lib.AtoiTie
import Derived.Lib.ItoaMem
import Derived.Lib.IndexMore
import Derived.Lib.Strings
set_option linter.unusedVariables false
set_option linter.unusedSimpArgs false
namespace Go.Proofs.YtibjneoiombbfaaDoor
open Go.Lib
theorem decFrom_app (b : UInt8) : ∀ (l : List UInt8) (a : Nat), decFrom a (l ++ [b]) = (decFrom a l).bind fun n => (digitVal b).map fun d => n * 10 + d
  | [], a => by simp only [List.nil_append, decFrom, Option.bind_some]; cases digitVal b <;> rfl
  | c :: l, a => by
    simp only [List.cons_append, decFrom]
    cases digitVal c with
    | none => rfl
    | some d => exact decFrom_app b l _
theorem digit_one {k : Nat} (h : k < 10) : digitVal (UInt8.ofNat (48 + k)) = some k := by
  have e : (UInt8.ofNat (48 + k)).toNat = 48 + k := by simp [UInt8.toNat_ofNat']; omega
  unfold digitVal
  rw [e, if_pos (by omega)]
  congr 1; omega
theorem decFrom_digits (u : Nat) : decFrom 0 (decDigits u) = some u := by
  induction u using Nat.strongRecOn with
  | _ u ih =>
    rw [decDigits]
    split
    · next h => simp only [decFrom, digit_one h]; congr 1; omega
    · next h =>
      rw [decFrom_app, ih (u / 10) (by omega), digit_one (by omega)]
      simp only [Option.bind_some, Option.map_some]; congr 1; omega
theorem digits_len : ∀ (k u : Nat), u < 10 ^ k → 1 ≤ k → (decDigits u).length ≤ k
  | 0, u, h, h1 => by omega
  | k + 1, u, h, _ => by
    rw [decDigits]
    split
    · simp
    · next h2 =>
      have h3 : u / 10 < 10 ^ k := by rw [Nat.div_lt_iff_lt_mul (by omega)]; rw [Nat.pow_succ] at h; omega
      have h4 : 1 ≤ k := by
        cases k with
        | zero => simp at h3; omega
        | succ k => omega
      have := digits_len k _ h3 h4
      simp; omega
theorem digits_ne (u : Nat) : decDigits u ≠ [] := by
  rw [decDigits]; split <;> simp
/-- Every byte of a numeral is a digit. -/
theorem digits_all (u : Nat) : ∀ c ∈ decDigits u, 48 ≤ c.toNat ∧ c.toNat ≤ 57 := by
  induction u using Nat.strongRecOn with
  | _ u ih =>
    have e : ∀ k, k < 10 → (UInt8.ofNat (48 + k)).toNat = 48 + k := fun k hk => by simp [UInt8.toNat_ofNat']; omega
    rw [decDigits]
    split
    · next h =>
      intro c hc
      have : c = UInt8.ofNat (48 + u) := by simpa using hc
      rw [this, e u h]; omega
    · next h =>
      intro c hc
      rw [List.mem_append] at hc
      rcases hc with hc | hc
      · exact ih (u / 10) (by omega) c hc
      · have : c = UInt8.ofNat (48 + u % 10) := by simpa using hc
        rw [this, e (u % 10) (by omega)]; omega
/-- The number from lo to hi that a text spells just so. -/
def dec (l : List UInt8) (lo hi : Int) : Option Int :=
  match atoiAll l with
  | .ok v => if itoa v = l ∧ lo ≤ v ∧ v ≤ hi then some v else none
  | _ => none
theorem atoi_itoa (v : Int) (h0 : 0 ≤ v) (h1 : v ≤ 1099511627776) : atoiAll (itoa v) = .ok v ∧ (itoa v).length ≤ 13 ∧ decFrom 0 (itoa v) = some v.toNat ∧ itoa v ≠ [] := by
  have e : itoa v = decDigits v.toNat := by unfold itoa; rw [if_neg (by omega)]
  have hl : (decDigits v.toNat).length ≤ 13 := digits_len 13 _ (by omega) (by omega)
  have hd := decFrom_digits v.toNat
  have hn := digits_ne v.toNat
  have ha := digits_all v.toNat
  rw [e]
  refine ⟨?_, hl, hd, hn⟩
  rw [atoiAll_short _ (by omega)]
  revert hd hn ha
  generalize decDigits v.toNat = l
  intro hd hn ha
  cases l with
  | nil => exact absurd rfl hn
  | cons c r =>
    have h3 := ha c (by simp)
    have h4 : (c == 45) = false := by
      have : c ≠ 45 := fun h => by rw [h] at h3; simp at h3
      simpa using this
    have h5 : (c == 43) = false := by
      have : c ≠ 43 := fun h => by rw [h] at h3; simp at h3
      simpa using this
    simp only [atoi, h4, h5, Bool.false_eq_true, if_false, decNat, List.isEmpty_cons, hd, Option.map_some, NumEnd.ofOption]
    congr 1; omega
theorem dec_some {l : List UInt8} {lo hi v : Int} (h0 : 0 ≤ lo) (h1 : hi ≤ 1099511627776) : dec l lo hi = some v ↔ lo ≤ v ∧ v ≤ hi ∧ itoa v = l := by
  unfold dec
  constructor
  · intro h
    cases ha : atoiAll l with
    | ok u =>
      rw [ha] at h
      by_cases hc : itoa u = l ∧ lo ≤ u ∧ u ≤ hi
      · simp only [if_pos hc, Option.some.injEq] at h
        subst h; exact ⟨hc.2.1, hc.2.2, hc.1⟩
      · simp only [if_neg hc] at h; cases h
    | «syntax» => rw [ha] at h; cases h
    | range => rw [ha] at h; cases h
  · rintro ⟨a, b, rfl⟩
    rw [(atoi_itoa v (by omega) (by omega)).1]
    simp [a, b]
def decT (l : List UInt8) (lo hi : Int) : Option Nat → Int
  | none => -1
  | some n => if (n : Int) < lo ∨ hi < n ∨ itoa n ≠ l then -1 else n
/-- What the document's decimal answers. -/
def decD (l : List UInt8) (lo hi : Int) : Int :=
  if l.length < 1 ∨ 18 < l.length then -1 else decT l lo hi (decFrom 0 l)
theorem decD_eq {l : List UInt8} {lo hi : Int} (h0 : 0 ≤ lo) (h1 : hi ≤ 1099511627776) : decD l lo hi = (dec l lo hi).getD (-1) := by
  cases hd : dec l lo hi with
  | some v =>
    have h := (dec_some h0 h1).1 hd
    obtain ⟨a, b, rfl⟩ := h
    have h2 := atoi_itoa v (by omega) (by omega)
    unfold decD
    have hne : 0 < (itoa v).length := List.length_pos_iff.mpr h2.2.2.2
    have e : ((v.toNat : Nat) : Int) = v := by omega
    rw [if_neg (by omega), h2.2.2.1]
    simp only [decT, e]
    rw [if_neg (by simp; omega)]
    rfl
  | none =>
    simp only [Option.getD_none]
    unfold decD
    split
    · rfl
    · next hl =>
      cases hf : decFrom 0 l with
      | none => rfl
      | some n =>
        simp only [decT]
        split
        · rfl
        · next hc =>
          exfalso
          have hc : lo ≤ (n : Int) ∧ (n : Int) ≤ hi ∧ itoa n = l := by
            refine ⟨by omega, by omega, ?_⟩
            exact Classical.byContradiction fun h => hc (Or.inr (Or.inr h))
          rw [(dec_some h0 h1).2 hc] at hd
          cases hd
def pairO : Option Int → Option Int → Option (Int × Int)
  | some n, some j => some (n, j)
  | _, _ => none
/-- A run's number and table. -/
def numTab (t : List UInt8) : Option (Int × Int) := pairO (dec (cut t [46]).1 1 1099511627776) (dec (cut t [46]).2.1 0 127)
def nmManifest : List UInt8 := [109, 97, 110, 105, 102, 101, 115, 116]
def nmNew : List UInt8 := [109, 97, 110, 105, 102, 101, 115, 116, 46, 110, 101, 119]
/-- What a file's name says. -/
def kindT (s : List UInt8) : Int × Int × Int :=
  if s = nmManifest then (1, 0, 0) else
  if s = nmNew then (2, 0, 0) else
  match (if s.head? = some 106 then dec s.tail 1 1099511627776 else none) with
  | some n => (3, n, 0)
  | none =>
    match (if s.head? = some 114 then numTab s.tail else none) with
    | some (n, j) => (4, n, j)
    | none => (0, 0, 0)
theorem index_no : ∀ t : List UInt8, (∀ c ∈ t, c ≠ 46) → index t [46] = -1
  | [], _ => rfl
  | c :: t, h => by
    have h1 : c ≠ 46 := h c (by simp)
    have h2 := index_no t (fun d hd => h d (by simp [hd]))
    simp only [index, h2]
    have : List.isPrefixOf [46] (c :: t) = false := by
      simp only [List.isPrefixOf, Bool.and_true]
      simpa using fun h => h1 h.symm
    rw [this]; rfl
theorem index_at : ∀ (i : Nat) (t : List UInt8), t[i]? = some 46 → (∀ k, k < i → t[k]? ≠ some 46) → index t [46] = i
  | _, [], h, _ => by simp at h
  | 0, c :: t, h, _ => by
    have : c = 46 := by simpa using h
    subst this
    simp [index, List.isPrefixOf]
  | i + 1, c :: t, h, hk => by
    have h1 : c ≠ 46 := fun e => hk 0 (by omega) (by simp [e])
    have h2 := index_at i t (by simpa using h) (fun k hkk => by have := hk (k + 1) (by omega); simpa using this)
    have : List.isPrefixOf [46] (c :: t) = false := by
      simp only [List.isPrefixOf, Bool.and_true]
      simpa using fun h => h1 h.symm
    simp only [index, this, h2, Bool.false_eq_true, if_false]
    rw [if_neg (by simp)]
    first | done | omega
theorem cut_no (t : List UInt8) (h : ∀ c ∈ t, c ≠ 46) : cut t [46] = (t, [], false) := by
  unfold cut; rw [index_no t h]; rfl
theorem cut_at (i : Nat) (t : List UInt8) (h : t[i]? = some 46) (hk : ∀ k, k < i → t[k]? ≠ some 46) : cut t [46] = (t.take i, t.drop (i + 1), true) := by
  unfold cut; rw [index_at i t h hk, if_pos (by omega)]; simp
theorem dec_nil (lo hi : Int) : dec [] lo hi = none := rfl
theorem numTab_no (t : List UInt8) (h : ∀ c ∈ t, c ≠ 46) : numTab t = none := by
  unfold numTab; rw [cut_no t h]; simp only [dec_nil]; cases dec t 1 1099511627776 <;> rfl
end Go.Proofs.YtibjneoiombbfaaDoor
