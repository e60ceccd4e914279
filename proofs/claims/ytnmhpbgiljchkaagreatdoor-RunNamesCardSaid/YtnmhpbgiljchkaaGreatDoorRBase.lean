/-
  DERIVED. A run's tables: its options, its chunks, numbers in digits.
-/
import Derived.Test.YtnmhpbgiljchkaaGreatDoorURow
import Derived.Test.YtnmhpbgiljchkaaGreatDoorChunks
import Derived.Test.YtnmhpbgiljchkaaGreatDoorShelf
import Derived.Lib.ItoaLen
import Derived.Lib.AppendIntMem
set_option linter.unusedVariables false
set_option linter.unusedSimpArgs false
namespace Go.Proofs.YtnmhpbgiljchkaaGreatDoor
open Go.RowKit Go.Proofs.BitMath
abbrev Pow (w : World) : Prop := Lib.TabIs Tryz.prog w "internal/strconv.uint64pow10" .u64 Lib.pow10Tab
/-- Decimal digits. -/
def dg (n : Int) : ByteArray := ⟨(Lib.itoa n).toArray⟩
theorem dg_sz (n : Int) (h0 : 0 ≤ n) (h1 : n ≤ 1099511627776) : (dg n).size ≤ 21 := by
  have := Lib.itoa_length_le n (by omega) (by omega)
  show (Lib.itoa n).toArray.size ≤ 21
  simp
  omega
theorem itoa_any (n : Int) (w : World) (h0 : 0 ≤ n) (h1 : n ≤ 1099511627776) (ht : Pow w) :
    Calls Tryz.prog 17 #[.int .i64 n] w fun e w' => e = .returned (.string (dg n)) ∧ Below w.heap.size w w' := by
  refine (Tryz.strconv_Itoa n (by omega) (by omega) w ht).mono ?_
  rintro e w' ⟨rfl, k, os, rfl⟩
  exact ⟨rfl, Lib.below_grow _ _ (Nat.le_refl _) _ _⟩
def isN (n : Int) : Bool := decide (1 ≤ n ∧ n ≤ 1099511627776)
/-- The name of a table's file. -/
def nmR (n : Int) (j : Nat) : ByteArray := ((⟨#[114]⟩ ++ dg n) ++ ⟨#[46]⟩) ++ dg j
abbrev EC : El (Int × Int) := ⟨38, 53, 2, 16, .agg #[.int .i64 0, .int .i64 0], fun x => [.int .i64 x.1, .int .i64 x.2]⟩
theorem okC : EC.Ok Tryz.prog := ⟨fun _ => rfl, fun x u hu => by
  simp at hu
  rcases hu with rfl | rfl <;> rfl, by decide, rfl, by decide, by kernel_rfl, Tryz.underlying53⟩
abbrev ES : El ByteArray := ⟨9, 22, 1, 16, .string ⟨#[]⟩, fun s => [.string s]⟩
theorem okS : ES.Ok Tryz.prog := ⟨fun _ => rfl, fun x u hu => by
  simp at hu
  subst hu; rfl, by decide, rfl, by decide, by kernel_rfl, Tryz.underlying22⟩
/-- A table. -/
structure Tb where
  nm : ByteArray
  j : Int
  fr : Int
  bt : Int
  b1 : Int
abbrev zTb : Tb := ⟨⟨#[]⟩, 0, 0, 0, 0⟩
abbrev ET : El Tb := ⟨40, 34, 5, 48, .agg #[.string ⟨#[]⟩, .int .i64 0, .int .i64 0, .int .i64 0, .int .i64 0], fun t => [.string t.nm, .int .i64 t.j, .int .i64 t.fr, .int .i64 t.bt, .int .i64 t.b1]⟩
theorem okT : ET.Ok Tryz.prog := ⟨fun _ => rfl, fun x u hu => by
  simp at hu
  rcases hu with rfl | rfl | rfl | rfl | rfl <;> rfl, by decide, rfl, by decide, by kernel_rfl, Tryz.underlying34⟩
def chL (x m : Nat) : List (Int × Int) := (List.range m).map (fun j => ((frC x m j : Int), (btC x m j : Int)))
def chA (x m : Int) : List (Int × Int) := if cc x m = 0 then chL x.toNat m.toNat else []
theorem cc_nat {x m : Int} (h : cc x m = 0) : ∃ X M : Nat, x = X ∧ m = M ∧ OkC X M := by
  unfold cc at h
  split at h
  · next hw =>
    split at h
    · next hm =>
      have hb := isW_bd hw
      have h64 : x % 64 = 0 := by simp [isW] at hw; omega
      refine ⟨x.toNat, m.toNat, by omega, by omega, by omega, by omega, by omega, by omega, by omega⟩
    · cases h
  · cases h
theorem cc_of {X M : Nat} (h : OkC X M) : cc X M = 0 := by
  obtain ⟨h1, h2, h3, h4, h5⟩ := h
  have hw : isW (X : Int) = true := by simp [isW]; omega
  unfold cc
  rw [if_pos hw, if_pos (by omega)]
theorem chA_yes {X M : Nat} (h : OkC X M) : chA X M = chL X M := by unfold chA; rw [if_pos (cc_of h)]; simp
theorem chA_len (x m : Int) : (chA x m).length ≤ 128 := by
  unfold chA
  split
  · next h =>
    obtain ⟨X, M, rfl, rfl, ok⟩ := cc_nat h
    have := ok.le
    simp [chL]; omega
  · simp
theorem hasCh_flat {x m : Nat} {cs : List Value} (h : HasCh x m cs (List.range m)) : cs = (chL x m).flatMap EC.f := by
  have hl : ((chL x m).flatMap EC.f).length = m * 2 := by rw [okC.len]; simp [chL]
  apply List.ext_getElem?
  intro i
  rcases Nat.lt_or_ge i (m * 2) with hi | hi
  · obtain ⟨k, hk⟩ : ∃ k, i = k * 2 + 0 ∨ i = k * 2 + 1 := ⟨i / 2, by omega⟩
    have hj : k < m := by omega
    have h1 := h.2 k (List.mem_range.2 hj)
    have hlen : k < (chL x m).length := by simp [chL]; omega
    have e : (chL x m)[k] = ((frC x m k : Int), (btC x m k : Int)) := by simp [chL]
    rcases hk with rfl | rfl
    · rw [flat_at EC.f 2 (fun _ => rfl) (chL x m) k 0 hlen (by decide), e, show k * 2 + 0 = 2 * k by omega, h1.1]; rfl
    · rw [flat_at EC.f 2 (fun _ => rfl) (chL x m) k 1 hlen (by decide), e, show k * 2 + 1 = 2 * k + 1 by omega, h1.2]; rfl
  · rw [List.getElem?_eq_none (by rw [h.1]; omega), List.getElem?_eq_none (by omega)]
set_option maxRecDepth 100000 in
theorem chunks_all (x m : Int) (w : World) : Calls Tryz.prog 34 #[.int .i64 x, .int .i64 m] w fun e w' => ∃ v, e = .returned (.tuple #[v, .int .i64 (cc x m)]) ∧ EC.Row w' v (chA x m) ∧ (∀ k, v.ownBlock = some k → w.heap.size ≤ k) ∧ Below w.heap.size w w' := by
  by_cases h : cc x m = 0
  · obtain ⟨X, M, rfl, rfl, ok⟩ := cc_nat h
    refine (chunks_yes X M w ok).mono ?_
    rintro e w' ⟨⟨g, cs, hg, hr, hh, rfl⟩, b⟩
    refine ⟨_, by rw [h], ?_, fun k hk => by cases hk; exact hg, b⟩
    rw [chA_yes ok]
    have hl : (chL X M).length = M := by simp [chL]
    have hle := ok.le
    refine ⟨by rw [okC.len], .inr ⟨g, M, cs.toArray, by rw [hl], Nat.zero_le _, hr, by rw [hl]; exact Nat.le_refl _, by unfold maxLen; omega, by simp [hh.1]; omega, ?_⟩⟩
    rw [hasCh_flat hh, hl, List.take_of_length_le]
    rw [okC.len, hl]; exact Nat.le_refl _
  · have hc := checkChunks_any x m w
    have hA : chA x m = [] := by unfold chA; rw [if_neg h]
    obtain ⟨y, hy⟩ : ∃ y, y = cc x m := ⟨_, rfl⟩
    rw [← hy] at hc h ⊢
    rw [hA]
    have h2 : (y != 0) = true := by simpa using h
    clear hA hy
    go_enter Tryz.func34, Tryz.ntmps34
    go_wp2_with (go_at_call 64; refine hc.mono ?_; clear hc; rintro e w' ⟨rfl, rfl⟩)
    go_ret2
    exact ⟨_, rfl, El.Row.nil _ _, fun k hk => (by cases hk), Below.refl _ _⟩
/-- What options answer. -/
def goE (W C M : Int) : Int := if isW W = true then (if M = 1 then cc W C else if M = 2 then (if C = 0 then 0 else 12) else 81) else 10
def goL (W C M : Int) : List (Int × Int) := if goE W C M = 0 then (if M = 1 then chA W C else [(0, 0)]) else []
theorem goL_len (W C M : Int) : (goL W C M).length ≤ 128 := by
  unfold goL
  split
  · split
    · exact chA_len W C
    · simp
  · simp
theorem goL_bits (W C M : Int) : ∀ c ∈ goL W C M, 0 ≤ c.2 ∧ c.2 ≤ 32 := by
  unfold goL
  split
  · split
    · intro c hc
      unfold chA at hc
      split at hc
      · next h =>
        obtain ⟨X, K, rfl, rfl, ok⟩ := cc_nat h
        simp only [Int.toNat_natCast, chL, List.mem_map] at hc
        obtain ⟨j, -, rfl⟩ := hc
        have := btC_bd ok j
        simp only
        omega
      · cases hc
    · intro c hc
      simp at hc
      subst hc
      decide
  · intro c hc; cases hc
end Go.Proofs.YtnmhpbgiljchkaaGreatDoor
