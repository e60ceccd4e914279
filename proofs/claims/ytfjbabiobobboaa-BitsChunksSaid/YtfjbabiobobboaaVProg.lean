/-
  DERIVED. Chunks, Split, Join of the program, of all numbers.
-/
import Derived.Test.YtfjbabiobobboaaVInt
import Derived.Test.YtfjbabiobobboaaJoin
set_option linter.unusedVariables false
set_option linter.unusedSimpArgs false
namespace Go.Proofs.Ytfjbabiobobboaa
open Go.RowKit Go.Proofs.BitMath
def chL (x m : Nat) : List (Int × Int) := (List.range m).map (fun j => ((frC x m j : Int), (btC x m j : Int)))
def spL (l : List UInt8) (x m : Nat) : List Int := (List.range m).map (fun j => (valC l x m j : Int))
def chA (x m : Int) : List (Int × Int) := if cc x m = 0 then chL x.toNat m.toNat else []
/-- What Split answers. -/
def spE (x m : Int) (n : Nat) : Int := if cc x m = 0 then chk x n else cc x m
def spA (l : List UInt8) (x m : Int) : List Int := if spE x m l.length = 0 then spL l x.toNat m.toNat else []
theorem cc_nat {x m : Int} (h : cc x m = 0) : ∃ X M : Nat, x = X ∧ m = M ∧ OkC X M := by
  unfold cc at h
  split at h
  · next hw =>
    split at h
    · next hm =>
      have hb := isW_bd hw
      have h64 : x % 64 = 0 := by simp [isW] at hw; omega
      refine ⟨x.toNat, m.toNat, by omega, by omega, by omega, by omega, by omega, by omega, by omega⟩
    · cases h
  · cases h
theorem cc_of {X M : Nat} (h : OkC X M) : cc X M = 0 := by
  obtain ⟨h1, h2, h3, h4, h5⟩ := h
  have hw : isW (X : Int) = true := by simp [isW]; omega
  unfold cc
  rw [if_pos hw, if_pos (by omega)]
theorem chA_yes {X M : Nat} (h : OkC X M) : chA X M = chL X M := by unfold chA; rw [if_pos (cc_of h)]; simp
theorem chA_len (x m : Int) : (chA x m).length ≤ 128 := by
  unfold chA
  split
  · next h =>
    obtain ⟨X, M, rfl, rfl, ok⟩ := cc_nat h
    have := ok.le
    simp [chL]; omega
  · simp
theorem spA_len (l : List UInt8) (x m : Int) : (spA l x m).length ≤ 128 := by
  unfold spA
  split
  · next h =>
    unfold spE at h
    split at h
    · next h' =>
      obtain ⟨X, M, rfl, rfl, ok⟩ := cc_nat h'
      have := ok.le
      simp [spL]; omega
    · next h' => exact absurd h h'
  · simp
theorem hasCh_flat {x m : Nat} {cs : List Value} (h : HasCh x m cs (List.range m)) : cs = (chL x m).flatMap EC.f := by
  have hl : ((chL x m).flatMap EC.f).length = m * 2 := by rw [okC.len]; simp [chL]
  apply List.ext_getElem?
  intro i
  rcases Nat.lt_or_ge i (m * 2) with hi | hi
  · obtain ⟨k, hk⟩ : ∃ k, i = k * 2 + 0 ∨ i = k * 2 + 1 := ⟨i / 2, by omega⟩
    have hj : k < m := by omega
    have h1 := h.2 k (List.mem_range.2 hj)
    have hlen : k < (chL x m).length := by simp [chL]; omega
    have e : (chL x m)[k] = ((frC x m k : Int), (btC x m k : Int)) := by simp [chL]
    rcases hk with rfl | rfl
    · rw [flat_at EC.f 2 (fun _ => rfl) (chL x m) k 0 hlen (by decide), e, show k * 2 + 0 = 2 * k by omega, h1.1]; rfl
    · rw [flat_at EC.f 2 (fun _ => rfl) (chL x m) k 1 hlen (by decide), e, show k * 2 + 1 = 2 * k + 1 by omega, h1.2]; rfl
  · rw [List.getElem?_eq_none (by rw [h.1]; omega), List.getElem?_eq_none (by omega)]
theorem hasV_flat {l : List UInt8} {x m : Nat} {cs : List Value} (h : HasV l x m cs (List.range m)) : cs = (spL l x m).flatMap EI.f := by
  have hl : ((spL l x m).flatMap EI.f).length = m * 1 := by rw [okI.len]; simp [spL]
  apply List.ext_getElem?
  intro i
  rcases Nat.lt_or_ge i m with hi | hi
  · have h1 := h.2 i (List.mem_range.2 hi)
    have hlen : i < (spL l x m).length := by simp [spL]; omega
    have h2 := flat_at EI.f 1 (fun _ => rfl) (spL l x m) i 0 hlen (by decide)
    rw [show i * 1 + 0 = i by omega] at h2
    rw [h2, h1]
    simp [spL]
  · rw [List.getElem?_eq_none (by rw [h.1]; omega), List.getElem?_eq_none (by omega)]
set_option maxRecDepth 100000 in
theorem chunks_all (x m : Int) (w : World) : Calls Try.prog 8 #[.int .i64 x, .int .i64 m] w fun e w' => ∃ v, e = .returned (.tuple #[v, .int .i64 (cc x m)]) ∧ EC.Row w' v (chA x m) ∧ (∀ k, v.ownBlock = some k → w.heap.size ≤ k) ∧ Below w.heap.size w w' := by
  by_cases h : cc x m = 0
  · obtain ⟨X, M, rfl, rfl, ok⟩ := cc_nat h
    refine (chunks_yes X M w ok).mono ?_
    rintro e w' ⟨⟨g, cs, hg, hr, hh, rfl⟩, b⟩
    refine ⟨_, by rw [h], ?_, fun k hk => by cases hk; exact hg, b⟩
    rw [chA_yes ok]
    have hl : (chL X M).length = M := by simp [chL]
    have hle := ok.le
    refine ⟨by rw [okC.len], .inr ⟨g, M, cs.toArray, by rw [hl], Nat.zero_le _, hr, by rw [hl]; exact Nat.le_refl _, by unfold maxLen; omega, by simp [hh.1]; omega, ?_⟩⟩
    rw [hasCh_flat hh, hl, List.take_of_length_le]
    rw [okC.len, hl]; exact Nat.le_refl _
  · have hc := checkChunks_any x m w
    have hA : chA x m = [] := by unfold chA; rw [if_neg h]
    obtain ⟨y, hy⟩ : ∃ y, y = cc x m := ⟨_, rfl⟩
    rw [← hy] at hc h ⊢
    rw [hA]
    have h2 : (y != 0) = true := by simpa using h
    clear hA hy
    go_enter Try.func8, Try.ntmps8
    go_wp2_with (go_at_call 18; refine hc.mono ?_; clear hc; rintro e w' ⟨rfl, rfl⟩)
    go_ret2
    exact ⟨_, rfl, El.Row.nil _ _, fun k hk => (by cases hk), Below.refl _ _⟩
set_option maxRecDepth 100000 in
theorem split_all (x m : Int) (s : ByteArray) (w : World) : Calls Try.prog 12 #[.int .i64 x, .int .i64 m, .string s] w fun e w' => ∃ v, e = .returned (.tuple #[v, .int .i64 (spE x m s.size)]) ∧ EI.Row w' v (spA s.data.toList x m) ∧ (∀ k, v.ownBlock = some k → w.heap.size ≤ k) ∧ Below w.heap.size w w' := by
  have hsz : s.data.toList.length = s.size := by simp
  by_cases h : cc x m = 0
  · by_cases h2 : chk x s.size = 0
    · obtain ⟨X, M, rfl, rfl, ok⟩ := cc_nat h
      have h8 : s.size = X / 8 := by
        unfold chk at h2
        split at h2
        · split at h2
          · omega
          · cases h2
        · cases h2
      have hE : spE X M s.size = 0 := by unfold spE; rw [if_pos h]; exact h2
      refine (split_yes X M s w ok h8).mono ?_
      rintro e w' ⟨⟨g, cs, hg, hr, hh, rfl⟩, b⟩
      refine ⟨_, by rw [hE], ?_, fun k hk => by cases hk; exact hg, b⟩
      have e1 : spA s.data.toList X M = spL s.data.toList X M := by unfold spA; rw [hsz, if_pos hE]; simp
      rw [e1]
      have hl : (spL s.data.toList X M).length = M := by simp [spL]
      have hle := ok.le
      refine ⟨by rw [okI.len], .inr ⟨g, M, cs.toArray, by rw [hl], Nat.zero_le _, hr, by rw [hl]; exact Nat.le_refl _, by unfold maxLen; omega, by simp [hh.1], ?_⟩⟩
      rw [hasV_flat hh, hl, List.take_of_length_le]
      rw [okI.len, hl]; exact Nat.le_refl _
    · have hc := fun W => checkChunks_any x m W
      have hk := fun W => check_any x s W
      have hA : spA s.data.toList x m = [] := by unfold spA spE; rw [hsz, if_pos h, if_neg h2]
      have hE : spE x m s.size = chk x s.size := by unfold spE; rw [if_pos h]
      rw [hE, hA]
      rw [h] at hc
      obtain ⟨y, hy⟩ : ∃ y, y = chk x s.size := ⟨_, rfl⟩
      rw [← hy] at hk h2 ⊢
      have h3 : (y != 0) = true := by simpa using h2
      clear hA hE hy h hsz
      go_enter Try.func12, Try.ntmps12
      go_wp2_with first
        | (go_at_call 18; refine (hc _).mono ?_; clear hc; rintro e w' ⟨rfl, rfl⟩)
        | (go_at_call 21; refine (hk _).mono ?_; clear hk; rintro e w' ⟨rfl, rfl⟩)
      refine bodyPost_ret (v := .tuple #[.slice none 0 0, .int .i64 y]) (by simp [results, Try.results12, go_sem]) rfl ⟨_, rfl, El.Row.nil _ _, fun k hk => (by cases hk), ?_⟩
      first
        | exact (((Below.refl _ _).alloc (Nat.le_refl _) _).alloc (by simp) _).alloc (by simp; omega) _
        | exact ((Below.refl _ _).alloc (Nat.le_refl _) _).alloc (by simp) _
        | exact (Below.refl _ _).alloc (Nat.le_refl _) _
        | exact ((((((Below.refl _ _).alloc (Nat.le_refl _) _).alloc (by simp) _).alloc (by simp; omega) _).alloc (by simp; omega) _).alloc (by simp; omega) _)
  · have hc := fun W => checkChunks_any x m W
    have hE : spE x m s.size = cc x m := by unfold spE; rw [if_neg h]
    have hA : spA s.data.toList x m = [] := by unfold spA; rw [hsz, hE, if_neg h]
    rw [hE, hA]
    obtain ⟨y, hy⟩ : ∃ y, y = cc x m := ⟨_, rfl⟩
    rw [← hy] at hc h ⊢
    have h3 : (y != 0) = true := by simpa using h
    clear hA hE hy hsz
    go_enter Try.func12, Try.ntmps12
    go_wp2_with (go_at_call 18; refine (hc _).mono ?_; clear hc; rintro e w' ⟨rfl, rfl⟩)
    refine bodyPost_ret (v := .tuple #[.slice none 0 0, .int .i64 y]) (by simp [results, Try.results12, go_sem]) rfl ⟨_, rfl, El.Row.nil _ _, fun k hk => (by cases hk), ?_⟩
    first
        | exact (((Below.refl _ _).alloc (Nat.le_refl _) _).alloc (by simp) _).alloc (by simp; omega) _
        | exact ((Below.refl _ _).alloc (Nat.le_refl _) _).alloc (by simp) _
        | exact (Below.refl _ _).alloc (Nat.le_refl _) _
        | exact ((((((Below.refl _ _).alloc (Nat.le_refl _) _).alloc (by simp) _).alloc (by simp; omega) _).alloc (by simp; omega) _).alloc (by simp; omega) _)
end Go.Proofs.Ytfjbabiobobboaa
