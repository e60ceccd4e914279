/-
  DERIVED. sign: the document's own Code, for every signer and vector.
-/
import Derived.Test.YtmdmjjobhkpojaaQCodeM
set_option linter.unusedVariables false
set_option linter.unusedSimpArgs false
namespace Go.Proofs.Ytmdmjjobhkpojaa
open Go.RowKit Go.Shelf Go.Proofs.BitMath Go.Proofs.FloatMath
/-- The bytes behind j sums, each bit in its own place. -/
def lyN (S : List Zp) (j i : Nat) : Nat := pbN S i (min 4 (j - 4 * i)) * 4 ^ (4 - min 4 (j - 4 * i))
theorem lyN_lt (S : List Zp) (j i : Nat) : lyN S j i < 256 := by
  have h1 := pbN_lt S i (min 4 (j - 4 * i))
  unfold lyN
  have h2 : pbN S i (min 4 (j - 4 * i)) * 4 ^ (4 - min 4 (j - 4 * i)) < 4 ^ (min 4 (j - 4 * i)) * 4 ^ (4 - min 4 (j - 4 * i)) := Nat.mul_lt_mul_of_pos_right h1 (Nat.pow_pos (by decide))
  rw [← Nat.pow_add, show min 4 (j - 4 * i) + (4 - min 4 (j - 4 * i)) = 4 by omega] at h2
  exact h2
theorem lyN_other (S : List Zp) (j i : Nat) (h : i ≠ j / 4) : lyN S (j + 1) i = lyN S j i := by
  unfold lyN
  rw [show min 4 (j + 1 - 4 * i) = min 4 (j - 4 * i) by omega]
theorem lyN_step (S : List Zp) (j t : Nat) (ht : j % 4 = t) : lyN S j (j / 4) = pbN S (j / 4) t * 4 ^ (4 - t) ∧ lyN S (j + 1) (j / 4) = (pbN S (j / 4) t * 4 + sgN (S.getD j (0, 0))) * 4 ^ (3 - t) := by
  constructor
  · unfold lyN; rw [show min 4 (j - 4 * (j / 4)) = t by omega]
  · unfold lyN; rw [show min 4 (j + 1 - 4 * (j / 4)) = t + 1 by omega]
    simp only [pbN]
    rw [show 4 * (j / 4) + t = j by omega, show 4 - (t + 1) = 3 - t by omega]
def lyT (S : List Zp) (n j : Nat) : List UInt8 := (List.range n).map fun i => UInt8.ofNat (lyN S j i)
theorem lyT_len (S : List Zp) (n j : Nat) : (lyT S n j).length = n := by simp [lyT]
theorem lyT_zero (S : List Zp) (n : Nat) : lyT S n 0 = List.replicate n 0 := by
  apply List.ext_getElem
  · simp [lyT]
  · intro i h1 h2
    simp [lyT, lyN, pbN]
theorem lyT_end (S : List Zp) (n : Nat) : lyT S n (4 * n) = codeL S n := by
  unfold lyT codeL byT
  refine List.map_congr_left fun i hi => ?_
  have hi' : i < n := List.mem_range.1 hi
  unfold lyN byN
  rw [show min 4 (4 * n - 4 * i) = 4 by omega]; simp
theorem lyT_at (S : List Zp) (n j i : Nat) (h : i < n) : ((lyT S n j).map BV)[i]? = some (.int .u8 (lyN S j i : Nat)) := by
  have hb := lyN_lt S j i
  rw [List.getElem?_map, lyT, List.getElem?_map, List.getElem?_eq_getElem (by simpa using h)]
  simp [BV, Nat.mod_eq_of_lt hb]
theorem lyT_step (S : List Zp) (n j : Nat) (h : j / 4 < n) : ((lyT S n j).map BV).set (j / 4) (.int .u8 (lyN S (j + 1) (j / 4) : Nat)) = (lyT S n (j + 1)).map BV := by
  apply List.ext_getElem?
  intro i
  rcases Nat.lt_or_ge i n with hi | hi
  · rw [lyT_at S n (j + 1) i hi]
    by_cases e : i = j / 4
    · subst e
      rw [List.getElem?_set_self (by simp [lyT_len]; exact h)]
    · rw [List.getElem?_set_ne (by omega), lyT_at S n j i hi, lyN_other S j i e]
  · rw [List.getElem?_eq_none (by simp [lyT_len]; exact hi), List.getElem?_eq_none (by simp [lyT_len]; exact hi)]
set_option maxRecDepth 20000 in
theorem or1 (x : Nat) (hx : x < 256) (hd : x % 2 = 0) : bits BinOp.or IntKind.u8 (x : Int) 1 = ((x + 1 : Nat) : Int) := by
  have key : ∀ a : Fin 128, bits BinOp.or IntKind.u8 ((2 * a.1 : Nat) : Int) 1 = ((2 * a.1 + 1 : Nat) : Int) := by decide
  have e : 2 * (x / 2) = x := by omega
  have := key ⟨x / 2, by omega⟩
  simp only [e] at this
  exact this
set_option maxRecDepth 20000 in
theorem or2 (x : Nat) (hx : x < 256) (hd : x % 4 = 0) : bits BinOp.or IntKind.u8 (x : Int) 2 = ((x + 2 : Nat) : Int) := by
  have key : ∀ a : Fin 64, bits BinOp.or IntKind.u8 ((4 * a.1 : Nat) : Int) 2 = ((4 * a.1 + 2 : Nat) : Int) := by decide
  have e : 4 * (x / 4) = x := by omega
  have := key ⟨x / 4, by omega⟩
  simp only [e] at this
  exact this
set_option maxRecDepth 20000 in
theorem or4 (x : Nat) (hx : x < 256) (hd : x % 8 = 0) : bits BinOp.or IntKind.u8 (x : Int) 4 = ((x + 4 : Nat) : Int) := by
  have key : ∀ a : Fin 32, bits BinOp.or IntKind.u8 ((8 * a.1 : Nat) : Int) 4 = ((8 * a.1 + 4 : Nat) : Int) := by decide
  have e : 8 * (x / 8) = x := by omega
  have := key ⟨x / 8, by omega⟩
  simp only [e] at this
  exact this
set_option maxRecDepth 20000 in
theorem or8 (x : Nat) (hx : x < 256) (hd : x % 16 = 0) : bits BinOp.or IntKind.u8 (x : Int) 8 = ((x + 8 : Nat) : Int) := by
  have key : ∀ a : Fin 16, bits BinOp.or IntKind.u8 ((16 * a.1 : Nat) : Int) 8 = ((16 * a.1 + 8 : Nat) : Int) := by decide
  have e : 16 * (x / 16) = x := by omega
  have := key ⟨x / 16, by omega⟩
  simp only [e] at this
  exact this
set_option maxRecDepth 20000 in
theorem or16 (x : Nat) (hx : x < 256) (hd : x % 32 = 0) : bits BinOp.or IntKind.u8 (x : Int) 16 = ((x + 16 : Nat) : Int) := by
  have key : ∀ a : Fin 8, bits BinOp.or IntKind.u8 ((32 * a.1 : Nat) : Int) 16 = ((32 * a.1 + 16 : Nat) : Int) := by decide
  have e : 32 * (x / 32) = x := by omega
  have := key ⟨x / 32, by omega⟩
  simp only [e] at this
  exact this
set_option maxRecDepth 20000 in
theorem or32 (x : Nat) (hx : x < 256) (hd : x % 64 = 0) : bits BinOp.or IntKind.u8 (x : Int) 32 = ((x + 32 : Nat) : Int) := by
  have key : ∀ a : Fin 4, bits BinOp.or IntKind.u8 ((64 * a.1 : Nat) : Int) 32 = ((64 * a.1 + 32 : Nat) : Int) := by decide
  have e : 64 * (x / 64) = x := by omega
  have := key ⟨x / 64, by omega⟩
  simp only [e] at this
  exact this
set_option maxRecDepth 20000 in
theorem or64 (x : Nat) (hx : x < 256) (hd : x % 128 = 0) : bits BinOp.or IntKind.u8 (x : Int) 64 = ((x + 64 : Nat) : Int) := by
  have key : ∀ a : Fin 2, bits BinOp.or IntKind.u8 ((128 * a.1 : Nat) : Int) 64 = ((128 * a.1 + 64 : Nat) : Int) := by decide
  have e : 128 * (x / 128) = x := by omega
  have := key ⟨x / 128, by omega⟩
  simp only [e] at this
  exact this
set_option maxRecDepth 20000 in
theorem or128 (x : Nat) (hx : x < 256) (hd : x % 256 = 0) : bits BinOp.or IntKind.u8 (x : Int) 128 = ((x + 128 : Nat) : Int) := by
  have key : ∀ a : Fin 1, bits BinOp.or IntKind.u8 ((256 * a.1 : Nat) : Int) 128 = ((256 * a.1 + 128 : Nat) : Int) := by decide
  have e : 256 * (x / 256) = x := by omega
  have := key ⟨x / 256, by omega⟩
  simp only [e] at this
  exact this
end Go.Proofs.Ytmdmjjobhkpojaa
