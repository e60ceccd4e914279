/-
  DERIVED. Plain mathematics for the laws of package bits: bits of bytes, weights, texts put upon one another. No program, no world.
-/
namespace Go.Proofs.BitMath
/-- Bit i of a number, from the lowest on. -/
def bt (n i : Nat) : Nat := (n / 2 ^ i) % 2
/-- How many bits of a byte are one. -/
def popB (n : Nat) : Nat := bt n 7 + bt n 6 + bt n 5 + bt n 4 + bt n 3 + bt n 2 + bt n 1 + bt n 0
theorem bt_le (n i : Nat) : bt n i ≤ 1 := by unfold bt; omega
theorem popB_le (n : Nat) : popB n ≤ 8 := by
  unfold popB
  have := bt_le n 7; have := bt_le n 6; have := bt_le n 5; have := bt_le n 4
  have := bt_le n 3; have := bt_le n 2; have := bt_le n 1; have := bt_le n 0
  omega
theorem bt_testBit (n i : Nat) : bt n i = (n.testBit i).toNat := by
  unfold bt; rw [Nat.testBit_eq_decide_div_mod_eq]
  have : n / 2 ^ i % 2 = 0 ∨ n / 2 ^ i % 2 = 1 := by omega
  rcases this with h | h <;> simp [h]
theorem bt_xor (a b i : Nat) : bt (a ^^^ b) i = (bt a i + bt b i) % 2 := by
  rw [bt_testBit, bt_testBit, bt_testBit, Nat.testBit_xor]
  cases a.testBit i <;> cases b.testBit i <;> rfl
theorem popB_zero : popB 0 = 0 := by decide
theorem popB_xor_tri (a b c : Nat) : popB (a ^^^ b) ≤ popB (a ^^^ c) + popB (c ^^^ b) := by
  have key : ∀ i, bt (a ^^^ b) i ≤ bt (a ^^^ c) i + bt (c ^^^ b) i := by
    intro i; rw [bt_xor, bt_xor, bt_xor]; have := bt_le a i; have := bt_le b i; have := bt_le c i; omega
  unfold popB
  have := key 7; have := key 6; have := key 5; have := key 4; have := key 3; have := key 2; have := key 1; have := key 0
  omega
theorem popB_eq_zero (n : Nat) (h : n < 256) (hp : popB n = 0) : n = 0 := by
  have : ∀ j : Fin 256, popB j.1 = 0 → j.1 = 0 := by decide +kernel
  exact this ⟨n, h⟩ hp

/-- The weight of a list of bytes. -/
def wt : List UInt8 → Nat
  | [] => 0
  | c :: r => popB c.toNat + wt r
theorem wt_append (a b : List UInt8) : wt (a ++ b) = wt a + wt b := by
  induction a with
  | nil => simp [wt]
  | cons c r ih => simp [wt, ih]; omega
theorem wt_le (l : List UInt8) : wt l ≤ 8 * l.length := by
  induction l with
  | nil => simp [wt]
  | cons c r ih => have := popB_le c.toNat; simp [wt]; omega
theorem wt_take_le (l : List UInt8) (k : Nat) (hk : k ≤ l.length) : wt (l.take k) ≤ 8 * k := by
  have := wt_le (l.take k); rw [List.length_take] at this; omega
theorem wt_take_succ (l : List UInt8) (k : Nat) (h : k < l.length) : wt (l.take (k + 1)) = wt (l.take k) + popB (l[k]).toNat := by
  rw [List.take_succ_eq_append_getElem h, wt_append]; simp [wt]

/-- Two lists of bytes, put upon one another. -/
def xorL (a b : List UInt8) : List UInt8 := List.zipWith (fun x y => x ^^^ y) a b
theorem xorL_length (a b : List UInt8) (h : a.length = b.length) : (xorL a b).length = a.length := by simp [xorL]; omega
theorem xorL_get (a b : List UInt8) (k : Nat) (h : k < (xorL a b).length) (h1 : k < a.length) (h2 : k < b.length) : (xorL a b)[k] = a[k] ^^^ b[k] := by simp [xorL]
theorem xorL_comm (a b : List UInt8) : xorL a b = xorL b a := by
  unfold xorL; rw [List.zipWith_comm]; congr 1; funext x y; exact UInt8.xor_comm y x
theorem xorL_self (a : List UInt8) : wt (xorL a a) = 0 := by
  induction a with
  | nil => rfl
  | cons c r ih => simp only [xorL, List.zipWith_cons_cons, wt, UInt8.xor_self] at *; rw [ih]; decide
theorem xorL_zero (a b : List UInt8) (h : a.length = b.length) (hz : wt (xorL a b) = 0) : a = b := by
  induction a generalizing b with
  | nil => cases b with
    | nil => rfl
    | cons => simp at h
  | cons c r ih => cases b with
    | nil => simp at h
    | cons d s =>
      simp only [xorL, List.zipWith_cons_cons, wt] at hz
      have h1 : popB (c ^^^ d).toNat = 0 := by omega
      have h2 := popB_eq_zero _ (c ^^^ d).toNat_lt h1
      have h3 : c ^^^ d = 0 := UInt8.toNat_inj.1 (by simpa using h2)
      have h4 : c = d := UInt8.xor_eq_zero_iff.1 h3
      rw [h4, ih s (by simpa using h) (by simp only [xorL]; omega)]
theorem xorL_tri (a b c : List UInt8) (h1 : a.length = b.length) (h2 : a.length = c.length) : wt (xorL a b) ≤ wt (xorL a c) + wt (xorL c b) := by
  induction a generalizing b c with
  | nil => simp [xorL, wt]
  | cons x r ih => cases b with
    | nil => simp at h1
    | cons y s => cases c with
      | nil => simp at h2
      | cons z t =>
        simp only [xorL, List.zipWith_cons_cons, wt, UInt8.toNat_xor]
        have := popB_xor_tri x.toNat y.toNat z.toNat
        have := ih s t (by simpa using h1) (by simpa using h2)
        simp only [xorL] at this; omega
theorem xorL_back (a b : List UInt8) (h : a.length = b.length) : xorL a (xorL a b) = b := by
  induction a generalizing b with
  | nil => cases b with
    | nil => rfl
    | cons => simp at h
  | cons x r ih => cases b with
    | nil => simp at h
    | cons y s =>
      simp only [xorL, List.zipWith_cons_cons]
      have := ih s (by simpa using h)
      simp only [xorL] at this
      rw [this, ← UInt8.xor_assoc, UInt8.xor_self, UInt8.zero_xor]

/-- Bit i of a text: the highest of a byte first. -/
def bitL (l : List UInt8) (i : Nat) : Nat := bt (l.getD (i / 8) 0).toNat (7 - i % 8)
theorem bitL_le (l : List UInt8) (i : Nat) : bitL l i ≤ 1 := bt_le _ _
/-- The sum of the first n values. -/
def sumTo (f : Nat → Nat) : Nat → Nat
  | 0 => 0
  | n + 1 => sumTo f n + f n
theorem sumTo_le (f : Nat → Nat) (h : ∀ i, f i ≤ 1) (n : Nat) : sumTo f n ≤ n := by
  induction n with
  | zero => simp [sumTo]
  | succ n ih => have := h n; simp [sumTo]; omega
theorem sumTo_congr (f g : Nat → Nat) (n : Nat) (h : ∀ i, i < n → f i = g i) : sumTo f n = sumTo g n := by
  induction n with
  | zero => rfl
  | succ n ih => simp only [sumTo]; rw [ih (fun i hi => h i (by omega)), h n (by omega)]
theorem sumTo_bits (l : List UInt8) (n : Nat) (h : n ≤ l.length) : sumTo (bitL l) (8 * n) = wt (l.take n) := by
  induction n with
  | zero => simp [sumTo, wt]
  | succ n ih =>
    have e : 8 * (n + 1) = 8 * n + 1 + 1 + 1 + 1 + 1 + 1 + 1 + 1 := by omega
    rw [e, wt_take_succ l n (by omega), ← ih (by omega)]
    simp only [sumTo, bitL, popB]
    have hg : l.getD n 0 = l[n]'(by omega) := by rw [List.getD_eq_getElem?_getD, List.getElem?_eq_getElem (by omega)]; rfl
    have d : ∀ j, j < 8 → (8 * n + j) / 8 = n ∧ (8 * n + j) % 8 = j := fun j hj => by omega
    have a0 := d 0 (by omega); have a1 := d 1 (by omega); have a2 := d 2 (by omega); have a3 := d 3 (by omega)
    have a4 := d 4 (by omega); have a5 := d 5 (by omega); have a6 := d 6 (by omega); have a7 := d 7 (by omega)
    simp only [Nat.add_assoc, Nat.reduceAdd] at *
    simp only [Nat.add_zero] at a0
    rw [a0.1, a0.2, a1.1, a1.2, a2.1, a2.2, a3.1, a3.2, a4.1, a4.2, a5.1, a5.2, a6.1, a6.2, a7.1, a7.2, hg]
theorem bitL_xor (a b : List UInt8) (h : a.length = b.length) (i : Nat) (hi : i < 8 * a.length) : bitL (xorL a b) i = (bitL a i + bitL b i) % 2 := by
  unfold bitL
  have h1 : i / 8 < a.length := by omega
  have h2 : i / 8 < b.length := by omega
  have h3 : i / 8 < (xorL a b).length := by rw [xorL_length a b h]; omega
  rw [List.getD_eq_getElem?_getD, List.getD_eq_getElem?_getD, List.getD_eq_getElem?_getD, List.getElem?_eq_getElem h1, List.getElem?_eq_getElem h2, List.getElem?_eq_getElem h3]
  simp only [Option.getD_some]
  rw [xorL_get a b _ h3 h1 h2, UInt8.toNat_xor, bt_xor]
end Go.Proofs.BitMath
