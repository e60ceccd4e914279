/-
  DERIVED. What is read of a sorted file's bytes: entries of a block, without a program.
-/
import Derived.Test.YtdegclccbgpgiaaDoorBMath
import Derived.Test.YtdegclccbgpgiaaDoorSPm
set_option linter.unusedVariables false
set_option linter.unusedSimpArgs false
namespace Go.Proofs.YtdegclccbgpgiaaDoor
open Go.RowKit Go.Proofs.SealMath
/-- A number of 64 bits as an int. -/
def w64 (n : Nat) : Int := if n < 9223372036854775808 then (n : Int) else (n : Int) - 18446744073709551616
theorem w64_lt {n : Nat} (h : n < 9223372036854775808) : w64 n = n := by unfold w64; rw [if_pos h]
theorem w64_wrap (n : Nat) (h : n < 18446744073709551616) : IntKind.i64.wrap (n : Int) = w64 n := by
  unfold w64
  rw [IntKind.wrap_i64]
  split <;> omega
/-- The entry at a place of a block, and the place behind it. -/
def eaA (b : ByteArray) (a cb : Nat) : Option (En × Nat) :=
  if a + 4 ≤ b.size then
    if (vA b ((a + 4 + cb : Nat) : Int)).2.2 = 0 then
      if (vA b ((vA b ((a + 4 + cb : Nat) : Int)).2.1 : Nat)).2.2 = 0 then
        if (vA b ((vA b ((a + 4 + cb : Nat) : Int)).2.1 : Nat)).2.1 = b.size then none
        else some (⟨(numL (sub b a 4) : Nat), ⟨(sub b (a + 4) cb).toArray⟩, w64 (vA b ((a + 4 + cb : Nat) : Int)).1, w64 (vA b ((vA b ((a + 4 + cb : Nat) : Int)).2.1 : Nat)).1, sub b (vA b ((vA b ((a + 4 + cb : Nat) : Int)).2.1 : Nat)).2.1 1 == [1]⟩, (vA b ((vA b ((a + 4 + cb : Nat) : Int)).2.1 : Nat)).2.1 + 1)
      else none
    else none
  else none
theorem vA_at (b : ByteArray) (p : Nat) (h : (vA b p).2.2 = 0) : (vA b p).1 < 18446744073709551616 ∧ p < (vA b p).2.1 ∧ (vA b p).2.1 ≤ b.size := by
  obtain ⟨a, c, d, e⟩ := vA_only b p (vA b p).1 (vA b p).2.1 (by rw [← h])
  have := (pvL_len 9 (vA b p).1).1
  exact ⟨a, by omega, e⟩
theorem eaA_some {b : ByteArray} {a cb q : Nat} {e : En} (h : eaA b a cb = some (e, q)) : a + cb + 6 < q ∧ q ≤ b.size := by
  unfold eaA at h
  split at h
  · split at h
    · split at h
      · split at h
        · cases h
        · rename_i h1 h2 h3 h4
          have k1 := vA_at b _ h2
          have k2 := vA_at b _ h3
          simp only [Option.some.injEq, Prod.mk.injEq] at h
          obtain ⟨-, rfl⟩ := h
          omega
      · cases h
    · cases h
  · cases h
def entsF : Nat → ByteArray → Nat → Nat → List En
  | 0, _, _, _ => []
  | f + 1, b, a, cb => match eaA b a cb with
    | none => []
    | some (e, q) => e :: entsF f b q cb
/-- The entries of a block from a place on, as far as they can be read. -/
def ents (b : ByteArray) (a cb : Nat) : List En := entsF (b.size + 1) b a cb
theorem entsF_more (b : ByteArray) (cb : Nat) : ∀ (f g a : Nat), b.size + 1 - a ≤ f → b.size + 1 - a ≤ g → entsF f b a cb = entsF g b a cb
  | 0, 0, a, _, _ => rfl
  | 0, g + 1, a, h1, h2 => by
    have : eaA b a cb = none := by unfold eaA; rw [if_neg (by omega)]
    rw [entsF, entsF, this]
  | f + 1, 0, a, h1, h2 => by
    have : eaA b a cb = none := by unfold eaA; rw [if_neg (by omega)]
    rw [entsF, entsF, this]
  | f + 1, g + 1, a, h1, h2 => by
    rw [entsF, entsF]
    cases h : eaA b a cb with
    | none => rfl
    | some x =>
      obtain ⟨e, q⟩ := x
      have := eaA_some h
      simp only []
      rw [entsF_more b cb f g q (by omega) (by omega)]
theorem ents_none {b : ByteArray} {a cb : Nat} (h : eaA b a cb = none) : ents b a cb = [] := by unfold ents; rw [entsF, h]
theorem ents_some {b : ByteArray} {a cb q : Nat} {e : En} (h : eaA b a cb = some (e, q)) : ents b a cb = e :: ents b q cb := by
  have := eaA_some h
  unfold ents
  rw [entsF, h]
  simp only []
  rw [entsF_more b cb b.size (b.size + 1) q (by omega) (by omega)]
theorem ents_len (b : ByteArray) (cb : Nat) : ∀ (f a : Nat), b.size + 1 - a ≤ f → (ents b a cb).length * (cb + 7) + a ≤ b.size ∨ ents b a cb = []
  | 0, a, h => .inr (ents_none (by unfold eaA; rw [if_neg (by omega)]))
  | f + 1, a, h => by
    cases h1 : eaA b a cb with
    | none => exact .inr (ents_none h1)
    | some x =>
      obtain ⟨e, q⟩ := x
      have h2 := eaA_some h1
      rw [ents_some h1]
      rcases ents_len b cb f q (by omega) with h3 | h3
      · left
        rw [List.length_cons, Nat.add_mul]
        omega
      · left
        rw [h3]
        simp only [List.length_cons, List.length_nil]
        omega
theorem ents_few (b : ByteArray) (cb : Nat) : (ents b 0 cb).length * (cb + 7) ≤ b.size := by
  rcases ents_len b cb (b.size + 1) 0 (by omega) with h | h
  · omega
  · rw [h]; simp
theorem sub_cut (b : ByteArray) (a n m : Nat) (x y : List UInt8) (h : sub b a (n + m) = x ++ y) (hx : x.length = n) (hy : y.length = m) : sub b a n = x ∧ sub b (a + n) m = y := by
  have h1 := sub_part b a (n + m) 0 n _ h (by omega)
  have h2 := sub_part b a (n + m) n m _ h (by omega)
  rw [Nat.add_zero, List.drop_zero, List.take_append_of_le_length (by omega), List.take_of_length_le (by omega)] at h1
  rw [List.drop_append_of_le_length (by omega), List.drop_of_length_le (by omega), List.nil_append, List.take_of_length_le (by omega)] at h2
  exact ⟨h1, h2⟩
/-- An entry that goes, in bytes, is read as it was. -/
theorem eaA_put (b : ByteArray) (a cb : Nat) (e : En) (hv : 0 ≤ e.v ∧ e.v < 4294967296) (hi : 0 ≤ e.i ∧ e.i < 9223372036854775808) (hs : 0 ≤ e.s ∧ e.s < 9223372036854775808) (hc : e.c.size = cb)
    (h : sub b a (enB e).length = enB e) (hb : a + (enB e).length ≤ b.size) : eaA b a cb = some (e, a + (enB e).length) := by
  obtain ⟨v, c, i, s, d⟩ := e
  dsimp only at *
  obtain ⟨v, rfl⟩ : ∃ V : Nat, v = V := ⟨v.toNat, by omega⟩
  obtain ⟨i, rfl⟩ : ∃ V : Nat, i = V := ⟨i.toNat, by omega⟩
  obtain ⟨s, rfl⟩ : ∃ V : Nat, s = V := ⟨s.toNat, by omega⟩
  have hcl : c.data.toList.length = cb := by rw [cl, hc]
  have hl : (enB ⟨v, c, i, s, d⟩).length = 4 + (cb + ((pvL 9 i).length + ((pvL 9 s).length + 1))) := by
    unfold enB plB
    simp only [List.length_append, fixL_len, dB_len, Int.toNat_natCast]
    omega
  have he : enB ⟨v, c, i, s, d⟩ = fixL v 4 ++ (c.data.toList ++ (pvL 9 i ++ (pvL 9 s ++ dB d))) := by
    unfold enB plB
    simp only [List.append_assoc, Int.toNat_natCast]
  rw [hl] at hb
  rw [hl, he] at h
  obtain ⟨s1, h⟩ := sub_cut b a _ _ _ _ h (fixL_len v 4) (by simp only [List.length_append, dB_len]; omega)
  obtain ⟨s2, h⟩ := sub_cut b _ _ _ _ _ h hcl (by simp only [List.length_append, dB_len])
  obtain ⟨s3, h⟩ := sub_cut b _ _ _ _ _ h rfl (by simp only [List.length_append, dB_len])
  obtain ⟨s4, s5⟩ := sub_cut b _ _ _ _ _ h rfl (dB_len d)
  have p1 := vA_put b (a + 4 + cb) i (by omega) s3 (by omega)
  have p2 := vA_put b (a + 4 + cb + (pvL 9 i).length) s (by omega) s4 (by omega)
  have hE : eaA b a cb = some (⟨((numL (sub b a 4) : Nat) : Int), ⟨(sub b (a + 4) cb).toArray⟩, w64 i, w64 s, sub b (a + 4 + cb + (pvL 9 i).length + (pvL 9 s).length) 1 == [1]⟩, a + 4 + cb + (pvL 9 i).length + (pvL 9 s).length + 1) := by
    unfold eaA
    rw [if_pos (by omega)]
    simp only [p1]
    simp only [p2, if_true]
    rw [if_neg (by omega)]
  rw [hE, s1, s2, s5, num_fix v (by omega), w64_lt (by omega), w64_lt (by omega), hl]
  have hd : (dB d == [1]) = d := by cases d <;> rfl
  rw [hd, show (⟨c.data.toList.toArray⟩ : ByteArray) = c from by apply ba_ext; simp, show a + 4 + cb + (pvL 9 i).length + (pvL 9 s).length + 1 = a + (4 + (cb + ((pvL 9 i).length + ((pvL 9 s).length + 1)))) by omega]
/-- An entry of a code of so many bytes, that goes as bytes. -/
structure Okc (cb : Nat) (e : En) : Prop where
  v : 0 ≤ e.v ∧ e.v < 4294967296
  i : 0 ≤ e.i ∧ e.i < 9223372036854775808
  s : 0 ≤ e.s ∧ e.s < 9223372036854775808
  c : e.c.size = cb
theorem ents_put (b : ByteArray) (cb : Nat) : ∀ (l : List En) (a : Nat), (∀ e ∈ l, Okc cb e) → sub b a (l.flatMap enB).length = l.flatMap enB → a + (l.flatMap enB).length = b.size → ents b a cb = l
  | [], a, _, _, h => ents_none (by unfold eaA; rw [if_neg (by simp at h; omega)])
  | e :: l, a, ho, hs, hb => by
    have h1 := ho e (by simp)
    rw [List.flatMap_cons] at hs hb
    rw [List.length_append] at hs hb
    obtain ⟨s1, s2⟩ := sub_cut b a _ _ _ _ hs rfl rfl
    rw [ents_some (eaA_put b a cb e h1.v h1.i h1.s h1.c s1 (by omega)), ents_put b cb l _ (fun x hx => ho x (List.mem_cons_of_mem _ hx)) s2 (by omega)]
/-- A block's bytes are read as the entries that they were made of. -/
theorem ents_all (cb : Nat) (l : List En) (h : ∀ e ∈ l, Okc cb e) : ents ⟨(l.flatMap enB).toArray⟩ 0 cb = l := by
  have hs : (⟨(l.flatMap enB).toArray⟩ : ByteArray).size = (l.flatMap enB).length := by rw [ba_size]
  refine ents_put _ cb l 0 h ?_ (by rw [hs]; omega)
  unfold sub
  rw [List.drop_zero, List.take_of_length_le (Nat.le_refl _)]
end Go.Proofs.YtdegclccbgpgiaaDoor
