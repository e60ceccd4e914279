/-
  DERIVED. BRd0, BRd1, BRange, BStay, SRFrame, BBytes, BBytes2, as one text.
-/
import Derived.Test.YtjdpolhjbkpnlaaGreatDoorLzAC
import Derived.RangeFuncNested
import Derived.RangeFuncBound
import Derived.RangeFuncCalls
import Derived.RangeFuncLeaves
import Derived.Shelf.Abstract
import Derived.Shelf.RegionOpen
import Derived.WalkKit
import Derived.OwnWalkIn
import Derived.TacticsInMore
import Derived.LoopNIn
import Derived.LoopIn
import Derived.Test.YtjdpolhjbkpnlaaGreatDoorLzAA
import Derived.Maps.AppendAt
import Derived.Lib.AppendStr
import Derived.Test.YtjdpolhjbkpnlaaGreatDoorLzAB
import Derived.Deep.RegionWith
import Derived.Deep.RegionHeld
set_option linter.unusedVariables false
set_option linter.unusedSimpArgs false
namespace Go.Proofs.YtjdpolhjbkpnlaaGreatDoor
open Go.RowKit Go.Proofs.SealMath
/-- A number of 64 bits as an int. -/
def w64 (n : Nat) : Int := if n < 9223372036854775808 then (n : Int) else (n : Int) - 18446744073709551616
theorem w64_lt {n : Nat} (h : n < 9223372036854775808) : w64 n = n := by unfold w64; rw [if_pos h]
theorem w64_wrap (n : Nat) (h : n < 18446744073709551616) : IntKind.i64.wrap (n : Int) = w64 n := by
  unfold w64
  rw [IntKind.wrap_i64]
  split <;> omega
/-- The entry at a place of a block, and the place behind it. -/
def eaA (b : ByteArray) (a cb : Nat) : Option (En × Nat) :=
  if a + 4 ≤ b.size then
    if (vA b ((a + 4 + cb : Nat) : Int)).2.2 = 0 then
      if (vA b ((vA b ((a + 4 + cb : Nat) : Int)).2.1 : Nat)).2.2 = 0 then
        if (vA b ((vA b ((a + 4 + cb : Nat) : Int)).2.1 : Nat)).2.1 = b.size then none
        else some (⟨(numL (sub b a 4) : Nat), ⟨(sub b (a + 4) cb).toArray⟩, w64 (vA b ((a + 4 + cb : Nat) : Int)).1, w64 (vA b ((vA b ((a + 4 + cb : Nat) : Int)).2.1 : Nat)).1, sub b (vA b ((vA b ((a + 4 + cb : Nat) : Int)).2.1 : Nat)).2.1 1 == [1]⟩, (vA b ((vA b ((a + 4 + cb : Nat) : Int)).2.1 : Nat)).2.1 + 1)
      else none
    else none
  else none
theorem vA_at (b : ByteArray) (p : Nat) (h : (vA b p).2.2 = 0) : (vA b p).1 < 18446744073709551616 ∧ p < (vA b p).2.1 ∧ (vA b p).2.1 ≤ b.size := by
  obtain ⟨a, c, d, e⟩ := vA_only b p (vA b p).1 (vA b p).2.1 (by rw [← h])
  have := (pvL_len 9 (vA b p).1).1
  exact ⟨a, by omega, e⟩
theorem eaA_some {b : ByteArray} {a cb q : Nat} {e : En} (h : eaA b a cb = some (e, q)) : a + cb + 6 < q ∧ q ≤ b.size := by
  unfold eaA at h
  split at h
  · split at h
    · split at h
      · split at h
        · cases h
        · rename_i h1 h2 h3 h4
          have k1 := vA_at b _ h2
          have k2 := vA_at b _ h3
          simp only [Option.some.injEq, Prod.mk.injEq] at h
          obtain ⟨-, rfl⟩ := h
          omega
      · cases h
    · cases h
  · cases h
def entsF : Nat → ByteArray → Nat → Nat → List En
  | 0, _, _, _ => []
  | f + 1, b, a, cb => match eaA b a cb with
    | none => []
    | some (e, q) => e :: entsF f b q cb
/-- The entries of a block from a place on, as far as they can be read. -/
def ents (b : ByteArray) (a cb : Nat) : List En := entsF (b.size + 1) b a cb
theorem entsF_more (b : ByteArray) (cb : Nat) : ∀ (f g a : Nat), b.size + 1 - a ≤ f → b.size + 1 - a ≤ g → entsF f b a cb = entsF g b a cb
  | 0, 0, a, _, _ => rfl
  | 0, g + 1, a, h1, h2 => by
    have : eaA b a cb = none := by unfold eaA; rw [if_neg (by omega)]
    rw [entsF, entsF, this]
  | f + 1, 0, a, h1, h2 => by
    have : eaA b a cb = none := by unfold eaA; rw [if_neg (by omega)]
    rw [entsF, entsF, this]
  | f + 1, g + 1, a, h1, h2 => by
    rw [entsF, entsF]
    cases h : eaA b a cb with
    | none => rfl
    | some x =>
      obtain ⟨e, q⟩ := x
      have := eaA_some h
      simp only []
      rw [entsF_more b cb f g q (by omega) (by omega)]
theorem ents_none {b : ByteArray} {a cb : Nat} (h : eaA b a cb = none) : ents b a cb = [] := by unfold ents; rw [entsF, h]
theorem ents_some {b : ByteArray} {a cb q : Nat} {e : En} (h : eaA b a cb = some (e, q)) : ents b a cb = e :: ents b q cb := by
  have := eaA_some h
  unfold ents
  rw [entsF, h]
  simp only []
  rw [entsF_more b cb b.size (b.size + 1) q (by omega) (by omega)]
theorem ents_len (b : ByteArray) (cb : Nat) : ∀ (f a : Nat), b.size + 1 - a ≤ f → (ents b a cb).length * (cb + 7) + a ≤ b.size ∨ ents b a cb = []
  | 0, a, h => .inr (ents_none (by unfold eaA; rw [if_neg (by omega)]))
  | f + 1, a, h => by
    cases h1 : eaA b a cb with
    | none => exact .inr (ents_none h1)
    | some x =>
      obtain ⟨e, q⟩ := x
      have h2 := eaA_some h1
      rw [ents_some h1]
      rcases ents_len b cb f q (by omega) with h3 | h3
      · left
        rw [List.length_cons, Nat.add_mul]
        omega
      · left
        rw [h3]
        simp only [List.length_cons, List.length_nil]
        omega
theorem ents_few (b : ByteArray) (cb : Nat) : (ents b 0 cb).length * (cb + 7) ≤ b.size := by
  rcases ents_len b cb (b.size + 1) 0 (by omega) with h | h
  · omega
  · rw [h]; simp
theorem sub_cut (b : ByteArray) (a n m : Nat) (x y : List UInt8) (h : sub b a (n + m) = x ++ y) (hx : x.length = n) (hy : y.length = m) : sub b a n = x ∧ sub b (a + n) m = y := by
  have h1 := sub_part b a (n + m) 0 n _ h (by omega)
  have h2 := sub_part b a (n + m) n m _ h (by omega)
  rw [Nat.add_zero, List.drop_zero, List.take_append_of_le_length (by omega), List.take_of_length_le (by omega)] at h1
  rw [List.drop_append_of_le_length (by omega), List.drop_of_length_le (by omega), List.nil_append, List.take_of_length_le (by omega)] at h2
  exact ⟨h1, h2⟩
/-- An entry that goes, in bytes, is read as it was. -/
theorem eaA_put (b : ByteArray) (a cb : Nat) (e : En) (hv : 0 ≤ e.v ∧ e.v < 4294967296) (hi : 0 ≤ e.i ∧ e.i < 9223372036854775808) (hs : 0 ≤ e.s ∧ e.s < 9223372036854775808) (hc : e.c.size = cb)
    (h : sub b a (enB e).length = enB e) (hb : a + (enB e).length ≤ b.size) : eaA b a cb = some (e, a + (enB e).length) := by
  obtain ⟨v, c, i, s, d⟩ := e
  dsimp only at *
  obtain ⟨v, rfl⟩ : ∃ V : Nat, v = V := ⟨v.toNat, by omega⟩
  obtain ⟨i, rfl⟩ : ∃ V : Nat, i = V := ⟨i.toNat, by omega⟩
  obtain ⟨s, rfl⟩ : ∃ V : Nat, s = V := ⟨s.toNat, by omega⟩
  have hcl : c.data.toList.length = cb := by rw [cl, hc]
  have hl : (enB ⟨v, c, i, s, d⟩).length = 4 + (cb + ((pvL 9 i).length + ((pvL 9 s).length + 1))) := by
    unfold enB plB
    simp only [List.length_append, fixL_len, dB_len, Int.toNat_natCast]
    omega
  have he : enB ⟨v, c, i, s, d⟩ = fixL v 4 ++ (c.data.toList ++ (pvL 9 i ++ (pvL 9 s ++ dB d))) := by
    unfold enB plB
    simp only [List.append_assoc, Int.toNat_natCast]
  rw [hl] at hb
  rw [hl, he] at h
  obtain ⟨s1, h⟩ := sub_cut b a _ _ _ _ h (fixL_len v 4) (by simp only [List.length_append, dB_len]; omega)
  obtain ⟨s2, h⟩ := sub_cut b _ _ _ _ _ h hcl (by simp only [List.length_append, dB_len])
  obtain ⟨s3, h⟩ := sub_cut b _ _ _ _ _ h rfl (by simp only [List.length_append, dB_len])
  obtain ⟨s4, s5⟩ := sub_cut b _ _ _ _ _ h rfl (dB_len d)
  have p1 := vA_put b (a + 4 + cb) i (by omega) s3 (by omega)
  have p2 := vA_put b (a + 4 + cb + (pvL 9 i).length) s (by omega) s4 (by omega)
  have hE : eaA b a cb = some (⟨((numL (sub b a 4) : Nat) : Int), ⟨(sub b (a + 4) cb).toArray⟩, w64 i, w64 s, sub b (a + 4 + cb + (pvL 9 i).length + (pvL 9 s).length) 1 == [1]⟩, a + 4 + cb + (pvL 9 i).length + (pvL 9 s).length + 1) := by
    unfold eaA
    rw [if_pos (by omega)]
    simp only [p1]
    simp only [p2, if_true]
    rw [if_neg (by omega)]
  rw [hE, s1, s2, s5, num_fix v (by omega), w64_lt (by omega), w64_lt (by omega), hl]
  have hd : (dB d == [1]) = d := by cases d <;> rfl
  rw [hd, show (⟨c.data.toList.toArray⟩ : ByteArray) = c from by apply ba_ext; simp, show a + 4 + cb + (pvL 9 i).length + (pvL 9 s).length + 1 = a + (4 + (cb + ((pvL 9 i).length + ((pvL 9 s).length + 1)))) by omega]
/-- An entry of a code of so many bytes, that goes as bytes. -/
structure Okc (cb : Nat) (e : En) : Prop where
  v : 0 ≤ e.v ∧ e.v < 4294967296
  i : 0 ≤ e.i ∧ e.i < 9223372036854775808
  s : 0 ≤ e.s ∧ e.s < 9223372036854775808
  c : e.c.size = cb
theorem ents_put (b : ByteArray) (cb : Nat) : ∀ (l : List En) (a : Nat), (∀ e ∈ l, Okc cb e) → sub b a (l.flatMap enB).length = l.flatMap enB → a + (l.flatMap enB).length = b.size → ents b a cb = l
  | [], a, _, _, h => ents_none (by unfold eaA; rw [if_neg (by simp at h; omega)])
  | e :: l, a, ho, hs, hb => by
    have h1 := ho e (by simp)
    rw [List.flatMap_cons] at hs hb
    rw [List.length_append] at hs hb
    obtain ⟨s1, s2⟩ := sub_cut b a _ _ _ _ hs rfl rfl
    rw [ents_some (eaA_put b a cb e h1.v h1.i h1.s h1.c s1 (by omega)), ents_put b cb l _ (fun x hx => ho x (List.mem_cons_of_mem _ hx)) s2 (by omega)]
/-- A block's bytes are read as the entries that they were made of. -/
theorem ents_all (cb : Nat) (l : List En) (h : ∀ e ∈ l, Okc cb e) : ents ⟨(l.flatMap enB).toArray⟩ 0 cb = l := by
  have hs : (⟨(l.flatMap enB).toArray⟩ : ByteArray).size = (l.flatMap enB).length := by rw [ba_size]
  refine ents_put _ cb l 0 h ?_ (by rw [hs]; omega)
  unfold sub
  rw [List.drop_zero, List.take_of_length_le (Nat.le_refl _)]
end Go.Proofs.YtjdpolhjbkpnlaaGreatDoor
set_option linter.unusedVariables false
set_option linter.unusedSimpArgs false
namespace Go.Proofs.YtjdpolhjbkpnlaaGreatDoor
open Go.RowKit Go.Proofs.SealMath
/-- The head without a width. -/
def h0 : Hd := ⟨0, 0, 0, 0, 0, 0⟩
/-- Numbers one behind the other. -/
def nsA (b : ByteArray) : Nat → Nat → Option (List Nat)
  | 0, _ => some []
  | k + 1, p => if (vA b (p : Int)).2.2 = 0 then (nsA b k (vA b (p : Int)).2.1).map ((vA b (p : Int)).1 :: ·) else none
/-- The head that bytes say. -/
def hdR (b : ByteArray) : Hd := match nsA b 6 0 with
  | some [a, c, d, e, f, g] => ⟨w64 a, w64 c, w64 d, w64 e, w64 f, w64 g⟩
  | _ => h0
theorem nsA_len (b : ByteArray) : ∀ (k p : Nat) (l : List Nat), nsA b k p = some l → l.length = k
  | 0, p, l, h => by simp [nsA] at h; subst h; rfl
  | k + 1, p, l, h => by
    rw [nsA] at h
    split at h
    · cases h1 : nsA b k (vA b (p : Int)).2.1 with
      | none => rw [h1] at h; cases h
      | some m =>
        rw [h1] at h
        simp at h
        subst h
        rw [List.length_cons, nsA_len b k _ m h1]
    · cases h
theorem nsA_put (b : ByteArray) : ∀ (l : List Nat) (p : Nat), (∀ n ∈ l, n < 18446744073709551616) → sub b p (l.flatMap (pvL 9)).length = l.flatMap (pvL 9) → p + (l.flatMap (pvL 9)).length ≤ b.size → nsA b l.length p = some l
  | [], p, _, _, _ => rfl
  | n :: l, p, hn, hs, hb => by
    rw [List.flatMap_cons] at hs hb
    rw [List.length_append] at hs hb
    obtain ⟨s1, s2⟩ := sub_cut b p _ _ _ _ hs rfl rfl
    have h1 := vA_put b p n (hn n (by simp)) s1 (by omega)
    rw [List.length_cons, nsA, h1]
    simp only [if_true]
    rw [nsA_put b l _ (fun x hx => hn x (List.mem_cons_of_mem _ hx)) s2 (by omega)]
    rfl
theorem sub_all (l : List UInt8) : sub ⟨l.toArray⟩ 0 l.length = l := by unfold sub; rw [List.drop_zero, List.take_of_length_le (Nat.le_refl _)]
theorem ba_len (l : List UInt8) : (⟨l.toArray⟩ : ByteArray).size = l.length := by rw [ba_size]
theorem hdR_put (h : Hd) (n : Nat) (h1 : 0 ≤ h.w ∧ h.w < 9223372036854775808) (h2 : 0 ≤ h.t ∧ h.t < 9223372036854775808) (h3 : 0 ≤ h.b ∧ h.b < 9223372036854775808) (h4 : 0 ≤ h.lo ∧ h.lo < 9223372036854775808) (h5 : 0 ≤ h.hi ∧ h.hi < 9223372036854775808) (h6 : n < 9223372036854775808) :
    hdR ⟨(hdB h n).toArray⟩ = { h with n := n } := by
  obtain ⟨wd, t, b, lo, hi, m⟩ := h
  dsimp only at *
  obtain ⟨wd, rfl⟩ : ∃ V : Nat, wd = V := ⟨wd.toNat, by omega⟩
  obtain ⟨t, rfl⟩ : ∃ V : Nat, t = V := ⟨t.toNat, by omega⟩
  obtain ⟨b, rfl⟩ : ∃ V : Nat, b = V := ⟨b.toNat, by omega⟩
  obtain ⟨lo, rfl⟩ : ∃ V : Nat, lo = V := ⟨lo.toNat, by omega⟩
  obtain ⟨hi, rfl⟩ : ∃ V : Nat, hi = V := ⟨hi.toNat, by omega⟩
  have e : hdB ⟨wd, t, b, lo, hi, m⟩ n = [wd, t, b, lo, hi, n].flatMap (pvL 9) := by
    unfold hdB
    simp only [Int.toNat_natCast, List.flatMap_cons, List.flatMap_nil, List.append_nil]
  have hp := nsA_put ⟨(hdB ⟨wd, t, b, lo, hi, m⟩ n).toArray⟩ [wd, t, b, lo, hi, n] 0 (by
    intro x hx
    simp only [List.mem_cons, List.not_mem_nil, or_false] at hx
    omega) (by rw [← e, sub_all]) (by rw [← e, ba_len]; omega)
  unfold hdR
  rw [show [wd, t, b, lo, hi, n].length = 6 from rfl] at hp
  rw [hp]
  simp only []
  rw [w64_lt (by omega), w64_lt (by omega), w64_lt (by omega), w64_lt (by omega), w64_lt (by omega), w64_lt (by omega)]
theorem psA_next {b : ByteArray} {a : Nat} (h : (psA b a).2.2.2 = 0) : a < (psA b a).2.2.1 ∧ (psA b a).2.2.1 ≤ b.size ∧ (psA b a).2.1.length + 14 + a = (psA b a).2.2.1 := by
  obtain ⟨k, p, h1, h2, h3, h4, h5, h6⟩ := psA_yes b a h
  rw [h5]; dsimp only; omega
/-- The payloads of the blocks' frames from a place on. -/
def blksF : Nat → ByteArray → Nat → List (List UInt8)
  | 0, _, _ => []
  | f + 1, b, a => if (psA b a).2.2.2 = 0 ∧ (psA b a).1 = 5 then (psA b a).2.1 :: blksF f b (psA b a).2.2.1 else []
def blks (b : ByteArray) (a : Nat) : List (List UInt8) := blksF (b.size + 1) b a
theorem psA_end (b : ByteArray) (a : Nat) (h : b.size < a + 10) : ¬ (psA b a).2.2.2 = 0 := fun e => by
  obtain ⟨k, p, h1, h2, h3, h4, h5, h6⟩ := psA_yes b a e
  omega
theorem blksF_more (b : ByteArray) : ∀ (f g a : Nat), b.size + 1 - a ≤ f → b.size + 1 - a ≤ g → blksF f b a = blksF g b a
  | 0, 0, a, _, _ => rfl
  | 0, g + 1, a, h1, h2 => by rw [blksF, blksF, if_neg (fun h => psA_end b a (by omega) h.1)]
  | f + 1, 0, a, h1, h2 => by rw [blksF, blksF, if_neg (fun h => psA_end b a (by omega) h.1)]
  | f + 1, g + 1, a, h1, h2 => by
    rw [blksF, blksF]
    split
    · rename_i h
      have := psA_next h.1
      rw [blksF_more b f g _ (by omega) (by omega)]
    · rfl
theorem blks_no {b : ByteArray} {a : Nat} (h : ¬ ((psA b a).2.2.2 = 0 ∧ (psA b a).1 = 5)) : blks b a = [] := by unfold blks; rw [blksF, if_neg h]
theorem blks_yes {b : ByteArray} {a : Nat} (h : (psA b a).2.2.2 = 0 ∧ (psA b a).1 = 5) : blks b a = (psA b a).2.1 :: blks b (psA b a).2.2.1 := by
  have := psA_next h.1
  unfold blks
  rw [blksF, if_pos h, blksF_more b b.size (b.size + 1) _ (by omega) (by omega)]
/-- How many bytes the blocks have together. -/
theorem blks_sum (b : ByteArray) : ∀ (f a : Nat), b.size + 1 - a ≤ f → (blks b a = [] ∨ ((blks b a).map (·.length + 14)).sum + a ≤ b.size)
  | 0, a, h => .inl (blks_no (fun h1 => psA_end b a (by omega) h1.1))
  | f + 1, a, h => by
    by_cases h1 : (psA b a).2.2.2 = 0 ∧ (psA b a).1 = 5
    · have h2 := psA_next h1.1
      right
      rw [blks_yes h1]
      rcases blks_sum b f (psA b a).2.2.1 (by omega) with h3 | h3
      · rw [h3]
        simp only [List.map_cons, List.map_nil, List.sum_cons, List.sum_nil]
        omega
      · simp only [List.map_cons, List.sum_cons]
        omega
    · exact .inl (blks_no h1)
/-- What read answers: a head with which entries can be read, and the blocks. -/
def rdA (b : ByteArray) : Option (Hd × List (List UInt8)) :=
  if (psA b 0).2.2.2 = 0 ∧ (psA b 0).1 = 4 then
    if hdE (hdR ⟨(psA b 0).2.1.toArray⟩) = 0 ∧ 0 ≤ (hdR ⟨(psA b 0).2.1.toArray⟩).n ∧ (hdR ⟨(psA b 0).2.1.toArray⟩).n ≤ (b.size : Int) / ((hdR ⟨(psA b 0).2.1.toArray⟩).w / 8 + 7) then some (hdR ⟨(psA b 0).2.1.toArray⟩, blks b (psA b 0).2.2.1)
    else none
  else none
/-- All entries of a file that was read. -/
def alA (cb : Nat) (bl : List (List UInt8)) : List En := bl.flatMap fun p => ents ⟨p.toArray⟩ 0 cb
/-- How many bytes a code has. -/
def cbH (h : Hd) : Nat := (h.w / 8).toNat
/-- What Open answers. -/
def opA (b : ByteArray) : Option (Hd × List (List UInt8)) :=
  match rdA b with
  | none => none
  | some (h, bl) => if bdE h (alA (cbH h) bl) = 0 ∧ bdT h (alA (cbH h) bl) = b.data.toList then some (h, bl) else none
theorem rdA_some {b : ByteArray} {h : Hd} {bl : List (List UInt8)} (e : rdA b = some (h, bl)) : hdE h = 0 ∧ 0 ≤ h.n ∧ h.n ≤ (b.size : Int) / (h.w / 8 + 7) ∧ (bl.map (·.length + 14)).sum ≤ b.size := by
  unfold rdA at e
  split at e
  · rename_i h1
    split at e
    · rename_i h2
      simp only [Option.some.injEq, Prod.mk.injEq] at e
      obtain ⟨rfl, rfl⟩ := e
      refine ⟨h2.1, h2.2.1, h2.2.2, ?_⟩
      rcases blks_sum b (b.size + 1) (psA b 0).2.2.1 (by omega) with h3 | h3
      · rw [h3]; simp
      · omega
    · cases e
  · cases e
theorem opA_some {b : ByteArray} {h : Hd} {bl : List (List UInt8)} (e : opA b = some (h, bl)) : rdA b = some (h, bl) ∧ bdE h (alA (cbH h) bl) = 0 ∧ fileT h (alA (cbH h) bl) = b.data.toList := by
  unfold opA at e
  cases h1 : rdA b with
  | none => rw [h1] at e; cases e
  | some x =>
    obtain ⟨h', bl'⟩ := x
    rw [h1] at e
    simp only [] at e
    split at e
    · rename_i h2
      cases e
      refine ⟨rfl, h2.1, ?_⟩
      have := h2.2
      unfold bdT at this
      rw [if_pos h2.1] at this
      exact this
    · cases e
theorem alA_len (cb : Nat) : ∀ bl : List (List UInt8), (alA cb bl).length * (cb + 7) ≤ (bl.map (·.length + 14)).sum
  | [] => by simp [alA]
  | p :: bl => by
    have h1 := alA_len cb bl
    have h2 := ents_few ⟨p.toArray⟩ cb
    rw [ba_len] at h2
    have e : alA cb (p :: bl) = ents ⟨p.toArray⟩ 0 cb ++ alA cb bl := rfl
    rw [e, List.length_append, Nat.add_mul]
    simp only [List.map_cons, List.sum_cons]
    omega
/-- A frame, wherever it stands in a text. -/
theorem ps_at (b : ByteArray) (k : Nat) (p x y : List UInt8) (hk1 : 1 ≤ k) (hk2 : k ≤ 255) (hp : p.length ≤ 65536) (hb : b.data.toList = x ++ (frL k p ++ y)) : psA b x.length = (k, p, x.length + (p.length + 14), 0) := by
  have h := prA_frame b x.length k p x y hk1 hk2 hp (by rw [hb, List.append_assoc]) rfl
  have hs : b.size = x.length + ((p.length + 14) + y.length) := by rw [ba_size, hb]; simp [frL_len]
  unfold prA at h
  rw [if_pos (by omega), Int.toNat_natCast] at h
  exact h
theorem blks_put (b : ByteArray) (y : List UInt8) : ∀ (ps : List (Nat × List En)) (x : List UInt8), (∀ p ∈ ps, ln enB p.2 ≤ 4096) → b.data.toList = x ++ (blkL enB 5 ps ++ y) → ¬ ((psA b (x.length + (blkL enB 5 ps).length)).2.2.2 = 0 ∧ (psA b (x.length + (blkL enB 5 ps).length)).1 = 5) →
    blks b x.length = ps.map fun p => p.2.flatMap enB
  | [], x, _, _, h => by rw [show blkL enB 5 [] = [] from rfl, List.length_nil, Nat.add_zero] at h; rw [blks_no h]; rfl
  | p :: ps, x, hp, hb, h => by
    have e : blkL enB 5 (p :: ps) = frL 5 (p.2.flatMap enB) ++ blkL enB 5 ps := by simp [blkL]
    have hl : (p.2.flatMap enB).length ≤ 4096 := hp p (by simp)
    rw [e, List.append_assoc] at hb
    have h1 := ps_at b 5 (p.2.flatMap enB) x _ (by omega) (by omega) (by omega) hb
    rw [blks_yes (by rw [h1]; exact ⟨rfl, rfl⟩), h1]
    dsimp only
    have ex : (x ++ frL 5 (p.2.flatMap enB)).length = x.length + ((p.2.flatMap enB).length + 14) := by rw [List.length_append, frL_len]
    rw [← ex, blks_put b y ps (x ++ frL 5 (p.2.flatMap enB)) (fun q hq => hp q (List.mem_cons_of_mem _ hq)) (by rw [hb]; simp only [List.append_assoc]) (by
      rw [ex]
      rw [e, List.length_append, frL_len] at h
      rw [show x.length + ((p.2.flatMap enB).length + 14) + (blkL enB 5 ps).length = x.length + ((p.2.flatMap enB).length + 14 + (blkL enB 5 ps).length) by omega]
      exact h)]
    rfl
end Go.Proofs.YtjdpolhjbkpnlaaGreatDoor
set_option linter.unusedVariables false
namespace Go.Proofs.YtjdpolhjbkpnlaaGreatDoor
open Go.RowKit Go.Shelf
section
variable {F : Fence} {n : Nat} {P : Program} {α σ : Type}
/-- The iterator's word: whatever J the caller keeps, if J abides what the iterator does by itself. -/
def SeqSt (F : Fence) (n : Nat) (P : Program) (g : Nat) (lb : Array Value) (encs : α → Array Value) (Nx : List α → α → Prop) (Tr : σ → World → σ → World → Prop) (Kp : σ → World → World → Prop) (S Sp : List α → Prop) (s0 : σ) (w : World) : Prop :=
  ∀ (l : Nat) (J Jx : List α → σ → World → Prop) (W : World), Below w.heap.size w W →
    (∀ p s A s' B, J p s A → Tr s A s' B → J p s' B) → (∀ p s A s' B, Jx p s A → Tr s A s' B → Jx p s' B) →
    (∀ p x s A, J p s A → Nx p x → YieldAt F (n - 1) P l (encs x) A fun e B => (e = .returned (.bool true) ∧ J (p ++ [x]) s B ∧ Kp s A B) ∨ (e = .returned (.bool false) ∧ Jx (p ++ [x]) s B ∧ Kp s A B)) →
    J [] s0 W →
    CallsIn F n P g (#[.func (.yield l) #[] #[]] ++ lb) W fun e B => (∃ v, e = .returned v) ∧ ((∃ p s, S p ∧ J p s B) ∨ (∃ p s, Sp p ∧ Jx p s B))
/-- How a body may be left. -/
def stPost (lo : Nat) (Kp : σ → World → World → Prop) (I : List α → σ → World → Prop) (Ix : Code → List α → σ → World → Prop) (p : List α) (s : σ) (A : World) : Exit → Act → World → Prop
  | .normal, _, B => KeepsFrom lo A B ∧ Kp s A B ∧ I p s B
  | .ret, _, B => KeepsFrom lo A B ∧ Kp s A B ∧ Ix .ret p s B
  | .exit id, _, B => KeepsFrom lo A B ∧ Kp s A B ∧ Ix (.exit id) p s B
  | .goto t, _, B => KeepsFrom lo A B ∧ Kp s A B ∧ Ix (.goto t) p s B
  | .panic _, _, _ => False
  | .outgrown, _, _ => False
theorem wpIn_rangeFunc_st {g : Operand} {ps : Array Tmp} {assign body : Code} {Q : Exit → Act → World → Prop} {a : Act} {w : World}
    (hro : F.round = none) (h1 : 1 ≤ n) {gf : Nat} {lb : Array Value} (hg : a.eval g = .func (.func gf) #[] lb) (hFg : F.fn gf) (eg : ∀ args w, (callFunc gf args).run P w = .ok (.enter gf args) w)
    {encs : α → Array Value} {Nx : List α → α → Prop} {Tr : σ → World → σ → World → Prop} {Kp : σ → World → World → Prop} {S Sp : List α → Prop} {s0 : σ}
    (hseq : SeqSt F (n - 1) P gf lb encs Nx Tr Kp S Sp s0 w)
    (hTr : ∀ s A s' B, Tr s A s' B → KeepsOthers A B)
    (hKt : ∀ {s A B C}, Kp s A B → Kp s B C → Kp s A C) (hKb : ∀ (s : σ) (A : World) (l : Nat) (o o' : Obj), w.heap.size ≤ l → A.heap[l]? = some o → o.isCells = false → o.isWalk = false → Kp s A (A.putObj l o'))
    (hps : ∀ x, (encs x).size = ps.size)
    (I : List α → σ → World → Prop) (Ix : Code → List α → σ → World → Prop)
    (hIt : ∀ p s A s' B, I p s A → Tr s A s' B → I p s' B) (hIxt : ∀ c p s A s' B, Ix c p s A → Tr s A s' B → Ix c p s' B)
    (hI : OwnFrom w.heap.size (fun (z : List α × σ) A => I z.1 z.2 A)) (hIx : ∀ c, OwnFrom w.heap.size (fun (z : List α × σ) A => Ix c z.1 z.2 A))
    (h0 : I [] s0 w) (Ax : α → Act → World → Prop) (hAx : ∀ x a', OwnFrom w.heap.size (fun (_ : Unit) A => Ax x a' A))
    (hassign : ∀ (l : Nat) (p : List α) (x : α) (s : σ) (A : World) (K : Act → World → Prop), I p s A → Nx p x → (∀ a' B, KeepsFrom w.heap.size A B → Kp s A B → I p s B → Ax x a' B → K a' B) →
      assign.wpIn (F.inRound l) (n - 1 - 1) P (Exit.then K (fun _ _ _ => False)) { tmps := (ps.zip (encs x)).foldl (fun t (p, v) => t.setIfInBounds p v) a.tmps, defers := [] } A)
    (hbody : ∀ (l : Nat) (p : List α) (x : α) (s : σ) (a' : Act) (A : World), w.heap.size ≤ l → (∃ r, A.heap[l]? = some (.loop r)) → I p s A → Ax x a' A → Nx p x → body.wpIn (F.inRound l) (n - 1 - 1) P (stPost w.heap.size Kp I Ix (p ++ [x]) s A) a' A)
    (hdone : ∀ (D : Nat) (p : List α) (s : σ) (A : World), w.heap.size ≤ D → S p → I p s A → A.heap[D]? = some (.deferred (some [])) → Q .normal { a with defers := { target := .collected D, args := #[] } :: a.defers } A)
    (hstop : ∀ (D : Nat) (c : Code) (p : List α) (s : σ) (A : World), w.heap.size ≤ D → Sp p → Ix c p s A → A.heap[D]? = some (.deferred (some [])) → c.wpIn F n P Q { a with defers := { target := .collected D, args := #[] } :: a.defers } A) :
    (Code.rangeFunc g ps assign body).wpIn F n P Q a w := by
  refine wpIn_rangeFunc fun fn hfn => ?_
  rw [hro]
  obtain ⟨rec, hrec⟩ : ∃ rec : LoopState → Option Code → Loop, rec = fun st pe => { state := st, pending := pe, fn, tmps := a.tmps, params := ps, assign, body, defers := w.heap.size } := ⟨_, rfl⟩
  obtain ⟨V, hV⟩ : ∃ V, V = (w.alloc (.deferred (some []))).alloc (.loop (rec .ready none)) := ⟨_, rfl⟩
  obtain ⟨lp, hlp⟩ : ∃ lp, lp = w.heap.size + 1 := ⟨_, rfl⟩
  have vl : V.heap[lp]? = some (.loop (rec .ready none)) := by
    have h := World.alloc_heap_new (w.alloc (.deferred (some []))) (.loop (rec .ready none))
    rw [World.size_alloc] at h
    rw [hV, hlp]; exact h
  have vd : V.heap[w.heap.size]? = some (.deferred (some [])) := by
    rw [hV]; exact (Below.heap_alloc _ _ _ (by simp)).trans (World.alloc_heap_new w _)
  have vb : Below w.heap.size w V := by rw [hV]; exact ((Below.refl _ w).alloc (Nat.le_refl _) _).alloc (by simp) _
  have v0 : I [] s0 V := by rw [hV]; exact hI.alloc (s := ([], s0)) _ (hI.alloc (s := ([], s0)) _ h0)
  refine ⟨lp, [{ target := .collected w.heap.size, args := #[] }], V, { target := .fn (.func gf) lb, args := #[.func (.yield lp) #[] #[]] }, V, gf, #[.func (.yield lp) #[] #[]] ++ lb, V, ?_, ?_, ?_, ?_, fun _ => h1, ?_⟩
  · rw [hV, hlp, hrec]; exact run_enterLoop_outer _ _ _ _ _
  · simp only [resolve, hg]; simp [go_sem]
  · intro f' hf'; simp [Target.leads] at hf'; subst hf'; exact hFg
  · simp [invoke, go_sem, eg]
  · refine (hseq lp (fun p s A => I p s A ∧ A.heap[lp]? = some (.loop (rec .ready none)) ∧ A.heap[w.heap.size]? = some (.deferred (some [])))
      (fun p s A => ∃ c, Ix c p s A ∧ A.heap[lp]? = some (.loop (rec .done (some c))) ∧ A.heap[w.heap.size]? = some (.deferred (some []))) V vb
      (fun p s A s' B h ht => ⟨hIt p s A s' B h.1 ht, (hTr _ _ _ _ ht).same _ _ h.2.1 rfl, (hTr _ _ _ _ ht).same _ _ h.2.2 rfl⟩)
      (fun p s A s' B h ht => by obtain ⟨c, hc, hl, hd⟩ := h; exact ⟨c, hIxt c p s A s' B hc ht, (hTr _ _ _ _ ht).same _ _ hl rfl, (hTr _ _ _ _ ht).same _ _ hd rfl⟩)
      ?_ ⟨v0, vl, vd⟩).mono ?_
    · rintro p x s A ⟨hi, hl, hd⟩ hx
      have hy := run_yield (P := P) (args := encs x) hl (by rw [hrec]; exact hps x)
      rw [hrec] at hy
      refine ⟨fn, _, assign, body, hy, roundIn_of_wpIn hfn (hassign _ p x s A _ hi hx fun a' B kf kp hib hax => ?_)⟩
      clear hy
      have bl := kf.same _ _ (by omega) hl rfl
      have bd := kf.same _ _ (Nat.le_refl _) hd rfl
      have blt : lp < B.heap.size := (Array.getElem?_eq_some_iff.1 bl).1
      refine ⟨_, run_beginRound bl (by rw [hrec]), ?_⟩
      have cl : (B.putObj lp (.loop { rec .ready none with state := .busy })).heap[lp]? = some (.loop { rec .ready none with state := .busy }) := World.putObj_heap_same blt
      have cd : (B.putObj lp (.loop { rec .ready none with state := .busy })).heap[w.heap.size]? = some (.deferred (some [])) := (World.putObj_heap_other (by omega)).trans bd
      have ck : Kp s B (B.putObj lp (.loop { rec .ready none with state := .busy })) := hKb _ _ _ _ _ (by omega) bl rfl rfl
      refine wpIn_mono (hbody _ p x s a' _ (by omega) ⟨_, cl⟩ (hI.putObj (s := (p, s)) _ hib (by omega) bl rfl) ((hAx x a').putObj (s := ()) _ hax (by omega) bl rfl) hx) ?_
      have fin : ∀ (jump : Option Code) (C : World), KeepsFrom w.heap.size (B.putObj lp (.loop { rec .ready none with state := .busy })) C →
          (Instr.endRound lp jump).run P C = .ok (.bool jump.isNone) (C.putObj lp (.loop (rec (if jump.isNone then .ready else .done) jump))) ∧
          C.heap[lp]? = some (.loop { rec .ready none with state := .busy }) ∧
          (C.putObj lp (.loop (rec (if jump.isNone then .ready else .done) jump))).heap[lp]? = some (.loop (rec (if jump.isNone then .ready else .done) jump)) ∧
          (C.putObj lp (.loop (rec (if jump.isNone then .ready else .done) jump))).heap[w.heap.size]? = some (.deferred (some [])) := fun jump C kc => by
        have l3 := kc.same _ _ (by omega) cl rfl
        have r3 := run_endRound (P := P) jump l3
        rw [hrec] at r3 ⊢
        exact ⟨r3, by rw [hrec] at l3; exact l3, World.putObj_heap_same (Array.getElem?_eq_some_iff.1 l3).1, (World.putObj_heap_other (by omega)).trans (kc.same _ _ (Nat.le_refl _) cd rfl)⟩
      rintro e a3 C hp
      cases e with
      | normal =>
        obtain ⟨k3, kp3, i3⟩ := hp
        obtain ⟨hr, l3, l4, d4⟩ := fin none C k3
        exact ⟨_, _, hr, .inl ⟨rfl, ⟨hI.putObj (s := (p ++ [x], s)) _ i3 (by omega) l3 rfl, l4, d4⟩, hKt kp (hKt (hKt ck kp3) (hKb _ _ _ _ _ (by omega) l3 rfl rfl))⟩⟩
      | ret =>
        obtain ⟨k3, kp3, i3⟩ := hp
        obtain ⟨hr, l3, l4, d4⟩ := fin (some .ret) C k3
        exact ⟨_, _, hr, .inr ⟨rfl, ⟨.ret, (hIx _).putObj (s := (p ++ [x], s)) _ i3 (by omega) l3 rfl, l4, d4⟩, hKt kp (hKt (hKt ck kp3) (hKb _ _ _ _ _ (by omega) l3 rfl rfl))⟩⟩
      | exit id =>
        obtain ⟨k3, kp3, i3⟩ := hp
        obtain ⟨hr, l3, l4, d4⟩ := fin (some (.exit id)) C k3
        exact ⟨_, _, hr, .inr ⟨rfl, ⟨.exit id, (hIx _).putObj (s := (p ++ [x], s)) _ i3 (by omega) l3 rfl, l4, d4⟩, hKt kp (hKt (hKt ck kp3) (hKb _ _ _ _ _ (by omega) l3 rfl rfl))⟩⟩
      | goto t =>
        obtain ⟨k3, kp3, i3⟩ := hp
        obtain ⟨hr, l3, l4, d4⟩ := fin (some (.goto t)) C k3
        exact ⟨_, _, hr, .inr ⟨rfl, ⟨.goto t, (hIx _).putObj (s := (p ++ [x], s)) _ i3 (by omega) l3 rfl, l4, d4⟩, hKt kp (hKt (hKt ck kp3) (hKb _ _ _ _ _ (by omega) l3 rfl rfl))⟩⟩
      | panic ch => exact hp.elim
      | outgrown => exact hp.elim
    · rintro e C ⟨⟨v, rfl⟩, (⟨p, s, hS, hi, hl, hd⟩ | ⟨p, s, hSp, c, hi, hl, hd⟩)⟩
      · exact ⟨none, _, by have := run_endLoop (P := P) hl (by rw [hrec]; simp); rw [hrec] at this; exact this, hdone _ p s _ (Nat.le_refl _) hS (hI.putObj (s := (p, s)) _ hi (by omega) hl rfl) ((World.putObj_heap_other (by omega)).trans hd)⟩
      · exact ⟨some c, _, by have := run_endLoop (P := P) hl (by rw [hrec]; simp); rw [hrec] at this; exact this, hstop _ c p s _ (Nat.le_refl _) hSp ((hIx c).putObj (s := (p, s)) _ hi (by omega) hl rfl) ((World.putObj_heap_other (by omega)).trans hd)⟩
end
end Go.Proofs.YtjdpolhjbkpnlaaGreatDoor
namespace Go.Proofs.YtjdpolhjbkpnlaaGreatDoor
open Go.RowKit
/-- What stays behind a call that may write blocks of F alone. -/
structure Stay (F : Nat → Prop) (w w' : World) : Prop where
  os : w'.os = w.os
  tape : w'.tape = w.tape
  output : w'.output = w.output
  size : w.heap.size ≤ w'.heap.size
  block : ∀ k, k < w.heap.size → ¬ F k → w'.heap[k]? = w.heap[k]?
theorem Stay.refl (F : Nat → Prop) (w : World) : Stay F w w := ⟨rfl, rfl, rfl, Nat.le_refl _, fun _ _ _ => rfl⟩
theorem Stay.trans {F : Nat → Prop} {a b c : World} (h : Stay F a b) (k : Stay F b c) : Stay F a c :=
  ⟨k.os.trans h.os, k.tape.trans h.tape, k.output.trans h.output, Nat.le_trans h.size k.size, fun i hi hF => (k.block i (Nat.lt_of_lt_of_le hi h.size) hF).trans (h.block i hi hF)⟩
theorem Stay.mono {F G : Nat → Prop} {a b : World} (h : Stay F a b) (hG : ∀ k, k < a.heap.size → F k → G k) : Stay G a b :=
  ⟨h.os, h.tape, h.output, h.size, fun i hi hn => h.block i hi fun hF => hn (hG i hi hF)⟩
/-- .. the second may write what the first has made, too. -/
theorem Stay.andThen {F G : Nat → Prop} {a b c : World} (h : Stay F a b) (k : Stay G b c) (hG : ∀ i, i < a.heap.size → G i → F i) : Stay F a c :=
  ⟨k.os.trans h.os, k.tape.trans h.tape, k.output.trans h.output, Nat.le_trans h.size k.size, fun i hi hF => (k.block i (Nat.lt_of_lt_of_le hi h.size) fun hg => hF (hG i hi hg)).trans (h.block i hi hF)⟩
theorem Stay.below {F : Nat → Prop} {a b : World} (h : Below a.heap.size a b) : Stay F a b := ⟨h.os, h.tape, h.output, h.size, fun i hi _ => h.block i hi⟩
theorem Stay.toBelow {F : Nat → Prop} {a b : World} {B : Nat} (h : Stay F a b) (hF : ∀ k, k < B → ¬ F k) (hB : B ≤ a.heap.size) : Below B a b := ⟨h.os, h.tape, h.output, h.size, fun i hi => h.block i (Nat.lt_of_lt_of_le hi hB) (hF i hi)⟩
theorem Stay.grown {F : Nat → Prop} {a b : World} {r : Option Nat} (h : a.grownBy b r) (hF : ∀ k, r = some k → F k) : Stay F a b := ⟨h.os, h.tape, h.output, h.size, fun i hi hn => h.block i hi fun e => hn (hF i e.symm)⟩
theorem Stay.drew {F : Nat → Prop} {a b : World} (h : Stay F a b) : Stay F a b.drew := ⟨h.os, h.tape, h.output, h.size, h.block⟩
theorem Stay.undrew {F : Nat → Prop} {a b : World} (h : Stay F a.drew b) : Stay F a b := ⟨h.os, h.tape, h.output, h.size, h.block⟩
theorem Stay.alloc {F : Nat → Prop} {a b : World} (h : Stay F a b) (o : Obj) : Stay F a (b.alloc o) := h.trans (.grown (World.grownBy_alloc b o none) (by simp))
theorem Stay.setCell {F : Nat → Prop} {a b : World} (h : Stay F a b) {p : Addr} (hp : p.block < a.heap.size → F p.block) (u : Value) : Stay F a (b.setCell p u) :=
  ⟨h.os, h.tape, h.output, by simpa using h.size, fun i hi hn => (Below.heap_setCell b p u i fun e => hn (e ▸ hp (e ▸ hi))).trans (h.block i hi hn)⟩
theorem Hid.mk {p : Prop} (h : p) : Hid p := h
abbrev Pt (p : Nat) : Value := .pointer (some ⟨p, 0, none⟩)
theorem nm_size (s : ByteArray) : s.data.toList.length = s.size := by simp
theorem strCells_BV (s : ByteArray) : Lib.strCells s = s.data.toList.map BV := rfl
theorem row_kept {F : Nat → Prop} {w w' : World} {B e sz : Nat} {v : Value} {n : Nat} {xs : List Value} (h : w.ownsRow B e sz v n xs) (s : Stay F w w') (hn : ∀ k, v.ownBlock = some k → ¬ F k) : w'.ownsRow B e sz v n xs := by
  rcases h with ⟨h1, h2 | ⟨g, cap, cur, h2, h3, h4, h5⟩⟩
  · exact ⟨h1, .inl h2⟩
  · exact ⟨h1, .inr ⟨g, cap, cur, h2, h3, (s.block g (Array.getElem?_eq_some_iff.1 h4).1 (hn _ (by rw [h2]; rfl))).trans h4, h5⟩⟩
theorem slice_form {w : World} {B e sz : Nat} {v : Value} {n : Nat} {xs : List Value} (h : w.ownsRow B e sz v n xs) : ∃ a cap, v = .slice a n cap ∧ n ≤ cap := by
  rcases h.2 with ⟨rfl, rfl⟩ | ⟨g, cap, cur, rfl, _, _, hc, _⟩
  · exact ⟨none, 0, rfl, Nat.le_refl _⟩
  · exact ⟨_, cap, rfl, hc⟩
theorem row_block {w : World} {B e sz : Nat} {v : Value} {n k : Nat} {xs : List Value} (h : w.ownsRow B e sz v n xs) (hk : v.ownBlock = some k) : ∃ cur, w.heap[k]? = some (.cells cur e (0, 0)) := by
  rcases h.2 with ⟨rfl, _⟩ | ⟨g, cap, cur, rfl, _, hg, _⟩
  · cases hk
  · cases hk; exact ⟨cur, hg⟩
theorem row_lt {w : World} {B e sz : Nat} {v : Value} {n k : Nat} {xs : List Value} (h : w.ownsRow B e sz v n xs) (hk : v.ownBlock = some k) : k < w.heap.size := by
  obtain ⟨cur, hc⟩ := row_block h hk
  exact (Array.getElem?_eq_some_iff.1 hc).1
end Go.Proofs.YtjdpolhjbkpnlaaGreatDoor
namespace Go.Proofs.YtjdpolhjbkpnlaaGreatDoor
open Go.RowKit Go.Proofs.SealMath
/-- Two bytes, as a text, whatever was laid behind them. -/
theorem conv_two {W W' : World} {k : Int} (hk : 0 ≤ k ∧ k ≤ 255) {B : Nat} (hB : W.heap.size < B) (hb : Below B (W.alloc (.cells #[.int .u8 167, .int .u8 k] 5)) W') :
    (convert 98 9 (.slice (some ⟨W.heap.size, 0, none⟩) 2 2)).run Tryz.prog W' = .ok (.string ⟨#[167, UInt8.ofNat k.toNat]⟩) W' := by
  have hh := heap_alloc_last W (.cells #[.int .u8 167, .int .u8 k] 5)
  exact run_convert_bytes_back W' 98 9 5 ⟨W.heap.size, 0, none⟩ 2 [167, UInt8.ofNat k.toNat] Tryz.underlying98 Tryz.underlying5 Tryz.underlying9 (fun j hj => by
    have ea : (⟨W.heap.size, 0, none⟩ : Addr).add j = ⟨W.heap.size, j, none⟩ := by unfold Addr.add; split <;> simp_all
    rw [ea, hb.cell (p := ⟨W.heap.size, j, none⟩) hB, cell_of_row _ _ j _ 5 (0, 0) hh]
    have : j = 0 ∨ j = 1 := by simp at hj; omega
    rcases this with rfl | rfl
    · rfl
    · have e : (UInt8.ofNat k.toNat).toNat = k.toNat := by rw [u8n]; omega
      have e2 : ((k.toNat : Nat) : Int) = k := by omega
      simp [e, e2])
theorem hd_bytes (k n : Nat) : (⟨#[167, UInt8.ofNat k]⟩ : ByteArray) ++ ⟨(fixL n 4).toArray⟩ = ⟨(hdL k n).toArray⟩ := by
  apply ba_ext; simp [ByteArray.data_append, hdL]
theorem conv_two_d {W W' : World} {k : Int} (hk : 0 ≤ k ∧ k ≤ 255) (hb : Below (W.alloc (.cells #[.int .u8 167, .int .u8 k] 5)).drew.heap.size (W.alloc (.cells #[.int .u8 167, .int .u8 k] 5)).drew W') :
    (convert 98 9 (.slice (some ⟨W.heap.size, 0, none⟩) 2 2)).run Tryz.prog W' = .ok (.string ⟨#[167, UInt8.ofNat k.toNat]⟩) W' :=
  conv_two hk (B := (W.alloc (.cells #[.int .u8 167, .int .u8 k] 5)).heap.size) (by simp) ((Below.refl _ _).drew.trans hb)
set_option maxRecDepth 100000 in
set_option maxHeartbeats 4000000 in
theorem rhead_ok (k n : Nat) (w : World) (h2 : k ≤ 255) (h3 : n ≤ 65536) :
    Calls Tryz.prog 102 #[.int .i64 k, .int .i64 n] w fun e w' => e = .returned (.string ⟨(hdL k n).toArray⟩) ∧ Below w.heap.size w w' := by
  have hwk : IntKind.u8.wrap (k : Int) = k := by rw [IntKind.wrap_u8]; omega
  have hwn : IntKind.u64.wrap (n : Int) = n := by rw [IntKind.wrap_u64]; omega
  have hk : 0 ≤ (k : Int) ∧ (k : Int) ≤ 255 := by omega
  have hcA : ∀ W : World, (convert 98 9 (.slice (some ⟨W.heap.size, 0, none⟩) 2 2)).run Tryz.prog (W.alloc (.cells #[.int .u8 167, .int .u8 k] 5)).drew = .ok (.string ⟨#[167, UInt8.ofNat k]⟩) (W.alloc (.cells #[.int .u8 167, .int .u8 k] 5)).drew :=
    fun W => conv_two hk (Nat.lt_succ_self _) (Below.refl _ _).drew
  have hcB : ∀ W : World, (convert 98 9 (.slice (some ⟨W.heap.size, 0, none⟩) 2 2)).run Tryz.prog (W.alloc (.cells #[.int .u8 167, .int .u8 k] 5)) = .ok (.string ⟨#[167, UInt8.ofNat k]⟩) (W.alloc (.cells #[.int .u8 167, .int .u8 k] 5)) :=
    fun W => conv_two hk (Nat.lt_succ_self _) (Below.refl _ _)
  have hfl := fixL_len n 4
  go_enter Tryz.func102, Tryz.ntmps102
  go_wp2
  go_region_with (go_at_call 104; refine (fixed_ok n 4 _ (by omega) (by omega) (by omega)).mono ?_; rintro e w1 ⟨rfl, b1⟩; first | (have hcC := conv_two_d hk b1) | skip)
  all_goals
    clear hcA hcB
    go_wp2
    go_ret
    refine ⟨congrArg (fun x => Ending.returned (Value.string x)) (hd_bytes k n), ?_⟩
    first
      | exact chain (((Below.refl _ w).alloc (Nat.le_refl _) _).drew) b1 (Nat.le_refl _)
      | exact (chain ((Below.refl _ w).drew) b1 (Nat.le_refl _)).alloc (chain ((Below.refl _ w).drew) b1 (Nat.le_refl _)).size _
theorem fr_bytes2 (H L p M : ByteArray) (k s t : Nat) (hH : H.data.toList = hdL k p.data.toList.length) (hs : s = crc 0 H.data.toList) (hL : L = ⟨(lowL s).toArray⟩) (ht : t = crc 0 (H ++ p).data.toList) (hM : M = ⟨(lowL t).toArray⟩) :
    H ++ L ++ p ++ M = ⟨(frL k p.data.toList).toArray⟩ := by
  refine fr_bytes H L p M k s t hH hs hL ?_ hM
  rw [ht, hs, ByteArray.data_append, Array.toList_append, crc_append]
set_option maxRecDepth 100000 in
set_option maxHeartbeats 4000000 in
theorem rframe_ok (k : Nat) (p : ByteArray) (w : World) (h1 : 1 ≤ k) (h2 : k ≤ 255) (h3 : p.size ≤ 65536) :
    Calls Tryz.prog 85 #[.int .i64 k, .string p] w fun e w' => e = .returned (.tuple #[.string ⟨(frL k p.data.toList).toArray⟩, .int .i64 0]) ∧ Below w.heap.size w w' := by
  go_enter Tryz.func85, Tryz.ntmps85
  go_wp2_with fail
  refine (rhead_ok k p.size _ h2 h3).mono ?_
  rintro e w2 ⟨rfl, b2⟩
  obtain ⟨H, hH⟩ : ∃ H : ByteArray, H = ⟨(hdL k p.size).toArray⟩ := ⟨_, rfl⟩
  rw [← hH]
  have hHl : H.data.toList = hdL k p.data.toList.length := by
    rw [hH]; rfl
  have HH : Hid (H.data.toList = hdL k p.data.toList.length) := hHl
  have hHs : H.size = 6 := by
    have : H.data.toList.length = H.size := Array.length_toList
    rw [← this, hHl, hdL_len]
  clear hH hHl
  go_wp2_with fail
  refine (rsum_any H w2 (by omega)).mono ?_
  rintro e w3 ⟨rfl, rfl⟩
  have hsl := crc_lt (s := 0) H.data.toList (by omega)
  obtain ⟨s, hs⟩ : ∃ s, s = crc 0 H.data.toList := ⟨_, rfl⟩
  rw [← hs]
  rw [← hs] at hsl
  have HS : Hid (s = crc 0 H.data.toList) := hs
  clear hs
  go_wp2_with fail
  refine (rlow_any s w3 hsl).mono ?_
  rintro e w4 ⟨rfl, b4⟩
  obtain ⟨L, hL⟩ : ∃ L : ByteArray, L = ⟨(lowL s).toArray⟩ := ⟨_, rfl⟩
  rw [← hL]
  have HL : Hid (L = ⟨(lowL s).toArray⟩) := hL
  have hLs : L.size = 4 := by rw [hL]; rfl
  clear hL
  have b24 := chain b2 b4 (Nat.le_refl _)
  go_wp2_with fail
  refine (rsum_any (H ++ p) w4 (by rw [ByteArray.size_append]; omega)).mono ?_
  rintro e w5 ⟨rfl, rfl⟩
  have htl := crc_lt (s := 0) (H ++ p).data.toList (by omega)
  obtain ⟨t, hts⟩ : ∃ t, t = crc 0 (H ++ p).data.toList := ⟨_, rfl⟩
  rw [← hts]
  rw [← hts] at htl
  have HT : Hid (t = crc 0 (H ++ p).data.toList) := hts
  clear hts
  go_wp2_with fail
  refine (rlow_any t w5 htl).mono ?_
  rintro e w6 ⟨rfl, b6⟩
  obtain ⟨M, hM⟩ : ∃ M : ByteArray, M = ⟨(lowL t).toArray⟩ := ⟨_, rfl⟩
  rw [← hM]
  have HM : Hid (M = ⟨(lowL t).toArray⟩) := hM
  have hMs : M.size = 4 := by rw [hM]; rfl
  clear hM
  go_wp2
  go_ret2
  refine ⟨ret2 (congrArg Value.string ?_) rfl, chain b24 b6 (Nat.le_refl _)⟩
  exact fr_bytes2 H L p M k s t HH.out HS.out HL.out HT.out HM.out
set_option maxRecDepth 100000 in
set_option maxHeartbeats 1000000 in
theorem rframe_any (k : Int) (p : ByteArray) (w : World) :
    Calls Tryz.prog 85 #[.int .i64 k, .string p] w fun e w' => e = .returned (.tuple #[.string ⟨(frT k p).toArray⟩, .int .i64 (frE k p)]) ∧ Below w.heap.size w w' := by
  unfold frT frE
  by_cases h1 : 1 ≤ k
  · by_cases h2 : k ≤ 255
    · have hh : 1 ≤ k ∧ k ≤ 255 := ⟨h1, h2⟩
      rw [if_pos hh, if_pos hh]
      clear hh
      by_cases h3 : p.size ≤ 65536
      · rw [if_pos h3, if_pos h3]
        obtain ⟨a, rfl⟩ : ∃ a : Nat, k = a := ⟨k.toNat, by omega⟩
        exact rframe_ok a p w (by omega) (by omega) h3
      · rw [if_neg h3, if_neg h3]
        go_enter Tryz.func85, Tryz.ntmps85
        go_wp2
        go_ret2
        exact ⟨rfl, Below.refl _ _⟩
    · have hh : ¬ (1 ≤ k ∧ k ≤ 255) := by omega
      rw [if_neg hh, if_neg hh]
      clear hh
      go_enter Tryz.func85, Tryz.ntmps85
      go_wp2
      go_ret2
      exact ⟨rfl, Below.refl _ _⟩
  · have hh : ¬ (1 ≤ k ∧ k ≤ 255) := by omega
    rw [if_neg hh, if_neg hh]
    clear hh
    go_enter Tryz.func85, Tryz.ntmps85
    go_wp2
    go_ret2
    exact ⟨rfl, Below.refl _ _⟩
end Go.Proofs.YtjdpolhjbkpnlaaGreatDoor
set_option linter.unusedVariables false
set_option linter.unusedSimpArgs false
namespace Go.Proofs.YtjdpolhjbkpnlaaGreatDoor
open Go.RowKit Go.Proofs.SealMath
theorem putvar_x (v : Nat) (w : World) (hv : v < 18446744073709551616) :
    Calls Tryz.prog 100 #[.int .u64 v] w fun e w' => ∃ X : ByteArray, e = .returned (.string X) ∧ X.size ≤ 10 ∧ Hid (X.data.toList = pvL 9 v) ∧ Below w.heap.size w w' :=
  (putvar_any v w hv).mono fun e w' h => ⟨_, h.1, by have := (pvL_len 9 v).2; show (pvL 9 v).toArray.size ≤ 10; simpa using this, rfl, h.2⟩
theorem rputvar_x (v : Nat) (w : World) (hv : v < 18446744073709551616) :
    Calls Tryz.prog 87 #[.int .u64 v] w fun e w' => ∃ X : ByteArray, e = .returned (.string X) ∧ X.size ≤ 10 ∧ Hid (X.data.toList = pvL 9 v) ∧ Below w.heap.size w w' :=
  (rputvar_any v w hv).mono fun e w' h => ⟨_, h.1, by have := (pvL_len 9 v).2; show (pvL 9 v).toArray.size ≤ 10; simpa using this, rfl, h.2⟩
theorem below_d {w w' : World} (b : Below w.drew.heap.size w.drew w') : Below w.heap.size w w' := ⟨b.os, b.tape, b.output, b.size, b.block⟩
theorem cell_lat {W W' : World} {p : Addr} {v : Value} (hb : Below W.heap.size W W') (h : W.cell? p = some v) : W'.cell? p = some v := (hb.cell (World.block_lt_of_cell? W p h)).trans h
theorem b_drew (W : World) : Below W.heap.size W W.drew := (Below.refl _ W).drew
theorem Tab.lat {w w' : World} (h : Tab w) (hb : Below w.heap.size w w') : Tab w' := fun i hi => cell_lat hb (h i hi)
theorem Tab.pos {w : World} (h : Tab w) : 0 < w.heap.size := World.block_lt_of_cell? w ⟨0, 0, none⟩ (h 0 (by omega))
/-- A struct's cells lie in a block. -/
def SAt (w : World) (g : Nat) (l : List Value) : Prop := ∀ j v, l[j]? = some v → w.cell? ⟨g, j, none⟩ = some v
theorem SAt.new (w : World) (l : List Value) (t : TypeId) : SAt (w.alloc (.cells l.toArray t)) w.heap.size l := fun j v hv => by
  rw [cell_of_row _ _ j _ t (0, 0) (heap_alloc_last w _)]
  simpa using hv
theorem SAt.below {w w' : World} {g B : Nat} {l : List Value} (h : SAt w g l) (b : Below B w w') (hg : g < B) : SAt w' g l := fun j v hv => (b.cell (p := ⟨g, j, none⟩) hg).trans (h j v hv)
theorem number_x (n : Nat) (w : World) (hn : n < 9223372036854775808) :
    Calls Tryz.prog 75 #[.int .i64 n] w fun e w' => ∃ X : ByteArray, e = .returned (.string X) ∧ X.size ≤ 10 ∧ Hid (X.data.toList = pvL 9 n) ∧ Below w.heap.size w w' := by
  have hw : IntKind.u64.wrap (n : Int) = n := by rw [IntKind.wrap_u64]; omega
  go_enter Tryz.func75, Tryz.ntmps75
  go_wp2_with (go_at_call 100; refine (putvar_x _ _ (by omega)).mono ?_; rintro e w2 ⟨X, rfl, hX, HX, b2⟩)
  go_ret
  exact ⟨X, rfl, hX, HX, b2⟩
theorem fixed_x (n : Nat) (w : World) (hn : n < 4294967296) :
    Calls Tryz.prog 76 #[.int .u64 n, .int .i64 4] w fun e w' => ∃ X : ByteArray, e = .returned (.string X) ∧ X.size ≤ 4 ∧ Hid (X.data.toList = fixL n 4) ∧ Below w.heap.size w w' := by
  go_enter Tryz.func76, Tryz.ntmps76
  go_wp2_with (go_at_call 95; refine (putfix_ok n 4 _ (by omega) (by omega) (by omega) (by omega)).mono ?_; rintro e w2 ⟨rfl, b2⟩)
  go_ret
  exact ⟨_, rfl, by show (fixL n 4).toArray.size ≤ 4; simp [fixL_len], rfl, b2⟩
end Go.Proofs.YtjdpolhjbkpnlaaGreatDoor
set_option linter.unusedVariables false
set_option linter.unusedSimpArgs false
namespace Go.Proofs.YtjdpolhjbkpnlaaGreatDoor
open Go.RowKit Go.Proofs.SealMath
theorem pl_fin {v i : Nat} {s : Int} {d : Bool} {c X Y : ByteArray} {w w' : World} (h1 : Hid (X.data.toList = fixL v 4)) (h2 : Hid (Y.data.toList = pvL 9 i)) (k1 : X.size ≤ 4) (k2 : Y.size ≤ 10) (hc : c.size ≤ 128) (hb : Below w.heap.size w w') :
    ∃ Z : ByteArray, Ending.returned (.string (X ++ c ++ Y)) = .returned (.string Z) ∧ Z.size ≤ 142 ∧ Hid (Z.data.toList = plB ⟨v, c, i, s, d⟩) ∧ Below w.heap.size w w' :=
  ⟨_, rfl, by simp only [ByteArray.size_append]; omega, by show _ = _; simp [plB, h1.out, h2.out], hb⟩
set_option maxHeartbeats 4000000 in
set_option maxRecDepth 100000 in
theorem place_x (v i : Nat) (s : Int) (d : Bool) (c : ByteArray) (w : World) (hv : v < 4294967296) (hi : i < 9223372036854775808) (hc : c.size ≤ 128) :
    Calls Tryz.prog 98 #[.agg #[.int .i64 v, .string c, .int .i64 i, .int .i64 s, .bool d]] w fun e w' => ∃ X : ByteArray, e = .returned (.string X) ∧ X.size ≤ 142 ∧ Hid (X.data.toList = plB ⟨v, c, i, s, d⟩) ∧ Below w.heap.size w w' := by
  have hw : IntKind.u64.wrap (v : Int) = v := by rw [IntKind.wrap_u64]; omega
  have U0 := SAt.new w (enC ⟨v, c, i, s, d⟩) 38
  have ba : Below w.heap.size w (w.alloc (.cells (enC ⟨v, c, i, s, d⟩).toArray 38)) := (Below.refl _ w).alloc (Nat.le_refl _) _
  obtain ⟨w1, hw1⟩ : ∃ w1, w1 = w.alloc (.cells (enC ⟨v, c, i, s, d⟩).toArray 38) := ⟨_, rfl⟩
  go_enter Tryz.func98, Tryz.ntmps98
  go_wp2
  rw [← hw1] at U0 ba
  have e1 : w.alloc (.cells #[.int .i64 v, .string c, .int .i64 i, .int .i64 s, .bool d] 38) = w1 := hw1.symm
  rw [e1]
  clear hw1 e1
  have q0 := U0 0 _ rfl
  have q1 := U0 1 _ rfl
  have q2 := U0 2 _ rfl
  clear U0
  go_region_held (fun w' => Below w1.heap.size w1 w' ∧ w'.cell? ⟨w.heap.size, 0, none⟩ = some (.int .i64 v) ∧ w'.cell? ⟨w.heap.size, 1, none⟩ = some (.string c) ∧ w'.cell? ⟨w.heap.size, 2, none⟩ = some (.int .i64 i))
    ((refine (fun hb => ⟨hb, cell_lat hb q0, cell_lat hb q1, cell_lat hb q2⟩) ?_; first | exact bb | exact b_drew w1))
    (first
      | (go_at_call 76; refine (fixed_x _ _ (by omega)).mono ?_; rintro e w2 ⟨X, rfl, hX, HX, b2⟩; have bb : Below w1.heap.size w1 w2 := (by first | exact chain bb b2 (Nat.le_refl _) | exact below_d b2))
      | (go_at_call 75; refine (number_x _ _ (by omega)).mono ?_; rintro e w2 ⟨Y, rfl, hY, HY, b2⟩; have bb : Below w1.heap.size w1 w2 := (by first | exact chain bb b2 (Nat.le_refl _) | exact below_d b2)))
  all_goals
    go_wp2
    go_ret
    exact pl_fin HX HY hX hY hc (chain ba bb (Nat.le_refl _))
end Go.Proofs.YtjdpolhjbkpnlaaGreatDoor
