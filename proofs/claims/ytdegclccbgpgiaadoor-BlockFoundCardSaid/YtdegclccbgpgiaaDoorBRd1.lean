/-
  DERIVED. What is read of a sorted file's bytes: head and blocks, without a program.
-/
import Derived.Test.YtdegclccbgpgiaaDoorBRd0
set_option linter.unusedVariables false
set_option linter.unusedSimpArgs false
namespace Go.Proofs.YtdegclccbgpgiaaDoor
open Go.RowKit Go.Proofs.SealMath
/-- The head without a width. -/
def h0 : Hd := ⟨0, 0, 0, 0, 0, 0⟩
/-- Numbers one behind the other. -/
def nsA (b : ByteArray) : Nat → Nat → Option (List Nat)
  | 0, _ => some []
  | k + 1, p => if (vA b (p : Int)).2.2 = 0 then (nsA b k (vA b (p : Int)).2.1).map ((vA b (p : Int)).1 :: ·) else none
/-- The head that bytes say. -/
def hdR (b : ByteArray) : Hd := match nsA b 6 0 with
  | some [a, c, d, e, f, g] => ⟨w64 a, w64 c, w64 d, w64 e, w64 f, w64 g⟩
  | _ => h0
theorem nsA_len (b : ByteArray) : ∀ (k p : Nat) (l : List Nat), nsA b k p = some l → l.length = k
  | 0, p, l, h => by simp [nsA] at h; subst h; rfl
  | k + 1, p, l, h => by
    rw [nsA] at h
    split at h
    · cases h1 : nsA b k (vA b (p : Int)).2.1 with
      | none => rw [h1] at h; cases h
      | some m =>
        rw [h1] at h
        simp at h
        subst h
        rw [List.length_cons, nsA_len b k _ m h1]
    · cases h
theorem nsA_put (b : ByteArray) : ∀ (l : List Nat) (p : Nat), (∀ n ∈ l, n < 18446744073709551616) → sub b p (l.flatMap (pvL 9)).length = l.flatMap (pvL 9) → p + (l.flatMap (pvL 9)).length ≤ b.size → nsA b l.length p = some l
  | [], p, _, _, _ => rfl
  | n :: l, p, hn, hs, hb => by
    rw [List.flatMap_cons] at hs hb
    rw [List.length_append] at hs hb
    obtain ⟨s1, s2⟩ := sub_cut b p _ _ _ _ hs rfl rfl
    have h1 := vA_put b p n (hn n (by simp)) s1 (by omega)
    rw [List.length_cons, nsA, h1]
    simp only [if_true]
    rw [nsA_put b l _ (fun x hx => hn x (List.mem_cons_of_mem _ hx)) s2 (by omega)]
    rfl
theorem sub_all (l : List UInt8) : sub ⟨l.toArray⟩ 0 l.length = l := by unfold sub; rw [List.drop_zero, List.take_of_length_le (Nat.le_refl _)]
theorem ba_len (l : List UInt8) : (⟨l.toArray⟩ : ByteArray).size = l.length := by rw [ba_size]
theorem hdR_put (h : Hd) (n : Nat) (h1 : 0 ≤ h.w ∧ h.w < 9223372036854775808) (h2 : 0 ≤ h.t ∧ h.t < 9223372036854775808) (h3 : 0 ≤ h.b ∧ h.b < 9223372036854775808) (h4 : 0 ≤ h.lo ∧ h.lo < 9223372036854775808) (h5 : 0 ≤ h.hi ∧ h.hi < 9223372036854775808) (h6 : n < 9223372036854775808) :
    hdR ⟨(hdB h n).toArray⟩ = { h with n := n } := by
  obtain ⟨wd, t, b, lo, hi, m⟩ := h
  dsimp only at *
  obtain ⟨wd, rfl⟩ : ∃ V : Nat, wd = V := ⟨wd.toNat, by omega⟩
  obtain ⟨t, rfl⟩ : ∃ V : Nat, t = V := ⟨t.toNat, by omega⟩
  obtain ⟨b, rfl⟩ : ∃ V : Nat, b = V := ⟨b.toNat, by omega⟩
  obtain ⟨lo, rfl⟩ : ∃ V : Nat, lo = V := ⟨lo.toNat, by omega⟩
  obtain ⟨hi, rfl⟩ : ∃ V : Nat, hi = V := ⟨hi.toNat, by omega⟩
  have e : hdB ⟨wd, t, b, lo, hi, m⟩ n = [wd, t, b, lo, hi, n].flatMap (pvL 9) := by
    unfold hdB
    simp only [Int.toNat_natCast, List.flatMap_cons, List.flatMap_nil, List.append_nil]
  have hp := nsA_put ⟨(hdB ⟨wd, t, b, lo, hi, m⟩ n).toArray⟩ [wd, t, b, lo, hi, n] 0 (by
    intro x hx
    simp only [List.mem_cons, List.not_mem_nil, or_false] at hx
    omega) (by rw [← e, sub_all]) (by rw [← e, ba_len]; omega)
  unfold hdR
  rw [show [wd, t, b, lo, hi, n].length = 6 from rfl] at hp
  rw [hp]
  simp only []
  rw [w64_lt (by omega), w64_lt (by omega), w64_lt (by omega), w64_lt (by omega), w64_lt (by omega), w64_lt (by omega)]
theorem psA_next {b : ByteArray} {a : Nat} (h : (psA b a).2.2.2 = 0) : a < (psA b a).2.2.1 ∧ (psA b a).2.2.1 ≤ b.size ∧ (psA b a).2.1.length + 14 + a = (psA b a).2.2.1 := by
  obtain ⟨k, p, h1, h2, h3, h4, h5, h6⟩ := psA_yes b a h
  rw [h5]; dsimp only; omega
/-- The payloads of the blocks' frames from a place on. -/
def blksF : Nat → ByteArray → Nat → List (List UInt8)
  | 0, _, _ => []
  | f + 1, b, a => if (psA b a).2.2.2 = 0 ∧ (psA b a).1 = 5 then (psA b a).2.1 :: blksF f b (psA b a).2.2.1 else []
def blks (b : ByteArray) (a : Nat) : List (List UInt8) := blksF (b.size + 1) b a
theorem psA_end (b : ByteArray) (a : Nat) (h : b.size < a + 10) : ¬ (psA b a).2.2.2 = 0 := fun e => by
  obtain ⟨k, p, h1, h2, h3, h4, h5, h6⟩ := psA_yes b a e
  omega
theorem blksF_more (b : ByteArray) : ∀ (f g a : Nat), b.size + 1 - a ≤ f → b.size + 1 - a ≤ g → blksF f b a = blksF g b a
  | 0, 0, a, _, _ => rfl
  | 0, g + 1, a, h1, h2 => by rw [blksF, blksF, if_neg (fun h => psA_end b a (by omega) h.1)]
  | f + 1, 0, a, h1, h2 => by rw [blksF, blksF, if_neg (fun h => psA_end b a (by omega) h.1)]
  | f + 1, g + 1, a, h1, h2 => by
    rw [blksF, blksF]
    split
    · rename_i h
      have := psA_next h.1
      rw [blksF_more b f g _ (by omega) (by omega)]
    · rfl
theorem blks_no {b : ByteArray} {a : Nat} (h : ¬ ((psA b a).2.2.2 = 0 ∧ (psA b a).1 = 5)) : blks b a = [] := by unfold blks; rw [blksF, if_neg h]
theorem blks_yes {b : ByteArray} {a : Nat} (h : (psA b a).2.2.2 = 0 ∧ (psA b a).1 = 5) : blks b a = (psA b a).2.1 :: blks b (psA b a).2.2.1 := by
  have := psA_next h.1
  unfold blks
  rw [blksF, if_pos h, blksF_more b b.size (b.size + 1) _ (by omega) (by omega)]
/-- How many bytes the blocks have together. -/
theorem blks_sum (b : ByteArray) : ∀ (f a : Nat), b.size + 1 - a ≤ f → (blks b a = [] ∨ ((blks b a).map (·.length + 14)).sum + a ≤ b.size)
  | 0, a, h => .inl (blks_no (fun h1 => psA_end b a (by omega) h1.1))
  | f + 1, a, h => by
    by_cases h1 : (psA b a).2.2.2 = 0 ∧ (psA b a).1 = 5
    · have h2 := psA_next h1.1
      right
      rw [blks_yes h1]
      rcases blks_sum b f (psA b a).2.2.1 (by omega) with h3 | h3
      · rw [h3]
        simp only [List.map_cons, List.map_nil, List.sum_cons, List.sum_nil]
        omega
      · simp only [List.map_cons, List.sum_cons]
        omega
    · exact .inl (blks_no h1)
/-- What read answers: a head with which entries can be read, and the blocks. -/
def rdA (b : ByteArray) : Option (Hd × List (List UInt8)) :=
  if (psA b 0).2.2.2 = 0 ∧ (psA b 0).1 = 4 then
    if hdE (hdR ⟨(psA b 0).2.1.toArray⟩) = 0 ∧ 0 ≤ (hdR ⟨(psA b 0).2.1.toArray⟩).n ∧ (hdR ⟨(psA b 0).2.1.toArray⟩).n ≤ (b.size : Int) / ((hdR ⟨(psA b 0).2.1.toArray⟩).w / 8 + 7) then some (hdR ⟨(psA b 0).2.1.toArray⟩, blks b (psA b 0).2.2.1)
    else none
  else none
/-- All entries of a file that was read. -/
def alA (cb : Nat) (bl : List (List UInt8)) : List En := bl.flatMap fun p => ents ⟨p.toArray⟩ 0 cb
/-- How many bytes a code has. -/
def cbH (h : Hd) : Nat := (h.w / 8).toNat
/-- What Open answers. -/
def opA (b : ByteArray) : Option (Hd × List (List UInt8)) :=
  match rdA b with
  | none => none
  | some (h, bl) => if bdE h (alA (cbH h) bl) = 0 ∧ bdT h (alA (cbH h) bl) = b.data.toList then some (h, bl) else none
theorem rdA_some {b : ByteArray} {h : Hd} {bl : List (List UInt8)} (e : rdA b = some (h, bl)) : hdE h = 0 ∧ 0 ≤ h.n ∧ h.n ≤ (b.size : Int) / (h.w / 8 + 7) ∧ (bl.map (·.length + 14)).sum ≤ b.size := by
  unfold rdA at e
  split at e
  · rename_i h1
    split at e
    · rename_i h2
      simp only [Option.some.injEq, Prod.mk.injEq] at e
      obtain ⟨rfl, rfl⟩ := e
      refine ⟨h2.1, h2.2.1, h2.2.2, ?_⟩
      rcases blks_sum b (b.size + 1) (psA b 0).2.2.1 (by omega) with h3 | h3
      · rw [h3]; simp
      · omega
    · cases e
  · cases e
theorem opA_some {b : ByteArray} {h : Hd} {bl : List (List UInt8)} (e : opA b = some (h, bl)) : rdA b = some (h, bl) ∧ bdE h (alA (cbH h) bl) = 0 ∧ fileT h (alA (cbH h) bl) = b.data.toList := by
  unfold opA at e
  cases h1 : rdA b with
  | none => rw [h1] at e; cases e
  | some x =>
    obtain ⟨h', bl'⟩ := x
    rw [h1] at e
    simp only [] at e
    split at e
    · rename_i h2
      cases e
      refine ⟨rfl, h2.1, ?_⟩
      have := h2.2
      unfold bdT at this
      rw [if_pos h2.1] at this
      exact this
    · cases e
theorem alA_len (cb : Nat) : ∀ bl : List (List UInt8), (alA cb bl).length * (cb + 7) ≤ (bl.map (·.length + 14)).sum
  | [] => by simp [alA]
  | p :: bl => by
    have h1 := alA_len cb bl
    have h2 := ents_few ⟨p.toArray⟩ cb
    rw [ba_len] at h2
    have e : alA cb (p :: bl) = ents ⟨p.toArray⟩ 0 cb ++ alA cb bl := rfl
    rw [e, List.length_append, Nat.add_mul]
    simp only [List.map_cons, List.sum_cons]
    omega
/-- A frame, wherever it stands in a text. -/
theorem ps_at (b : ByteArray) (k : Nat) (p x y : List UInt8) (hk1 : 1 ≤ k) (hk2 : k ≤ 255) (hp : p.length ≤ 65536) (hb : b.data.toList = x ++ (frL k p ++ y)) : psA b x.length = (k, p, x.length + (p.length + 14), 0) := by
  have h := prA_frame b x.length k p x y hk1 hk2 hp (by rw [hb, List.append_assoc]) rfl
  have hs : b.size = x.length + ((p.length + 14) + y.length) := by rw [ba_size, hb]; simp [frL_len]
  unfold prA at h
  rw [if_pos (by omega), Int.toNat_natCast] at h
  exact h
theorem blks_put (b : ByteArray) (y : List UInt8) : ∀ (ps : List (Nat × List En)) (x : List UInt8), (∀ p ∈ ps, ln enB p.2 ≤ 4096) → b.data.toList = x ++ (blkL enB 5 ps ++ y) → ¬ ((psA b (x.length + (blkL enB 5 ps).length)).2.2.2 = 0 ∧ (psA b (x.length + (blkL enB 5 ps).length)).1 = 5) →
    blks b x.length = ps.map fun p => p.2.flatMap enB
  | [], x, _, _, h => by rw [show blkL enB 5 [] = [] from rfl, List.length_nil, Nat.add_zero] at h; rw [blks_no h]; rfl
  | p :: ps, x, hp, hb, h => by
    have e : blkL enB 5 (p :: ps) = frL 5 (p.2.flatMap enB) ++ blkL enB 5 ps := by simp [blkL]
    have hl : (p.2.flatMap enB).length ≤ 4096 := hp p (by simp)
    rw [e, List.append_assoc] at hb
    have h1 := ps_at b 5 (p.2.flatMap enB) x _ (by omega) (by omega) (by omega) hb
    rw [blks_yes (by rw [h1]; exact ⟨rfl, rfl⟩), h1]
    dsimp only
    have ex : (x ++ frL 5 (p.2.flatMap enB)).length = x.length + ((p.2.flatMap enB).length + 14) := by rw [List.length_append, frL_len]
    rw [← ex, blks_put b y ps (x ++ frL 5 (p.2.flatMap enB)) (fun q hq => hp q (List.mem_cons_of_mem _ hq)) (by rw [hb]; simp only [List.append_assoc]) (by
      rw [ex]
      rw [e, List.length_append, frL_len] at h
      rw [show x.length + ((p.2.flatMap enB).length + 14) + (blkL enB 5 ps).length = x.length + ((p.2.flatMap enB).length + 14 + (blkL enB 5 ps).length) by omega]
      exact h)]
    rfl
end Go.Proofs.YtdegclccbgpgiaaDoor
