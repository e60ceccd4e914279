/-
  DERIVED. Encode.
-/
import Derived.Test.YtkoannkecojhmaaGreatDoorCWrite
import Derived.Test.YtkoannkecojhmaaGreatDoorSFrame
set_option linter.unusedVariables false
set_option linter.unusedSimpArgs false
namespace Go.Proofs.YtkoannkecojhmaaGreatDoor
open Go.RowKit Go.Proofs.SealMath
/-- The numbers of a manifest ahead of its runs; of a run. -/
def hdN (m : Mf) : List Nat := [m.w.toNat, m.ch.toNat, m.md.toNat, m.seq.toNat, m.nx.toNat, m.jn.toNat]
def ruN (r : Ru) : List Nat := [r.num.toNat, r.lo.toNat, r.hi.toNat, r.cnt.toNat]
/-- A manifest's payload. -/
def payL (m : Mf) : List UInt8 := (hdN m).flatMap pv ++ pv m.rs.length ++ (m.rs.flatMap ruN).flatMap pv
/-- What Encode answers. -/
def enT (m : Mf) : ByteArray := if chE m = 0 then ⟨(frL 3 (payL m)).toArray⟩ else ⟨#[]⟩
/-- A manifest that goes: its numbers' bounds. -/
structure Goes (m : Mf) : Prop where
  w : 0 ≤ m.w ∧ m.w ≤ 1152921504606846976
  ch : 0 ≤ m.ch ∧ m.ch ≤ 1152921504606846976
  md : 0 ≤ m.md ∧ m.md ≤ 1152921504606846976
  seq : 0 ≤ m.seq ∧ m.seq ≤ 1152921504606846976
  nx : 0 ≤ m.nx ∧ m.nx ≤ 1152921504606846976
  jn : 0 ≤ m.jn ∧ m.jn ≤ 1152921504606846976
  len : m.rs.length ≤ 24
  rs : ∀ r ∈ m.rs, (0 ≤ r.num ∧ r.num ≤ 1152921504606846976) ∧ (0 ≤ r.lo ∧ r.lo ≤ 1152921504606846976) ∧ (0 ≤ r.hi ∧ r.hi ≤ 1152921504606846976) ∧ (0 ≤ r.cnt ∧ r.cnt ≤ 1152921504606846976)
theorem numd_mem {nx : Int} : ∀ {rs : List Ru} {tk : List Int}, numd nx tk rs = true → ∀ r ∈ rs, 1 ≤ r.num ∧ r.num ≤ nx - 1
  | [], _, _, r, hr => by cases hr
  | x :: rs, tk, h, r, hr => by
    simp only [numd, Bool.and_eq_true, decide_eq_true_eq] at h
    rcases List.mem_cons.1 hr with rfl | hr
    · exact h.1.2
    · exact numd_mem h.2 r hr
theorem foll_mem {seq : Int} : ∀ {rs : List Ru} {b : Int}, 0 ≤ b → foll seq b rs = true → ∀ r ∈ rs, 0 ≤ r.lo ∧ r.lo < r.hi ∧ r.hi ≤ seq ∧ 1 ≤ r.cnt ∧ r.cnt ≤ 2097152
  | [], _, _, _, r, hr => by cases hr
  | x :: rs, b, hb, h, r, hr => by
    simp only [foll, Bool.and_eq_true, decide_eq_true_eq] at h
    rcases List.mem_cons.1 hr with rfl | hr
    · omega
    · exact foll_mem (by omega) h.2 r hr
theorem goes_of {m : Mf} (h : chE m = 0) : Goes m := by
  unfold chE at h
  cases hw : wdB m.w
  · rw [if_pos hw] at h; cases h
  cases hm : mdB m.md
  · rw [if_neg (by rw [hw]; decide), if_pos hm] at h; cases h
  cases hc : ctB m.w m.ch m.md
  · rw [if_neg (by rw [hw]; decide), if_neg (by rw [hm]; decide), if_pos hc] at h; cases h
  rw [if_neg (by rw [hw]; decide), if_neg (by rw [hm]; decide), if_neg (by rw [hc]; decide)] at h
  have hn : (nbB m && numd m.nx [m.jn] m.rs && foll m.seq 0 m.rs) = true := Classical.byContradiction fun hn => by rw [if_neg hn] at h; cases h
  rw [Bool.and_eq_true, Bool.and_eq_true] at hn
  obtain ⟨⟨hb, hd⟩, hf⟩ := hn
  unfold nbB at hb
  simp only [Bool.and_eq_true, decide_eq_true_eq] at hb
  obtain ⟨⟨⟨h1, h2⟩, h3⟩, h4⟩ := hb
  have hw' : 64 ≤ m.w ∧ m.w ≤ 1024 ∧ m.w % 64 = 0 := of_decide_eq_true hw
  have hm' : m.md = 1 ∨ m.md = 2 := of_decide_eq_true hm
  have hc' : 0 ≤ m.ch ∧ m.ch ≤ 1024 := by
    unfold ctB at hc
    by_cases h2 : m.md = 2
    · rw [if_pos h2] at hc
      have : m.ch = 0 := of_decide_eq_true hc
      omega
    · rw [if_neg h2] at hc
      have : m.w / 32 ≤ m.ch ∧ m.ch ≤ m.w / 8 := of_decide_eq_true hc
      omega
  refine ⟨by omega, by omega, by omega, h1, by omega, by omega, h4, fun r hr => ?_⟩
  have a := numd_mem hd r hr
  have b := foll_mem (by omega) hf r hr
  omega
theorem hdN_cells {m : Mf} (h : Goes m) : ((hdN m).map fun (n : Nat) => Value.int .i64 (n : Int)) = [.int .i64 m.w, .int .i64 m.ch, .int .i64 m.md, .int .i64 m.seq, .int .i64 m.nx, .int .i64 m.jn] := by
  have := h.w; have := h.ch; have := h.md; have := h.seq; have := h.nx; have := h.jn
  simp only [hdN, List.map_cons, List.map_nil]
  rw [Int.toNat_of_nonneg (by omega), Int.toNat_of_nonneg (by omega), Int.toNat_of_nonneg (by omega), Int.toNat_of_nonneg (by omega), Int.toNat_of_nonneg (by omega), Int.toNat_of_nonneg (by omega)]
theorem ruN_cells {r : Ru} (h : (0 ≤ r.num ∧ r.num ≤ 1152921504606846976) ∧ (0 ≤ r.lo ∧ r.lo ≤ 1152921504606846976) ∧ (0 ≤ r.hi ∧ r.hi ≤ 1152921504606846976) ∧ (0 ≤ r.cnt ∧ r.cnt ≤ 1152921504606846976)) : ((ruN r).map fun (n : Nat) => Value.int .i64 (n : Int)) = ruC r := by
  simp only [ruN, ruC, List.map_cons, List.map_nil]
  rw [Int.toNat_of_nonneg (by omega), Int.toNat_of_nonneg (by omega), Int.toNat_of_nonneg (by omega), Int.toNat_of_nonneg (by omega)]
theorem hdN_le {m : Mf} (h : Goes m) : ∀ n ∈ hdN m, n ≤ 1152921504606846976 := fun n hn => by
  have := h.w; have := h.ch; have := h.md; have := h.seq; have := h.nx; have := h.jn
  simp only [hdN, List.mem_cons, List.not_mem_nil, or_false] at hn
  omega
theorem ruN_le {r : Ru} (h : (0 ≤ r.num ∧ r.num ≤ 1152921504606846976) ∧ (0 ≤ r.lo ∧ r.lo ≤ 1152921504606846976) ∧ (0 ≤ r.hi ∧ r.hi ≤ 1152921504606846976) ∧ (0 ≤ r.cnt ∧ r.cnt ≤ 1152921504606846976)) : ∀ n ∈ ruN r, n ≤ 1152921504606846976 := fun n hn => by
  simp only [ruN, List.mem_cons, List.not_mem_nil, or_false] at hn
  omega
theorem ruNs_len (rs : List Ru) : (rs.flatMap ruN).length = rs.length * 4 := by
  induction rs with
  | nil => rfl
  | cons r rs ih => rw [List.flatMap_cons, List.length_append, ih, List.length_cons]; simp [ruN]; omega
theorem pay_len {m : Mf} (h : Goes m) : (payL m).length ≤ 2000 := by
  unfold payL
  have a := pvs_len (hdN m)
  have b := pv_len m.rs.length
  have c := pvs_len (m.rs.flatMap ruN)
  rw [ruNs_len] at c
  have := h.len
  have e : (hdN m).length = 6 := rfl
  rw [List.length_append, List.length_append]
  omega
end Go.Proofs.YtkoannkecojhmaaGreatDoor
