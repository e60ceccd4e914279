/-
  DERIVED. What a plain look finds: hits of pairs, in order.
-/
import Derived.Test.YtekgppmhcbmpeaaDoorGMap
import Derived.Test.YtekgppmhcbmpeaaDoorMath
set_option linter.unusedVariables false
set_option linter.unusedSimpArgs false
namespace Go.Proofs.YtekgppmhcbmpeaaDoor
open Go.RowKit Go.Proofs.BitMath
/-- How far two codes are. -/
def dQ (q c : ByteArray) : Nat := wt (xorL q.data.toList c.data.toList)
theorem sz (c : ByteArray) : c.data.toList.length = c.size := by simp
theorem dQ_le {q c : ByteArray} (h : q.size = c.size) : dQ q c ≤ 8 * q.size := by
  have hl : (xorL q.data.toList c.data.toList).length = q.size := (xorL_length _ _ (by rw [sz, sz, h])).trans (sz q)
  have := wt_le (xorL q.data.toList c.data.toList)
  rw [hl] at this
  exact this
theorem dQ_comm (q c : ByteArray) : dQ q c = dQ c q := by unfold dQ; rw [xorL_comm]
theorem dQ_tri {a b c : ByteArray} (h1 : a.size = b.size) (h2 : a.size = c.size) : dQ a b ≤ dQ a c + dQ c b := xorL_tri _ _ _ (by rw [sz, sz, h1]) (by rw [sz, sz, h2])
/-- A pair's hit. -/
def htOf (q : ByteArray) (p : Pr) : Ht := ⟨dQ q p.c, p.i, p.c⟩
def hitsOf (q : ByteArray) (xs : List Pr) : List Ht := xs.map (htOf q)
theorem htOf_inj {q : ByteArray} {a b : Pr} (h : htOf q a = htOf q b) : a = b := by
  obtain ⟨i, c⟩ := a
  obtain ⟨j, d⟩ := b
  simp [htOf] at h
  obtain ⟨_, rfl, rfl⟩ := h
  rfl
theorem hits_perm {q : ByteArray} {l m : List Pr} (h : l.Perm m) : ∀ x, x ∈ hitsOf q l ↔ x ∈ hitsOf q m := fun x => (h.map (htOf q)).mem_iff
theorem hits_nodup {q : ByteArray} : ∀ {xs : List Pr}, xs.Nodup → (hitsOf q xs).Nodup
  | [], _ => by simp [hitsOf]
  | x :: xs, h => by
    rw [List.nodup_cons] at h
    show (htOf q x :: hitsOf q xs).Nodup
    rw [List.nodup_cons]
    refine ⟨fun hm => ?_, hits_nodup h.2⟩
    obtain ⟨y, hy, e⟩ := List.mem_map.1 hm
    exact h.1 (htOf_inj e ▸ hy)
theorem srtL_perm {L : List Ht} (h : L.Nodup) : (srtL L).Perm L := (List.perm_ext_iff_of_nodup (srtL_srt L).nodup h).2 (srtL_mem L)
/-- Those within a distance. -/
def inD (r : Int) (L : List Ht) : List Ht := L.filter (fun h => decide (h.d ≤ r))
theorem inD_mem {r : Int} {L : List Ht} {x : Ht} : x ∈ inD r L ↔ x ∈ L ∧ x.d ≤ r := by simp [inD]
theorem inD_all {r : Int} {L : List Ht} (h : ∀ x ∈ L, x.d ≤ r) : inD r L = L := List.filter_eq_self.2 (fun x hx => by simpa using h x hx)
/-- In order: by distance, then by id, where ids are unlike. -/
theorem srt_step {L : List Ht} (h : Srt L) (hn : (L.map Ht.i).Nodup) {i : Nat} (hi : i + 1 < L.length) : L[i].d < L[i + 1].d ∨ (L[i].d = L[i + 1].d ∧ L[i].i < L[i + 1].i) := by
  have h1 := List.pairwise_iff_getElem.1 h i (i + 1) (by omega) hi (by omega)
  have h2 : L[i].i ≠ L[i + 1].i := by
    have := List.pairwise_iff_getElem.1 hn i (i + 1) (by simp; omega) (by simp; omega) (by omega)
    simpa using this
  unfold cpH at h1
  by_cases e : L[i].d = L[i + 1].d
  · rw [if_pos e, if_neg h2] at h1
    exact .inr ⟨e, (cmpI _ _).1.1 h1⟩
  · rw [if_neg e] at h1
    exact .inl ((cmpI _ _).1.1 h1)
theorem srt_d {L : List Ht} (h : Srt L) {i j : Nat} (hij : i < j) (hj : j < L.length) : L[i].d ≤ L[j].d := by
  have h1 := List.pairwise_iff_getElem.1 h i j (by omega) hj hij
  unfold cpH at h1
  by_cases e : L[i].d = L[j].d
  · omega
  · rw [if_neg e] at h1
    have := (cmpI _ _).1.1 h1
    omega
/-- Those within a distance stand ahead. -/
theorem inD_take {L : List Ht} (h : Srt L) {r : Int} {n : Nat} (hn : n ≤ L.length) (h1 : ∀ i (hi : i < n), (L[i]'(by omega)).d ≤ r) (h2 : ∀ hl : n < L.length, r < (L[n]'hl).d) : inD r L = L.take n := by
  have e : inD r L = inD r (L.take n ++ L.drop n) := by rw [List.take_append_drop]
  rw [e]
  unfold inD
  rw [List.filter_append]
  have a1 : (L.take n).filter (fun h => decide (h.d ≤ r)) = L.take n := List.filter_eq_self.2 (fun x hx => by
    obtain ⟨i, hi, rfl⟩ := List.getElem_of_mem hx
    rw [List.length_take] at hi
    rw [List.getElem_take]
    simpa using h1 i (by omega))
  have a2 : (L.drop n).filter (fun h => decide (h.d ≤ r)) = [] := List.filter_eq_nil_iff.2 (fun x hx => by
    obtain ⟨i, hi, rfl⟩ := List.getElem_of_mem hx
    rw [List.length_drop] at hi
    rw [List.getElem_drop]
    have hl : n < L.length := by omega
    have := h2 hl
    by_cases h0 : i = 0
    · subst h0; simp; omega
    · have := srt_d h (show n < n + i by omega) (by omega)
      simp; omega)
  rw [a1, a2, List.append_nil]
theorem srtL_inD (r : Int) (L : List Ht) : srtL (inD r L) = inD r (srtL L) := srt_ext (srtL_srt _) (List.Pairwise.sublist (List.filter_sublist) (srtL_srt L)) (fun x => by rw [srtL_mem, inD_mem, inD_mem, srtL_mem])
theorem srtL_take_len {L : List Ht} (h : L.Nodup) : (srtL L).length = L.length := (srtL_perm h).length_eq
end Go.Proofs.YtekgppmhcbmpeaaDoor
