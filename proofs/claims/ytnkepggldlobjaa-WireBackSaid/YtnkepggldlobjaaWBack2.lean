/-
  DERIVED. Replies: there and back; a byte more, a byte less.
-/
import Derived.Test.YtnkepggldlobjaaWBack1
set_option linter.unusedVariables false
set_option linter.unusedSimpArgs false
namespace Go.Proofs.Ytnkepggldlobjaa
open Go.RowKit Go.Proofs.SealMath
/-- What stands of a reply that goes. -/
structure VR (i : Nat) (r : Rp) (L : List Ht) (en : Nat) : Prop where
  e : r.e = (en : Int)
  ck : ckR i r L = (false, false, 0)
  st : stP i r L.length = false
  w : HtsW L
  n : r.n ≤ 9223372036854775807
theorem stP_all {i : Nat} {r : Rp} {l : Nat} (h : stP i r l = false) : lfN i r = 0 ∧ lfT i r = eB ∧ (lfS i r (none, l, 0)).2.1 = 0 := by
  unfold stP at h
  simp only [Bool.or_eq_false_iff, decide_eq_false_iff_not, ne_eq, Decidable.not_not, Nat.not_lt, Nat.le_zero_eq] at h
  exact ⟨h.1, h.2.1, h.2.2⟩
theorem hsC_wr (L : List Ht) (hg : glE L = 0) (hw : HtsW L) (b : ByteArray) (p : Nat) (hp : p ≤ b.size) (hs : sub b p (pvL 9 L.length ++ L.flatMap wrHt).length = pvL 9 L.length ++ L.flatMap wrHt) : rdHs b (p, 0) = (L, (p + (pvL 9 L.length ++ L.flatMap wrHt).length, 0)) := by
  obtain ⟨g1, g2⟩ := gl_ok hg hw
  obtain ⟨s1, s2⟩ := split_sub hs
  have hu := (uptoC 65536 43 (by omega) (by decide)).wr b p L.length g1 hp s1
  have hp2 := sub_in s1 hp
  unfold rdHs
  rw [hu]
  simp only
  have hgs : gsF L (([] : List Ht).getLast?) = 0 := by unfold glE at hg; rw [if_neg (by omega)] at hg; exact hg
  rw [rdL_wr b L [] _ g2 hgs hp2 s2]
  rw [List.nil_append, List.length_append, Nat.add_assoc]
theorem hsC_cut (L : List Ht) (hg : glE L = 0) (hw : HtsW L) (b : ByteArray) (p n : Nat) (hn : n < (pvL 9 L.length ++ L.flatMap wrHt).length) (hp : p + n = b.size) (hs : sub b p n = (pvL 9 L.length ++ L.flatMap wrHt).take n) : (rdHs b (p, 0)).2.2 = 31 := by
  obtain ⟨g1, g2⟩ := gl_ok hg hw
  have hU := uptoC 65536 43 (by omega) (by decide)
  have hgs : gsF L (([] : List Ht).getLast?) = 0 := by unfold glE at hg; rw [if_neg (by omega)] at hg; exact hg
  by_cases hl : n < (pvL 9 L.length).length
  · have hc := hU.cut b p L.length n g1 hl hp (by rw [hs, List.take_append_of_le_length (by omega)])
    have h0 : (rdU 65536 43 b (p, 0)).1 = 0 := by
      unfold rdU at hc ⊢
      split
      · rfl
      · rename_i h1
        rw [if_neg h1] at hc
        exact rdN_z (by rw [hc]; decide)
    unfold rdHs
    rw [h0]
    exact hc
  · obtain ⟨s1, s2⟩ := take_split hs (by omega)
    have hu := hU.wr b p L.length g1 (by omega) s1
    unfold rdHs
    rw [hu]
    exact rdL_cut b L [] _ (n - (pvL 9 L.length).length) g2 hgs (by rw [List.length_append] at hn; omega) (by omega) s2
theorem rdR_wr (i : Nat) (r : Rp) (L : List Ht) (en : Nat) (v : VR i r L en) (b : ByteArray) (p : Nat) (hp : p ≤ b.size) (hs : sub b p (wrR i r L).length = wrR i r L) :
    ∃ n t, rdR i en b (p, 0) = ((n, t, L), (p + (wrR i r L).length, 0)) ∧ (n : Int) = r.n ∧ (⟨t.toArray⟩ : ByteArray) = r.t := by
  obtain ⟨e, n, t⟩ := r
  have he := v.e; have hck := v.ck; have hn := v.n
  obtain ⟨q1, q2, q3⟩ := stP_all v.st
  simp only at he hn
  unfold rdR
  by_cases h0 : en = 0
  · have e0 : e = 0 := by omega
    subst e0
    rw [if_pos h0]
    unfold wrR at hs ⊢
    unfold ckR at hck
    simp only [if_true] at hs hck ⊢
    have hc : i = 2 ∨ i = 3 ∨ i = 4 ∨ i = 5 ∨ i = 7 ∨ ¬ (i = 2 ∨ i = 3 ∨ i = 4 ∨ i = 5 ∨ i = 7) := by omega
    rcases hc with rfl | rfl | rfl | rfl | rfl | hi
    · simp only [ckP, Prod.mk.injEq, decide_eq_false_iff_not] at hck
      simp [lfN, lfS] at q1 q3
      subst q1 q3
      simp only [wrP, wrT] at hs ⊢
      rw [← nm_size] at hs ⊢
      have w := textC.wr b p t.data.toList (by rw [nm_size]; omega) hp hs
      exact ⟨0, t.data.toList, by simp only [rdP]; rw [w], rfl, ba_eq t⟩
    · simp only [ckP, Prod.mk.injEq] at hck
      simp [lfN, lfT] at q1 q2
      subst q1 q2
      have w := hsC_wr L hck.2.2 v.w b p hp hs
      exact ⟨0, [], by simp only [rdP]; rw [w]; rfl, rfl, rfl⟩
    · simp only [ckP, Prod.mk.injEq] at hck
      simp [lfN, lfT] at q1 q2
      subst q1 q2
      have w := hsC_wr L hck.2.2 v.w b p hp hs
      exact ⟨0, [], by simp only [rdP]; rw [w]; rfl, rfl, rfl⟩
    · simp only [ckP, Prod.mk.injEq, decide_eq_false_iff_not] at hck
      simp [lfT, lfS] at q2 q3
      subst q2 q3
      simp only [wrP, wrN] at hs ⊢
      have w := numC.wr b p n.toNat (by omega) hp hs
      exact ⟨n.toNat, [], by simp only [rdP]; rw [w], by omega, rfl⟩
    · simp only [ckP, Prod.mk.injEq, decide_eq_false_iff_not] at hck
      simp [lfT, lfS] at q2 q3
      subst q2 q3
      simp only [wrP, wrN] at hs ⊢
      have w := numC.wr b p n.toNat (by omega) hp hs
      exact ⟨n.toNat, [], by simp only [rdP]; rw [w], by omega, rfl⟩
    · have n2 : ¬ i = 2 := fun e => hi (.inl e)
      have n3 : ¬ (i = 3 ∨ i = 4) := fun e => hi (by rcases e with e | e <;> simp [e])
      have n5 : ¬ (i = 5 ∨ i = 7) := fun e => hi (by rcases e with e | e <;> simp [e])
      simp [lfN, lfT, lfS, n2, n3, n5] at q1 q2 q3
      subst q1 q2 q3
      have e6 : rdP i b (p, 0) = ((0, [], []), (p, 0)) := by unfold rdP; split <;> simp_all
      have e7 : ∀ r, wrP i r [] = [] := fun r => by unfold wrP; split <;> simp_all
      rw [e6, e7]
      exact ⟨0, [], rfl, rfl, rfl⟩
  · have e0 : ¬ e = 0 := by omega
    rw [if_neg h0]
    unfold wrR
    simp only [e0, if_false]
    simp [lfN, lfT, lfS, e0] at q1 q2 q3
    subst q1 q2 q3
    exact ⟨0, [], rfl, rfl, rfl⟩
theorem rdR_cut (i : Nat) (r : Rp) (L : List Ht) (en : Nat) (v : VR i r L en) (b : ByteArray) (p n : Nat) (hn : n < (wrR i r L).length) (hp : p + n = b.size) (hs : sub b p n = (wrR i r L).take n) : (rdR i en b (p, 0)).2.2 = 31 := by
  obtain ⟨e, nn, t⟩ := r
  have he := v.e; have hck := v.ck; have hnn := v.n
  simp only at he hnn
  unfold rdR
  by_cases h0 : en = 0
  · have e0 : e = 0 := by omega
    subst e0
    rw [if_pos h0]
    unfold wrR at hs hn
    unfold ckR at hck
    simp only [if_true] at hs hck hn
    have hc : i = 2 ∨ i = 3 ∨ i = 4 ∨ i = 5 ∨ i = 7 ∨ ¬ (i = 2 ∨ i = 3 ∨ i = 4 ∨ i = 5 ∨ i = 7) := by omega
    rcases hc with rfl | rfl | rfl | rfl | rfl | hi
    · simp only [ckP, Prod.mk.injEq, decide_eq_false_iff_not] at hck
      simp only [wrP, wrT] at hs hn
      rw [← nm_size] at hs hn
      exact textC.cut b p t.data.toList n (by rw [nm_size]; omega) hn hp hs
    · simp only [ckP, Prod.mk.injEq] at hck
      exact hsC_cut L hck.2.2 v.w b p n hn hp hs
    · simp only [ckP, Prod.mk.injEq] at hck
      exact hsC_cut L hck.2.2 v.w b p n hn hp hs
    · exact numC.cut b p nn.toNat n (by omega) hn hp hs
    · exact numC.cut b p nn.toNat n (by omega) hn hp hs
    · exfalso
      have e7 : ∀ r L, wrP i r L = [] := fun r L => by unfold wrP; split <;> first | rfl | exact absurd (by simp) hi
      rw [e7] at hn; simp at hn
  · have e0 : ¬ e = 0 := by omega
    exfalso
    unfold wrR at hn
    simp only [e0, if_false] at hn
    simp at hn
theorem rdR_stop (i e : Nat) (b : ByteArray) (p : Nat) (x : Int) (hz : x ≠ 0) : (rdR i e b (p, x)).2.2 = x := by
  unfold rdR
  split
  · have hN : rdN b (p, x) = (0, (p, x)) := rdN_stop hz
    have hh := (uptoC 65536 43 (by omega) (by decide)).stop b p x hz
    have h0 : (rdU 65536 43 b (p, x)).1 = 0 := by unfold rdU; rw [hN, if_neg (by omega)]
    unfold rdP
    split
    · exact congrArg Prod.snd (textC.stop b p x hz)
    · unfold rdHs; rw [h0, hh]; rfl
    · unfold rdHs; rw [h0, hh]; rfl
    · rw [hN]
    · rw [hN]
    · rfl
  · rfl
theorem tell_ok (op : Int) (r : Rp) (L : List Ht) (hn : r.n ≤ 9223372036854775807) (hw : HtsW L) (h : (tellA op r L).2 = 0) : ∃ i en, i < 9 ∧ op = (i + 1 : Nat) ∧ en ≤ 999 ∧ VR i r L en ∧ (tellA op r L).1 = UInt8.ofNat 82 :: UInt8.ofNat (i + 1) :: (pvL 9 en ++ wrR i r L) := by
  unfold tellA at h ⊢
  by_cases h9 : 1 ≤ op ∧ op ≤ 9
  · rw [if_pos h9] at h ⊢
    obtain ⟨i, hi, hop⟩ : ∃ i : Nat, i < 9 ∧ op = (i + 1 : Nat) := ⟨op.toNat - 1, by omega, by omega⟩
    have e : op.toNat = i + 1 := by omega
    rw [e, Nat.add_sub_cancel] at h ⊢
    by_cases hc : r.e < 0 ∨ 999 < r.e
    · rw [if_pos hc] at h; simp at h
    · rw [if_neg hc] at h ⊢
      cases hst : stP i r L.length with
      | true => rw [hst] at h; simp at h
      | false =>
        rw [hst] at h
        simp only [Bool.false_eq_true, if_false] at h ⊢
        by_cases hk : ckE (ckR i r L).1 (ckR i r L).2.1 (ckR i r L).2.2 = 0
        · rw [if_neg (fun g => g hk)]
          have hck : ckR i r L = (false, false, 0) := by
            rcases hq : ckR i r L with ⟨a, b, z⟩
            rw [hq] at hk
            cases a <;> cases b <;> simp [ckE] at hk ⊢
            exact hk
          exact ⟨i, r.e.toNat, hi, hop, by omega, ⟨by omega, hck, hst, hw, hn⟩, rfl⟩
        · rw [if_pos hk] at h; exact absurd h hk
  · rw [if_neg h9] at h; simp at h
/-- What Tell wrote, Told reads; a byte more is told, a byte less. -/
theorem told_back (op : Int) (r : Rp) (L : List Ht) (hn : r.n ≤ 9223372036854775807) (hw : HtsW L) (h : (tellA op r L).2 = 0) :
    (∃ m en n t, toldA ⟨(tellA op r L).1.toArray⟩ = (m, (en, n, t, L), 0) ∧ (m : Int) = op ∧ (en : Int) = r.e ∧ (n : Int) = r.n ∧ (⟨t.toArray⟩ : ByteArray) = r.t) ∧
    (∀ x l, toldA ⟨((tellA op r L).1 ++ x :: l).toArray⟩ = (0, (0, 0, [], []), 37)) ∧ toldA ⟨(tellA op r L).1.dropLast.toArray⟩ = (0, (0, 0, [], []), 31) := by
  obtain ⟨i, en, hi, hop, h999, hv, hA⟩ := tell_ok op r L hn hw h
  rw [hA]
  have hU := uptoC 999 13 (by omega) (by decide)
  have key : ∀ E : List UInt8, rdU 999 13 ⟨(UInt8.ofNat 82 :: UInt8.ofNat (i + 1) :: ((pvL 9 en ++ wrR i r L) ++ E)).toArray⟩ (2, 0) = (en, (2 + (pvL 9 en).length, 0)) ∧ ∃ n t, rdR i en ⟨(UInt8.ofNat 82 :: UInt8.ofNat (i + 1) :: ((pvL 9 en ++ wrR i r L) ++ E)).toArray⟩ (2 + (pvL 9 en).length, 0) = ((n, t, L), (2 + (pvL 9 en).length + (wrR i r L).length, 0)) ∧ (n : Int) = r.n ∧ (⟨t.toArray⟩ : ByteArray) = r.t := fun E => by
    have hs := sub_msg (UInt8.ofNat 82) (UInt8.ofNat (i + 1)) (pvL 9 en ++ wrR i r L) E
    obtain ⟨s1, s2⟩ := split_sub hs
    exact ⟨hU.wr _ 2 en h999 (by rw [tsz]; simp) s1, rdR_wr i r L en hv _ _ (by rw [tsz]; simp; omega) s2⟩
  refine ⟨?_, fun x l => ?_, ?_⟩
  · obtain ⟨h1, n, t, h2, h3, h4⟩ := key []
    rw [List.append_nil] at h1 h2
    refine ⟨i + 1, en, n, t, ?_, hop.symm, hv.e.symm, h3, h4⟩
    unfold toldA
    rw [hd_of 82 i (by omega) hi]
    simp only
    rw [if_neg (fun g => g rfl), h1]
    simp only
    rw [h2]
    have he : endE ⟨(UInt8.ofNat 82 :: UInt8.ofNat (i + 1) :: (pvL 9 en ++ wrR i r L)).toArray⟩ (2 + (pvL 9 en).length + (wrR i r L).length, 0) = 0 := by
      unfold endE; rw [if_neg (by rw [tsz]; simp; omega)]
    simp only [he]
    rw [if_neg (fun g => g rfl)]
  · obtain ⟨h1, n, t, h2, h3, h4⟩ := key (x :: l)
    rw [List.cons_append, List.cons_append]
    unfold toldA
    rw [hd_of 82 i (by omega) hi]
    simp only
    rw [if_neg (fun g => g rfl), h1]
    simp only
    rw [h2]
    have he : endE ⟨(UInt8.ofNat 82 :: UInt8.ofNat (i + 1) :: ((pvL 9 en ++ wrR i r L) ++ x :: l)).toArray⟩ (2 + (pvL 9 en).length + (wrR i r L).length, 0) = 37 := by
      unfold endE; rw [if_pos ⟨rfl, by rw [tsz]; simp; omega⟩]
    simp only [he]
    rw [if_pos (by decide)]
  · have hpl := (pvL_len 9 en).1
    have hne : pvL 9 en ++ wrR i r L ≠ [] := fun e => by have := (List.append_eq_nil_iff.1 e).1; rw [this] at hpl; simp at hpl
    obtain ⟨W, hW⟩ : ∃ W, W = pvL 9 en ++ wrR i r L := ⟨_, rfl⟩
    have hl : 0 < (pvL 9 en ++ wrR i r L).length := List.length_pos_iff.2 hne
    have e : (UInt8.ofNat 82 :: UInt8.ofNat (i + 1) :: (pvL 9 en ++ wrR i r L)).dropLast = UInt8.ofNat 82 :: UInt8.ofNat (i + 1) :: (pvL 9 en ++ wrR i r L).take ((pvL 9 en ++ wrR i r L).length - 1) := by
      rw [List.dropLast_cons_of_ne_nil (by simp), List.dropLast_cons_of_ne_nil hne, List.dropLast_eq_take]
    rw [e]
    obtain ⟨N, hN⟩ : ∃ N, N = (pvL 9 en ++ wrR i r L).length - 1 := ⟨_, rfl⟩
    rw [← hN]
    have hNl : N < (pvL 9 en ++ wrR i r L).length := by omega
    have hNs : (2 : Nat) + N = (⟨(UInt8.ofNat 82 :: UInt8.ofNat (i + 1) :: (pvL 9 en ++ wrR i r L).take N).toArray⟩ : ByteArray).size := by rw [tsz]; simp only [List.length_cons, List.length_take]; omega
    have hss := sub_cutm (UInt8.ofNat 82) (UInt8.ofNat (i + 1)) (pvL 9 en ++ wrR i r L) N (by omega)
    have h31 : (rdR i (rdU 999 13 ⟨(UInt8.ofNat 82 :: UInt8.ofNat (i + 1) :: (pvL 9 en ++ wrR i r L).take N).toArray⟩ (2, 0)).1 ⟨(UInt8.ofNat 82 :: UInt8.ofNat (i + 1) :: (pvL 9 en ++ wrR i r L).take N).toArray⟩ (rdU 999 13 ⟨(UInt8.ofNat 82 :: UInt8.ofNat (i + 1) :: (pvL 9 en ++ wrR i r L).take N).toArray⟩ (2, 0)).2).2.2 = 31 := by
      by_cases hcut : N < (pvL 9 en).length
      · have hc := hU.cut _ 2 en N h999 hcut hNs (by rw [hss, List.take_append_of_le_length (by omega)])
        rcases hr : rdU 999 13 ⟨(UInt8.ofNat 82 :: UInt8.ofNat (i + 1) :: (pvL 9 en ++ wrR i r L).take N).toArray⟩ (2, 0) with ⟨v, p1, e1⟩
        rw [hr] at hc
        simp only at hc
        subst hc
        simp only
        exact rdR_stop i v _ p1 31 (by decide)
      · obtain ⟨s1, s2⟩ := take_split hss (by omega)
        have hu := hU.wr _ 2 en h999 (by omega) s1
        rw [hu]
        simp only
        exact rdR_cut i r L en hv _ _ (N - (pvL 9 en).length) (by rw [List.length_append] at hNl; omega) (by omega) s2
    unfold toldA
    rw [hd_of 82 i (by omega) hi]
    simp only
    rw [if_neg (fun g => g rfl)]
    have he : endE ⟨(UInt8.ofNat 82 :: UInt8.ofNat (i + 1) :: (pvL 9 en ++ wrR i r L).take N).toArray⟩ (rdR i (rdU 999 13 ⟨(UInt8.ofNat 82 :: UInt8.ofNat (i + 1) :: (pvL 9 en ++ wrR i r L).take N).toArray⟩ (2, 0)).1 ⟨(UInt8.ofNat 82 :: UInt8.ofNat (i + 1) :: (pvL 9 en ++ wrR i r L).take N).toArray⟩ (rdU 999 13 ⟨(UInt8.ofNat 82 :: UInt8.ofNat (i + 1) :: (pvL 9 en ++ wrR i r L).take N).toArray⟩ (2, 0)).2).2 = 31 := by
      unfold endE; rw [if_neg (fun g => by rw [h31] at g; simp at g), h31]
    simp only [he]
    rw [if_pos (by decide)]
end Go.Proofs.Ytnkepggldlobjaa
