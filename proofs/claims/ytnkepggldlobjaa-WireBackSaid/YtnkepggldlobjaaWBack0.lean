/-
  DERIVED. What is written is read; a byte more, a byte less.
-/
import Derived.Test.YtnkepggldlobjaaWLawO
set_option linter.unusedVariables false
set_option linter.unusedSimpArgs false
namespace Go.Proofs.Ytnkepggldlobjaa
open Go.RowKit Go.Proofs.SealMath
/-- A hit as numbers and bytes. -/
abbrev htOf (x : Nat × Nat × List UInt8) : Ht := ⟨x.1, x.2.1, ⟨x.2.2.toArray⟩⟩
abbrev htTo (h : Ht) : Nat × Nat × List UInt8 := (h.d.toNat, h.i.toNat, h.c.data.toList)
theorem htOf_to {h : Ht} (v : VHt h) : htOf (htTo h) = h := by
  obtain ⟨d, i, c⟩ := h
  have a := of_decide_eq_false v.d0
  have b := of_decide_eq_false v.i0
  simp only at a b
  simp only [htOf, htTo, Ht.mk.injEq]
  refine ⟨by omega, by omega, ?_⟩
  first | trivial | exact ba_eq c
theorem hitC : IsC (seqR rdN (fun _ => seqR rdN (fun _ => rdT))) (fun x => pvL 9 x.1 ++ (pvL 9 x.2.1 ++ (pvL 9 x.2.2.length ++ x.2.2))) (fun x => x.1 ≤ 9223372036854775807 ∧ x.2.1 ≤ 9223372036854775807 ∧ x.2.2.length ≤ 65536) :=
  seqC numC (fun _ => seqC numC (fun _ => textC))
theorem rdI_seq (b : ByteArray) (s : RS) : rdI b s = (htOf (seqR rdN (fun _ => seqR rdN (fun _ => rdT)) b s).1, (seqR rdN (fun _ => seqR rdN (fun _ => rdT)) b s).2) := rfl
theorem wrHt_to (h : Ht) : wrHt h = pvL 9 (htTo h).1 ++ (pvL 9 (htTo h).2.1 ++ (pvL 9 (htTo h).2.2.length ++ (htTo h).2.2)) := by
  simp only [wrHt, wrN, wrT, htTo, nm_size]
theorem vht_to {h : Ht} (v : VHt h) : (htTo h).1 ≤ 9223372036854775807 ∧ (htTo h).2.1 ≤ 9223372036854775807 ∧ (htTo h).2.2.length ≤ 65536 := by
  have a := v.d1; have b := v.i1; have c := v.c0
  simp only [htTo, nm_size]
  exact ⟨by omega, by omega, c⟩
theorem rdI_wr (b : ByteArray) (p : Nat) (h : Ht) (v : VHt h) (hp : p ≤ b.size) (hs : sub b p (wrHt h).length = wrHt h) : rdI b (p, 0) = (h, (p + (wrHt h).length, 0)) := by
  rw [wrHt_to] at hs ⊢
  rw [rdI_seq, hitC.wr b p (htTo h) (vht_to v) hp hs]
  simp only
  rw [htOf_to v]
theorem rdI_cut (b : ByteArray) (p : Nat) (h : Ht) (v : VHt h) (n : Nat) (hn : n < (wrHt h).length) (hp : p + n = b.size) (hs : sub b p n = (wrHt h).take n) : (rdI b (p, 0)).2.2 = 31 := by
  rw [wrHt_to] at hs hn
  rw [rdI_seq]
  exact hitC.cut b p (htTo h) n (vht_to v) hn hp hs
theorem split_sub {b : ByteArray} {p : Nat} {A B : List UInt8} (h : sub b p (A ++ B).length = A ++ B) : sub b p A.length = A ∧ sub b (p + A.length) B.length = B := by
  have h1 : sub b p A.length = A := by
    have := congrArg (List.take A.length) h
    rw [sub_take b p _ _ (by rw [List.length_append]; omega), List.take_left' rfl] at this
    exact this
  refine ⟨h1, ?_⟩
  rw [List.length_append, sub_add', h1] at h
  exact List.append_cancel_left h
theorem sub_in {b : ByteArray} {p : Nat} {A : List UInt8} (h : sub b p A.length = A) (hp : p ≤ b.size) : p + A.length ≤ b.size := by
  have := congrArg List.length h
  unfold sub at this
  rw [List.length_take, List.length_drop] at this
  have h2 : b.data.toList.length = b.size := by simp
  rcases Nat.eq_zero_or_pos A.length with h0 | h0 <;> omega
theorem rdL_wr (b : ByteArray) : ∀ (X acc : List Ht) (p : Nat), (∀ h ∈ X, VHt h) → gsF X acc.getLast? = 0 → p ≤ b.size → sub b p (X.flatMap wrHt).length = X.flatMap wrHt → rdL b X.length acc (p, 0) = (acc ++ X, (p + (X.flatMap wrHt).length, 0))
  | [], acc, p, hV, hg, hp, hs => by simp [rdL]
  | x :: X, acc, p, hV, hg, hp, hs => by
    rw [List.flatMap_cons] at hs ⊢
    obtain ⟨s1, s2⟩ := split_sub hs
    have hx := rdI_wr b p x (hV x List.mem_cons_self) hp s1
    have hp2 := sub_in s1 hp
    rw [gsE_cons] at hg
    have h0 : hkE x = 0 := by
      by_cases h0 : hkE x = 0
      · exact h0
      · rw [if_pos h0] at hg; exact absurd hg h0
    rw [if_neg (fun g => g h0)] at hg
    have hok : okP acc.getLast? x = true := by
      cases ho : okP acc.getLast? x with
      | true => rfl
      | false => rw [ho] at hg; simp at hg
    rw [if_pos hok] at hg
    rw [List.length_cons, rdL_cons, hx]
    simp only
    rw [if_neg (fun g => g rfl), if_pos hok]
    rw [rdL_wr b X (acc ++ [x]) _ (fun h hh => hV h (List.mem_cons_of_mem _ hh)) (by rw [List.getLast?_append]; simpa using hg) hp2 s2]
    refine Prod.ext (by simp) (Prod.ext ?_ rfl)
    simp only [List.length_append]
    omega
theorem take_split {A B : List UInt8} {b : ByteArray} {p n : Nat} (hs : sub b p n = (A ++ B).take n) (hn : A.length ≤ n) : sub b p A.length = A ∧ sub b (p + A.length) (n - A.length) = B.take (n - A.length) := by
  have s1 : sub b p A.length = A := by
    have := congrArg (List.take A.length) hs
    rw [sub_take b p _ _ hn, List.take_take, Nat.min_eq_left hn, List.take_left' rfl] at this
    exact this
  refine ⟨s1, ?_⟩
  obtain ⟨m, rfl⟩ : ∃ m, n = A.length + m := ⟨n - A.length, by omega⟩
  rw [sub_add', s1, List.take_append, List.take_of_length_le (by omega)] at hs
  have := List.append_cancel_left hs
  rw [Nat.add_sub_cancel_left] at this ⊢
  exact this
theorem rdL_cut (b : ByteArray) : ∀ (X acc : List Ht) (p n : Nat), (∀ h ∈ X, VHt h) → gsF X acc.getLast? = 0 → n < (X.flatMap wrHt).length → p + n = b.size → sub b p n = (X.flatMap wrHt).take n → (rdL b X.length acc (p, 0)).2.2 = 31
  | [], acc, p, n, hV, hg, hn, hp, hs => by simp at hn
  | x :: X, acc, p, n, hV, hg, hn, hp, hs => by
    rw [List.flatMap_cons] at hs hn
    rw [gsE_cons] at hg
    have h0 : hkE x = 0 := by
      by_cases h0 : hkE x = 0
      · exact h0
      · rw [if_pos h0] at hg; exact absurd hg h0
    rw [if_neg (fun g => g h0)] at hg
    have hok : okP acc.getLast? x = true := by
      cases ho : okP acc.getLast? x with
      | true => rfl
      | false => rw [ho] at hg; simp at hg
    rw [if_pos hok] at hg
    rw [List.length_cons, rdL_cons]
    by_cases hl : n < (wrHt x).length
    · have hc := rdI_cut b p x (hV x List.mem_cons_self) n hl hp (by rw [hs, List.take_append_of_le_length (by omega)])
      rw [if_pos (by rw [hc]; decide)]
      exact hc
    · obtain ⟨s1, s2⟩ := take_split hs (by omega)
      have hx := rdI_wr b p x (hV x List.mem_cons_self) (by omega) s1
      rw [hx]
      simp only
      rw [if_neg (fun g => g rfl), if_pos hok]
      exact rdL_cut b X (acc ++ [x]) _ (n - (wrHt x).length) (fun h hh => hV h (List.mem_cons_of_mem _ hh)) (by rw [List.getLast?_append]; simpa using hg) (by rw [List.length_append] at hn; omega) (by omega) s2
/-- What a request of operation i + 1 is made of. -/
theorem rdQ_wr (i : Nat) (q : Rq) (b : ByteArray) (h2 : 2 ≤ b.size) (hv : VQ i q) (hst : clQ i q = ⟨q.op, 0, eB, 0, 0⟩) (hs : sub b 2 (wrQ i q).length = wrQ i q) :
    ∃ f, rdQ i b (2, 0) = (f, (2 + (wrQ i q).length, 0)) ∧ (⟨q.op, f.id, ⟨f.c.toArray⟩, f.k, f.r⟩ : Rq) = q := by
  obtain ⟨op, id, c, k, r⟩ := q
  have hck := hv.ck
  have b1 := hv.id; have b2 := hv.k; have b3 := hv.r
  simp only at b1 b2 b3
  have nt := seqC numC (fun _ => textC)
  have tn := seqC textC (fun _ => numC)
  have hbc := ba_eq c
  have hc : i = 0 ∨ i = 1 ∨ i = 2 ∨ i = 3 ∨ i = 4 ∨ 5 ≤ i := by omega
  rcases hc with rfl | rfl | rfl | rfl | rfl | hi
  · simp only [ckQ, Prod.mk.injEq, decide_eq_false_iff_not] at hck
    simp only [clQ, Rq.mk.injEq, true_and] at hst
    simp only [wrQ, wrN, wrT] at hs ⊢
    rw [← nm_size] at hs ⊢
    have e := nt.wr b 2 (id.toNat, c.data.toList) ⟨by simp only; omega, by rw [nm_size]; omega⟩ h2 hs
    unfold seqR at e
    simp only [Prod.mk.injEq] at e
    refine ⟨⟨(rdN b (2, 0)).1, (rdT b (rdN b (2, 0)).2).1, 0, 0⟩, Prod.ext rfl e.2, ?_⟩
    obtain ⟨rfl, rfl⟩ := hst
    simp only [e.1.1, e.1.2]
    rw [hbc, Int.toNat_of_nonneg (by omega)]
    rfl
  · simp only [ckQ, Prod.mk.injEq, decide_eq_false_iff_not] at hck
    simp only [clQ, Rq.mk.injEq, true_and] at hst
    simp only [wrQ, wrN] at hs ⊢
    have e := numC.wr b 2 id.toNat (by omega) h2 hs
    refine ⟨⟨(rdN b (2, 0)).1, [], 0, 0⟩, Prod.ext rfl (show (rdN b (2, 0)).2 = _ by rw [e]), ?_⟩
    obtain ⟨rfl, rfl, rfl⟩ := hst
    simp only [e]
    rw [Int.toNat_of_nonneg (by omega)]
    rfl
  · simp only [ckQ, Prod.mk.injEq, decide_eq_false_iff_not] at hck
    simp only [clQ, Rq.mk.injEq, true_and] at hst
    simp only [wrQ, wrN] at hs ⊢
    have e := numC.wr b 2 id.toNat (by omega) h2 hs
    refine ⟨⟨(rdN b (2, 0)).1, [], 0, 0⟩, Prod.ext rfl (show (rdN b (2, 0)).2 = _ by rw [e]), ?_⟩
    obtain ⟨rfl, rfl, rfl⟩ := hst
    simp only [e]
    rw [Int.toNat_of_nonneg (by omega)]
    rfl
  · simp only [ckQ, Prod.mk.injEq, decide_eq_false_iff_not] at hck
    simp only [clQ, Rq.mk.injEq, true_and] at hst
    simp only [wrQ, wrN, wrT] at hs ⊢
    rw [← nm_size] at hs ⊢
    have e := tn.wr b 2 (c.data.toList, k.toNat) ⟨by rw [nm_size]; omega, by simp only; omega⟩ h2 hs
    unfold seqR at e
    simp only [Prod.mk.injEq] at e
    refine ⟨⟨0, (rdT b (2, 0)).1, (rdN b (rdT b (2, 0)).2).1, 0⟩, Prod.ext rfl e.2, ?_⟩
    obtain ⟨rfl, rfl⟩ := hst
    simp only [e.1.1, e.1.2]
    rw [hbc, Int.toNat_of_nonneg (by omega)]
    rfl
  · simp only [ckQ, Prod.mk.injEq, decide_eq_false_iff_not] at hck
    simp only [clQ, Rq.mk.injEq, true_and] at hst
    simp only [wrQ, wrN, wrT] at hs ⊢
    rw [← nm_size] at hs ⊢
    have e := tn.wr b 2 (c.data.toList, r.toNat) ⟨by rw [nm_size]; omega, by simp only; omega⟩ h2 hs
    unfold seqR at e
    simp only [Prod.mk.injEq] at e
    refine ⟨⟨0, (rdT b (2, 0)).1, 0, (rdN b (rdT b (2, 0)).2).1⟩, Prod.ext rfl e.2, ?_⟩
    obtain ⟨rfl, rfl, -⟩ := hst
    simp only [e.1.1, e.1.2]
    rw [hbc, Int.toNat_of_nonneg (by omega)]
    rfl
  · match i, hi with
    | j + 5, _ =>
      simp only [clQ, Rq.mk.injEq, true_and] at hst
      obtain ⟨rfl, rfl, rfl, rfl⟩ := hst
      exact ⟨⟨0, [], 0, 0⟩, rfl, rfl⟩
theorem rdQ_cut (i : Nat) (q : Rq) (b : ByteArray) (hv : VQ i q) (n : Nat) (hn : n < (wrQ i q).length) (hp : 2 + n = b.size) (hs : sub b 2 n = (wrQ i q).take n) : (rdQ i b (2, 0)).2.2 = 31 := by
  obtain ⟨op, id, c, k, r⟩ := q
  have hck := hv.ck
  have b1 := hv.id; have b2 := hv.k; have b3 := hv.r
  simp only at b1 b2 b3
  have nt := seqC numC (fun _ => textC)
  have tn := seqC textC (fun _ => numC)
  have hc : i = 0 ∨ i = 1 ∨ i = 2 ∨ i = 3 ∨ i = 4 ∨ 5 ≤ i := by omega
  rcases hc with rfl | rfl | rfl | rfl | rfl | hi
  · simp only [ckQ, Prod.mk.injEq, decide_eq_false_iff_not] at hck
    simp only [wrQ, wrN, wrT] at hs hn
    rw [← nm_size] at hs hn
    exact nt.cut b 2 (id.toNat, c.data.toList) n ⟨by simp only; omega, by rw [nm_size]; omega⟩ hn hp hs
  · exact numC.cut b 2 id.toNat n (by omega) hn hp hs
  · exact numC.cut b 2 id.toNat n (by omega) hn hp hs
  · simp only [ckQ, Prod.mk.injEq, decide_eq_false_iff_not] at hck
    simp only [wrQ, wrN, wrT] at hs hn
    rw [← nm_size] at hs hn
    exact tn.cut b 2 (c.data.toList, k.toNat) n ⟨by rw [nm_size]; omega, by simp only; omega⟩ hn hp hs
  · simp only [ckQ, Prod.mk.injEq, decide_eq_false_iff_not] at hck
    simp only [wrQ, wrN, wrT] at hs hn
    rw [← nm_size] at hs hn
    exact tn.cut b 2 (c.data.toList, r.toNat) n ⟨by rw [nm_size]; omega, by simp only; omega⟩ hn hp hs
  · match i, hi with
    | j + 5, _ => simp [wrQ] at hn
end Go.Proofs.Ytnkepggldlobjaa
