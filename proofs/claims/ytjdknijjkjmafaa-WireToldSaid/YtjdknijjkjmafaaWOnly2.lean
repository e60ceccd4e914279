/-
  DERIVED. What Told read, Tell writes.
-/
import Derived.Test.YtjdknijjkjmafaaWOnly
set_option linter.unusedVariables false
set_option linter.unusedSimpArgs false
namespace Go.Proofs.Ytjdknijjkjmafaa
open Go.RowKit Go.Proofs.SealMath
theorem rdN_z {b : ByteArray} {s : RS} (h : (rdN b s).2.2 ≠ 0) : (rdN b s).1 = 0 := by
  unfold rdN at h ⊢
  split
  · rfl
  · rename_i h1
    rw [if_neg h1] at h
    split
    · rfl
    · rename_i h2
      rw [if_neg h2] at h
      split
      · rfl
      · rename_i h3
        rw [if_neg h3] at h
        exact absurd rfl h
theorem rdI_only (b : ByteArray) (p : Nat) (x : Ht) (q : Nat) (hp : p ≤ b.size) (h : rdI b (p, 0) = (x, (q, 0))) :
    q = p + (wrHt x).length ∧ sub b p (wrHt x).length = wrHt x ∧ q ≤ b.size ∧ hkE x = 0 ∧ x.d ≤ 9223372036854775807 ∧ x.i ≤ 9223372036854775807 := by
  have hh := seqC numC (fun _ => seqC numC (fun _ => textC))
  unfold rdI at h
  simp only [Prod.mk.injEq] at h
  obtain ⟨hf, hs⟩ := h
  have e := hh.only b p ((rdN b (p, 0)).1, ((rdN b (rdN b (p, 0)).2).1, (rdT b (rdN b (rdN b (p, 0)).2).2).1)) q hp (by unfold seqR; simp only; rw [hs])
  obtain ⟨⟨v1, v2, v3⟩, e1, e2, e3⟩ := e
  subst hf
  simp only [wrHt, wrN, wrT, tsz, Int.toNat_natCast] at *
  refine ⟨e1, e2, e3, ?_, by omega, by omega⟩
  unfold hkE
  simp only [tsz]
  rw [decide_eq_false (by omega), decide_eq_false (by omega), decide_eq_false (by omega)]
  rfl
theorem rdL_only (b : ByteArray) : ∀ (k : Nat) (acc L : List Ht) (p q : Nat), p ≤ b.size → rdL b k acc (p, 0) = (L, (q, 0)) →
    ∃ X, L = acc ++ X ∧ X.length = k ∧ q = p + (X.flatMap wrHt).length ∧ sub b p (X.flatMap wrHt).length = X.flatMap wrHt ∧ q ≤ b.size ∧ gsF X acc.getLast? = 0 ∧ HtsW X
  | 0, acc, L, p, q, hp, h => by
    simp only [rdL, Prod.mk.injEq, and_true] at h
    refine ⟨[], by rw [List.append_nil]; exact h.1.symm, rfl, by simp; exact h.2.symm, by simp [sub_zero], by omega, rfl, fun x hx => by simp at hx⟩
  | k + 1, acc, L, p, q, hp, h => by
    rw [rdL_cons] at h
    rcases hI : rdI b (p, 0) with ⟨x, p1, e1⟩
    rw [hI] at h
    simp only at h
    by_cases he : e1 = 0
    · subst he
      rw [if_neg (fun g => g rfl)] at h
      obtain ⟨a1, a2, a3, a4, a5, a6⟩ := rdI_only b p x p1 hp hI
      by_cases ho : okP acc.getLast? x = true
      · rw [if_pos ho] at h
        obtain ⟨X, b1, b2, b3, b4, b5, b6, b7⟩ := rdL_only b k (acc ++ [x]) L p1 q a3 h
        refine ⟨x :: X, by rw [b1]; simp, by simp [b2], ?_, ?_, b5, ?_, ?_⟩
        · rw [List.flatMap_cons, List.length_append]; omega
        · rw [List.flatMap_cons, List.length_append, sub_add', a2, ← a1, b4]
        · rw [gsE_cons, if_neg (fun g => g a4), if_pos ho]
          rw [List.getLast?_append] at b6
          simpa using b6
        · intro y hy
          rcases List.mem_cons.1 hy with rfl | hy
          · exact ⟨a5, a6⟩
          · exact b7 y hy
      · rw [if_neg ho] at h
        simp at h
    · rw [if_pos he] at h
      simp only [Prod.mk.injEq] at h
      exact absurd h.2.2 he
/-- Read of a reply, only what is written. -/
theorem rdR_only (i e : Nat) (b : ByteArray) (n : Nat) (t : List UInt8) (L : List Ht) (p q : Nat) (hp : p ≤ b.size) (h : rdR i e b (p, 0) = ((n, t, L), (q, 0))) :
    q = p + (wrR i ⟨e, n, ⟨t.toArray⟩⟩ L).length ∧ sub b p (wrR i ⟨e, n, ⟨t.toArray⟩⟩ L).length = wrR i ⟨e, n, ⟨t.toArray⟩⟩ L ∧ q ≤ b.size ∧ ckR i ⟨e, n, ⟨t.toArray⟩⟩ L = (false, false, 0) ∧ stP i ⟨e, n, ⟨t.toArray⟩⟩ L.length = false ∧ HtsW L ∧ L.length ≤ 65536 ∧ (n : Int) ≤ 9223372036854775807 := by
  have z : ∀ (n : Nat), decide ((n : Int) < 0) = false := fun n => decide_eq_false (by omega)
  have hnone : ∀ (hh : ((0, [], []), (p, 0)) = (((n, t, L), (q, 0)) : (Nat × List UInt8 × List Ht) × RS)), n = 0 ∧ t = [] ∧ L = [] ∧ q = p := fun hh => by
    simp only [Prod.mk.injEq, and_true] at hh
    obtain ⟨⟨rfl, rfl, rfl⟩, rfl⟩ := hh
    exact ⟨rfl, rfl, rfl, rfl⟩
  unfold rdR at h
  by_cases he : e = 0
  · subst he
    rw [if_pos rfl] at h
    unfold wrR ckR
    rw [if_pos (show (⟨((0 : Nat) : Int), (n : Int), ⟨t.toArray⟩⟩ : Rp).e = 0 from rfl), if_pos (show (⟨((0 : Nat) : Int), (n : Int), ⟨t.toArray⟩⟩ : Rp).e = 0 from rfl)]
    have hc : i = 2 ∨ i = 3 ∨ i = 4 ∨ i = 5 ∨ i = 7 ∨ ¬ (i = 2 ∨ i = 3 ∨ i = 4 ∨ i = 5 ∨ i = 7) := by omega
    have hits : ∀ (hh : ((0, [], (rdHs b (p, 0)).1), (rdHs b (p, 0)).2) = (((n, t, L), (q, 0)) : (Nat × List UInt8 × List Ht) × RS)), n = 0 ∧ t = [] ∧ q = p + (pvL 9 L.length ++ L.flatMap wrHt).length ∧ sub b p (pvL 9 L.length ++ L.flatMap wrHt).length = pvL 9 L.length ++ L.flatMap wrHt ∧ q ≤ b.size ∧ glE L = 0 ∧ HtsW L ∧ L.length ≤ 65536 := fun hh => by
      simp only [Prod.mk.injEq] at hh
      obtain ⟨⟨h1, h2, h3⟩, h4⟩ := hh
      unfold rdHs at h3 h4
      rcases hU : rdU 65536 43 b (p, 0) with ⟨k, p1, e1⟩
      rw [hU] at h3 h4
      simp only at h3 h4
      by_cases he1 : e1 = 0
      · subst he1
        obtain ⟨v1, a1, a2, a3⟩ := (uptoC 65536 43 (by omega) (by decide)).only b p k p1 hp hU
        obtain ⟨X, b1, b2, b3, b4, b5, b6, b7⟩ := rdL_only b k [] L p1 q a3 (Prod.ext h3 h4)
        rw [List.nil_append] at b1
        subst b1
        refine ⟨h1.symm, h2.symm, ?_, ?_, b5, ?_, b7, by omega⟩
        · rw [List.length_append, b2]; omega
        · rw [List.length_append, b2, sub_add', a2, ← a1, b4]
        · unfold glE; rw [if_neg (by omega)]; exact b6
      · exfalso
        have h0 : k = 0 := by
          unfold rdU at hU
          split at hU
          · simp only [Prod.mk.injEq] at hU; exact hU.1.symm
          · have := rdN_z (b := b) (s := (p, 0)) (by rw [hU]; exact he1)
            rw [hU] at this; exact this
        subst h0
        simp only [rdL, Prod.mk.injEq] at h4
        exact he1 h4.2
    rcases hc with rfl | rfl | rfl | rfl | rfl | hi
    · simp only [rdP, Prod.mk.injEq] at h
      obtain ⟨⟨h1, h2, h3⟩, h4⟩ := h
      obtain ⟨v1, a1, a2, a3⟩ := textC.only b p (rdT b (p, 0)).1 q hp (Prod.ext rfl h4)
      subst h1 h2 h3
      simp only [wrP, ckP, wrT, tsz] at *
      exact ⟨a1, a2, a3, by rw [decide_eq_false (by omega)], by simp [stP, lfN, lfT, lfS], fun x hx => by simp at hx, by simp, by omega⟩
    · obtain ⟨rfl, rfl, a1, a2, a3, a4, a5, a6⟩ := hits h
      exact ⟨a1, a2, a3, by simp only [ckP]; rw [a4], by simp [stP, lfN, lfT, lfS], a5, a6, by omega⟩
    · obtain ⟨rfl, rfl, a1, a2, a3, a4, a5, a6⟩ := hits h
      exact ⟨a1, a2, a3, by simp only [ckP]; rw [a4], by simp [stP, lfN, lfT, lfS], a5, a6, by omega⟩
    · simp only [rdP, Prod.mk.injEq] at h
      obtain ⟨⟨h1, h2, h3⟩, h4⟩ := h
      obtain ⟨v1, a1, a2, a3⟩ := numC.only b p (rdN b (p, 0)).1 q hp (Prod.ext rfl h4)
      subst h1 h2 h3
      simp only [wrP, ckP, wrN, Int.toNat_natCast] at *
      exact ⟨a1, a2, a3, by rw [z], by simp [stP, lfN, lfT, lfS], fun x hx => by simp at hx, by simp, by omega⟩
    · simp only [rdP, Prod.mk.injEq] at h
      obtain ⟨⟨h1, h2, h3⟩, h4⟩ := h
      obtain ⟨v1, a1, a2, a3⟩ := numC.only b p (rdN b (p, 0)).1 q hp (Prod.ext rfl h4)
      subst h1 h2 h3
      simp only [wrP, ckP, wrN, Int.toNat_natCast] at *
      exact ⟨a1, a2, a3, by rw [z], by simp [stP, lfN, lfT, lfS], fun x hx => by simp at hx, by simp, by omega⟩
    · have e6 : rdP i b (p, 0) = ((0, [], []), (p, 0)) := by unfold rdP; split <;> simp_all
      rw [e6] at h
      obtain ⟨rfl, rfl, rfl, rfl⟩ := hnone h
      have e7 : ∀ r, wrP i r [] = [] := fun r => by unfold wrP; split <;> simp_all
      have e8 : ∀ r, ckP i r [] = (false, false, 0) := fun r => by unfold ckP; split <;> simp_all
      rw [e7, e8]
      exact ⟨rfl, sub_zero b q, hp, rfl, by simp [stP, lfN, lfT, lfS], fun x hx => by simp at hx, by simp, by omega⟩
  · rw [if_neg he] at h
    obtain ⟨rfl, rfl, rfl, rfl⟩ := hnone h
    have he' : ¬ ((e : Nat) : Int) = 0 := by omega
    unfold wrR ckR
    simp only
    rw [if_neg he', if_neg he']
    exact ⟨rfl, sub_zero b q, hp, rfl, by simp [stP, lfN, lfT, lfS, he'], fun x hx => by simp at hx, by simp, by omega⟩
/-- What Told read, Tell writes. -/
theorem tell_again (b : ByteArray) (h : (toldA b).2.2 = 0) : tellA (toldA b).1 ⟨(toldA b).2.1.1, (toldA b).2.1.2.1, ⟨(toldA b).2.1.2.2.1.toArray⟩⟩ (toldA b).2.1.2.2.2 = (b.data.toList, 0) ∧ (hdX 82 b).1 = 0 ∧ HtsW (toldA b).2.1.2.2.2 ∧ (toldA b).2.1.2.2.2.length ≤ 65536 ∧ ((toldA b).2.1.2.1 : Int) ≤ 9223372036854775807 := by
  unfold toldA at h ⊢
  by_cases hx : (hdX 82 b).1 = 0
  · rw [if_neg (fun g => g hx)] at h ⊢
    obtain ⟨h2, hd⟩ := hd_bytes hx (by omega)
    have hi := hdX_lt 82 b
    obtain ⟨i, hie⟩ : ∃ i, i = (hdX 82 b).2 := ⟨_, rfl⟩
    rw [← hie] at hd hi h ⊢
    rcases hU : rdU 999 13 b (2, 0) with ⟨e, p1, e1⟩
    try rw [hU] at h
    try rw [hU]
    try simp only at h
    try simp only
    by_cases he : endE b (rdR i e b (p1, e1)).2 = 0
    · rw [if_neg (fun g => g he)]
      obtain ⟨s2, s3⟩ := end_zero he
      rcases hR : rdR i e b (p1, e1) with ⟨⟨n, t, L⟩, q, e2⟩
      rw [hR] at s2 s3
      simp only at s2 s3
      subst s2
      have he1 : e1 = 0 := by
        by_cases hz : e1 = 0
        · exact hz
        · exfalso
          have hst : (rdR i e b (p1, e1)).2.2 = e1 := by
            unfold rdR
            split
            · have hN : rdN b (p1, e1) = (0, (p1, e1)) := rdN_stop hz
              unfold rdP
              split
              · exact congrArg Prod.snd (textC.stop b p1 e1 hz)
              · unfold rdHs; have hh := (uptoC 65536 43 (by omega) (by decide)).stop b p1 e1 hz
                have h0 : (rdU 65536 43 b (p1, e1)).1 = 0 := by unfold rdU; rw [hN, if_neg (by omega)]
                rw [h0, hh]; rfl
              · unfold rdHs; have hh := (uptoC 65536 43 (by omega) (by decide)).stop b p1 e1 hz
                have h0 : (rdU 65536 43 b (p1, e1)).1 = 0 := by unfold rdU; rw [hN, if_neg (by omega)]
                rw [h0, hh]; rfl
              · rw [hN]
              · rw [hN]
              · rfl
            · rfl
          rw [hR] at hst
          exact hz hst.symm
      subst he1
      obtain ⟨v1, a1, a2, a3⟩ := (uptoC 999 13 (by omega) (by decide)).only b 2 e p1 h2 hU
      obtain ⟨c1, c2, c3, c4, c5, c6, c7, c8⟩ := rdR_only i e b n t L p1 q a3 hR
      have hb2 : sub b 2 (pvL 9 e ++ wrR i ⟨e, n, ⟨t.toArray⟩⟩ L).length = pvL 9 e ++ wrR i ⟨e, n, ⟨t.toArray⟩⟩ L := by
        rw [List.length_append, sub_add', a2, ← a1, c2]
      have hw := whole hd hb2 (by rw [List.length_append]; omega)
      refine ⟨?_, hx, c6, c7, c8⟩
      unfold tellA
      have eo : ((i + 1 : Nat) : Int).toNat - 1 = i := by omega
      have eo2 : ((i + 1 : Nat) : Int).toNat = i + 1 := by omega
      rw [if_pos (by omega), if_neg (by simp only; omega), eo, eo2, c5, c4, hw]
      rfl
    · rw [if_pos he] at h; exact absurd h he
  · rw [if_pos hx] at h; exact absurd h hx
theorem not_both (b : ByteArray) (h1 : (hdX 81 b).1 = 0) (h2 : (hdX 82 b).1 = 0) : False := by
  have a := (hd_bytes h1 (by omega)).2
  have c := (hd_bytes h2 (by omega)).2
  rw [a] at c
  injection c with c d
  revert c
  decide
end Go.Proofs.Ytjdknijjkjmafaa
