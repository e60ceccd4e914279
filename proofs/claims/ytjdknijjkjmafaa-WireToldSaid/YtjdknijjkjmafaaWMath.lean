/-
  DERIVED. Messages: what is written is read, and nothing else.
-/
import Derived.Test.YtjdknijjkjmafaaJVar
set_option linter.unusedVariables false
set_option linter.unusedSimpArgs false
namespace Go.Proofs.Ytjdknijjkjmafaa
open Go.RowKit Go.Proofs.SealMath
abbrev RS := Nat × Int
/-- A number is read: what it is (0, if it is refused), the place and the refusal. -/
def rdN (b : ByteArray) (s : RS) : Nat × RS :=
  if s.2 ≠ 0 then (0, s) else if (vA b s.1).2.2 ≠ 0 then (0, (s.1, (vA b s.1).2.2)) else if 9223372036854775807 < (vA b s.1).1 then (0, (s.1, 13)) else ((vA b s.1).1, ((vA b s.1).2.1, 0))
/-- .. one with a bound. -/
def rdU (m : Nat) (x : Int) (b : ByteArray) (s : RS) : Nat × RS := if m < (rdN b s).1 then (0, ((rdN b s).2.1, x)) else rdN b s
/-- So many bytes. -/
def rdB (k : Nat) (b : ByteArray) (s : RS) : List UInt8 × RS :=
  if s.2 ≠ 0 then ([], s) else if b.size < s.1 + k then ([], (s.1, 31)) else (sub b s.1 k, (s.1 + k, 0))
/-- A text. -/
def rdT (b : ByteArray) (s : RS) : List UInt8 × RS := rdB (rdU 65536 36 b s).1 b (rdU 65536 36 b s).2
/-- R reads what W writes of the valid, and nothing else. -/
structure IsC {α : Type} (R : ByteArray → RS → α × RS) (W : α → List UInt8) (V : α → Prop) : Prop where
  stop : ∀ b p e, e ≠ 0 → (R b (p, e)).2 = (p, e)
  wr : ∀ b p a, V a → p ≤ b.size → sub b p (W a).length = W a → R b (p, 0) = (a, (p + (W a).length, 0))
  only : ∀ b p a q, p ≤ b.size → R b (p, 0) = (a, (q, 0)) → V a ∧ q = p + (W a).length ∧ sub b p (W a).length = W a ∧ q ≤ b.size
  cut : ∀ b p a n, V a → n < (W a).length → p + n = b.size → sub b p n = (W a).take n → (R b (p, 0)).2.2 = 31
def nilR {α : Type} (a : α) (b : ByteArray) (s : RS) : α × RS := (a, s)
theorem sub_zero (b : ByteArray) (p : Nat) : sub b p 0 = [] := by unfold sub; rw [List.take_zero]
theorem nilC {α : Type} (a : α) : IsC (nilR a) (fun _ => []) (· = a) where
  stop b p e h := rfl
  wr b p x hx hp hs := by subst hx; rfl
  only b p x q hp h := by
    unfold nilR at h
    simp only [Prod.mk.injEq, and_true] at h
    exact ⟨h.1.symm, by simpa using h.2.symm, sub_zero b p, by omega⟩
  cut b p x n hx hn := by simp at hn
/-- One behind the other. -/
def seqR {α β : Type} (R : ByteArray → RS → α × RS) (S : α → ByteArray → RS → β × RS) (b : ByteArray) (s : RS) : (α × β) × RS :=
  (((R b s).1, (S (R b s).1 b (R b s).2).1), (S (R b s).1 b (R b s).2).2)
theorem sub_add' (b : ByteArray) (a m n : Nat) : sub b a (m + n) = sub b a m ++ sub b (a + m) n := by
  unfold sub
  rw [List.take_add, List.drop_drop]
theorem sub_take (b : ByteArray) (a m n : Nat) (h : m ≤ n) : (sub b a n).take m = sub b a m := by
  unfold sub
  rw [List.take_take, Nat.min_eq_left h]
theorem seqC {α β : Type} {R : ByteArray → RS → α × RS} {S : α → ByteArray → RS → β × RS} {W : α → List UInt8} {X : α → β → List UInt8} {V : α → Prop} {U : α → β → Prop}
    (h1 : IsC R W V) (h2 : ∀ a, IsC (S a) (X a) (U a)) : IsC (seqR R S) (fun x => W x.1 ++ X x.1 x.2) (fun x => V x.1 ∧ U x.1 x.2) where
  stop b p e h := by
    unfold seqR
    rw [h1.stop b p e h]
    exact (h2 _).stop b p e h
  wr b p x hx hp hs := by
    obtain ⟨a, c⟩ := x
    simp only [List.length_append] at hs ⊢
    have hl : sub b p (W a).length = W a := by
      have := congrArg (List.take (W a).length) hs
      rw [sub_take b p _ _ (by omega), List.take_left' rfl] at this
      exact this
    have hr : sub b (p + (W a).length) (X a c).length = X a c := by
      rw [sub_add', hl] at hs; exact List.append_cancel_left hs
    have hw := h1.wr b p a hx.1 hp hl
    have hq := (h1.only b p a _ hp hw).2.2.2
    have hv := (h2 a).wr b _ c hx.2 hq hr
    unfold seqR
    rw [hw]
    simp only [hv, Nat.add_assoc]
  only b p x q hp h := by
    obtain ⟨a, c⟩ := x
    unfold seqR at h
    rcases h3 : R b (p, 0) with ⟨a1, q1, e1⟩
    rw [h3] at h
    simp only [Prod.mk.injEq] at h
    obtain ⟨⟨rfl, h5⟩, h6⟩ := h
    by_cases he : e1 = 0
    · subst he
      obtain ⟨v1, rfl, s1, l1⟩ := h1.only b p _ _ hp h3
      have h7 : S a1 b (p + (W a1).length, 0) = (c, (q, 0)) := Prod.ext h5 h6
      obtain ⟨v2, rfl, s2, l2⟩ := (h2 a1).only b _ _ _ l1 h7
      refine ⟨⟨v1, v2⟩, by simp only [List.length_append]; omega, ?_, l2⟩
      simp only [List.length_append]
      rw [sub_add', s1, s2]
    · have := (h2 a1).stop b q1 e1 he
      rw [this] at h6
      simp only [Prod.mk.injEq] at h6
      exact absurd h6.2 he
  cut b p x n hx hn hp hs := by
    obtain ⟨a, c⟩ := x
    simp only [List.length_append] at hn hs
    by_cases hl : n < (W a).length
    · have := h1.cut b p a n hx.1 hl hp (by rw [hs, List.take_append_of_le_length (by omega)])
      rcases h3 : R b (p, 0) with ⟨a1, q1, e1⟩
      rw [h3] at this
      simp only at this
      subst this
      unfold seqR
      rw [h3]
      simp only [(h2 a1).stop b q1 31 (by decide)]
    · have s1 : sub b p (W a).length = W a := by
        have := congrArg (List.take (W a).length) hs
        rw [sub_take b p _ _ (by omega), List.take_take, Nat.min_eq_left (by omega), List.take_left' rfl] at this
        exact this
      have hw := h1.wr b p a hx.1 (by omega) s1
      obtain ⟨m, rfl⟩ : ∃ m, n = (W a).length + m := ⟨n - (W a).length, by omega⟩
      have s2 : sub b (p + (W a).length) m = (X a c).take m := by
        rw [sub_add', s1, List.take_append, List.take_of_length_le (by omega)] at hs
        rw [List.append_cancel_left hs]
        congr 1; omega
      have := (h2 a).cut b (p + (W a).length) c m hx.2 (by omega) (by omega) s2
      unfold seqR
      rw [hw]
      exact this
/-- The same under another name. -/
theorem mapC {α β : Type} {R : ByteArray → RS → α × RS} {W : α → List UInt8} {V : α → Prop} (f : α → β) (g : β → α) (h : IsC R W V) (hg : ∀ a, V a → g (f a) = a) :
    IsC (fun b s => (f (R b s).1, (R b s).2)) (fun y => W (g y)) (fun y => V (g y) ∧ f (g y) = y) where
  stop b p e he := h.stop b p e he
  wr b p y hy hp hs := by rw [h.wr b p (g y) hy.1 hp hs, hy.2]
  only b p y q hp hR := by
    rcases h3 : R b (p, 0) with ⟨a, q1, e1⟩
    rw [h3] at hR
    simp only [Prod.mk.injEq] at hR
    obtain ⟨rfl, rfl, rfl⟩ := hR
    obtain ⟨v, e1, e2, e3⟩ := h.only b p a q1 hp h3
    rw [hg a v]
    exact ⟨⟨v, rfl⟩, e1, e2, e3⟩
  cut b p y n hy hn hp hs := h.cut b p (g y) n hy.1 hn hp hs
/-- A number that is cut off. -/
theorem vG_cut (b : ByteArray) (p : Nat) : ∀ (f v k n : Nat), f + k = 9 → v < 2 * 128 ^ f → n < (pvL f v).length → p + k + n = b.size → sub b (p + k) n = (pvL f v).take n → (vG b p k (f + 2)).2.2 = 31 := by
  intro f
  induction f with
  | zero =>
    intro v k n hk hv hn hp hs
    have hn0 : n = 0 := by simp [pvL] at hn; omega
    subst hn0
    rw [vG, dif_neg (by omega)]
  | succ f ih =>
    intro v k n hk hv hn hp hs
    rcases Nat.eq_zero_or_pos n with rfl | hn0
    · rw [vG, dif_neg (by omega)]
    · by_cases hlt : v < 128
      · rw [pvL, if_pos hlt] at hn; simp at hn; omega
      · rw [pvL, if_neg hlt] at hn hs
        obtain ⟨m, rfl⟩ : ∃ m, n = m + 1 := ⟨n - 1, by omega⟩
        have h1 : p + k < b.size := by omega
        rw [sub_cons b (p + k) m h1, List.take_succ_cons] at hs
        injection hs with h2 h3
        have hc : (b[p + k]).toNat = 128 + v % 128 := by rw [h2]; exact u8_small _ (by omega)
        have hv' : v / 128 < 2 * 128 ^ f := by rw [Nat.pow_succ] at hv; omega
        have := ih (v / 128) (k + 1) m (by omega) hv' (by simp at hn; omega) (by omega) (by rw [← Nat.add_assoc]; exact h3)
        rw [vG, dif_pos h1, hc, if_neg (by omega), if_pos (by omega)]
        exact this
theorem numC : IsC rdN (fun v => pvL 9 v) (fun v => v ≤ 9223372036854775807) where
  stop b p e h := by unfold rdN; rw [if_pos h]
  wr b p v hv hp hs := by
    have := vA_put b p v (by omega) hs hp
    unfold rdN
    rw [if_neg (by simp)]
    simp only [this]
    rw [if_neg (by simp), if_neg (by omega)]
  only b p v q hp h := by
    unfold rdN at h
    rw [if_neg (by simp)] at h
    split at h
    · rename_i h2
      simp only [Prod.mk.injEq] at h
      exact absurd h.2.2 h2
    · rename_i h2
      split at h
      · simp at h
      · rename_i h3
        rcases h4 : vA b (p : Nat) with ⟨v1, q1, e1⟩
        simp only [h4] at h h2 h3
        simp only [Prod.mk.injEq, and_true] at h
        obtain ⟨rfl, rfl⟩ := h
        have he : e1 = 0 := Decidable.not_not.1 h2
        subst he
        obtain ⟨a, c, d, e⟩ := vA_only b p _ _ h4
        exact ⟨by omega, c, d, e⟩
  cut b p v n hv hn hp hs := by
    have h1 : (vA b (p : Nat)).2.2 = 31 := by
      unfold vA
      rw [if_pos (by omega), Int.toNat_natCast]
      exact vG_cut b p 9 v 0 n rfl (by rw [two64]; omega) hn (by omega) hs
    unfold rdN
    rw [if_neg (by simp)]
    simp only [h1]
    rw [if_pos (by decide)]
theorem uptoC (m : Nat) (x : Int) (hm : m ≤ 9223372036854775807) (hx : x ≠ 0) : IsC (rdU m x) (fun v => pvL 9 v) (fun v => v ≤ m) where
  stop b p e h := by
    have h1 : (rdN b (p, e)) = (0, (p, e)) := by unfold rdN; rw [if_pos h]
    unfold rdU; rw [h1, if_neg (by omega)]
  wr b p v hv hp hs := by
    have := numC.wr b p v (by omega) hp hs
    unfold rdU; rw [this, if_neg (by simp only; omega)]
  only b p v q hp h := by
    unfold rdU at h
    split at h
    · simp only [Prod.mk.injEq] at h; exact absurd h.2.2 hx
    · rename_i h1
      obtain ⟨a, c, d, e⟩ := numC.only b p v q hp h
      rw [h] at h1
      exact ⟨by simp only at h1; omega, c, d, e⟩
  cut b p v n hv hn hp hs := by
    have h1 := numC.cut b p v n (by omega) hn hp hs
    have h2 : (rdN b (p, 0)).1 = 0 := by
      by_cases h0 : (rdN b (p, 0)).1 = 0
      · exact h0
      · exfalso
        unfold rdN at h0 h1
        rw [if_neg (by simp)] at h0 h1
        split at h0
        · simp at h0
        · split at h0
          · simp at h0
          · rename_i h3 h4
            rw [if_neg h3, if_neg h4] at h1
            simp at h1
    unfold rdU; rw [if_neg (by omega)]; exact h1
theorem bytesC (k : Nat) : IsC (rdB k) (fun l => l) (fun l => l.length = k) where
  stop b p e h := by unfold rdB; rw [if_pos h]
  wr b p v hv hp hs := by
    have hl : p + k ≤ b.size := by
      have := congrArg List.length hs
      unfold sub at this
      rw [List.length_take, List.length_drop] at this
      have h2 : b.data.toList.length = b.size := by simp
      rcases Nat.eq_zero_or_pos k with h0 | h0 <;> omega
    unfold rdB
    rw [if_neg (by simp), if_neg (by simp only; omega)]
    simp only
    rw [← hv, hs]
  only b p v q hp h := by
    unfold rdB at h
    rw [if_neg (by simp)] at h
    split at h
    · simp at h
    · rename_i h1
      simp only [Prod.mk.injEq, and_true] at h
      obtain ⟨rfl, rfl⟩ := h
      have hl := sub_len b p k (by simp only at h1; omega)
      exact ⟨hl, by rw [hl], by rw [hl], by simp only at h1; omega⟩
  cut b p v n hv hn hp hs := by
    unfold rdB
    rw [if_neg (by simp), if_pos (by simp only at *; omega)]
theorem textC : IsC rdT (fun l => pvL 9 l.length ++ l) (fun l => l.length ≤ 65536) := by
  have h := mapC (f := fun x : Nat × List UInt8 => x.2) (g := fun l => (l.length, l)) (seqC (uptoC 65536 36 (by omega) (by decide)) (fun k => bytesC k)) (fun a ha => Prod.ext ha.2 rfl)
  refine ⟨h.stop, fun b p a ha => h.wr b p a ⟨⟨ha, rfl⟩, rfl⟩, fun b p a q hp hh => ?_, fun b p a n ha => h.cut b p a n ⟨⟨ha, rfl⟩, rfl⟩⟩
  obtain ⟨⟨⟨h1, -⟩, -⟩, h2⟩ := h.only b p a q hp hh
  exact ⟨h1, h2⟩
end Go.Proofs.Ytjdknijjkjmafaa
