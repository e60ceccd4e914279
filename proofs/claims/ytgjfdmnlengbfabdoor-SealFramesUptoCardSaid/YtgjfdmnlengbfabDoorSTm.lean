/-
  DERIVED. Whole frames with a torn one behind them.
-/
import Derived.Test.YtgjfdmnlengbfabDoorSFrames
namespace Go.Proofs.YtgjfdmnlengbfabDoor
open Go.RowKit Go.Proofs.SealMath
theorem hdL_len_inj (k k' n n' : Nat) (hn : n < 4294967296) (hn' : n' < 4294967296) (h : hdL k' n' = hdL k n) : n' = n := by
  unfold hdL at h
  have h1 := (List.cons.inj (List.cons.inj h).2).2
  rw [← num_fix n' hn', h1, num_fix n hn]
/-- What is left of a torn frame, its last byte whatever it may, is refused. -/
theorem torn_no (X : ByteArray) (a k : Nat) (p pre T : List UInt8) (c : Nat) (hX : X.data.toList = pre ++ T) (ha : pre.length = a) (hp : p.length ≤ 65536) (hc : c < p.length + 14) (hT : T.length = c) (hsame : ∀ i, i + 1 < c → T[i]? = (frL k p)[i]?) :
    (psA X a).2.2.2 ≠ 0 := by
  intro h
  obtain ⟨k', p', _, _, hp', hsz, _, hsub⟩ := psA_yes X a h
  have hXs : X.size = a + c := by rw [ba_size, hX, List.length_append, ha, hT]
  have t6 : sub X a 6 = hdL k' p'.length := by
    have h1 := sub_part X a _ 0 6 _ hsub (by omega)
    rw [Nat.add_zero, List.drop_zero] at h1
    rw [h1]; unfold frL
    have hd := hdL_len k' p'.length
    rw [List.append_assoc, List.append_assoc, List.take_append_of_le_length (by omega), List.take_of_length_le (by omega)]
  have s6 : sub X a 6 = hdL k p.length := by
    have hd := hdL_len k p.length
    have e1 : sub X a 6 = T.take 6 := by
      unfold sub; rw [hX, List.drop_append_of_le_length (by omega), List.drop_of_length_le (by omega), List.nil_append]
    have e2 : T.take 6 = (frL k p).take 6 := by
      refine List.ext_getElem? fun i => ?_
      by_cases hi : i < 6
      · rw [List.getElem?_take_of_lt hi, List.getElem?_take_of_lt hi, hsame i (by omega)]
      · rw [List.getElem?_eq_none (by rw [List.length_take]; omega), List.getElem?_eq_none (by rw [List.length_take]; omega)]
    rw [e1, e2]; unfold frL
    rw [List.append_assoc, List.append_assoc, List.take_append_of_le_length (by omega), List.take_of_length_le (by omega)]
  have := hdL_len_inj k k' p.length p'.length (by omega) (by omega) (t6.symm.trans s6)
  omega
abbrev Gd := Nat × List UInt8
def gB (l : List Gd) : List UInt8 := l.flatMap fun g => frL g.1 g.2
theorem gB_snoc (l : List Gd) (g : Gd) : gB (l ++ [g]) = gB l ++ frL g.1 g.2 := by simp [gB]
def gOk (l : List Gd) : Prop := ∀ g ∈ l, 1 ≤ g.1 ∧ g.1 ≤ 255 ∧ g.2.length ≤ 65536
def gAt : Nat → List Gd → List Fr
  | _, [] => []
  | a, g :: l => (g.1, g.2, a) :: gAt (a + (g.2.length + 14)) l
theorem gAt_len : ∀ (l : List Gd) (a : Nat), (gAt a l).length = l.length
  | [], _ => rfl
  | g :: l, a => by rw [gAt, List.length_cons, gAt_len l, List.length_cons]
theorem gAt_at : ∀ (l : List Gd) (a i : Nat) (g : Gd), l[i]? = some g → ∃ q, (gAt a l)[i]? = some (g.1, g.2, q)
  | [], _, i, g, h => by simp at h
  | x :: l, a, 0, g, h => by
    simp at h; subst h; exact ⟨a, rfl⟩
  | x :: l, a, i + 1, g, h => by
    rw [gAt, List.getElem?_cons_succ]; exact gAt_at l _ i g (by simpa using h)
theorem gB_len_ge : ∀ l : List Gd, 14 * l.length ≤ (gB l).length
  | [] => by simp [gB]
  | g :: l => by
    have := gB_len_ge l
    show 14 * (l.length + 1) ≤ (frL g.1 g.2 ++ gB l).length
    rw [List.length_append, frL_len]; omega
theorem frs_goods (X : ByteArray) (T : List UInt8) : ∀ (l : List Gd) (a n : Nat) (pre : List UInt8), gOk l → X.data.toList = pre ++ gB l ++ T → pre.length = a → (psA X (a + (gB l).length)).2.2.2 ≠ 0 → l.length < n →
    frs X n a = (gAt a l, a + (gB l).length)
  | [], a, n, pre, _, _, _, hno, hn => by
    obtain ⟨n, rfl⟩ : ∃ k, n = k + 1 := ⟨n - 1, by simp at hn; omega⟩
    have hno' : (psA X a).2.2.2 ≠ 0 := hno
    rw [frs, if_neg hno']; rfl
  | g :: l, a, n, pre, hok, hX, ha, hno, hn => by
    obtain ⟨n, rfl⟩ : ∃ k, n = k + 1 := ⟨n - 1, by simp at hn; omega⟩
    obtain ⟨hk1, hk2, hp⟩ := hok g (by simp)
    have eB : gB (g :: l) = frL g.1 g.2 ++ gB l := rfl
    have hs : X.size = a + (g.2.length + 14) + (gB l).length + T.length := by
      rw [ba_size, hX, eB]; simp [frL_len, ha]; omega
    have hps : psA X a = (g.1, g.2, a + (g.2.length + 14), 0) := by
      refine psA_frame X a g.1 g.2 hk1 hk2 hp (by omega) ?_
      unfold sub
      rw [hX, eB, List.append_assoc, List.append_assoc, List.drop_append_of_le_length (by omega), List.drop_of_length_le (by omega), List.nil_append, List.take_append_of_le_length (by rw [frL_len]; omega), List.take_of_length_le (by rw [frL_len]; omega)]
    have eL : (gB (g :: l)).length = (g.2.length + 14) + (gB l).length := by rw [eB, List.length_append, frL_len]
    have ih := frs_goods X T l (a + (g.2.length + 14)) n (pre ++ frL g.1 g.2) (fun x hx => hok x (by simp [hx])) (by rw [hX, eB]; simp) (by rw [List.length_append, frL_len, ha]) (by rw [Nat.add_assoc, ← eL]; exact hno) (by simp at hn; omega)
    rw [frs, hps, if_pos rfl]
    dsimp only
    rw [ih, gAt, eL, Nat.add_assoc]
/-- The frames of a list of kinds and payloads, as far as they can be. -/
def gL (F : Nat → Int × ByteArray) : Nat → List Gd
  | 0 => []
  | i + 1 => gL F i ++ if frE (F i).1 (F i).2 = 0 then [((F i).1.toNat, (F i).2.data.toList)] else []
theorem gL_yes (F : Nat → Int × ByteArray) (i : Nat) (h : frE (F i).1 (F i).2 = 0) : gL F (i + 1) = gL F i ++ [((F i).1.toNat, (F i).2.data.toList)] := by rw [gL, if_pos h]
theorem gL_no (F : Nat → Int × ByteArray) (i : Nat) (h : frE (F i).1 (F i).2 ≠ 0) : gL F (i + 1) = gL F i := by rw [gL, if_neg h, List.append_nil]
theorem gL_le (F : Nat → Int × ByteArray) : ∀ i, (gL F i).length ≤ i
  | 0 => Nat.le_refl _
  | i + 1 => by
    have := gL_le F i
    by_cases h : frE (F i).1 (F i).2 = 0
    · rw [gL_yes F i h, List.length_append]; simp; omega
    · rw [gL_no F i h]; omega
theorem gL_ok (F : Nat → Int × ByteArray) : ∀ i, gOk (gL F i)
  | 0 => fun g hg => by simp [gL] at hg
  | i + 1 => by
    by_cases h : frE (F i).1 (F i).2 = 0
    · obtain ⟨a, ha, h1, h2, h3, _⟩ := frT_ok _ _ h
      rw [gL_yes F i h]
      intro g hg
      rcases List.mem_append.1 hg with hg | hg
      · exact gL_ok F i g hg
      · simp at hg; subst hg; rw [ha]; exact ⟨h1, h2, h3⟩
    · rw [gL_no F i h]; exact gL_ok F i
theorem gB_bound : ∀ l : List Gd, gOk l → (gB l).length ≤ 65550 * l.length
  | [], _ => by simp [gB]
  | g :: l, h => by
    have := gB_bound l (fun x hx => h x (by simp [hx]))
    have := (h g (by simp)).2.2
    show (frL g.1 g.2 ++ gB l).length ≤ 65550 * (l.length + 1)
    rw [List.length_append, frL_len]; omega
/-- Where the i-th stands among the good ones. -/
theorem gL_mono (F : Nat → Int × ByteArray) : ∀ (d i j : Nat) (g : Gd), (gL F i)[j]? = some g → (gL F (i + d))[j]? = some g
  | 0, _, _, _, h => h
  | d + 1, i, j, g, h => by
    have ih := gL_mono F d i j g h
    rw [← Nat.add_assoc]
    by_cases he : frE (F (i + d)).1 (F (i + d)).2 = 0
    · rw [gL_yes F _ he, List.getElem?_append_left (List.getElem?_eq_some_iff.1 ih).1]; exact ih
    · rw [gL_no F _ he]; exact ih
theorem gL_at (F : Nat → Int × ByteArray) (i n : Nat) (hi : i < n) (h : frE (F i).1 (F i).2 = 0) : (gL F n)[(gL F i).length]? = some ((F i).1.toNat, (F i).2.data.toList) := by
  obtain ⟨d, rfl⟩ : ∃ d, n = i + 1 + d := ⟨n - (i + 1), by omega⟩
  refine gL_mono F d (i + 1) _ _ ?_
  rw [gL_yes F i h]; simp
theorem frC_at : ∀ (l : List Fr) (i j : Nat) (f : Fr), l[i]? = some f → j < 3 → (frC l)[3 * i + j]? = (frC1 f)[j]?
  | [], i, j, f, h, _ => by simp at h
  | x :: l, 0, j, f, h, hj => by
    simp at h; subst h
    show (frC1 x ++ frC l)[3 * 0 + j]? = _
    rw [Nat.mul_zero, Nat.zero_add, List.getElem?_append_left (by simp [frC1]; omega)]
  | x :: l, i + 1, j, f, h, hj => by
    show (frC1 x ++ frC l)[3 * (i + 1) + j]? = _
    rw [List.getElem?_append_right (by simp [frC1]; omega), show 3 * (i + 1) + j - (frC1 x).length = 3 * i + j by simp [frC1]; omega]
    exact frC_at l i j f (by simpa using h) hj
end Go.Proofs.YtgjfdmnlengbfabDoor
