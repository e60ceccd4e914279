/-
  DERIVED. JForM, JTorn, as one text.
-/
import Derived.Test.YtcamnalmcghjfaaGreatDoorTzAO
set_option linter.unusedVariables false
set_option linter.unusedSimpArgs false
namespace Go.Proofs.YtcamnalmcghjfaaGreatDoor
open Go.RowKit Go.Proofs.SealMath
def frU (u : Up) : List UInt8 := frL u.k (upP u.s u.i u.c)
def flU (L : List Up) : List UInt8 := L.flatMap frU
/-- An update that may be written, for codes of 64 bits. -/
structure Gu (u : Up) : Prop where
  k : u.k = 1 ∨ u.k = 2
  s : 1 ≤ u.s ∧ u.s ≤ 1152921504606846976
  i : u.i ≤ 281474976710656
  c : u.c.length ≤ 8
  f : fitB u.k u.c.length 64 = true
theorem Gu.plen {u : Up} (h : Gu u) : (upP u.s u.i u.c).length ≤ 28 := by
  have := upP_len u.s u.i u.c
  have := h.c
  omega
theorem frU_len {u : Up} (h : Gu u) : 14 ≤ (frU u).length ∧ (frU u).length ≤ 42 := by
  unfold frU
  rw [frL_len]
  have := h.plen
  omega
/-- Updates, each with the place behind it. -/
def plU : Nat → List Up → List (Up × Nat)
  | _, [] => []
  | a, u :: L => (u, a + (frU u).length) :: plU (a + (frU u).length) L
theorem plU_len : ∀ (L : List Up) (a : Nat), (plU a L).length = L.length
  | [], _ => rfl
  | u :: L, a => by rw [plU, List.length_cons, plU_len L, List.length_cons]
theorem plU_fst : ∀ (L : List Up) (a : Nat), (plU a L).map Prod.fst = L
  | [], _ => rfl
  | u :: L, a => by rw [plU, List.map_cons, plU_fst L]
theorem plU_at (L : List Up) (a i : Nat) (z : Up × Nat) (h : (plU a L)[i]? = some z) : L[i]? = some z.1 := by
  have := congrArg (fun l => l[i]?) (plU_fst L a)
  simp only [List.getElem?_map, h, Option.map_some] at this
  exact this.symm
theorem plU_snoc : ∀ (L : List Up) (u : Up) (a : Nat), plU a (L ++ [u]) = plU a L ++ [(u, a + (flU L).length + (frU u).length)]
  | [], u, a => by simp [plU, flU]
  | v :: L, u, a => by
    rw [List.cons_append, plU, plU_snoc L u, plU, List.cons_append]
    simp only [flU, List.flatMap_cons, List.length_append, Nat.add_assoc]
theorem plU_end (L : List Up) : endU (plU 0 L) = (flU L).length := by
  rcases List.eq_nil_or_concat L with rfl | ⟨M, u, rfl⟩
  · rfl
  · rw [List.concat_eq_append, plU_snoc, endU_snoc]
    simp [flU]
theorem ups_frame (b : ByteArray) (x y : List UInt8) (k : Nat) (p : List UInt8) (hk1 : 1 ≤ k) (hk2 : k ≤ 255) (hp : p.length ≤ 65536) (hb : b.data.toList = x ++ frL k p ++ y) :
    ups b 64 x.length = ((unA k ⟨p.toArray⟩ 64).1, x.length + (p.length + 14)) :: ups b 64 (x.length + (p.length + 14)) := by
  have h := prA_frame b x.length k p x y hk1 hk2 hp hb rfl
  have hs : x.length ≤ b.size := by rw [ba_len, hb]; simp
  unfold prA at h
  rw [if_pos (by omega), Int.toNat_natCast] at h
  have h1 := ups_some (b := b) (x := 64) (a := x.length) (by rw [h])
  rw [h] at h1
  exact h1
theorem un_good {u : Up} (h : Gu u) : unA u.k ⟨(upP u.s u.i u.c).toArray⟩ 64 = (u, 0) := by
  rw [un_put u.k u.s u.i u.c 64 h.k h.s h.i, if_pos h.f]
theorem ups_list (b : ByteArray) : ∀ (L : List Up) (x y : List UInt8), (∀ u ∈ L, Gu u) → b.data.toList = x ++ flU L ++ y → ups b 64 x.length = plU x.length L ++ ups b 64 (x.length + (flU L).length)
  | [], x, y, _, hb => by simp [plU, flU]
  | u :: L, x, y, hg, hb => by
    have hu := hg u (by simp)
    have e1 : flU (u :: L) = frU u ++ flU L := by simp [flU]
    have hl : (frU u).length = (upP u.s u.i u.c).length + 14 := by unfold frU; rw [frL_len]
    have h1 := ups_frame b x (flU L ++ y) u.k (upP u.s u.i u.c) (by have := hu.k; omega) (by have := hu.k; omega) (by have := hu.plen; omega) (by rw [hb, e1]; simp [frU])
    rw [un_good hu, ← hl] at h1
    have h2 := ups_list b L (x ++ frU u) y (fun v hv => hg v (by simp [hv])) (by rw [hb, e1]; simp)
    rw [List.length_append] at h2
    rw [h1, h2, plU, e1, List.length_append, List.cons_append, Nat.add_assoc]
theorem psA_at_end (b : ByteArray) : ¬ (psA b b.size).2.2.2 = 0 := by
  intro h
  have := psA_next h
  omega
/-- Numbers one behind the other, from one on. -/
def Nu (L : List Up) : Prop := ∀ (i : Nat) (u : Up), L[i]? = some u → u.s = i + 1
theorem ok_plU {L : List Up} (h : Nu L) : okU 0 (plU 0 L) := fun i z hz => by
  rw [h i z.1 (plU_at L 0 i z hz)]; omega
/-- A whole file. -/
theorem told_good (b : ByteArray) (L : List Up) (hg : ∀ u ∈ L, Gu u) (hb : b.data.toList = flU L) : ups b 64 0 = plU 0 L := by
  have h := ups_list b L [] [] hg (by rw [hb]; simp)
  rw [List.length_nil, Nat.zero_add] at h
  have e : (flU L).length = b.size := by rw [ba_len, hb]
  rw [h, e, ups_none (psA_at_end b), List.append_nil]
/-- A frame behind that does not go. -/
theorem told_bad (b : ByteArray) (L : List Up) (k : Nat) (p y : List UInt8) (hg : ∀ u ∈ L, Gu u) (hk1 : 1 ≤ k) (hk2 : k ≤ 255) (hp : p.length ≤ 65536) (hb : b.data.toList = flU L ++ frL k p ++ y) (hn : (unA k ⟨p.toArray⟩ 64).1.s ≠ L.length + 1) : ¬ okU 0 (ups b 64 0) := by
  have h := ups_list b L [] (frL k p ++ y) hg (by rw [hb]; simp)
  have h2 := ups_frame b (flU L) y k p hk1 hk2 hp hb
  rw [List.length_nil, Nat.zero_add] at h
  rw [h2] at h
  intro ho
  have h3 := ho L.length ((unA k ⟨p.toArray⟩ 64).1, (flU L).length + (p.length + 14)) (by rw [h, List.getElem?_append_right (by rw [plU_len]; exact Nat.le_refl _), plU_len, Nat.sub_self]; rfl)
  dsimp only at h3
  omega
/-- What is written in the six ways. -/
theorem bad_zero {k : Nat} {p : List UInt8} {n : Nat} (h : (unA k ⟨p.toArray⟩ 64).2 ≠ 0) : (unA k ⟨p.toArray⟩ 64).1.s ≠ n + 1 := by
  rw [un_no k _ 64 h]
  show (0 : Nat) ≠ _
  omega
theorem bad_kind (p : List UInt8) : (unA 3 ⟨p.toArray⟩ 64).2 ≠ 0 := by unfold unA; rw [if_neg (by omega)]; decide
theorem bad_seq (n : Nat) (hn : n + 2 ≤ 1152921504606846976) : (unA 2 ⟨(upP (n + 2) 5 []).toArray⟩ 64).1.s ≠ n + 1 := by
  rw [un_put 2 (n + 2) 5 [] 64 (.inr rfl) (by omega) (by omega), if_pos (by decide)]
  show n + 2 ≠ n + 1
  omega
theorem bad_short (n : Nat) (c : List UInt8) (hc : c.length = 7) (hn : n + 1 ≤ 1152921504606846976) : (unA 1 ⟨(upP (n + 1) 5 c).toArray⟩ 64).2 ≠ 0 := by
  rw [un_put 1 (n + 1) 5 c 64 (.inl rfl) (by omega) (by omega), hc, if_neg (by decide)]
  decide
theorem bad_behind (n : Nat) (c : UInt8) (hn : n + 1 ≤ 1152921504606846976) : (unA 2 ⟨(upP (n + 1) 5 [c]).toArray⟩ 64).2 ≠ 0 := by
  rw [un_put 2 (n + 1) 5 [c] 64 (.inr rfl) (by omega) (by omega), if_neg (by simp [fitB])]
  decide
theorem vA_two (n i : Nat) (c : List UInt8) (hn : n < 18446744073709551616) : vA ⟨(upP n i c).toArray⟩ 0 = (n, (pvL 9 n).length, 0) := by
  obtain ⟨b, hb⟩ : ∃ b : ByteArray, b = ⟨(upP n i c).toArray⟩ := ⟨_, rfl⟩
  rw [← hb]
  have hl : b.data.toList = pvL 9 n ++ pvL 9 i ++ c := by rw [hb]; rfl
  have v1 : vA b ((0 : Nat) : Int) = (n, 0 + (pvL 9 n).length, 0) := vA_put b 0 n hn (by
    have := sub_app b [] (pvL 9 n) (pvL 9 i ++ c) (by rw [hl]; simp)
    simpa using this) (by omega)
  rw [Nat.zero_add] at v1; exact v1
theorem vA_three (n i : Nat) (c : List UInt8) (hn : i < 18446744073709551616) : vA ⟨(upP n i c).toArray⟩ ((pvL 9 n).length : Nat) = (i, (pvL 9 n).length + (pvL 9 i).length, 0) := by
  obtain ⟨b, hb⟩ : ∃ b : ByteArray, b = ⟨(upP n i c).toArray⟩ := ⟨_, rfl⟩
  rw [← hb]
  have hl : b.data.toList = pvL 9 n ++ pvL 9 i ++ c := by rw [hb]; rfl
  have hsz : b.size = (pvL 9 n).length + (pvL 9 i).length + c.length := by rw [ba_len, hl]; simp; omega
  exact vA_put b _ i hn (sub_app b (pvL 9 n) (pvL 9 i) c hl) (by omega)
theorem bad_id (n : Nat) (hn : n + 1 ≤ 1152921504606846976) : (unA 2 ⟨(upP (n + 1) 281474976710657 []).toArray⟩ 64).2 ≠ 0 := by
  unfold unA
  rw [if_pos (.inr rfl), vA_two _ _ _ (by omega)]
  dsimp only
  rw [if_pos rfl, if_pos (by omega), vA_three _ _ _ (by omega)]
  dsimp only
  rw [if_pos rfl, if_neg (by omega)]
  decide
theorem bad_none (n : Nat) (hn : n + 1 ≤ 1152921504606846976) : (unA 2 ⟨(pvL 9 (n + 1)).toArray⟩ 64).2 ≠ 0 := by
  obtain ⟨b, hb⟩ : ∃ b : ByteArray, b = ⟨(pvL 9 (n + 1)).toArray⟩ := ⟨_, rfl⟩
  rw [← hb]
  have hl : b.data.toList = pvL 9 (n + 1) := by rw [hb]
  have hsz : b.size = (pvL 9 (n + 1)).length := by rw [ba_len, hl]
  have v1 : vA b ((0 : Nat) : Int) = (n + 1, 0 + (pvL 9 (n + 1)).length, 0) := vA_put b 0 (n + 1) (by omega) (by
    have := sub_app b [] (pvL 9 (n + 1)) [] (by rw [hl]; simp)
    simpa using this) (by omega)
  rw [Nat.zero_add] at v1
  have v2 : ¬ (vA b ((pvL 9 (n + 1)).length : Nat)).2.2 = 0 := fun h => by
    have h1 := vA_ok b _ h
    obtain ⟨-, h2, -, h4⟩ := vA_only b _ _ _ h1
    have := (pvL_len 9 (vA b ((pvL 9 (n + 1)).length : Nat)).1).1
    omega
  have v1' : vA b 0 = (n + 1, (pvL 9 (n + 1)).length, 0) := v1
  unfold unA
  rw [if_pos (.inr rfl), v1']
  dsimp only
  rw [if_pos rfl, if_pos (by omega), if_neg v2]
  exact v2
end Go.Proofs.YtcamnalmcghjfaaGreatDoor
set_option linter.unusedVariables false
set_option linter.unusedSimpArgs false
namespace Go.Proofs.YtcamnalmcghjfaaGreatDoor
open Go.RowKit Go.Proofs.SealMath
theorem hdL_len_inj (k k' n n' : Nat) (hn : n < 4294967296) (hn' : n' < 4294967296) (h : hdL k' n' = hdL k n) : n' = n := by
  unfold hdL at h
  have h1 := (List.cons.inj (List.cons.inj h).2).2
  rw [← num_fix n' hn', h1, num_fix n hn]
/-- The first six bytes of what is left of a frame. -/
theorem torn_head (X : ByteArray) (a k : Nat) (p pre T : List UInt8) (hX : X.data.toList = pre ++ T) (ha : pre.length = a) (h7 : 7 ≤ T.length) (hsame : ∀ i, i + 1 < T.length → T[i]? = (frL k p)[i]?) : sub X a 6 = hdL k p.length := by
  have hd := hdL_len k p.length
  have e1 : sub X a 6 = T.take 6 := by
    unfold sub; rw [hX, List.drop_append_of_le_length (by omega), List.drop_of_length_le (by omega), List.nil_append]
  have e2 : T.take 6 = (frL k p).take 6 := by
    refine List.ext_getElem? fun i => ?_
    by_cases hi : i < 6
    · rw [List.getElem?_take_of_lt hi, List.getElem?_take_of_lt hi, hsame i (by omega)]
    · rw [List.getElem?_eq_none (by rw [List.length_take]; omega), List.getElem?_eq_none (by rw [List.length_take]; omega)]
  rw [e1, e2]; unfold frL
  rw [List.append_assoc, List.append_assoc, List.take_append_of_le_length (by omega), List.take_of_length_le (by omega)]
theorem sub_six (X : ByteArray) (a k' : Nat) (p' : List UInt8) (hsub : sub X a (p'.length + 14) = frL k' p') : sub X a 6 = hdL k' p'.length := by
  have h1 := sub_part X a _ 0 6 _ hsub (by omega)
  rw [Nat.add_zero, List.drop_zero] at h1
  rw [h1]; unfold frL
  have hd := hdL_len k' p'.length
  rw [List.append_assoc, List.append_assoc, List.take_append_of_le_length (by omega), List.take_of_length_le (by omega)]
/-- What is left of a torn frame, its last byte whatever it may, is refused. -/
theorem torn_no (X : ByteArray) (a k : Nat) (p pre T : List UInt8) (hX : X.data.toList = pre ++ T) (ha : pre.length = a) (hp : p.length ≤ 65536) (hc : T.length < p.length + 14) (hsame : ∀ i, i + 1 < T.length → T[i]? = (frL k p)[i]?) :
    ¬ (psA X a).2.2.2 = 0 := by
  intro h
  obtain ⟨k', p', _, _, hp', hsz, _, hsub⟩ := psA_yes X a h
  have hXs : X.size = a + T.length := by rw [ba_len, hX, List.length_append, ha]
  have := hdL_len_inj k k' p.length p'.length (by omega) (by omega) ((sub_six X a k' p' hsub).symm.trans (torn_head X a k p pre T hX ha (by omega) hsame))
  omega
theorem frL_pay (k : Nat) (p : List UInt8) (i : Nat) (hi : i < p.length) : (frL k p)[10 + i]? = p[i]? := by
  have d := hdL_len k p.length
  have e : (hdL k p.length ++ lowL (crc 0 (hdL k p.length))).length = 10 := by rw [List.length_append, d, lowL_len]
  unfold frL
  rw [List.getElem?_append_left (by rw [List.length_append, e]; omega), List.getElem?_append_right (by rw [e]; omega), e, Nat.add_sub_cancel_left]
/-- A whole frame with its last byte changed is refused. -/
theorem last_no (X : ByteArray) (a k : Nat) (p pre T : List UInt8) (hX : X.data.toList = pre ++ T) (ha : pre.length = a) (hp : p.length ≤ 65536) (hc : T.length = p.length + 14) (hsame : ∀ i, i + 1 < T.length → T[i]? = (frL k p)[i]?) (hne : T ≠ frL k p) :
    ¬ (psA X a).2.2.2 = 0 := by
  intro h
  obtain ⟨k', p', _, _, hp', hsz, _, hsub⟩ := psA_yes X a h
  have hh := (sub_six X a k' p' hsub).symm.trans (torn_head X a k p pre T hX ha (by omega) hsame)
  have hl := hdL_len_inj k k' p.length p'.length (by omega) (by omega) hh
  have eT : sub X a (p'.length + 14) = T := by
    unfold sub; rw [hX, List.drop_append_of_le_length (by omega), List.drop_of_length_le (by omega), List.nil_append, List.take_of_length_le (by omega)]
  have e1 : T = frL k' p' := eT.symm.trans hsub
  have hpp : p' = p := by
    refine List.ext_getElem? fun i => ?_
    by_cases hi : i < p.length
    · have h1 := hsame (10 + i) (by omega)
      rw [e1] at h1
      rw [frL_pay k' p' i (by omega), frL_pay k p i hi] at h1
      exact h1
    · rw [List.getElem?_eq_none (by omega), List.getElem?_eq_none (by omega)]
  apply hne
  rw [e1, hpp]
  unfold frL
  rw [hpp] at hh
  rw [hh]
theorem flU_one (L : List Up) (u : Up) : flU (L ++ [u]) = flU L ++ frU u := by simp [flU]
theorem flU_app (A B : List Up) : flU (A ++ B) = flU A ++ flU B := by simp [flU]
/-- How many whole frames stand ahead of a place. -/
theorem split_at : ∀ (L : List Up) (c : Nat), c ≤ (flU L).length → ∃ m r, m ≤ L.length ∧ c = (flU (L.take m)).length + r ∧ (r = 0 ∨ ∃ u, L[m]? = some u ∧ r < (frU u).length)
  | [], c, h => ⟨0, 0, Nat.le_refl _, by simp [flU] at h ⊢; exact h, .inl rfl⟩
  | u :: L, c, h => by
    by_cases hc : c < (frU u).length
    · exact ⟨0, c, Nat.zero_le _, by simp [flU], .inr ⟨u, rfl, hc⟩⟩
    · have e : (flU (u :: L)).length = (frU u).length + (flU L).length := by simp [flU]
      obtain ⟨m, r, h1, h2, h3⟩ := split_at L (c - (frU u).length) (by omega)
      refine ⟨m + 1, r, by simp; exact h1, ?_, ?_⟩
      · have e2 : (flU ((u :: L).take (m + 1))).length = (frU u).length + (flU (L.take m)).length := by simp [flU]
        clear h3
        omega
      · rcases h3 with h3 | ⟨v, h4, h5⟩
        · exact .inl h3
        · exact .inr ⟨v, by simpa using h4, h5⟩
theorem flU_take_mono (L : List Up) (i j : Nat) (h : i ≤ j) : (flU (L.take i)).length ≤ (flU (L.take j)).length := by
  have e : L.take j = L.take i ++ (L.take j).drop i := by
    have h1 := List.take_append_drop i (L.take j)
    rw [List.take_take, Nat.min_eq_left h] at h1
    exact h1.symm
  rw [e, flU_app, List.length_append]
  omega
theorem mod_same (B : List UInt8) (j i : Nat) (f : UInt8 → UInt8) (h : i ≠ j) : (B.modify j f)[i]? = B[i]? := by
  rw [List.getElem?_modify]
  have h2 : ¬ j = i := fun e => h e.symm
  simp [h2]
theorem mod_app (A B : List UInt8) (j : Nat) (f : UInt8 → UInt8) : (A ++ B).modify (A.length + j) f = A ++ B.modify j f := by
  induction A with
  | nil => simp
  | cons x A ih => rw [List.cons_append, List.length_cons, Nat.add_right_comm, List.modify_succ_cons, ih, List.cons_append]
/-- Whole frames with what is refused behind them. -/
theorem ups_stop (X : ByteArray) (L : List Up) (T : List UInt8) (hg : ∀ u ∈ L, Gu u) (hX : X.data.toList = flU L ++ T) (h : ¬ (psA X (flU L).length).2.2.2 = 0) : ups X 64 0 = plU 0 L := by
  have h1 := ups_list X L [] T hg (by rw [hX]; simp)
  rw [List.length_nil, Nat.zero_add] at h1
  rw [h1, ups_none h, List.append_nil]
/-- What a power cut leaves is told as a beginning, with all that was durable. -/
theorem told_cut (all : List Up) (s : Nat) (k : Nat) (sp : UInt8) (hg : ∀ u ∈ all, Gu u) (hs : s ≤ all.length) (hk : (flU (all.take s)).length + k ≤ (flU all).length) (X : ByteArray)
    (hX : X.data.toList = if k = 0 then (flU all).take (flU (all.take s)).length else ((flU all).take ((flU (all.take s)).length + k)).modify ((flU (all.take s)).length + k - 1) (· ^^^ sp)) :
    ∃ m, s ≤ m ∧ m ≤ all.length ∧ ups X 64 0 = plU 0 (all.take m) ∧ ∃ T, X.data.toList = flU (all.take m) ++ T := by
  have hgt : ∀ m, ∀ u ∈ all.take m, Gu u := fun m u hu => hg u (List.mem_of_mem_take hu)
  have hsplit : ∀ m, flU all = flU (all.take m) ++ flU (all.drop m) := fun m => by rw [← flU_app, List.take_append_drop]
  by_cases hk0 : k = 0
  · rw [if_pos hk0, hsplit s, List.take_left] at hX
    exact ⟨s, Nat.le_refl _, hs, told_good X _ (hgt s) hX, [], by rw [hX, List.append_nil]⟩
  · rw [if_neg hk0] at hX
    obtain ⟨m, r, hm, hc, hr⟩ := split_at all _ hk
    have hF : (flU all).take ((flU (all.take s)).length + k) = flU (all.take m) ++ (flU (all.drop m)).take r := by
      rw [hc, hsplit m, List.take_length_add_append]
    by_cases hr0 : r = 0
    · subst hr0
      rw [Nat.add_zero] at hc
      have hsm : s < m := by
        rcases Nat.lt_or_ge s m with h | h
        · exact h
        · have := flU_take_mono all m s h
          omega
      obtain ⟨n, rfl⟩ : ∃ n, m = n + 1 := ⟨m - 1, by omega⟩
      have hn : n < all.length := by omega
      have e1 : all.take (n + 1) = all.take n ++ [all[n]] := by rw [List.take_succ_eq_append_getElem hn]
      have hu := hg all[n] (List.getElem_mem hn)
      have hfl := frU_len hu
      rw [hF, List.take_zero, List.append_nil, e1, flU_one, hc, e1, flU_one, List.length_append, Nat.add_sub_assoc (by omega), mod_app] at hX
      by_cases hT : (frU all[n]).modify ((frU all[n]).length - 1) (· ^^^ sp) = frU all[n]
      · rw [hT, ← flU_one, ← e1] at hX
        exact ⟨n + 1, by omega, hm, told_good X _ (hgt _) hX, [], by rw [hX, List.append_nil]⟩
      · refine ⟨n, by omega, by omega, ups_stop X _ _ (hgt n) hX ?_, _, hX⟩
        have hl : (frU all[n]).length = (upP all[n].s all[n].i all[n].c).length + 14 := by unfold frU; rw [frL_len]
        exact last_no X _ all[n].k (upP all[n].s all[n].i all[n].c) _ _ hX rfl (by have := hu.plen; omega) (by rw [List.length_modify]; exact hl) (fun i hi => by
          rw [List.length_modify] at hi
          exact mod_same _ _ _ _ (by omega)) hT
    · rcases hr with h | ⟨u, h4, h5⟩
      · exact absurd h hr0
      · have hn := (List.getElem?_eq_some_iff.1 h4).1
        have hu := hg u (List.mem_of_getElem? h4)
        have e2 : (flU (all.drop m)).take r = (frU u).take r := by
          have e3 : all.drop m = u :: all.drop (m + 1) := by
            rw [List.drop_eq_getElem_cons hn, (List.getElem?_eq_some_iff.1 h4).2]
          rw [e3]
          have e4 : flU (u :: all.drop (m + 1)) = frU u ++ flU (all.drop (m + 1)) := by simp [flU]
          rw [e4, List.take_append_of_le_length (by omega)]
        have hsm : s ≤ m := by
          rcases Nat.lt_or_ge m s with h | h
          · have h6 := flU_take_mono all (m + 1) s h
            have e5 : all.take (m + 1) = all.take m ++ [u] := by rw [List.take_succ_eq_append_getElem hn, (List.getElem?_eq_some_iff.1 h4).2]
            rw [e5, flU_one, List.length_append] at h6
            omega
          · exact h
        rw [hF, e2, hc, Nat.add_sub_assoc (by omega), mod_app] at hX
        refine ⟨m, hsm, hm, ups_stop X _ _ (hgt m) hX ?_, _, hX⟩
        have hl : (frU u).length = (upP u.s u.i u.c).length + 14 := by unfold frU; rw [frL_len]
        exact torn_no X _ u.k (upP u.s u.i u.c) _ _ hX rfl (by have := hu.plen; omega) (by rw [List.length_modify, List.length_take]; omega) (fun i hi => by
          rw [List.length_modify, List.length_take] at hi
          rw [mod_same _ _ _ _ (by omega), List.getElem?_take_of_lt (by omega)]
          rfl)
end Go.Proofs.YtcamnalmcghjfaaGreatDoor
