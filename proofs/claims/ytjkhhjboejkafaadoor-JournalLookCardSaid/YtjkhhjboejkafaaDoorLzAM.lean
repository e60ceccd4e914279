/-
  DERIVED. JMath, JTold, SParseB, as one text.
-/
import Derived.Test.YtjkhhjboejkafaaDoorLzAL
import Derived.Test.YtjkhhjboejkafaaDoorLzAK
set_option linter.unusedVariables false
set_option linter.unusedSimpArgs false
namespace Go.Proofs.YtjkhhjboejkafaaDoor
open Go.RowKit Go.Proofs.SealMath
theorem sub_app (b : ByteArray) (x y z : List UInt8) (h : b.data.toList = x ++ y ++ z) : sub b x.length y.length = y := by
  unfold sub; rw [h]; simp
theorem ba_len (b : ByteArray) : b.size = b.data.toList.length := by simp
/-- What Write writes, unpack tells. -/
theorem un_put (k s i : Nat) (c : List UInt8) (x : Int) (hk : k = 1 ∨ k = 2) (hs : 1 ≤ s ∧ s ≤ 1152921504606846976) (hi : i ≤ 281474976710656) :
    unA k ⟨(upP s i c).toArray⟩ x = if fitB k c.length x = true then (⟨s, k, i, c⟩, 0) else (up0, 11) := by
  obtain ⟨b, hb⟩ : ∃ b : ByteArray, b = ⟨(upP s i c).toArray⟩ := ⟨_, rfl⟩
  rw [← hb]
  have hl : b.data.toList = pvL 9 s ++ pvL 9 i ++ c := by rw [hb]; rfl
  have hsz : b.size = (pvL 9 s).length + (pvL 9 i).length + c.length := by rw [ba_len, hl]; simp; omega
  have v1 : vA b ((0 : Nat) : Int) = (s, 0 + (pvL 9 s).length, 0) := vA_put b 0 s (by omega) (by
    have := sub_app b [] (pvL 9 s) (pvL 9 i ++ c) (by rw [hl]; simp)
    simpa using this) (by omega)
  have v1' : vA b 0 = (s, (pvL 9 s).length, 0) := by rw [Nat.zero_add] at v1; exact v1
  have v2 : vA b ((pvL 9 s).length : Int) = (i, (pvL 9 s).length + (pvL 9 i).length, 0) := vA_put b _ i (by omega) (sub_app b (pvL 9 s) (pvL 9 i) c hl) (by omega)
  unfold unA
  rw [if_pos hk, v1', v2]
  dsimp only
  rw [if_pos rfl, if_pos hs, if_pos rfl, if_pos hi, hsz]
  have e1 : (pvL 9 s).length + (pvL 9 i).length + c.length - ((pvL 9 s).length + (pvL 9 i).length) = c.length := by omega
  have e2 : b.data.toList.drop ((pvL 9 s).length + (pvL 9 i).length) = c := by rw [hl]; simp
  rw [e1, e2]
theorem vA_ok (b : ByteArray) (p : Nat) (h : (vA b p).2.2 = 0) : vA b p = ((vA b p).1, (vA b p).2.1, 0) := Prod.ext rfl (Prod.ext rfl h)
theorem bytes_of (b : ByteArray) (v q i r : Nat) (h1 : vA b ((0 : Nat) : Int) = (v, q, 0)) (h2 : vA b q = (i, r, 0)) : b.data.toList = upP v i (b.data.toList.drop r) := by
  obtain ⟨a1, a2, a3, a4⟩ := vA_only b 0 v q h1
  obtain ⟨c1, c2, c3, c4⟩ := vA_only b q i r h2
  unfold upP
  unfold sub at a3 c3
  have e1 : b.data.toList = b.data.toList.take q ++ b.data.toList.drop q := (List.take_append_drop _ _).symm
  have e2 : b.data.toList.drop q = (b.data.toList.drop q).take (pvL 9 i).length ++ b.data.toList.drop r := by
    rw [c2, ← List.drop_drop]; exact (List.take_append_drop _ _).symm
  have e3 : b.data.toList.take q = pvL 9 v := by
    rw [a2, Nat.zero_add]; simpa using a3
  rw [c3] at e2
  rw [e2, e3] at e1
  rw [List.append_assoc]
  exact e1
/-- What unpack tells was written. -/
theorem un_only (k : Nat) (b : ByteArray) (x : Int) (h : (unA k b x).2 = 0) : ∃ s i c, unA k b x = (⟨s, k, i, c⟩, 0) ∧ (k = 1 ∨ k = 2) ∧ (1 ≤ s ∧ s ≤ 1152921504606846976) ∧ i ≤ 281474976710656 ∧ fitB k c.length x = true ∧ b.data.toList = upP s i c := by
  unfold unA at h ⊢
  split at h
  · rename_i hk
    split at h
    · rename_i h1
      split at h
      · rename_i h2
        split at h
        · rename_i h3
          split at h
          · rename_i h4
            split at h
            · rename_i h5
              refine ⟨(vA b 0).1, (vA b (vA b 0).2.1).1, b.data.toList.drop (vA b (vA b 0).2.1).2.1, ?_, hk, h2, h4, ?_, ?_⟩
              · rw [if_pos hk, if_pos h1, if_pos h2, if_pos h3, if_pos h4, if_pos h5]
              · rw [List.length_drop, ← ba_len]; exact h5
              · exact bytes_of b _ _ _ _ (vA_ok b 0 h1) (vA_ok b _ h3)
            · simp at h
          · simp at h
        · rename_i h3; exact absurd h h3
      · simp at h
    · rename_i h1; exact absurd h h1
  · simp at h
theorem un_no (k : Nat) (b : ByteArray) (x : Int) (h : (unA k b x).2 ≠ 0) : (unA k b x).1 = up0 := by
  unfold unA at h ⊢
  split
  · split
    · split
      · split
        · split
          · split
            · rename_i h1 h2 h3 h4 h5 h6
              rw [if_pos h1, if_pos h2, if_pos h3, if_pos h4, if_pos h5, if_pos h6] at h
              exact absurd rfl h
            · rfl
          · rfl
        · rfl
      · rfl
    · rfl
  · rfl
theorem wE_up {s k i : Nat} {n : Nat} (hk : k = 1 ∨ k = 2) (hs : 1 ≤ s ∧ s ≤ 1152921504606846976) (hi : i ≤ 281474976710656) (hf : (k = 1 ∧ 8 ≤ n ∧ n ≤ 128 ∧ n % 8 = 0) ∨ (k = 2 ∧ n = 0)) : wE s k i n = 0 := by
  unfold wE; rw [if_pos (by omega), if_pos (by omega), if_pos (by omega), if_pos (by omega)]
theorem fit_n {k n : Nat} {x : Int} (hk : k = 1 ∨ k = 2) (hW : isW x = true) (hf : fitB k n x = true) : ((k = 1 ∧ 8 ≤ n ∧ n ≤ 128 ∧ n % 8 = 0) ∨ (k = 2 ∧ n = 0)) ∧ (k = 1 → (n : Int) = x / 8) := by
  have h1 := isW_bd hW
  have h2 := isW_mod hW
  unfold fitB at hf
  rcases hk with rfl | rfl
  · rw [if_neg (by decide)] at hf
    have := (chk_ok.1 (by simpa using hf)).2
    exact ⟨.inl ⟨rfl, by omega, by omega, by omega⟩, fun _ => this⟩
  · rw [if_pos (by decide)] at hf
    exact ⟨.inr ⟨rfl, by simpa using hf⟩, fun h => by omega⟩
end Go.Proofs.YtjkhhjboejkafaaDoor
set_option linter.unusedVariables false
set_option linter.unusedSimpArgs false
namespace Go.Proofs.YtjkhhjboejkafaaDoor
open Go.RowKit Go.Proofs.SealMath
def upsF (x : Int) : Nat → ByteArray → Nat → List (Up × Nat)
  | 0, _, _ => []
  | f + 1, b, a => if (psA b a).2.2.2 = 0 then ((unA (psA b a).1 ⟨(psA b a).2.1.toArray⟩ x).1, (psA b a).2.2.1) :: upsF x f b (psA b a).2.2.1 else []
/-- The updates of a file's bytes from a place on, as far as frames stand there. -/
def ups (b : ByteArray) (x : Int) (a : Nat) : List (Up × Nat) := upsF x (b.size + 1) b a
theorem psA_next {b : ByteArray} {a : Nat} (h : (psA b a).2.2.2 = 0) : a + 14 ≤ (psA b a).2.2.1 ∧ (psA b a).2.2.1 ≤ b.size ∧ 1 ≤ (psA b a).1 ∧ (psA b a).1 ≤ 255 ∧ (psA b a).2.1.length ≤ 65536 := by
  obtain ⟨k, p, h1, h2, h3, h4, h5, -⟩ := psA_yes b a h
  rw [h5]
  exact ⟨by dsimp only; omega, by dsimp only; omega, h1, h2, h3⟩
theorem upsF_more (x : Int) (b : ByteArray) : ∀ (f g a : Nat), b.size + 1 - a ≤ f → b.size + 1 - a ≤ g → upsF x f b a = upsF x g b a
  | 0, 0, a, _, _ => rfl
  | 0, g + 1, a, h1, h2 => by
    have : ¬ (psA b a).2.2.2 = 0 := fun h => by have := psA_next h; omega
    rw [upsF, upsF, if_neg this]
  | f + 1, 0, a, h1, h2 => by
    have : ¬ (psA b a).2.2.2 = 0 := fun h => by have := psA_next h; omega
    rw [upsF, upsF, if_neg this]
  | f + 1, g + 1, a, h1, h2 => by
    by_cases h : (psA b a).2.2.2 = 0
    · have hn := psA_next h
      rw [upsF, upsF, if_pos h, if_pos h, upsF_more x b f g _ (by omega) (by omega)]
    · rw [upsF, upsF, if_neg h, if_neg h]
theorem ups_none {b : ByteArray} {x : Int} {a : Nat} (h : ¬ (psA b a).2.2.2 = 0) : ups b x a = [] := by unfold ups; rw [upsF, if_neg h]
theorem ups_some {b : ByteArray} {x : Int} {a : Nat} (h : (psA b a).2.2.2 = 0) : ups b x a = ((unA (psA b a).1 ⟨(psA b a).2.1.toArray⟩ x).1, (psA b a).2.2.1) :: ups b x (psA b a).2.2.1 := by
  have hn := psA_next h
  unfold ups
  rw [upsF, if_pos h, upsF_more x b b.size (b.size + 1) _ (by omega) (by omega)]
theorem ups_len (b : ByteArray) (x : Int) : ∀ (f a : Nat), b.size + 1 - a ≤ f → a ≤ b.size → (ups b x a).length * 14 + a ≤ b.size
  | 0, a, h, h2 => by omega
  | f + 1, a, h, h2 => by
    by_cases hp : (psA b a).2.2.2 = 0
    · have hn := psA_next hp
      have := ups_len b x f (psA b a).2.2.1 (by omega) hn.2.1
      rw [ups_some hp, List.length_cons]
      omega
    · rw [ups_none hp]; simpa using h2
/-- Each has the number behind the one ahead. -/
def okU (s : Nat) (l : List (Up × Nat)) : Prop := ∀ (i : Nat) (z : Up × Nat), l[i]? = some z → z.1.s = s + i + 1
/-- Where they end. -/
def endU (l : List (Up × Nat)) : Nat := match l.getLast? with
  | some z => z.2
  | none => 0
theorem endU_snoc (l : List (Up × Nat)) (z : Up × Nat) : endU (l ++ [z]) = z.2 := by unfold endU; simp
theorem okU_nil (s : Nat) : okU s [] := fun i z h => by simp at h
theorem okU_snoc {s : Nat} {l : List (Up × Nat)} {z : Up × Nat} (h : okU s l) (hz : z.1.s = s + l.length + 1) : okU s (l ++ [z]) := fun i y hy => by
  rcases Nat.lt_or_ge i l.length with hi | hi
  · rw [List.getElem?_append_left hi] at hy; exact h i y hy
  · have hl := (List.getElem?_eq_some_iff.1 hy).1
    have e : i = l.length := by simp at hl; omega
    subst e
    rw [List.getElem?_append_right (Nat.le_refl _)] at hy
    simp at hy
    rw [← hy]; exact hz
theorem okU_pre {s : Nat} {l m : List (Up × Nat)} (h : okU s m) (hp : l <+: m) : okU s l := fun i z hz => h i z (by
  obtain ⟨t, rfl⟩ := hp
  rw [List.getElem?_append_left (List.getElem?_eq_some_iff.1 hz).1]; exact hz)
theorem okU_no {s : Nat} {l m : List (Up × Nat)} {z : Up × Nat} (hp : l ++ [z] <+: m) (hz : z.1.s ≠ s + l.length + 1) : ¬ okU s m := fun h => hz (by
  have := okU_pre h hp l.length z (by simp)
  exact this)
/-- The updates alone, as cells. -/
def uL (u : Up) : List Value := (upV u).toList
def lsU (l : List (Up × Nat)) : List Value := l.flatMap fun z => uL z.1
end Go.Proofs.YtjkhhjboejkafaaDoor
namespace Go.Proofs.YtjkhhjboejkafaaDoor
open Go.RowKit Go.Proofs.SealMath
/-- The number of four bytes, the lowest first. -/
def lwN (c0 c1 c2 c3 : Nat) : Nat := c0 + 256 * c1 + 65536 * c2 + 16777216 * c3
theorem or_at (v c k : Nat) (h : v < 2 ^ k) : v ||| c * 2 ^ k = v + 2 ^ k * c := by
  have := Nat.two_pow_add_eq_or_of_lt h c
  rw [Nat.or_comm, Nat.mul_comm c, Nat.add_comm v]; exact this.symm
theorem or4 (c0 c1 c2 c3 : Nat) (h0 : c0 < 256) (h1 : c1 < 256) (h2 : c2 < 256) (h3 : c3 < 256) :
    bits .or .u32 (bits .or .u32 (bits .or .u32 (c0 : Int) ((c1 : Int) * 256)) ((c2 : Int) * 65536)) ((c3 : Int) * 16777216) = (lwN c0 c1 c2 c3 : Int) := by
  have e1 := u32_or_nat c0 (c1 * 256) (by omega) (by omega)
  rw [show c1 * 256 = c1 * 2 ^ 8 by rfl, or_at c0 c1 8 (by omega), show ((c1 * 2 ^ 8 : Nat) : Int) = (c1 : Int) * 256 by simp] at e1
  have e2 := u32_or_nat (c0 + 2 ^ 8 * c1) (c2 * 65536) (by omega) (by omega)
  rw [show c2 * 65536 = c2 * 2 ^ 16 by rfl, or_at _ c2 16 (by omega), show ((c2 * 2 ^ 16 : Nat) : Int) = (c2 : Int) * 65536 by simp] at e2
  have e3 := u32_or_nat (c0 + 2 ^ 8 * c1 + 2 ^ 16 * c2) (c3 * 16777216) (by omega) (by omega)
  rw [show c3 * 16777216 = c3 * 2 ^ 24 by rfl, or_at _ c3 24 (by omega), show ((c3 * 2 ^ 24 : Nat) : Int) = (c3 : Int) * 16777216 by simp] at e3
  rw [e1, e2, e3]; unfold lwN; omega
theorem lowL_iff (c0 c1 c2 c3 : UInt8) (s : Nat) (hs : s < 4294967296) : [c0, c1, c2, c3] = lowL s ↔ lwN c0.toNat c1.toNat c2.toNat c3.toNat = s := by
  have h0 := c0.toNat_lt; have h1 := c1.toNat_lt; have h2 := c2.toNat_lt; have h3 := c3.toNat_lt
  unfold lowL lwN
  constructor
  · intro h
    simp only [List.cons.injEq, and_true] at h
    obtain ⟨a, b, c, d⟩ := h
    rw [a, b, c, d, u8n, u8n, u8n, u8n]; omega
  · intro h
    subst h
    simp only [List.cons.injEq, and_true]
    refine ⟨?_, ?_, ?_, ?_⟩ <;> apply UInt8.toNat_inj.1 <;> rw [u8n] <;> omega
theorem sub_at (b : ByteArray) (a n k : Nat) (h : a + n ≤ b.size) (hk : k < n) : (sub b a n)[k]'(by rw [sub_len b a n h]; exact hk) = b[a + k]'(by omega) := by
  unfold sub; simp; rfl
theorem sub_four (b : ByteArray) (a : Nat) (h : a + 4 ≤ b.size) : sub b a 4 = [b[a]'(by omega), b[a + 1]'(by omega), b[a + 2]'(by omega), b[a + 3]'(by omega)] := by
  refine List.ext_getElem (by rw [sub_len b a 4 h]; rfl) fun k h1 h2 => ?_
  rw [sub_len b a 4 h] at h1
  rw [sub_at b a 4 k h h1]
  have : k = 0 ∨ k = 1 ∨ k = 2 ∨ k = 3 := by omega
  rcases this with rfl | rfl | rfl | rfl <;> rfl
theorem sub_one' (b : ByteArray) (a : Nat) (h : a + 1 ≤ b.size) : sub b a 1 = [b[a]'(by omega)] := by
  refine List.ext_getElem (by rw [sub_len b a 1 h]; rfl) fun k h1 h2 => ?_
  rw [sub_len b a 1 h] at h1
  rw [sub_at b a 1 k h h1]
  have : k = 0 := by omega
  subst this; rfl
set_option maxRecDepth 100000 in
set_option maxHeartbeats 4000000 in
theorem sumAt_any (b : ByteArray) (a : Nat) (w : World) (hb : b.size < 4611686018427387904) (ha : a + 4 ≤ b.size) :
    Calls Tryd.prog 65 #[.string b, .int .i64 a] w fun e w' => e = .returned (.int .u32 (lwN (b[a]).toNat (b[a + 1]).toNat (b[a + 2]).toNat (b[a + 3]).toNat)) ∧ ∃ m, w' = w.drewN m := by
  have h0 := (b[a]).toNat_lt; have h1 := (b[a + 1]).toNat_lt; have h2 := (b[a + 2]).toNat_lt; have h3 := (b[a + 3]).toNat_lt
  have ho := or4 _ _ _ _ h0 h1 h2 h3
  have i0 : (a : Int) < (b.size : Int) := by omega
  have i1 : (a : Int) + 1 < (b.size : Int) := by omega
  have i2 : (a : Int) + 2 < (b.size : Int) := by omega
  have i3 : (a : Int) + 3 < (b.size : Int) := by omega
  have j0 : 0 ≤ (a : Int) := by omega
  have j1 : 0 ≤ (a : Int) + 1 := by omega
  have j2 : 0 ≤ (a : Int) + 2 := by omega
  have j3 : 0 ≤ (a : Int) + 3 := by omega
  go_enter Tryd.func65, Tryd.ntmps65
  go_wp2
  go_quiet (fail)
  go_wp2
  go_ret
  exact ⟨rfl, ⟨_, rfl⟩⟩
def lwS (l : List UInt8) : Nat := match l with
  | [c0, c1, c2, c3] => lwN c0.toNat c1.toNat c2.toNat c3.toNat
  | _ => 0
theorem lwS_iff (b : ByteArray) (a s : Nat) (h : a + 4 ≤ b.size) (hs : s < 4294967296) : lwS (sub b a 4) = s ↔ sub b a 4 = lowL s := by
  rw [sub_four b a h]; exact (lowL_iff _ _ _ _ s hs).symm
theorem lwS_lt (b : ByteArray) (a : Nat) (h : a + 4 ≤ b.size) : lwS (sub b a 4) < 4294967296 := by
  rw [sub_four b a h]
  have h0 := (b[a]).toNat_lt; have h1 := (b[a + 1]).toNat_lt; have h2 := (b[a + 2]).toNat_lt; have h3 := (b[a + 3]).toNat_lt
  show lwN _ _ _ _ < _; unfold lwN; omega
theorem sumAt_sub (b : ByteArray) (a : Nat) (w : World) (hb : b.size < 4611686018427387904) (ha : a + 4 ≤ b.size) :
    Calls Tryd.prog 65 #[.string b, .int .i64 a] w fun e w' => e = .returned (.int .u32 (lwS (sub b a 4))) ∧ ∃ m, w' = w.drewN m := by
  rw [sub_four b a ha]; exact sumAt_any b a w hb ha
theorem ext_sub (b : ByteArray) (a c : Nat) : (b.extract a c).data.toList = sub b a (c - a) := by
  unfold sub; rw [ByteArray.data_extract, Array.toList_extract, List.extract_eq_take_drop]
set_option maxRecDepth 100000 in
set_option maxHeartbeats 4000000 in
theorem begun_10 (b : ByteArray) (w : World) (hb : b.size < 4611686018427387904) (h10 : 10 ≤ b.size) (hm : (b[0]).toNat = 167) (n : Nat) (x : Int)
    (hR : (n, x) = if sub b 6 4 = lowL (crc 0 (sub b 0 6)) then
      if (b[1]).toNat = 0 then (0, 35)
      else if numL (sub b 2 4) ≤ 65536 then (numL (sub b 2 4), 0)
      else (0, 36)
    else (0, 34)) :
    Calls Tryd.prog 64 #[.string b] w fun e w' => e = .returned (.tuple #[.int .i64 n, .int .i64 x]) ∧ ∃ m, w' = w.drewN m := by
  have h1 := (b[1]).toNat_lt
  have e6 : (b.extract 0 6).data.toList = sub b 0 6 := ext_sub b 0 6
  have s6 : (b.extract 0 6).size = 6 := by rw [ba_size, e6, sub_len b 0 6 (by omega)]
  have hl := lwS_lt b 6 (by omega)
  have hc := crc_lt (s := 0) (sub b 0 6) (by omega)
  have hi := lwS_iff b 6 (crc 0 (sub b 0 6)) (by omega) hc
  have HR : Hid ((n, x) = if sub b 6 4 = lowL (crc 0 (sub b 0 6)) then
      if (b[1]).toNat = 0 then (0, 35)
      else if numL (sub b 2 4) ≤ 65536 then (numL (sub b 2 4), 0)
      else (0, 36)
    else (0, 34)) := hR
  clear hR
  have z6 : (6 : Int) ≤ (b.size : Int) := by omega
  have HE6 : Hid ((b.extract 0 6).data.toList = sub b 0 6) := e6
  clear e6
  have HI : Hid (lwS (sub b 6 4) = crc 0 (sub b 0 6) ↔ sub b 6 4 = lowL (crc 0 (sub b 0 6))) := hi
  clear hi
  obtain ⟨S, hS⟩ : ∃ S, S = crc 0 (sub b 0 6) := ⟨_, rfl⟩
  obtain ⟨L, hL⟩ : ∃ L, L = lwS (sub b 6 4) := ⟨_, rfl⟩
  rw [← hS] at hc
  rw [← hL] at hl
  have HS : Hid (S = crc 0 (sub b 0 6)) := hS
  have HL : Hid (L = lwS (sub b 6 4)) := hL
  clear hS hL
  have hA : ∀ W, Calls Tryd.prog 65 #[.string b, .int .i64 6] W (fun e w' => e = .returned (.int .u32 L) ∧ ∃ m, w' = W.drewN m) := fun W => by rw [HL.out]; exact sumAt_sub b 6 W hb (by omega)
  have hBs : ∀ W, Calls Tryd.prog 66 #[.string (b.extract 0 6)] W (fun e w' => e = .returned (.int .u32 S) ∧ w' = W) := fun W => by rw [HS.out, ← HE6.out]; exact rsum_any (b.extract 0 6) W (by omega)
  go_enter Tryd.func64, Tryd.ntmps64
  go_wp2
  go_quiet (first | (go_at_call 65; exact Calls.quiet_of (hA _)) | (go_at_call 66; exact Calls.quiet_of_same (hBs _)))
  clear hA hBs
  have hI := HI.out
  rw [← HL.out, ← HS.out] at hI
  have hR := HR.out
  rw [← HS.out] at hR
  clear HR HI
  by_cases hq : sub b 6 4 = lowL S
  · rw [if_pos hq] at hR
    have hLS : L = S := hI.2 hq
    have hne : ((L : Int) != (S : Int)) = false := by rw [hLS]; simp
    clear hLS hI hq
    by_cases hz : (b[1]).toNat = 0
    · rw [if_pos hz] at hR
      obtain ⟨rfl, rfl⟩ := Prod.mk.inj hR
      go_wp2
      go_ret2
      exact ⟨rfl, ⟨_, rfl⟩⟩
    · rw [if_neg hz] at hR
      have hn := numL_sub_lt b 2 4 4 (by omega) (by omega)
      have hn' : numL (sub b 2 4) < 4294967296 := hn
      obtain ⟨N, hN⟩ : ∃ N, N = numL (sub b 2 4) := ⟨_, rfl⟩
      have hC : ∀ W, Calls Tryd.prog 73 #[.string b, .int .i64 2, .int .i64 4] W (fun e w' => e = .returned (.int .u64 N) ∧ w' = W) := fun W => by rw [hN]; exact number_ok b 2 4 W hb (by omega) (by omega)
      rw [← hN] at hR hn'
      clear hN hn
      by_cases h6 : N ≤ 65536
      · rw [if_pos h6] at hR
        obtain ⟨rfl, rfl⟩ := Prod.mk.inj hR
        go_wp2_with fail
        refine (hC _).mono ?_
        rintro e w1 ⟨rfl, rfl⟩
        go_wp2
        go_ret2
        exact ⟨rfl, ⟨_, rfl⟩⟩
      · rw [if_neg h6] at hR
        obtain ⟨rfl, rfl⟩ := Prod.mk.inj hR
        go_wp2_with fail
        refine (hC _).mono ?_
        rintro e w1 ⟨rfl, rfl⟩
        go_wp2
        go_ret2
        exact ⟨rfl, ⟨_, rfl⟩⟩
  · rw [if_neg hq] at hR
    obtain ⟨rfl, rfl⟩ := Prod.mk.inj hR
    have hLS : L ≠ S := fun h => hq (hI.1 h)
    have hne : ((L : Int) != (S : Int)) = true := by simp; omega
    clear hLS hI hq
    go_wp2
    go_ret2
    exact ⟨rfl, ⟨_, rfl⟩⟩
theorem mark_iff (b : ByteArray) (h : 1 ≤ b.size) : sub b 0 1 = [167] ↔ (b[0]).toNat = 167 := by
  rw [sub_one' b 0 (by omega)]
  constructor
  · intro e; rw [(List.cons.inj e).1]; rfl
  · intro e; rw [show b[0] = 167 from UInt8.toNat_inj.1 e]
set_option maxRecDepth 100000 in
set_option maxHeartbeats 4000000 in
theorem begun_any (b : ByteArray) (w : World) (hb : b.size < 4611686018427387904) :
    Calls Tryd.prog 64 #[.string b] w fun e w' => e = .returned (.tuple #[.int .i64 (hdA b 0).2.1, .int .i64 (hdA b 0).2.2.2]) ∧ ∃ m, w' = w.drewN m := by
  unfold hdA
  by_cases h0 : b.size ≤ 0
  · rw [if_pos h0]
    have hz : b.size = 0 := by omega
    go_enter Tryd.func64, Tryd.ntmps64
    go_wp2
    go_ret2
    exact ⟨rfl, ⟨0, rfl⟩⟩
  · rw [if_neg h0]
    have h1 : 1 ≤ b.size := by omega
    by_cases hm : (b[0]).toNat = 167
    · rw [if_pos ((mark_iff b h1).2 hm)]
      by_cases h10 : b.size < 0 + 10
      · rw [if_pos h10]
        have h10' : b.size < 10 := by omega
        clear h10 h0
        go_enter Tryd.func64, Tryd.ntmps64
        go_wp2
        go_ret2
        exact ⟨rfl, ⟨0, rfl⟩⟩
      · rw [if_neg h10]
        have h10' : 10 ≤ b.size := by omega
        have e1 : numL (sub b (0 + 1) 1) = (b[1]).toNat := by rw [sub_one' b (0 + 1) (by omega)]; simp [numL]
        rw [e1]
        refine begun_10 b w hb h10' hm _ _ ?_
        by_cases q1 : sub b (0 + 6) 4 = lowL (crc 0 (sub b 0 6))
        · by_cases q2 : (b[1]).toNat = 0
          · simp only [if_pos q1, if_pos q2]
          · by_cases q3 : numL (sub b (0 + 2) 4) ≤ 65536
            · simp only [if_pos q1, if_neg q2, if_pos q3]
            · simp only [if_pos q1, if_neg q2, if_neg q3]
        · simp only [if_neg q1]
    · rw [if_neg (fun h => hm ((mark_iff b h1).1 h))]
      clear h0
      go_enter Tryd.func64, Tryd.ntmps64
      go_wp2
      go_ret2
      exact ⟨rfl, ⟨0, rfl⟩⟩
theorem rest_size (b : ByteArray) (a : Nat) (_h : a ≤ b.size) : (b.extract a b.size).size = b.size - a := by
  rw [ba_size, ext_sub]; unfold sub
  rw [List.length_take, List.length_drop]
  have : b.data.toList.length = b.size := Array.length_toList
  omega
theorem rest_sub (b : ByteArray) (a i n : Nat) (h : a + i + n ≤ b.size) : sub (b.extract a b.size) i n = sub b (a + i) n := by
  have e := ext_sub b a b.size
  unfold sub at e ⊢
  rw [e, List.drop_take, List.take_take, List.drop_drop]
  congr 1; omega
theorem hdA_rest (b : ByteArray) (a : Nat) (ha : a ≤ b.size) : hdA (b.extract a b.size) 0 = hdA b a := by
  unfold hdA
  rw [rest_size b a ha]
  by_cases h0 : b.size ≤ a
  · rw [if_pos (by omega), if_pos h0]
  · rw [if_neg (by omega), if_neg h0, rest_sub b a 0 1 (by omega)]
    by_cases h1 : sub b a 1 = [167]
    · rw [Nat.add_zero, if_pos h1, if_pos h1]
      by_cases h10 : b.size < a + 10
      · rw [if_pos (by omega), if_pos h10]
      · rw [if_neg (by omega), if_neg h10, rest_sub b a (0 + 6) 4 (by omega), rest_sub b a 0 6 (by omega), rest_sub b a (0 + 1) 1 (by omega), rest_sub b a (0 + 2) 4 (by omega)]
        rfl
    · rw [Nat.add_zero, if_neg h1, if_neg h1]
/-- The first six bytes with the payload behind them: On, or Sum of the whole. -/
theorem hdA_sum (b : ByteArray) (a : Nat) (h : (hdA b a).2.2.2 = 0) : (hdA b a).2.2.1 = crc 0 (sub b a 6) ∧ (hdA b a).1 = numL (sub b (a + 1) 1) := by
  unfold hdA at h ⊢
  split at h
  · simp at h
  · split at h
    · split at h
      · simp at h
      · split at h
        · split at h
          · simp at h
          · split at h
            · rename_i h1 h2 h3 h4 h5 h6
              rw [if_neg h1, if_pos h2, if_neg h3, if_pos h4, if_neg h5, if_pos h6]
              exact ⟨rfl, rfl⟩
            · simp at h
        · simp at h
    · simp at h
end Go.Proofs.YtjkhhjboejkafaaDoor
