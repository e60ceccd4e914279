/-
  DERIVED. SPm, JUn, as one text.
-/
import Derived.Test.YtjkhhjboejkafaaDoorLzAK
import Derived.Test.YtjkhhjboejkafaaDoorLzAJ
import Derived.Handy
namespace Go.Proofs.YtjkhhjboejkafaaDoor
open Go.RowKit Go.Proofs.SealMath
theorem numL_four (a b c d : UInt8) : numL [a, b, c, d] = 16777216 * a.toNat + 65536 * b.toNat + 256 * c.toNat + d.toNat := by
  simp only [numL, List.foldl_cons, List.foldl_nil]; omega
theorem fixL_four (n : Nat) : fixL n 4 = [UInt8.ofNat (n / 16777216 % 256), UInt8.ofNat (n / 65536 % 256), UInt8.ofNat (n / 256 % 256), UInt8.ofNat (n % 256)] := by
  have e : List.range 4 = [0, 1, 2, 3] := by decide
  unfold fixL fxB; rw [e]; simp
theorem num_fix (n : Nat) (h : n < 4294967296) : numL (fixL n 4) = n := by
  rw [fixL_four, numL_four, u8n, u8n, u8n, u8n]; omega
theorem four_of (l : List UInt8) (h : l.length = 4) : ∃ a b c d, l = [a, b, c, d] := by
  match l, h with
  | [a, b, c, d], _ => exact ⟨a, b, c, d, rfl⟩
theorem fix_num (l : List UInt8) (h : l.length = 4) : fixL (numL l) 4 = l := by
  obtain ⟨a, b, c, d, rfl⟩ := four_of l h
  have ha := a.toNat_lt; have hb := b.toNat_lt; have hc := c.toNat_lt; have hd := d.toNat_lt
  rw [fixL_four, numL_four]
  simp only [List.cons.injEq, and_true]
  refine ⟨?_, ?_, ?_, ?_⟩ <;> apply UInt8.toNat_inj.1 <;> rw [u8n] <;> omega
theorem num_one (c : UInt8) : numL [c] = c.toNat := by simp [numL]
theorem of_one (c : UInt8) : UInt8.ofNat (numL [c]) = c := by rw [num_one]; apply UInt8.toNat_inj.1; rw [u8n]; exact Nat.mod_eq_of_lt c.toNat_lt
/-- Where head tells no refusal. -/
theorem hdA_yes (b : ByteArray) (a : Nat) (h : (hdA b a).2.2.2 = 0) : a + 10 ≤ b.size ∧ ∃ k n, 1 ≤ k ∧ k ≤ 255 ∧ n ≤ 65536 ∧ hdA b a = (k, n, crc 0 (hdL k n), 0) ∧ sub b a 6 = hdL k n ∧ sub b (a + 6) 4 = lowL (crc 0 (hdL k n)) := by
  unfold hdA at h
  split at h
  · simp at h
  · split at h
    · split at h
      · simp at h
      · split at h
        · split at h
          · simp at h
          · split at h
            · rename_i h1 h2 h3 h4 h5 h6
              have e : hdA b a = (numL (sub b (a + 1) 1), numL (sub b (a + 2) 4), crc 0 (sub b a 6), 0) := by
                unfold hdA; rw [if_neg h1, if_pos h2, if_neg h3, if_pos h4, if_neg h5, if_pos h6]
              obtain ⟨c, hc⟩ := sub_one b (a + 1) (by omega)
              have hl := c.toNat_lt
              have h6' : sub b a 6 = hdL (numL (sub b (a + 1) 1)) (numL (sub b (a + 2) 4)) := by
                unfold hdL
                rw [fix_num _ (sub_len b (a + 2) 4 (by omega)), sub_add b a 1 5, h2, sub_add b (a + 1) 1 4, hc, of_one]; rfl
              rw [hc, num_one] at h5
              refine ⟨by omega, numL (sub b (a + 1) 1), numL (sub b (a + 2) 4), by rw [hc, num_one]; omega, by rw [hc, num_one]; omega, h6, by rw [e, ← h6'], h6', by rw [← h6']; exact h4⟩
            · simp at h
        · simp at h
    · simp at h
/-- What Parse takes is a frame. -/
theorem psA_yes (b : ByteArray) (a : Nat) (h : (psA b a).2.2.2 = 0) : ∃ k p, 1 ≤ k ∧ k ≤ 255 ∧ p.length ≤ 65536 ∧ a + (p.length + 14) ≤ b.size ∧ psA b a = (k, p, a + (p.length + 14), 0) ∧ sub b a (p.length + 14) = frL k p := by
  unfold psA at h ⊢
  by_cases h0 : (hdA b a).2.2.2 = 0
  · rw [if_pos h0] at h ⊢
    obtain ⟨h10, k, n, hk1, hk2, hn, e, e6, e4⟩ := hdA_yes b a h0
    rw [e] at h ⊢
    dsimp only at h ⊢
    by_cases h14 : b.size < a + 14 + n
    · rw [if_pos h14] at h; simp at h
    · rw [if_neg h14] at h ⊢
      by_cases hq : sub b (a + 10 + n) 4 = lowL (crc (crc 0 (hdL k n)) (sub b (a + 10) n))
      · rw [if_pos hq]
        have hl := sub_len b (a + 10) n (by omega)
        refine ⟨k, sub b (a + 10) n, hk1, hk2, by omega, by omega, by rw [hl, show a + 14 + n = a + (n + 14) by omega], ?_⟩
        unfold frL
        rw [hl, show n + 14 = 6 + 4 + n + 4 by omega, sub_add b a (6 + 4 + n) 4, sub_add b a (6 + 4) n, sub_add b a 6 4, e6, e4, show a + (6 + 4 + n) = a + 10 + n by omega, hq, crc_append]
      · rw [if_neg hq] at h; simp at h
  · rw [if_neg h0] at h; exact absurd h h0
theorem sub_part (b : ByteArray) (a n i m : Nat) (l : List UInt8) (h : sub b a n = l) (him : i + m ≤ n) : sub b (a + i) m = (l.drop i).take m := by
  subst h; unfold sub
  rw [List.drop_take, List.take_take, List.drop_drop]
  congr 1; omega
theorem lowL_len (s : Nat) : (lowL s).length = 4 := rfl
/-- A frame is taken, wherever it stands. -/
theorem psA_frame (b : ByteArray) (a k : Nat) (p : List UInt8) (hk1 : 1 ≤ k) (hk2 : k ≤ 255) (hp : p.length ≤ 65536) (hs : a + (p.length + 14) ≤ b.size) (h : sub b a (p.length + 14) = frL k p) :
    psA b a = (k, p, a + (p.length + 14), 0) := by
  have hd := hdL_len k p.length
  have e6 : sub b a 6 = hdL k p.length := by
    have := sub_part b a _ 0 6 _ h (by omega)
    rw [Nat.add_zero] at this
    rw [this]; unfold frL
    rw [List.drop_zero, List.append_assoc, List.append_assoc, List.take_append_of_le_length (by omega), List.take_of_length_le (by omega)]
  have e4 : sub b (a + 6) 4 = lowL (crc 0 (hdL k p.length)) := by
    have := sub_part b a _ 6 4 _ h (by omega)
    rw [this]; unfold frL
    rw [List.append_assoc, List.append_assoc, List.drop_append_of_le_length (by omega), List.drop_of_length_le (by omega), List.nil_append, List.take_append_of_le_length (by rw [lowL_len]; omega), List.take_of_length_le (by rw [lowL_len]; omega)]
  have ep : sub b (a + 10) p.length = p := by
    have := sub_part b a _ 10 p.length _ h (by omega)
    rw [this]; unfold frL
    rw [List.append_assoc, List.drop_append_of_le_length (by simp [hd, lowL_len]), List.drop_of_length_le (by simp [hd, lowL_len]), List.nil_append, List.take_append_of_le_length (by omega), List.take_of_length_le (by omega)]
  have es : sub b (a + 10 + p.length) 4 = lowL (crc 0 (hdL k p.length ++ p)) := by
    have := sub_part b a _ (10 + p.length) 4 _ h (by omega)
    rw [Nat.add_assoc, this]; unfold frL
    rw [List.drop_append_of_le_length (by simp [hd, lowL_len]; omega), List.drop_of_length_le (by simp [hd, lowL_len]; omega), List.nil_append, List.take_of_length_le (by rw [lowL_len]; omega)]
  have e1 : sub b a 1 = [167] := by
    have := sub_part b a 6 0 1 _ e6 (by omega)
    rw [Nat.add_zero] at this; rw [this]; rfl
  have ek : sub b (a + 1) 1 = [UInt8.ofNat k] := by
    have := sub_part b a 6 1 1 _ e6 (by omega)
    rw [this]; rfl
  have en : sub b (a + 2) 4 = fixL p.length 4 := by
    have := sub_part b a 6 2 4 _ e6 (by omega)
    rw [this]
    show (fixL p.length 4).take 4 = _
    rw [List.take_of_length_le (by rw [fixL_len]; omega)]
  have ekn : numL (sub b (a + 1) 1) = k := by rw [ek, num_one, u8n]; omega
  have enn : numL (sub b (a + 2) 4) = p.length := by rw [en, num_fix _ (by omega)]
  have eh : hdA b a = (k, p.length, crc 0 (hdL k p.length), 0) := by
    unfold hdA
    rw [if_neg (by omega), if_pos e1, if_neg (by omega), e6, if_pos e4, ekn, enn, if_neg (by omega), if_pos hp]
  unfold psA
  rw [eh]
  dsimp only
  rw [if_pos rfl, if_neg (by omega), ep, ← crc_append, if_pos es, show a + 14 + p.length = a + (p.length + 14) by omega]
/-- Frame's answers. -/
theorem frT_ok (k : Int) (p : ByteArray) (h : frE k p = 0) : ∃ a : Nat, k = a ∧ 1 ≤ a ∧ a ≤ 255 ∧ p.data.toList.length ≤ 65536 ∧ frT k p = frL a p.data.toList := by
  unfold frE at h
  unfold frT
  by_cases h1 : 1 ≤ k ∧ k ≤ 255
  · rw [if_pos h1] at h ⊢
    by_cases h2 : p.size ≤ 65536
    · rw [if_pos h2]
      exact ⟨k.toNat, by omega, by omega, by omega, by rw [← ba_size]; exact h2, rfl⟩
    · rw [if_neg h2] at h; simp at h
  · rw [if_neg h1] at h; simp at h
theorem frT_no (k : Int) (p : ByteArray) (h : frE k p ≠ 0) : frT k p = [] := by
  unfold frE at h
  unfold frT
  by_cases h1 : 1 ≤ k ∧ k ≤ 255
  · rw [if_pos h1] at h ⊢
    by_cases h2 : p.size ≤ 65536
    · rw [if_pos h2] at h; exact absurd rfl h
    · rw [if_neg h2]
  · rw [if_neg h1]
theorem frT_yes (k : Nat) (p : ByteArray) (h1 : 1 ≤ k) (h2 : k ≤ 255) (h3 : p.data.toList.length ≤ 65536) : frE (k : Int) p = 0 ∧ frT (k : Int) p = frL k p.data.toList := by
  have hh : 1 ≤ (k : Int) ∧ (k : Int) ≤ 255 := by omega
  rw [← ba_size] at h3
  unfold frE frT
  rw [if_pos hh, if_pos h3, if_pos hh, if_pos h3]
  exact ⟨rfl, rfl⟩
/-- Parse of a frame that stands alone or among other bytes. -/
theorem prA_frame (b : ByteArray) (a k : Nat) (p : List UInt8) (x y : List UInt8) (hk1 : 1 ≤ k) (hk2 : k ≤ 255) (hp : p.length ≤ 65536) (hb : b.data.toList = x ++ frL k p ++ y) (ha : x.length = a) :
    prA b a = (k, p, a + (p.length + 14), 0) := by
  have hs : b.size = a + (p.length + 14) + y.length := by rw [ba_size, hb]; simp [frL_len, ha]; omega
  unfold prA
  rw [if_pos (by omega), Int.toNat_natCast]
  refine psA_frame b a k p hk1 hk2 hp (by omega) ?_
  unfold sub
  rw [hb, List.append_assoc, List.drop_append_of_le_length (by omega), List.drop_of_length_le (by omega), List.nil_append, List.take_append_of_le_length (by rw [frL_len]; omega), List.take_of_length_le (by rw [frL_len]; omega)]
theorem known : crc 0 [49, 50, 51, 52, 53, 54, 55, 56, 57] = 3808858755 := by decide +kernel
end Go.Proofs.YtjkhhjboejkafaaDoor
set_option linter.unusedVariables false
set_option linter.unusedSimpArgs false
namespace Go.Proofs.YtjkhhjboejkafaaDoor
open Go.RowKit Go.Proofs.SealMath
/-- An update. -/
structure Up where
  s : Nat
  k : Nat
  i : Nat
  c : List UInt8
abbrev up0 : Up := ⟨0, 0, 0, []⟩
abbrev upV (u : Up) : Array Value := uC u.s u.k u.i ⟨u.c.toArray⟩
/-- What a frame of this kind and payload says. -/
def unA (k : Nat) (b : ByteArray) (x : Int) : Up × Int :=
  if k = 1 ∨ k = 2 then
    if (vA b 0).2.2 = 0 then
      if 1 ≤ (vA b 0).1 ∧ (vA b 0).1 ≤ 1152921504606846976 then
        if (vA b (vA b 0).2.1).2.2 = 0 then
          if (vA b (vA b 0).2.1).1 ≤ 281474976710656 then
            if fitB k (b.size - (vA b (vA b 0).2.1).2.1) x = true then (⟨(vA b 0).1, k, (vA b (vA b 0).2.1).1, b.data.toList.drop (vA b (vA b 0).2.1).2.1⟩, 0)
            else (up0, 11)
          else (up0, 60)
        else (up0, (vA b (vA b 0).2.1).2.2)
      else (up0, 51)
    else (up0, (vA b 0).2.2)
  else (up0, 35)
/-- .. and may be written. -/
structure UFr (w : World) (g : Nat) : Prop where
  f0 : w.frozen? ⟨g, 0, none⟩ = false
  f1 : w.frozen? ⟨g, 1, none⟩ = false
  f2 : w.frozen? ⟨g, 2, none⟩ = false
  f3 : w.frozen? ⟨g, 3, none⟩ = false
theorem UFr.new (w : World) (s k i : Int) (c : ByteArray) : UFr (w.alloc (.cells (uC s k i c) 39)) w.heap.size := by
  have h : ∀ j, (w.alloc (.cells (uC s k i c) 39)).frozen? ⟨w.heap.size, j, none⟩ = false := fun j => by
    unfold World.frozen?
    rw [heap_alloc_last]
    simp
  exact ⟨h 0, h 1, h 2, h 3⟩
theorem UFr.below {w w' : World} {g B : Nat} (h : UFr w g) (b : Below B w w') (hg : g < B) : UFr w' g :=
  ⟨(b.frozen (p := ⟨g, 0, none⟩) hg).trans h.f0, (b.frozen (p := ⟨g, 1, none⟩) hg).trans h.f1, (b.frozen (p := ⟨g, 2, none⟩) hg).trans h.f2, (b.frozen (p := ⟨g, 3, none⟩) hg).trans h.f3⟩
theorem vA_lt (b : ByteArray) (p : Nat) (h : (vA b p).2.2 = 0) : (vA b p).1 < 18446744073709551616 ∧ (vA b p).2.1 ≤ b.size := by
  obtain ⟨a, c, d⟩ := vA_only b p (vA b p).1 (vA b p).2.1 (by rw [← h])
  exact ⟨a, d.2⟩
theorem var_at (b : ByteArray) (p : Nat) (w : World) (hb : b.size < 4611686018427387904) (v q : Nat) (e : Int) (h : vA b p = (v, q, e)) :
    Calls Tryd.prog 61 #[.string b, .int .i64 p] w fun r w' => r = .returned (.tuple #[.int .u64 v, .int .i64 q, .int .i64 e]) ∧ w' = w := by
  have := var_any b p w hb
  rw [h] at this
  exact this
theorem ret_upd {fn : Func} {a b : Value} {r r' : Value} (h : a = b) : Ending.returned (.tuple #[a, r]) = .returned (.tuple #[b, r]) := by rw [h]
set_option maxHeartbeats 4000000 in
set_option maxRecDepth 100000 in
theorem unpack_kind (k : Nat) (b : ByteArray) (x : Int) (w : World) (hk : ¬ (k = 1 ∨ k = 2)) :
    Calls Tryd.prog 49 #[.int .i64 k, .string b, .int .i64 x] w fun e w' => e = .returned (.tuple #[.agg (upV up0), .int .i64 35]) ∧ Below w.heap.size w w' := by
  have h2' : decide ((k : Int) = 1 ∨ (k : Int) = 2) = false := decide_eq_false (by omega)
  go_enter Tryd.func49, Tryd.ntmps49
  go_wp2_with first
    | (go_at_call 60; refine (isKind_any _ _).mono ?_; rintro e w' ⟨rfl, rfl⟩; rw [h2'])
  refine bodyPost_ret (v := .tuple #[.agg (upV up0), .int .i64 35]) (by simp [results, Tryd.results49, go_sem]; try rfl) rfl ?_
  exact ⟨rfl, (Below.refl _ w).alloc (Nat.le_refl _) _⟩
set_option maxHeartbeats 4000000 in
set_option maxRecDepth 100000 in
theorem unpack_all (k : Nat) (b : ByteArray) (x : Int) (w : World) (hb : b.size < 4611686018427387904) (hk : k = 1 ∨ k = 2) (v q : Nat) (e1 : Int) (hv : vA b 0 = (v, q, e1)) (hv2 : e1 = 0 → v < 18446744073709551616)
    (i at_ : Nat) (e2 : Int) (hi : vA b q = (i, at_, e2)) (hi2 : e2 = 0 → i < 18446744073709551616 ∧ at_ ≤ b.size) (E : Up × Int)
    (hE : E = if e1 = 0 then if 1 ≤ v ∧ v ≤ 1152921504606846976 then if e2 = 0 then if i ≤ 281474976710656 then if fitB k (b.size - at_) x = true then (⟨v, k, i, b.data.toList.drop at_⟩, 0) else (up0, 11) else (up0, 60) else (up0, e2) else (up0, 51) else (up0, e1)) :
    Calls Tryd.prog 49 #[.int .i64 k, .string b, .int .i64 x] w fun e w' => e = .returned (.tuple #[.agg (upV E.1), .int .i64 E.2]) ∧ Below w.heap.size w w' := by
  have h2' : decide ((k : Int) = 1 ∨ (k : Int) = 2) = true := decide_eq_true (by omega)
  have c1 := fun W => var_at b 0 W hb v q e1 hv
  have c2 := fun W => var_at b q W hb i at_ e2 hi
  have hn : Below w.heap.size w (w.alloc (.cells (upV up0) 39)) := (Below.refl _ w).alloc (Nat.le_refl _) _
  clear hv hi
  by_cases he : e1 = 0
  · rw [if_pos he] at hE
    have hv3 := hv2 he
    clear hv2
    subst he
    by_cases h1 : 1 ≤ v ∧ v ≤ 1152921504606846976
    · rw [if_pos h1] at hE
      have h1' : decide (1 ≤ (v : Int) ∧ (v : Int) ≤ 1152921504606846976) = true := decide_eq_true (by omega)
      by_cases he2 : e2 = 0
      · rw [if_pos he2] at hE
        obtain ⟨hi3, hi4⟩ := hi2 he2
        clear hi2
        subst he2
        by_cases h3 : i ≤ 281474976710656
        · rw [if_pos h3] at hE
          have h3' : decide (0 ≤ (i : Int) ∧ (i : Int) ≤ 281474976710656) = true := decide_eq_true (by omega)
          have hsz : (b.extract at_ b.size).size = b.size - at_ := by rw [ByteArray.size_extract]; omega
          have c4 := fun W => fits_any v k i (b.extract at_ b.size) x W
          rw [hsz] at c4
          have hcl : (b.extract at_ b.size) = ⟨(b.data.toList.drop at_).toArray⟩ := by
            apply ByteArray.ext
            rw [ByteArray.data_extract]
            apply Array.toList_inj.1
            rw [Array.toList_extract]
            simp [List.extract, List.take_of_length_le]
          have HC : Hid _ := hcl
          clear hcl hsz
          obtain ⟨C, hC⟩ : ∃ C : ByteArray, C = b.extract at_ b.size := ⟨_, rfl⟩
          rw [← hC] at c4 HC
          have U0 := UAt.new w 0 0 0 ⟨#[]⟩
          have F0 := UFr.new w 0 0 0 ⟨#[]⟩
          have U1 := UAt.new (w.alloc (.cells (uC 0 0 0 ⟨#[]⟩) 39)) v k i C
          have b0 : Below (w.alloc (.cells (uC 0 0 0 ⟨#[]⟩) 39)).heap.size (w.alloc (.cells (uC 0 0 0 ⟨#[]⟩) 39)) ((w.alloc (.cells (uC 0 0 0 ⟨#[]⟩) 39)).alloc (.cells (uC v k i C) 39)) := (Below.refl _ _).alloc (Nat.le_refl _) _
          rw [World.size_alloc] at U1
          cases hf : fitB k (b.size - at_) x
          · rw [hf] at c4
            rw [if_neg (by rw [hf]; exact Bool.false_ne_true)] at hE
            subst hE
            clear hf
            go_enter Tryd.func49, Tryd.ntmps49
            go_wp2_with first
              | (go_at_call 60; refine (isKind_any _ _).mono ?_; rintro e w' ⟨rfl, rfl⟩; rw [h2'])
              | (go_at_call 61; refine (c1 _).mono ?_; rintro e w' ⟨rfl, rfl⟩; clear c1)
              | (go_at_call 43; refine (isSeq_any _ _).mono ?_; rintro e w' ⟨rfl, rfl⟩; rw [h1'])
              | (go_at_call 61; refine (c2 _).mono ?_; rintro e w' ⟨rfl, rfl⟩; clear c2)
              | (go_at_call 62; refine (isID_any _ _).mono ?_; rintro e w' ⟨rfl, rfl⟩; rw [h3'])
              | (go_at_call 63; rw [← hC]; refine (c4 _).mono ?_; rintro e w1 ⟨rfl, b1⟩; clear c4; obtain ⟨q0, q1, q2, q3⟩ := (U0.below b0 (by simp)).below b1 (by simp; omega); obtain ⟨f0, f1, f2, f3⟩ := (F0.below b0 (by simp)).below b1 (by simp; omega); obtain ⟨r0, r1, r2, r3⟩ := U1.below b1 (by simp); have bb := chain (chain hn b0 (Nat.le_refl _)) b1 (Nat.le_refl _); clear U0 F0 U1 b0 b1 hn)
            refine bodyPost_ret (v := .tuple #[.agg (upV up0), .int .i64 11]) (by simp [results, Tryd.results49, go_sem, q0, q1, q2, q3]; try rfl) rfl ?_
            exact ⟨rfl, (((bb.setCell (p := ⟨w.heap.size, 0, none⟩) (Nat.le_refl _) _).setCell (p := ⟨w.heap.size, 1, none⟩) (Nat.le_refl _) _).setCell (p := ⟨w.heap.size, 2, none⟩) (Nat.le_refl _) _).setCell (p := ⟨w.heap.size, 3, none⟩) (Nat.le_refl _) _⟩
          · rw [hf] at c4
            rw [if_pos hf] at hE
            subst hE
            clear hf
            go_enter Tryd.func49, Tryd.ntmps49
            go_wp2_with first
              | (go_at_call 60; refine (isKind_any _ _).mono ?_; rintro e w' ⟨rfl, rfl⟩; rw [h2'])
              | (go_at_call 61; refine (c1 _).mono ?_; rintro e w' ⟨rfl, rfl⟩; clear c1)
              | (go_at_call 43; refine (isSeq_any _ _).mono ?_; rintro e w' ⟨rfl, rfl⟩; rw [h1'])
              | (go_at_call 61; refine (c2 _).mono ?_; rintro e w' ⟨rfl, rfl⟩; clear c2)
              | (go_at_call 62; refine (isID_any _ _).mono ?_; rintro e w' ⟨rfl, rfl⟩; rw [h3'])
              | (go_at_call 63; rw [← hC]; refine (c4 _).mono ?_; rintro e w1 ⟨rfl, b1⟩; clear c4; obtain ⟨q0, q1, q2, q3⟩ := (U0.below b0 (by simp)).below b1 (by simp; omega); obtain ⟨f0, f1, f2, f3⟩ := (F0.below b0 (by simp)).below b1 (by simp; omega); obtain ⟨r0, r1, r2, r3⟩ := U1.below b1 (by simp); have bb := chain (chain hn b0 (Nat.le_refl _)) b1 (Nat.le_refl _); clear U0 F0 U1 b0 b1 hn)
            refine bodyPost_ret (v := .tuple #[.agg (uC v k i C), .int .i64 0]) (by simp [results, Tryd.results49, go_sem, q0, q1, q2, q3, r0, r1, r2, r3]; exact hC.symm) rfl ?_
            refine ⟨by rw [HC.out], ?_⟩
            exact (((bb.setCell (p := ⟨w.heap.size, 0, none⟩) (Nat.le_refl _) _).setCell (p := ⟨w.heap.size, 1, none⟩) (Nat.le_refl _) _).setCell (p := ⟨w.heap.size, 2, none⟩) (Nat.le_refl _) _).setCell (p := ⟨w.heap.size, 3, none⟩) (Nat.le_refl _) _
        · rw [if_neg h3] at hE
          subst hE
          have hwi : IntKind.i64.wrap (i : Int) = wrap64 i := by rw [IntKind.wrap_i64]; unfold wrap64; omega
          have h3' : decide (0 ≤ wrap64 (i : Int) ∧ wrap64 (i : Int) ≤ 281474976710656) = false := decide_eq_false (by unfold wrap64; omega)
          go_enter Tryd.func49, Tryd.ntmps49
          go_wp2_with first
            | (go_at_call 60; refine (isKind_any _ _).mono ?_; rintro e w' ⟨rfl, rfl⟩; rw [h2'])
            | (go_at_call 61; refine (c1 _).mono ?_; rintro e w' ⟨rfl, rfl⟩; clear c1)
            | (go_at_call 43; refine (isSeq_any _ _).mono ?_; rintro e w' ⟨rfl, rfl⟩; rw [h1'])
            | (go_at_call 61; refine (c2 _).mono ?_; rintro e w' ⟨rfl, rfl⟩; clear c2)
            | (go_at_call 62; go_loud (refine (isID_any (wrap64 i) _).mono ?_); rintro e w' ⟨rfl, rfl⟩; rw [h3'])
          refine bodyPost_ret (v := .tuple #[.agg (upV up0), .int .i64 60]) (by simp [results, Tryd.results49, go_sem]; try rfl) rfl ?_
          exact ⟨rfl, hn⟩
      · rw [if_neg he2] at hE
        subst hE
        go_enter Tryd.func49, Tryd.ntmps49
        go_wp2_with first
          | (go_at_call 60; refine (isKind_any _ _).mono ?_; rintro e w' ⟨rfl, rfl⟩; rw [h2'])
          | (go_at_call 61; refine (c1 _).mono ?_; rintro e w' ⟨rfl, rfl⟩; clear c1)
          | (go_at_call 43; refine (isSeq_any _ _).mono ?_; rintro e w' ⟨rfl, rfl⟩; rw [h1'])
          | (go_at_call 61; refine (c2 _).mono ?_; rintro e w' ⟨rfl, rfl⟩; clear c2)
        refine bodyPost_ret (v := .tuple #[.agg (upV up0), .int .i64 e2]) (by simp [results, Tryd.results49, go_sem]; try rfl) rfl ?_
        exact ⟨rfl, hn⟩
    · rw [if_neg h1] at hE
      subst hE
      have hwv : IntKind.i64.wrap (v : Int) = wrap64 v := by rw [IntKind.wrap_i64]; unfold wrap64; omega
      have h1' : decide (1 ≤ wrap64 (v : Int) ∧ wrap64 (v : Int) ≤ 1152921504606846976) = false := decide_eq_false (by unfold wrap64; omega)
      go_enter Tryd.func49, Tryd.ntmps49
      go_wp2_with first
        | (go_at_call 60; refine (isKind_any _ _).mono ?_; rintro e w' ⟨rfl, rfl⟩; rw [h2'])
        | (go_at_call 61; refine (c1 _).mono ?_; rintro e w' ⟨rfl, rfl⟩; clear c1)
        | (go_at_call 43; go_loud (refine (isSeq_any (wrap64 v) _).mono ?_); rintro e w' ⟨rfl, rfl⟩; rw [h1'])
      refine bodyPost_ret (v := .tuple #[.agg (upV up0), .int .i64 51]) (by simp [results, Tryd.results49, go_sem]; try rfl) rfl ?_
      exact ⟨rfl, hn⟩
  · rw [if_neg he] at hE
    subst hE
    go_enter Tryd.func49, Tryd.ntmps49
    go_wp2_with first
      | (go_at_call 60; refine (isKind_any _ _).mono ?_; rintro e w' ⟨rfl, rfl⟩; rw [h2'])
      | (go_at_call 61; refine (c1 _).mono ?_; rintro e w' ⟨rfl, rfl⟩; clear c1)
    refine bodyPost_ret (v := .tuple #[.agg (upV up0), .int .i64 e1]) (by simp [results, Tryd.results49, go_sem]; try rfl) rfl ?_
    exact ⟨rfl, hn⟩
end Go.Proofs.YtjkhhjboejkafaaDoor
