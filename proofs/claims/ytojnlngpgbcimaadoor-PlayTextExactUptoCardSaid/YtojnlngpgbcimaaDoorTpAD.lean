/-
  DERIVED. PlWord, as one text.
-/
import Derived.Test.YtojnlngpgbcimaaDoorTpAA
import Derived.Test.YtojnlngpgbcimaaDoorTpAC
set_option linter.unusedVariables false
set_option linter.unusedSimpArgs false
namespace Go.Proofs.YtojnlngpgbcimaaDoor
open Go.RowKit
/-- What became of a builder. -/
structure BW (W : World) (b : Nat) (v : Value) (W' : World) (p' v' : Value) (l : List UInt8) : Prop where
  bd : Bd W' b p' v' l
  st : Stay (fun k => k = b ∨ v.ownBlock = some k) W W'
  loc : ∀ k, v'.ownBlock = some k → v.ownBlock = some k ∨ W.heap.size ≤ k
section
variable {W W1 W2 : World} {b : Nat} {p p1 p2 v v1 v2 : Value} {l l1 l2 : List UInt8}
theorem BW.refl (h : Bd W b p v l) : BW W b v W p v l := ⟨h, .refl _ _, fun k hk => .inl hk⟩
theorem BW.trans (h : BW W b v W1 p1 v1 l1) (k : BW W1 b v1 W2 p2 v2 l2) : BW W b v W2 p2 v2 l2 :=
  ⟨k.bd, h.st.andThen k.st (fun i hi hF => by
    rcases hF with h1 | h1
    · exact .inl h1
    · rcases h.loc i h1 with h2 | h2
      · exact .inr h2
      · omega), fun i hi => by
    rcases k.loc i hi with h1 | h1
    · exact h.loc i h1
    · exact .inr (Nat.le_trans h.st.size h1)⟩
theorem Bd.below (h : Bd W b p v l) (k : Below W.heap.size W W1) : Bd W1 b p v l := h.kept (F := fun _ => False) (.below k) (fun h => h) (fun _ _ h => h)
theorem BW.below (h : BW W b v W1 p1 v1 l1) (k : Below W1.heap.size W1 W2) : BW W b v W2 p1 v1 l1 := ⟨h.bd.below k, h.st.trans (.below k), h.loc⟩
theorem wb_byte (h : Bd W b p v l) (x : UInt8) (hb : l.length + 1 ≤ 140737488355328) : Calls Tryd.prog 37 #[Pt b, .int .u8 x.toNat] W fun e W' => e = .returned .nilIface ∧ ∃ v', BW W b v W' (Pt b) v' (l ++ [x]) :=
  wbyte_any x W h hb _ (fun v' w' h1 h2 h3 => ⟨rfl, v', ⟨h1, h2, h3⟩⟩)
theorem wb_str (h : Bd W b p v l) (s : ByteArray) (hb : l.length + s.size ≤ 140737488355328) : Calls Tryd.prog 33 #[Pt b, .string s] W fun e W' => e = .returned (.tuple #[.int .i64 s.size, .nilIface]) ∧ ∃ v', BW W b v W' (Pt b) v' (l ++ s.data.toList) :=
  wstr_any s W h hb _ (fun v' w' h1 h2 h3 => ⟨rfl, v', ⟨h1, h2, h3⟩⟩)
end
theorem stands_any (c : UInt8) (w : World) : Calls Tryd.prog 62 #[.int .u8 c.toNat] w fun e w' => e = .returned (.bool (stB c)) ∧ w' = w := by
  have hst : stB c = (decide (32 < c.toNat) && decide (c.toNat < 127) && decide (c.toNat ≠ 37)) := rfl
  rw [hst]
  generalize c.toNat = n
  by_cases a1 : 32 < n
  · have i1 : (32 : Int) < (n : Int) := by omega
    by_cases a2 : n < 127
    · have i2 : (n : Int) < 127 := by omega
      by_cases a3 : n = 37
      · subst a3
        go_enter Tryd.func62, Tryd.ntmps62
        go_wp2
        go_ret
        exact ⟨rfl, rfl⟩
      · have i3 : ¬ (n : Int) = 37 := by omega
        go_enter Tryd.func62, Tryd.ntmps62
        go_wp2
        go_ret
        exact ⟨by simp [a1, a2, a3]; omega, rfl⟩
    · have i2 : ¬ (n : Int) < 127 := by omega
      go_enter Tryd.func62, Tryd.ntmps62
      go_wp2
      go_ret
      exact ⟨by simp [a1, a2], rfl⟩
  · have i1 : ¬ (32 : Int) < (n : Int) := by omega
    go_enter Tryd.func62, Tryd.ntmps62
    go_wp2
    go_ret
    exact ⟨by simp [a1], rfl⟩
theorem u8_in (n : Int) (h0 : 0 ≤ n) (h1 : n < 2 ^ 8) : IntKind.u8.wrap n = n := by
  unfold IntKind.wrap
  simp [IntKind.signed, IntKind.bits]
  omega
theorem u8_and15 (c : UInt8) : bits .and .u8 (c.toNat : Int) 15 = ((c.toNat % 16 : Nat) : Int) := by
  have h := bits_mask .u8 8 (by decide) u8_in 4 (by decide) (c.toNat : Int) (by omega) (by have := c.toNat_lt; omega)
  have e : ((2 : Int) ^ 4 - 1) = 15 := by decide
  have e2 : ((2 : Int) ^ 4) = 16 := by decide
  first
    | (rw [e, e2] at h; rw [h]; omega)
    | (rw [show (15 : Int) = 2 ^ 4 - 1 from rfl, h]; omega)
theorem hexd_at : ∀ (k : Nat) (h : k < (⟨#[48, 49, 50, 51, 52, 53, 54, 55, 56, 57, 65, 66, 67, 68, 69, 70]⟩ : ByteArray).size), (⟨#[48, 49, 50, 51, 52, 53, 54, 55, 56, 57, 65, 66, 67, 68, 69, 70]⟩ : ByteArray)[k] = hexd k
  | 0, _ | 1, _ | 2, _ | 3, _ | 4, _ | 5, _ | 6, _ | 7, _ | 8, _ | 9, _ | 10, _ | 11, _ | 12, _ | 13, _ | 14, _ | 15, _ => rfl
  | k + 16, h => absurd h (by show ¬ (k + 16 < 16); omega)
set_option maxHeartbeats 4000000 in
set_option maxRecDepth 100000 in
theorem wordOf_any (t : ByteArray) (w : World) (hsz : t.size ≤ 17592186044416) : Calls Tryd.prog 51 #[.string t] w fun e w' => e = .returned (.string ⟨(escL t.data.toList).toArray⟩) ∧ Below w.heap.size w w' := by
  by_cases h0 : t = ⟨#[]⟩
  · subst h0
    go_enter Tryd.func51, Tryd.ntmps51
    go_wp2
    go_ret
    exact ⟨rfl, Below.refl _ _⟩
  · obtain ⟨W0, hW0⟩ : ∃ W0, W0 = w.alloc (.cells #[.pointer none, .slice none 0 0] 46) := ⟨_, rfl⟩
    have B0 : Bd W0 w.heap.size (.pointer none) (.slice none 0 0) [] := hW0 ▸ Bd.new w
    have b0 : Below w.heap.size w W0 := hW0 ▸ (Below.refl _ w).alloc (Nat.le_refl _) _
    have HW := Hid.mk hW0
    have hl0 : t.data.toList ≠ [] := fun e => h0 (by cases t; congr 1; exact Array.toList_inj.1 e)
    have hemp : t.toList.isEmpty = false := by
      rw [ByteArray.toList_eq]
      cases hq : t.data.toList with
      | nil => exact absurd hq hl0
      | cons _ _ => rfl
    have HH := Hid.mk (And.intro hl0 b0)
    obtain ⟨R, hR⟩ : ∃ R : ByteArray, R = ⟨(escL t.data.toList).toArray⟩ := ⟨_, rfl⟩
    rw [← hR]
    have HR := Hid.mk hR
    have HI0 := Hid.mk (show ∃ p v, BW W0 w.heap.size (.slice none 0 0) W0 p v ((t.data.toList.take 0).flatMap escB) from ⟨_, _, BW.refl B0⟩)
    clear B0 hl0 hW0 hR b0
    go_enter Tryd.func51, Tryd.ntmps51
    go_wp2
    rw [← HW.out]
    go_loopw [10] (fun u wr => ∃ i : Nat, u = .int .i64 i ∧ i ≤ t.size ∧ Hid (∃ p v, BW W0 w.heap.size (.slice none 0 0) wr p v ((t.data.toList.take i).flatMap escB))) (fun u _ => t.size - (intOf u).toNat)
    case atStart => exact ⟨0, rfl, Nat.zero_le _, HI0⟩
    case round =>
      clear HI0
      obtain ⟨i, rfl, hi, HM⟩ := hrel
      by_cases hlt : i < t.size
      · have i1 : (i : Int) < (t.size : Int) := by omega
        have i2 : (0 : Int) ≤ (i : Int) := by omega
        obtain ⟨p, v, hB⟩ := HM.out
        have hlen := escB_len (t.data.toList.take i)
        rw [List.length_take] at hlen
        have htk : (t.data.toList.take (i + 1)).flatMap escB = (t.data.toList.take i).flatMap escB ++ escB t[i] := by
          have hl : i < t.data.toList.length := by simpa using hlt
          rw [List.take_succ_eq_append_getElem hl, List.flatMap_append]
          simp [ByteArray.getElem_eq_getElem_data]
        have hst := stands_any t[i] wr
        by_cases hs : stB t[i] = true
        · have he : escB t[i] = [t[i]] := by unfold escB; rw [if_pos hs]
          rw [hs] at hst
          rw [he] at htk
          have hwb := wb_byte hB.bd t[i] (by omega)
          have HB := Hid.mk (And.intro hB htk)
          clear hB htk hlen hs he
          go_wp2_with fail
          refine hst.mono ?_
          clear hst
          rintro r w1 ⟨rfl, rfl⟩
          go_wp2_with fail
          refine hwb.mono ?_
          clear hwb
          rintro r w2 ⟨rfl, v2, h2⟩
          have HN := Hid.mk (show ∃ p v, BW W0 w.heap.size (.slice none 0 0) w2 p v ((t.data.toList.take (i + 1)).flatMap escB) from ⟨_, _, by rw [HB.out.2]; exact HB.out.1.trans h2⟩)
          clear h2
          go_wp2
          exact ⟨⟨i + 1, rfl, hlt, HN⟩, by simp only [intOf]; omega⟩
        · have he : escB t[i] = [37, hexd (t[i].toNat / 16), hexd (t[i].toNat % 16)] := by unfold escB; rw [if_neg hs]
          rw [Bool.not_eq_true] at hs
          rw [hs] at hst
          rw [he] at htk
          have hwb : Calls Tryd.prog 37 #[Pt w.heap.size, .int .u8 37] wr _ := wb_byte hB.bd 37 (by omega)
          have HB := Hid.mk (And.intro hB (And.intro htk hlen))
          have c256 : t[i].toNat < 256 := t[i].toNat_lt
          have d1 : t[i].toNat / 16 < 16 := by omega
          have d2 : ((t[i].toNat : Nat) : Int) / 16 < 16 := by omega
          have d3 : t[i].toNat % 16 < 16 := by omega
          have d4 := u8_and15 t[i]
          have d5 : (0 : Int) ≤ ((t[i].toNat : Nat) : Int) / 16 := by omega
          clear hB htk hlen hs he
          go_wp2_with fail
          refine hst.mono ?_
          clear hst
          rintro r w1 ⟨rfl, rfl⟩
          go_wp2_with fail
          refine hwb.mono ?_
          clear hwb
          rintro r w2 ⟨rfl, v2, h2⟩
          go_wp2_with fail
          rw [hexd_at]
          have hwb := wb_byte h2.bd (hexd (t[i].toNat / 16)) (by rw [List.length_append, List.length_singleton]; have := HB.out.2.2; omega)
          refine hwb.mono ?_
          clear hwb
          rintro r w3 ⟨rfl, v3, h3⟩
          go_wp2_with fail
          rw [hexd_at]
          have hwb := wb_byte h3.bd (hexd (t[i].toNat % 16)) (by rw [List.length_append, List.length_append, List.length_singleton, List.length_singleton]; have := HB.out.2.2; omega)
          refine hwb.mono ?_
          clear hwb
          rintro r w4 ⟨rfl, v4, h4⟩
          have HN := Hid.mk (show ∃ p v, BW W0 w.heap.size (.slice none 0 0) w4 p v ((t.data.toList.take (i + 1)).flatMap escB) from ⟨_, _, by
            have h5 := ((HB.out.1.trans h2).trans h3).trans h4
            rw [List.append_assoc, List.append_assoc] at h5
            rw [HB.out.2.1]; exact h5⟩)
          clear h2 h3 h4
          go_wp2
          exact ⟨⟨i + 1, rfl, hlt, HN⟩, by simp only [intOf]; omega⟩
      · have e : i = t.size := by omega
        subst e
        obtain ⟨p, v, hB⟩ := HM.out
        have hsl : (t.data.toList.take t.size) = t.data.toList := List.take_of_length_le (by simp)
        rw [hsl] at hB
        have hne : t.data.toList.flatMap escB ≠ [] := by
          cases hq : t.data.toList with
          | nil => exact absurd hq HH.out.1
          | cons c l =>
            intro e2
            rw [List.flatMap_cons] at e2
            have h1 := (escB_pos c).1
            rw [(List.append_eq_nil_iff.1 e2).1] at h1
            exact absurd h1 (by simp)
        have hstr := string_any wr hB.bd hne
        have hesc : escL t.data.toList = t.data.toList.flatMap escB := by unfold escL; rw [if_neg HH.out.1]
        rw [← hesc, ← HR.out] at hstr
        have HB := Hid.mk hB
        clear hB hne hesc HM
        go_wp2_with fail
        refine hstr.mono ?_
        clear hstr
        rintro r w5 ⟨rfl, st⟩
        have HF := Hid.mk (show Below w.heap.size w w5 from by
          have b0 := HH.out.2
          have b1 : Below w.heap.size W0 wr := HB.out.st.toBelow (fun k hk hf => by
            rcases hf with h1 | h1
            · omega
            · cases h1) b0.size
          have b2 : Below w.heap.size wr w5 := st.toBelow (fun k hk hf => by
            rcases HB.out.loc k hf with h1 | h1
            · cases h1
            · have := b0.size; omega) (Nat.le_trans b0.size b1.size)
          exact (b0.trans b1).trans b2)
        clear st
        go_wp2
        go_ret
        exact ⟨rfl, HF.out⟩
end Go.Proofs.YtojnlngpgbcimaaDoor
