/-
  DERIVED. PlEsc, as one text.
-/
import Derived.Test.YtojnlngpgbcimaaDoorTpAJ
import Derived.Deep.RegionHeld
set_option linter.unusedVariables false
set_option linter.unusedSimpArgs false
namespace Go.Proofs.YtojnlngpgbcimaaDoor
open Go.RowKit
theorem conv_one (W : World) (c : UInt8) : (convert 44 9 (.slice (some ⟨W.heap.size, 0, none⟩) 1 1)).run Tryd.prog (W.alloc (.cells #[.int .u8 c.toNat] 5)) = .ok (.string ⟨#[c]⟩) (W.alloc (.cells #[.int .u8 c.toNat] 5)) :=
  conv_row (B := 0) [c] ⟨rfl, .inr ⟨W.heap.size, 1, #[.int .u8 c.toNat], rfl, Nat.zero_le _, heap_alloc_last W _, Nat.le_refl _, by unfold maxLen; omega, rfl, rfl⟩⟩
theorem hexd_ext (k : Nat) (h : k < 16) : ((⟨#[48, 49, 50, 51, 52, 53, 54, 55, 56, 57, 65, 66, 67, 68, 69, 70]⟩ : ByteArray).extract k (k + 1)).data.toList = [hexd k] := by
  have hall : ∀ k, k < 16 → ((⟨#[48, 49, 50, 51, 52, 53, 54, 55, 56, 57, 65, 66, 67, 68, 69, 70]⟩ : ByteArray).extract k (k + 1)).data.toList = [hexd k] := by decide
  exact hall k h
set_option maxHeartbeats 4000000 in
set_option maxRecDepth 100000 in
theorem escape_any (t : ByteArray) (w : World) (hsz : t.size ≤ 17592186044416) : Calls Tryd.prog 41 #[.string t] w fun e w' => e = .returned (.string ⟨(escL t.data.toList).toArray⟩) ∧ Below w.heap.size w w' := by
  by_cases h0 : t = ⟨#[]⟩
  · subst h0
    go_enter Tryd.func41, Tryd.ntmps41
    go_wp2
    go_ret
    exact ⟨rfl, Below.refl _ _⟩
  · have hl0 : t.data.toList ≠ [] := fun e => h0 (by cases t; congr 1; exact Array.toList_inj.1 e)
    have hemp : t.toList.isEmpty = false := by
      rw [ByteArray.toList_eq]
      cases hq : t.data.toList with
      | nil => exact absurd hq hl0
      | cons _ _ => rfl
    obtain ⟨R, hR⟩ : ∃ R : ByteArray, R = ⟨(escL t.data.toList).toArray⟩ := ⟨_, rfl⟩
    rw [← hR]
    have hRl : R.data.toList = t.data.toList.flatMap escB := by rw [hR]; unfold escL; rw [if_neg hl0]
    have HR := Hid.mk hRl
    clear hl0 hR hRl
    go_enter Tryd.func41, Tryd.ntmps41
    go_wp2
    go_loopw [3, 4] (fun us u wr => ∃ (i : Nat) (S : ByteArray), us = .string S ∧ u = .int .i64 i ∧ i ≤ t.size ∧ Hid (S.data.toList = (t.data.toList.take i).flatMap escB) ∧ Hid (Below w.heap.size w wr)) (fun _ u _ => t.size - (intOf u).toNat)
    case atStart => exact ⟨0, ⟨#[]⟩, rfl, rfl, Nat.zero_le _, rfl, Below.refl _ _⟩
    case round =>
      obtain ⟨i, S, rfl, rfl, hi, HM, HB⟩ := hrel
      by_cases hlt : i < t.size
      · have i1 : (i : Int) < (t.size : Int) := by omega
        have i2 : (0 : Int) ≤ (i : Int) := by omega
        have hlen := escB_len (t.data.toList.take i)
        rw [List.length_take] at hlen
        have hSs : S.size ≤ 52776558133248 := by
          have e1 : S.size = S.data.toList.length := by simp
          rw [e1, HM.out]; omega
        have htk : (t.data.toList.take (i + 1)).flatMap escB = (t.data.toList.take i).flatMap escB ++ escB t[i] := by
          have hl : i < t.data.toList.length := by simpa using hlt
          rw [List.take_succ_eq_append_getElem hl, List.flatMap_append]
          simp [ByteArray.getElem_eq_getElem_data]
        rw [← HM.out] at htk
        by_cases hs : stB t[i] = true
        · have he : escB t[i] = [t[i]] := by unfold escB; rw [if_pos hs]
          rw [he] at htk
          have hb : 32 < t[i].toNat ∧ t[i].toNat < 127 ∧ t[i].toNat ≠ 37 := by
            unfold stB at hs
            simpa [and_assoc] using hs
          have j1 : ¬ (t[i].toNat : Int) < 33 := by omega
          have j2 : ¬ (126 : Int) < (t[i].toNat : Int) := by omega
          have j3 : ¬ (t[i].toNat : Int) = 37 := by omega
          have HT := Hid.mk htk
          have hcv := conv_one wr t[i]
          clear htk hlen hs he hb HM
          go_wp2
          refine ⟨⟨i + 1, _, rfl, rfl, hlt, ?_, ?_⟩, by simp only [intOf]; omega⟩
          · show _ = _
            rw [HT.out]; simp
          · exact HB.out.alloc HB.out.size _
        · have he : escB t[i] = [37, hexd (t[i].toNat / 16), hexd (t[i].toNat % 16)] := by unfold escB; rw [if_neg hs]
          rw [he] at htk
          have hb : t[i].toNat < 33 ∨ 126 < t[i].toNat ∨ t[i].toNat = 37 := by
            by_cases c1 : 32 < t[i].toNat
            · by_cases c2 : t[i].toNat < 127
              · by_cases c3 : t[i].toNat = 37
                · exact .inr (.inr c3)
                · exact absurd (by unfold stB; simp [c1, c2, c3]) hs
              · exact .inr (.inl (by omega))
            · exact .inl (by omega)
          have c256 : t[i].toNat < 256 := t[i].toNat_lt
          have d1 : t[i].toNat / 16 < 16 := by omega
          have d2 : ((t[i].toNat : Nat) : Int) / 16 < 16 := by omega
          have d3 : t[i].toNat % 16 < 16 := by omega
          have d4 := u8_and15 t[i]
          have d5 : (0 : Int) ≤ ((t[i].toNat : Nat) : Int) / 16 := by omega
          have HT := Hid.mk htk
          clear htk hlen hs he HM
          by_cases k1 : t[i].toNat < 33
          · have j1 : (t[i].toNat : Int) < 33 := by omega
            go_wp2
            go_region
            go_wp2
            refine ⟨⟨i + 1, _, rfl, rfl, hlt, ?_, HB.out.drew⟩, by simp only [intOf]; omega⟩
            show _ = _
            have e1 := hexd_ext _ d1
            have e2 := hexd_ext _ d3
            rw [HT.out]
            generalize (⟨#[48, 49, 50, 51, 52, 53, 54, 55, 56, 57, 65, 66, 67, 68, 69, 70]⟩ : ByteArray).extract (t[i].toNat / 16) (t[i].toNat / 16 + 1) = E1 at e1 ⊢
            generalize (⟨#[48, 49, 50, 51, 52, 53, 54, 55, 56, 57, 65, 66, 67, 68, 69, 70]⟩ : ByteArray).extract (t[i].toNat % 16) (t[i].toNat % 16 + 1) = E2 at e2 ⊢
            simp [e1, e2]
          · have j1 : ¬ (t[i].toNat : Int) < 33 := by omega
            by_cases k2 : 126 < t[i].toNat
            · have j2 : (126 : Int) < (t[i].toNat : Int) := by omega
              go_wp2
              go_region
              go_wp2
              refine ⟨⟨i + 1, _, rfl, rfl, hlt, ?_, HB.out.drew⟩, by simp only [intOf]; omega⟩
              show _ = _
              have e1 := hexd_ext _ d1
              have e2 := hexd_ext _ d3
              rw [HT.out]
              generalize (⟨#[48, 49, 50, 51, 52, 53, 54, 55, 56, 57, 65, 66, 67, 68, 69, 70]⟩ : ByteArray).extract (t[i].toNat / 16) (t[i].toNat / 16 + 1) = E1 at e1 ⊢
              generalize (⟨#[48, 49, 50, 51, 52, 53, 54, 55, 56, 57, 65, 66, 67, 68, 69, 70]⟩ : ByteArray).extract (t[i].toNat % 16) (t[i].toNat % 16 + 1) = E2 at e2 ⊢
              simp [e1, e2]
            · have j2 : ¬ (126 : Int) < (t[i].toNat : Int) := by omega
              have j3 : (t[i].toNat : Int) = 37 := by omega
              go_wp2
              go_region
              go_wp2
              refine ⟨⟨i + 1, _, rfl, rfl, hlt, ?_, HB.out.drew⟩, by simp only [intOf]; omega⟩
              show _ = _
              have e3 : t[i].toNat = 37 := by omega
              rw [HT.out, e3]
              have e1 := hexd_ext 2 (by omega)
              have e2 := hexd_ext 5 (by omega)
              generalize (⟨#[48, 49, 50, 51, 52, 53, 54, 55, 56, 57, 65, 66, 67, 68, 69, 70]⟩ : ByteArray).extract 2 3 = E1 at e1 ⊢
              generalize (⟨#[48, 49, 50, 51, 52, 53, 54, 55, 56, 57, 65, 66, 67, 68, 69, 70]⟩ : ByteArray).extract 5 6 = E2 at e2 ⊢
              simp [e1, e2]
      · have e : i = t.size := by omega
        subst e
        have hsl : (t.data.toList.take t.size) = t.data.toList := List.take_of_length_le (by simp)
        have hm := HM.out
        rw [hsl, ← HR.out] at hm
        have hSR : S = R := by
          cases S; cases R; congr 1; exact Array.toList_inj.1 hm
        subst hSR
        clear hm
        go_wp2
        go_ret
        exact ⟨rfl, HB.out⟩
/-- A step as a value. -/
abbrev stV (m : Mt) : Value := .agg #[.int .i64 m.s.k, .slice m.la m.s.N.length m.ca, .slice m.lb m.s.S.length m.cb, .int .i64 m.s.a, .int .i64 m.s.b, .int .i64 m.s.c]
theorem number_any {w : World} (m : Mt) (i : Nat) (h : EI.At w m.la m.s.N) (hi : i ≤ 4611686018427387904) : Calls Tryd.prog 40 #[stV m, .int .i64 i] w fun e w' => e = .returned (.int .i64 (m.s.N.getD i 0)) ∧ Below w.heap.size w w' := by
  obtain ⟨⟨sk, sN, sS, sa, sb, sc⟩, la, ca, lb, cb⟩ := m
  dsimp only [stV] at h ⊢
  by_cases hlt : i < sN.length
  · obtain ⟨g, off, rfl, hc⟩ := iAt h i hlt
    have e : sN.getD i 0 = sN[i] := by simp [List.getD, hlt]
    rw [e]
    have i2 : (i : Int) < (sN.length : Int) := by omega
    have i3 : (0 : Int) ≤ (i : Int) := by omega
    have bA : Below w.heap.size w (w.alloc (.cells #[.int .i64 sk, .slice (some ⟨g, off, none⟩) sN.length ca, .slice lb sS.length cb, .int .i64 sa, .int .i64 sb, .int .i64 sc] 32)) := (Below.refl _ _).alloc (Nat.le_refl _) _
    replace hc := Rw.cell_lat bA hc
    have HB := Hid.mk bA
    clear h e bA
    generalize sN[i] = x at hc ⊢
    generalize sN.length = n at *
    generalize sS.length = n2 at *
    go_enter Tryd.func40, Tryd.ntmps40
    go_wp2
    go_ret
    exact ⟨rfl, HB.out⟩
  · have e : sN.getD i 0 = 0 := by simp [List.getD, hlt]
    rw [e]
    have i1 : ¬ (i : Int) < (sN.length : Int) := by omega
    clear h e
    generalize sN.length = n at *
    generalize sS.length = n2 at *
    go_enter Tryd.func40, Tryd.ntmps40
    go_wp2
    go_ret
    exact ⟨rfl, (Below.refl _ _).alloc (Nat.le_refl _) _⟩
theorem word_any {w : World} (m : Mt) (i : Nat) (h : ES.At w m.lb m.s.S) (hi : i ≤ 4611686018427387904) : Calls Tryd.prog 42 #[stV m, .int .i64 i] w fun e w' => e = .returned (.string (m.s.S.getD i ⟨#[]⟩)) ∧ Below w.heap.size w w' := by
  obtain ⟨⟨sk, sN, sS, sa, sb, sc⟩, la, ca, lb, cb⟩ := m
  dsimp only [stV] at h ⊢
  by_cases hlt : i < sS.length
  · obtain ⟨g, off, rfl, hc⟩ := sAt h i hlt
    have e : sS.getD i ⟨#[]⟩ = sS[i] := by simp [List.getD, hlt]
    rw [e]
    have i2 : (i : Int) < (sS.length : Int) := by omega
    have i3 : (0 : Int) ≤ (i : Int) := by omega
    have bA : Below w.heap.size w (w.alloc (.cells #[.int .i64 sk, .slice la sN.length ca, .slice (some ⟨g, off, none⟩) sS.length cb, .int .i64 sa, .int .i64 sb, .int .i64 sc] 32)) := (Below.refl _ _).alloc (Nat.le_refl _) _
    replace hc := Rw.cell_lat bA hc
    have HB := Hid.mk bA
    clear h e bA
    generalize sS[i] = x at hc ⊢
    generalize sS.length = n at *
    generalize sN.length = n2 at *
    go_enter Tryd.func42, Tryd.ntmps42
    go_wp2
    go_ret
    exact ⟨rfl, HB.out⟩
  · have e : sS.getD i ⟨#[]⟩ = ⟨#[]⟩ := by simp [List.getD, hlt]
    rw [e]
    have i1 : ¬ (i : Int) < (sS.length : Int) := by omega
    clear h e
    generalize sN.length = n at *
    generalize sS.length = n2 at *
    go_enter Tryd.func42, Tryd.ntmps42
    go_wp2
    go_ret
    exact ⟨rfl, (Below.refl _ _).alloc (Nat.le_refl _) _⟩
end Go.Proofs.YtojnlngpgbcimaaDoor
