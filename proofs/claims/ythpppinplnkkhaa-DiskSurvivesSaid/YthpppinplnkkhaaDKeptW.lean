/-
  DERIVED. DiskSurvives: kept: what a crash may leave of a file.
-/
import Derived.Test.YthpppinplnkkhaaDKept
import Derived.Handy
set_option linter.unusedVariables false
set_option linter.unusedSimpArgs false
set_option linter.unnecessarySimpa false
namespace Go.Proofs.Ythpppinplnkkhaa
open Go.RowKit Go.Maps Go.Proofs.DiskMath
theorem bytes_frozen (w : World) (e : TypeId) (s : ByteArray) (j : Nat) (hj : j < s.size) : (Lib.bytesWorld w e s).frozen? ⟨w.heap.size, j, none⟩ = false := by
  have hl : s.size ≤ (Lib.bytesCells w e s).size := by unfold Lib.bytesCells; simp
  simp only [World.frozen?, Lib.bytesWorld_at_new]
  simp
  omega
theorem back_set (wr : World) (S : ByteArray) (m : Nat) (hm : S.size = m + 1) (y : UInt8) (C : Nat) : (convert 57 9 (.slice (some ⟨wr.heap.size, 0, none⟩) (m + 1) C)).run Try.prog ((Lib.bytesWorld wr 5 S).setCell ⟨wr.heap.size, m, none⟩ (.int .u8 y.toNat)) = .ok (.string ⟨(S.data.toList.set m y).toArray⟩) ((Lib.bytesWorld wr 5 S).setCell ⟨wr.heap.size, m, none⟩ (.int .u8 y.toNat)) := by
  have hlen : (S.data.toList.set m y).length = m + 1 := by rw [List.length_set, ← hm]; exact Array.length_toList
  have := run_convert_bytes_back (P := Try.prog) ((Lib.bytesWorld wr 5 S).setCell ⟨wr.heap.size, m, none⟩ (.int .u8 y.toNat)) 57 9 5 ⟨wr.heap.size, 0, none⟩ C (S.data.toList.set m y) Try.underlying57 Try.underlying5 Try.underlying9 (fun j hj => by
    have hj2 : j < S.size := by omega
    have hc := Lib.bytesWorld_cell wr 5 S j hj2
    have ad : (⟨wr.heap.size, 0, none⟩ : Addr).add j = ⟨wr.heap.size, j, none⟩ := by unfold Addr.add; split <;> simp_all
    rw [ad]
    by_cases hjm : j = m
    · subst hjm
      rw [World.cell?_setCell_same _ _ _ hc]
      simp
    · rw [World.cell?_setCell_other _ _ _ _ (by intro e; (simp at e) <;> omega), hc]
      have hj3 : j < S.data.size := hj2
      simp [List.getD, hj3, List.getElem_set, Ne.symm hjm]
      rw [Array.getElem?_eq_getElem hj3]; rfl)
  rw [hlen] at this
  exact this
theorem cell_set3 (W : World) (b : Nat) (x y z : Value) {u v t : Value} (h0 : W.cell? ⟨b, 0, none⟩ = some u) (h1 : W.cell? ⟨b, 1, none⟩ = some v) (h2 : W.cell? ⟨b, 2, none⟩ = some t) :
    (((W.setCell ⟨b, 0, none⟩ x).setCell ⟨b, 1, none⟩ y).setCell ⟨b, 2, none⟩ z).cell? ⟨b, 0, none⟩ = some x ∧ (((W.setCell ⟨b, 0, none⟩ x).setCell ⟨b, 1, none⟩ y).setCell ⟨b, 2, none⟩ z).cell? ⟨b, 1, none⟩ = some y ∧ (((W.setCell ⟨b, 0, none⟩ x).setCell ⟨b, 1, none⟩ y).setCell ⟨b, 2, none⟩ z).cell? ⟨b, 2, none⟩ = some z := by
  refine ⟨?_, ?_, ?_⟩ <;> go_simp
set_option maxHeartbeats 4000000 in
set_option maxRecDepth 100000 in
theorem kept_any (f : Fl) (ca : Option Addr) (cs : List (ByteArray × Int × UInt8)) (cc : Nat) (w : World) (hcs : ∀ W, Below w.heap.size w W → CutsAt W ca cs) (hok : ∀ j (hj : j < cs.length), -9223372036854775808 ≤ (cs[j]).2.1 ∧ (cs[j]).2.1 < 9223372036854775808) (hlen : cs.length < 9223372036854775808)
    (hd : f.da.length ≤ 268435456) (hu : f.du ≤ f.da.length) (R : Ending → World → Prop)
    (h1 : ∀ w', Below w.heap.size w w' → R (.returned (.agg (kC (loseF f (firstC cs f.nm).1 (firstC cs f.nm).2)).toArray)) w') :
    Calls Try.prog 9 #[.agg #[.string ⟨f.nm.toArray⟩, .string ⟨f.da.toArray⟩, .int .i64 f.du], .slice ca cs.length cc] w R := by
  have HR := Hid.mk h1
  clear h1
  go_enter Try.func9, Try.ntmps9
  go_wp2
  have ha0 : Below w.heap.size w (w.alloc (.cells #[.string ⟨f.nm.toArray⟩, .string ⟨f.da.toArray⟩, .int .i64 f.du] 34)) := (Below.refl _ w).alloc (Nat.le_refl _) _
  have hb0 := ha0.alloc ha0.size (.cells #[.string ⟨#[]⟩, .string ⟨#[]⟩, .int .i64 0] 34)
  have c3 := cell_three w (.string ⟨f.nm.toArray⟩) (.string ⟨f.da.toArray⟩) (.int .i64 f.du) 34
  have hl0 := (Below.refl _ (w.alloc (.cells #[.string ⟨f.nm.toArray⟩, .string ⟨f.da.toArray⟩, .int .i64 f.du] 34))).alloc (Nat.le_refl _) (.cells #[.string ⟨#[]⟩, .string ⟨#[]⟩, .int .i64 0] 34)
  have c0 := cell_later hl0 (c3 0 _ rfl)
  have c1 := cell_later hl0 (c3 1 _ rfl)
  have c2 := cell_later hl0 (c3 2 _ rfl)
  have z0 := heap_alloc_new (w.alloc (.cells #[.string ⟨f.nm.toArray⟩, .string ⟨f.da.toArray⟩, .int .i64 f.du] 34)) (.cells #[.string ⟨#[]⟩, .string ⟨#[]⟩, .int .i64 0] 34)
  clear c3 hl0 ha0
  obtain ⟨w0, hw0⟩ : ∃ w0, w0 = (w.alloc (.cells #[.string ⟨f.nm.toArray⟩, .string ⟨f.da.toArray⟩, .int .i64 f.du] 34)).alloc (.cells #[.string ⟨#[]⟩, .string ⟨#[]⟩, .int .i64 0] 34) := ⟨_, rfl⟩
  rw [← hw0] at hb0 c0 c1 c2 z0 ⊢
  have hs0 : w0.heap.size = w.heap.size + 2 := by rw [hw0]; simp
  clear hw0
  simp only [Addr.add, Nat.reduceEqDiff, if_true, if_false, Nat.zero_add, ite_true, ite_false] at c0 c1 c2
  rw [show (w.alloc (.cells #[.string ⟨f.nm.toArray⟩, .string ⟨f.da.toArray⟩, .int .i64 f.du] 34)).heap.size = w.heap.size + 1 by simp] at z0
  go_loopw [5, 6, 7] (fun a b i wr => ∃ j : Nat, i = .int .i64 ((j : Int) - 1) ∧ j ≤ cs.length ∧ a = .int .i64 (firstC (cs.drop j) f.nm).1 ∧ b = .int .u8 (firstC (cs.drop j) f.nm).2.toNat ∧ Below w0.heap.size w0 wr) (fun _ _ i _ => (intOf i + 1).toNat)
  case atStart => exact ⟨cs.length, by rfl, Nat.le_refl _, by rw [List.drop_length]; rfl, by rw [List.drop_length]; rfl, Below.refl _ _⟩
  case round =>
    obtain ⟨j, rfl, hj, rfl, rfl, hb⟩ := hrel
    by_cases hj0 : j = 0
    · subst hj0
      have q0 := cell_later hb c0
      have q1 := cell_later hb c1
      have q2 := cell_later hb c2
      rw [List.drop_zero]
      have hb1 := chain hb0 hb (Nat.le_refl _)
      generalize hk : (firstC cs f.nm).1 = k at *
      generalize hsp : (firstC cs f.nm).2 = sp at *
      have hsz : (⟨f.da.toArray⟩ : ByteArray).size = f.da.length := rfl
      have hcv : ∀ S : ByteArray, (convert 9 57 (.string S)).run Try.prog wr = .ok (.slice (some ⟨wr.heap.size, 0, none⟩) S.size (grownCap wr S.size 0 5)) (Lib.bytesWorld wr 5 S) := fun S => Lib.run_convert_string_bytes wr 9 57 5 S Try.underlying9 Try.underlying57 Try.underlying5
      have hlt : w.heap.size < wr.heap.size := by have := hb.size; omega
      have p0 : ∀ S, (Lib.bytesWorld wr 5 S).cell? ⟨w.heap.size, 0, none⟩ = some (.string ⟨f.nm.toArray⟩) := fun S => (Lib.bytesWorld_old wr 5 S _ hlt).trans q0
      have hbk : ∀ (S : ByteArray) (C : Nat), (convert 57 9 (.slice (some ⟨wr.heap.size, 0, none⟩) S.size C)).run Try.prog (Lib.bytesWorld wr 5 S) = .ok (.string S) (Lib.bytesWorld wr 5 S) := fun S C => by
        have := run_convert_bytes_back (P := Try.prog) (Lib.bytesWorld wr 5 S) 57 9 5 ⟨wr.heap.size, 0, none⟩ C S.data.toList Try.underlying57 Try.underlying5 Try.underlying9 (fun j hj => by
          have hj2 : j < S.size := by simpa using hj
          have := Lib.bytesWorld_cell wr 5 S j hj2
          have ad : (⟨wr.heap.size, 0, none⟩ : Addr).add j = ⟨wr.heap.size, j, none⟩ := by unfold Addr.add; split <;> simp_all
          rw [ad, this]
          simp [List.getD, hj2])
        simpa using this
      have y0 : ∀ S, (Lib.bytesWorld wr 5 S).heap[w.heap.size + 1]? = some (.cells #[.string ⟨#[]⟩, .string ⟨#[]⟩, .int .i64 0] 34 (0, 0)) := fun S => (Lib.bytesWorld_at_old wr 5 S _ (by have := hb.size; omega)).trans ((hb.block _ (by omega)).trans z0)
      have y1 : ∀ S, (Lib.bytesWorld wr 5 S).cell? ⟨w.heap.size + 1, 0, none⟩ = some (.string ⟨#[]⟩) := fun S => by unfold World.cell?; rw [y0]; rfl
      have y2 : ∀ S, (Lib.bytesWorld wr 5 S).cell? ⟨w.heap.size + 1, 1, none⟩ = some (.string ⟨#[]⟩) := fun S => by unfold World.cell?; rw [y0]; rfl
      have y3 : ∀ S, (Lib.bytesWorld wr 5 S).cell? ⟨w.heap.size + 1, 2, none⟩ = some (.int .i64 0) := fun S => by unfold World.cell?; rw [y0]; rfl
      have y4 : ∀ S j, (Lib.bytesWorld wr 5 S).frozen? ⟨w.heap.size + 1, j, none⟩ = false := fun S j => frozen_of_row _ _ _ _ _ (y0 S)
      clear y0
      have eS : ∀ n, n ≤ f.da.length → ((⟨f.da.toArray⟩ : ByteArray).extract 0 n).size = n ∧ ((⟨f.da.toArray⟩ : ByteArray).extract 0 n).data.toList = f.da.take n := fun n hn => ⟨by rw [ByteArray.size_extract, hsz]; omega, by simp⟩
      have hA : k ≤ 0 ∨ f.du = f.da.length → Hid (∀ w', Below w.heap.size w w' → R (.returned (.agg #[.string ⟨f.nm.toArray⟩, .string ((⟨f.da.toArray⟩ : ByteArray).extract 0 f.du), .int .i64 f.du])) w') := fun hk0 w' bw => by
        have e0 : min k.toNat (f.da.length - f.du) = 0 := by omega
        have := HR.out w' bw
        unfold loseF kC at this
        rw [e0] at this
        have e1 : encStr (loseL f.da f.du 0 sp) = .string ((⟨f.da.toArray⟩ : ByteArray).extract 0 f.du) := by
          unfold encStr loseL
          rw [if_pos rfl]
          congr 1
          apply ByteArray.ext
          simp
        have e2 : f.du + 0 = f.du := rfl
        rw [e2, e1] at this
        exact this
      have hbA : ∀ C, (convert 57 9 (.slice (some ⟨wr.heap.size, 0, none⟩) f.du C)).run Try.prog (Lib.bytesWorld wr 5 ((⟨f.da.toArray⟩ : ByteArray).extract 0 f.du)) = .ok (.string ((⟨f.da.toArray⟩ : ByteArray).extract 0 f.du)) (Lib.bytesWorld wr 5 ((⟨f.da.toArray⟩ : ByteArray).extract 0 f.du)) := fun C => by
        have := hbk ((⟨f.da.toArray⟩ : ByteArray).extract 0 f.du) C
        rwa [(eS f.du hu).1] at this
      have hbW : ∀ S, Below w.heap.size w (Lib.bytesWorld wr 5 S) := fun S => hb1.trans ⟨rfl, rfl, rfl, by rw [Lib.bytesWorld_size]; omega, fun k hk => Lib.bytesWorld_at_old wr 5 S k (by omega)⟩
      by_cases k0 : k < 0
      · have HA := hA (.inl (by omega))
        clear hA HR hbk
        go_wp2
        obtain ⟨f0, f1, f2⟩ := cell_set3 (Lib.bytesWorld wr 5 ((⟨f.da.toArray⟩ : ByteArray).extract 0 f.du)) (w.heap.size + 1) (.string ⟨f.nm.toArray⟩) (.string ((⟨f.da.toArray⟩ : ByteArray).extract 0 f.du)) (.int .i64 f.du) (y1 _) (y2 _) (y3 _)
        have bf := ((hbW ((⟨f.da.toArray⟩ : ByteArray).extract 0 f.du)).setCell (p := ⟨w.heap.size + 1, 0, none⟩) (by simp) (.string ⟨f.nm.toArray⟩)).setCell (p := ⟨w.heap.size + 1, 1, none⟩) (by simp) (.string ((⟨f.da.toArray⟩ : ByteArray).extract 0 f.du)) |>.setCell (p := ⟨w.heap.size + 1, 2, none⟩) (by simp) (.int .i64 f.du)
        refine bodyPost_ret (by simp [results, Try.results9, go_sem, f0, f1, f2]; try rfl) rfl ?_
        exact HA.out _ bf
      · have HL : Hid (f.da.length = f.da.length) := rfl
        by_cases kz : k = 0
        · subst kz
          have HA := hA (.inl (by omega))
          clear hA HR hbk
          go_wp2
          obtain ⟨f0, f1, f2⟩ := cell_set3 (Lib.bytesWorld wr 5 ((⟨f.da.toArray⟩ : ByteArray).extract 0 f.du)) (w.heap.size + 1) (.string ⟨f.nm.toArray⟩) (.string ((⟨f.da.toArray⟩ : ByteArray).extract 0 f.du)) (.int .i64 f.du) (y1 _) (y2 _) (y3 _)
          have bf := ((hbW ((⟨f.da.toArray⟩ : ByteArray).extract 0 f.du)).setCell (p := ⟨w.heap.size + 1, 0, none⟩) (by simp) (.string ⟨f.nm.toArray⟩)).setCell (p := ⟨w.heap.size + 1, 1, none⟩) (by simp) (.string ((⟨f.da.toArray⟩ : ByteArray).extract 0 f.du)) |>.setCell (p := ⟨w.heap.size + 1, 2, none⟩) (by simp) (.int .i64 f.du)
          refine bodyPost_ret (by simp [results, Try.results9, go_sem, f0, f1, f2]; try rfl) rfl ?_
          exact HA.out _ bf
        · by_cases kb : k ≤ (f.da.length : Int) - f.du
          · obtain ⟨N, hN⟩ : ∃ N : Nat, k = N := ⟨k.toNat, by omega⟩
            subst hN
            obtain ⟨m, hm⟩ : ∃ m, f.du + N = m + 1 := ⟨f.du + N - 1, by omega⟩
            have hmle : m + 1 ≤ f.da.length := by omega
            have hNN : min ((N : Nat) : Int).toNat (f.da.length - f.du) = m + 1 - f.du := by simp; omega
            have hpos : f.du ≤ m := by omega
            have hsum : (f.du : Int) + (N : Int) = (m : Int) + 1 := by omega
            have hg1 : ¬ ((f.da.length : Int) - (f.du : Int) < (N : Int)) := by omega
            have hg2 : (0 : Int) < (N : Int) := by omega
            have hg3 : 0 < N := by omega
            clear kz kb k0 hm
            obtain ⟨hSs, hSl⟩ := eS (m + 1) hmle
            have hcS := hcv ((⟨f.da.toArray⟩ : ByteArray).extract 0 (m + 1))
            have a0 := Lib.bytesWorld_cell wr 5 ((⟨f.da.toArray⟩ : ByteArray).extract 0 (m + 1)) m (by omega)
            have a1 := bytes_frozen wr 5 ((⟨f.da.toArray⟩ : ByteArray).extract 0 (m + 1)) m (by omega)
            have p0S := p0 ((⟨f.da.toArray⟩ : ByteArray).extract 0 (m + 1))
            have y1S := y1 ((⟨f.da.toArray⟩ : ByteArray).extract 0 (m + 1))
            have y2S := y2 ((⟨f.da.toArray⟩ : ByteArray).extract 0 (m + 1))
            have y3S := y3 ((⟨f.da.toArray⟩ : ByteArray).extract 0 (m + 1))
            have y4S := y4 ((⟨f.da.toArray⟩ : ByteArray).extract 0 (m + 1))
            have hbS := hbW ((⟨f.da.toArray⟩ : ByteArray).extract 0 (m + 1))
            have hx : (((⟨f.da.toArray⟩ : ByteArray).extract 0 (m + 1)).data.toList.getD m 0) = f.da[m] := by
              rw [hSl]; simp [List.getD, show m < f.da.length by omega]
            rw [hx] at a0
            have hbk2 := back_set wr ((⟨f.da.toArray⟩ : ByteArray).extract 0 (m + 1)) m hSs (f.da[m] ^^^ sp) (grownCap wr (m + 1) 0 5)
            rw [hSs] at hcS
            rw [hSl] at hbk2
            have hxor := xor_u8 (f.da[m]) sp
            have HB : Hid (∀ w', Below w.heap.size w w' → R (.returned (.agg #[.string ⟨f.nm.toArray⟩, .string ⟨((f.da.take (m + 1)).set m (f.da[m] ^^^ sp)).toArray⟩, .int .i64 ((m : Int) + 1)])) w') := fun w' bw => by
              have := HR.out w' bw
              unfold loseF kC at this
              rw [hNN] at this
              have e1 : loseL f.da f.du (m + 1 - f.du) sp = (f.da.take (m + 1)).set m (f.da[m] ^^^ sp) := by
                unfold loseL
                rw [if_neg (by omega), show f.du + (m + 1 - f.du) = m + 1 by omega, show m + 1 - 1 = m by omega, modify_set _ m (by simp; omega)]
                simp
              have e2 : f.du + (m + 1 - f.du) = m + 1 := by omega
              rw [e1, e2] at this
              exact this
            have hne0 : w.heap.size ≠ wr.heap.size := by omega
            have hne1 : w.heap.size + 1 ≠ wr.heap.size := by have := hb.size; omega
            have hne2 : wr.heap.size ≠ w.heap.size + 1 := fun e => hne1 e.symm
            generalize hyy : f.da[m] ^^^ sp = yy at *
            generalize hTT : (⟨((f.da.take (m + 1)).set m yy).toArray⟩ : ByteArray) = TT at *
            generalize hxx : f.da[m] = xx at *
            clear hcv p0 y1 y2 y3 y4 hbW eS HR hx hSs hSl hyy hTT hxx hNN hA hbk hbA
            generalize hW1 : Lib.bytesWorld wr 5 ((⟨f.da.toArray⟩ : ByteArray).extract 0 (m + 1)) = W1 at *
            generalize hCC : grownCap wr (m + 1) 0 5 = CC at *
            clear hW1 hCC
            go_wp2
            have z1 : (W1.setCell ⟨wr.heap.size, m, none⟩ (.int .u8 yy.toNat)).cell? ⟨w.heap.size + 1, 0, none⟩ = some (.string ⟨#[]⟩) := by rw [World.cell?_setCell_other _ _ _ _ (by intro e; (simp at e) <;> omega)]; exact y1S
            have z2 : (W1.setCell ⟨wr.heap.size, m, none⟩ (.int .u8 yy.toNat)).cell? ⟨w.heap.size + 1, 1, none⟩ = some (.string ⟨#[]⟩) := by rw [World.cell?_setCell_other _ _ _ _ (by intro e; (simp at e) <;> omega)]; exact y2S
            have z3 : (W1.setCell ⟨wr.heap.size, m, none⟩ (.int .u8 yy.toNat)).cell? ⟨w.heap.size + 1, 2, none⟩ = some (.int .i64 0) := by rw [World.cell?_setCell_other _ _ _ _ (by intro e; (simp at e) <;> omega)]; exact y3S
            obtain ⟨f0, f1, f2⟩ := cell_set3 (W1.setCell ⟨wr.heap.size, m, none⟩ (.int .u8 yy.toNat)) (w.heap.size + 1) (.string ⟨f.nm.toArray⟩) (.string TT) (.int .i64 ((m : Int) + 1)) z1 z2 z3
            have bf := ((hbS.setCell (p := ⟨wr.heap.size, m, none⟩) (by simp; omega) (.int .u8 yy.toNat)).setCell (p := ⟨w.heap.size + 1, 0, none⟩) (by simp) (.string ⟨f.nm.toArray⟩)).setCell (p := ⟨w.heap.size + 1, 1, none⟩) (by simp) (.string TT) |>.setCell (p := ⟨w.heap.size + 1, 2, none⟩) (by simp) (.int .i64 ((m : Int) + 1))
            refine bodyPost_ret (by simp [results, Try.results9, go_sem, f0, f1, f2]; try rfl) rfl ?_
            exact HB.out _ bf
          · by_cases kd : f.da.length = f.du
            · have HA := hA (.inr kd.symm)
              have hsd : (⟨f.da.toArray⟩ : ByteArray).size = f.du := hsz.trans kd
              have hg1 : (0 : Int) < k := by omega
              clear hA HR hbk hsz kb kd kz
              go_wp2
              obtain ⟨f0, f1, f2⟩ := cell_set3 (Lib.bytesWorld wr 5 ((⟨f.da.toArray⟩ : ByteArray).extract 0 f.du)) (w.heap.size + 1) (.string ⟨f.nm.toArray⟩) (.string ((⟨f.da.toArray⟩ : ByteArray).extract 0 f.du)) (.int .i64 f.du) (y1 _) (y2 _) (y3 _)
              have bf := ((hbW ((⟨f.da.toArray⟩ : ByteArray).extract 0 f.du)).setCell (p := ⟨w.heap.size + 1, 0, none⟩) (by simp) (.string ⟨f.nm.toArray⟩)).setCell (p := ⟨w.heap.size + 1, 1, none⟩) (by simp) (.string ((⟨f.da.toArray⟩ : ByteArray).extract 0 f.du)) |>.setCell (p := ⟨w.heap.size + 1, 2, none⟩) (by simp) (.int .i64 f.du)
              refine bodyPost_ret (by simp [results, Try.results9, go_sem, f0, f1, f2]; try rfl) rfl ?_
              exact HA.out _ bf
            · obtain ⟨m, hm⟩ : ∃ m, f.da.length = m + 1 := ⟨f.da.length - 1, by omega⟩
              obtain ⟨N, hN⟩ : ∃ N, f.du + N = m + 1 := ⟨m + 1 - f.du, by omega⟩
              have hmle : m + 1 ≤ f.da.length := by omega
              have hNN : min k.toNat (f.da.length - f.du) = m + 1 - f.du := by omega
              have hpos : f.du ≤ m := by omega
              have hsm : (⟨f.da.toArray⟩ : ByteArray).size = m + 1 := hsz.trans hm
              have hmr : (m : Int) + 1 - (f.du : Int) = (N : Int) := by omega
              have hsum : (f.du : Int) + (N : Int) = (m : Int) + 1 := by omega
              have hg1 : (N : Int) < k := by omega
              have hg2 : (0 : Int) < (N : Int) := by omega
              have hg3 : 0 < N := by omega
              clear kz kb hsz
              obtain ⟨hSs, hSl⟩ := eS (m + 1) hmle
              have hcS := hcv ((⟨f.da.toArray⟩ : ByteArray).extract 0 (m + 1))
              have a0 := Lib.bytesWorld_cell wr 5 ((⟨f.da.toArray⟩ : ByteArray).extract 0 (m + 1)) m (by omega)
              have a1 := bytes_frozen wr 5 ((⟨f.da.toArray⟩ : ByteArray).extract 0 (m + 1)) m (by omega)
              have p0S := p0 ((⟨f.da.toArray⟩ : ByteArray).extract 0 (m + 1))
              have y1S := y1 ((⟨f.da.toArray⟩ : ByteArray).extract 0 (m + 1))
              have y2S := y2 ((⟨f.da.toArray⟩ : ByteArray).extract 0 (m + 1))
              have y3S := y3 ((⟨f.da.toArray⟩ : ByteArray).extract 0 (m + 1))
              have y4S := y4 ((⟨f.da.toArray⟩ : ByteArray).extract 0 (m + 1))
              have hbS := hbW ((⟨f.da.toArray⟩ : ByteArray).extract 0 (m + 1))
              have hx : (((⟨f.da.toArray⟩ : ByteArray).extract 0 (m + 1)).data.toList.getD m 0) = f.da[m] := by
                rw [hSl]; simp [List.getD, show m < f.da.length by omega]
              rw [hx] at a0
              have hbk2 := back_set wr ((⟨f.da.toArray⟩ : ByteArray).extract 0 (m + 1)) m hSs (f.da[m] ^^^ sp) (grownCap wr (m + 1) 0 5)
              rw [hSs] at hcS
              rw [hSl] at hbk2
              have hxor := xor_u8 (f.da[m]) sp
              have HB : Hid (∀ w', Below w.heap.size w w' → R (.returned (.agg #[.string ⟨f.nm.toArray⟩, .string ⟨((f.da.take (m + 1)).set m (f.da[m] ^^^ sp)).toArray⟩, .int .i64 ((m : Int) + 1)])) w') := fun w' bw => by
                have := HR.out w' bw
                unfold loseF kC at this
                rw [hNN] at this
                have e1 : loseL f.da f.du (m + 1 - f.du) sp = (f.da.take (m + 1)).set m (f.da[m] ^^^ sp) := by
                  unfold loseL
                  rw [if_neg (by omega), show f.du + (m + 1 - f.du) = m + 1 by omega, show m + 1 - 1 = m by omega, modify_set _ m (by simp; omega)]
                  simp
                have e2 : f.du + (m + 1 - f.du) = m + 1 := by omega
                rw [e1, e2] at this
                exact this
              have hne0 : w.heap.size ≠ wr.heap.size := by omega
              have hne1 : w.heap.size + 1 ≠ wr.heap.size := by have := hb.size; omega
              have hne2 : wr.heap.size ≠ w.heap.size + 1 := fun e => hne1 e.symm
              generalize hyy : f.da[m] ^^^ sp = yy at *
              generalize hTT : (⟨((f.da.take (m + 1)).set m yy).toArray⟩ : ByteArray) = TT at *
              generalize hxx : f.da[m] = xx at *
              clear hcv p0 y1 y2 y3 y4 hbW eS HR hx hSs hSl hyy hTT hxx hNN hA hbk hbA
              generalize hW1 : Lib.bytesWorld wr 5 ((⟨f.da.toArray⟩ : ByteArray).extract 0 (m + 1)) = W1 at *
              generalize hCC : grownCap wr (m + 1) 0 5 = CC at *
              clear hW1 hCC
              go_wp2
              have z1 : (W1.setCell ⟨wr.heap.size, m, none⟩ (.int .u8 yy.toNat)).cell? ⟨w.heap.size + 1, 0, none⟩ = some (.string ⟨#[]⟩) := by rw [World.cell?_setCell_other _ _ _ _ (by intro e; (simp at e) <;> omega)]; exact y1S
              have z2 : (W1.setCell ⟨wr.heap.size, m, none⟩ (.int .u8 yy.toNat)).cell? ⟨w.heap.size + 1, 1, none⟩ = some (.string ⟨#[]⟩) := by rw [World.cell?_setCell_other _ _ _ _ (by intro e; (simp at e) <;> omega)]; exact y2S
              have z3 : (W1.setCell ⟨wr.heap.size, m, none⟩ (.int .u8 yy.toNat)).cell? ⟨w.heap.size + 1, 2, none⟩ = some (.int .i64 0) := by rw [World.cell?_setCell_other _ _ _ _ (by intro e; (simp at e) <;> omega)]; exact y3S
              obtain ⟨f0, f1, f2⟩ := cell_set3 (W1.setCell ⟨wr.heap.size, m, none⟩ (.int .u8 yy.toNat)) (w.heap.size + 1) (.string ⟨f.nm.toArray⟩) (.string TT) (.int .i64 ((m : Int) + 1)) z1 z2 z3
              have bf := ((hbS.setCell (p := ⟨wr.heap.size, m, none⟩) (by simp; omega) (.int .u8 yy.toNat)).setCell (p := ⟨w.heap.size + 1, 0, none⟩) (by simp) (.string ⟨f.nm.toArray⟩)).setCell (p := ⟨w.heap.size + 1, 1, none⟩) (by simp) (.string TT) |>.setCell (p := ⟨w.heap.size + 1, 2, none⟩) (by simp) (.int .i64 ((m : Int) + 1))
              refine bodyPost_ret (by simp [results, Try.results9, go_sem, f0, f1, f2]; try rfl) rfl ?_
              exact HB.out _ bf
    · obtain ⟨m, rfl⟩ : ∃ m, j = m + 1 := ⟨j - 1, by omega⟩
      have q0 := cell_later hb c0
      obtain ⟨b, o, rfl, r0, r1, r2⟩ := hcs wr (chain hb0 hb (Nat.le_refl _)) m (by omega)
      have hdr : cs.drop m = cs[m] :: cs.drop (m + 1) := List.drop_eq_getElem_cons (by omega)
      have HF : Hid (firstC (cs.drop m) f.nm = if (cs[m]).1.data.toList = f.nm then (cs[m]).2 else firstC (cs.drop (m + 1)) f.nm) := by
        show _ = _
        rw [hdr, firstC_cons]
      clear hdr
      rw [show ((m + 1 : Nat) : Int) - 1 = (m : Int) by omega]
      have ok := hok m (by omega)
      by_cases hq : (cs[m]).1.data.toList = f.nm
      · have gq : ((cs[m]).1.toList == (⟨f.nm.toArray⟩ : ByteArray).toList) = true := by rw [ByteArray.toList_eq, ByteArray.toList_eq]; simpa using hq
        have HF2 : Hid (firstC (cs.drop m) f.nm = (cs[m]).2) := HF.out.trans (if_pos hq)
        clear HF hq
        generalize (⟨f.nm.toArray⟩ : ByteArray) = N at *
        go_wp2
        go_region
        all_goals
          go_wp2
          refine ⟨⟨m, rfl, by omega, ?_, ?_, hb.drew⟩, by simp only [intOf]; omega⟩
          · rw [HF2.out]
          · rw [HF2.out]
      · have gq : ((cs[m]).1.toList == (⟨f.nm.toArray⟩ : ByteArray).toList) = false := by rw [ByteArray.toList_eq, ByteArray.toList_eq]; simpa using hq
        have HF2 : Hid (firstC (cs.drop m) f.nm = firstC (cs.drop (m + 1)) f.nm) := HF.out.trans (if_neg hq)
        clear HF hq
        generalize (⟨f.nm.toArray⟩ : ByteArray) = N at *
        go_wp2
        go_region
        all_goals
          go_wp2
          refine ⟨⟨m, rfl, by omega, ?_, ?_, hb.drew⟩, by simp only [intOf]; omega⟩
          · rw [HF2.out]
          · rw [HF2.out]
end Go.Proofs.Ythpppinplnkkhaa
