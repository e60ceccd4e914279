/-
  DERIVED. BitsPigeon: its walk.
-/
import Derived.Test.YtajnhpmokhmmeabDoorDist
namespace Go.Proofs.YtajnhpmokhmmeabDoor
open Go.RowKit Go.Shelf Go.Proofs.BitMath
theorem i64_xor_nat (a b : Nat) (ha : a < 9223372036854775808) (hb : b < 9223372036854775808) : bits .xor .i64 (a : Int) (b : Int) = ((a ^^^ b : Nat) : Int) := by
  have hx : a ^^^ b < 2 ^ 63 := Nat.xor_lt_two_pow (by omega) (by omega)
  show IntKind.i64.wrap ((BitVec.ofInt 64 (a : Int) ^^^ BitVec.ofInt 64 (b : Int)).toNat : Nat) = _
  rw [BitVec.toNat_xor, BitVec.toNat_ofInt, BitVec.toNat_ofInt]
  have e1 : ((a : Int) % ((2 ^ 64 : Nat) : Int)).toNat = a := by omega
  have e2 : ((b : Int) % ((2 ^ 64 : Nat) : Int)).toNat = b := by omega
  rw [e1, e2, i64_in _ (Int.natCast_nonneg _) (by omega)]
theorem chk_ok {x m n : Nat} (h : OkC x m) (hn : n = x / 8) : chk x n = 0 := by
  have hw : isW (x : Int) = true := by have := h.1; have := h.2.1; have := h.2.2.1; simp [isW]; omega
  exact chk0 hw (by rw [bne_eq_false_iff_eq]; omega)
set_option maxRecDepth 100000 in
set_option maxHeartbeats 1000000 in
theorem pigeon_walk (p q : Int) (a0 b0 : ByteArray) (w : World) (ha0 : a0.size ≤ 140737488351232) (hb0 : b0.size ≤ 140737488351232) (ht : Tab w) (hw0 : 0 < w.heap.size) :
    Calls Tryd.prog 3 #[.int .i64 p, .int .i64 q, .string a0, .string b0] w fun e w' => e = .returned (.bool true) ∧ Below w.heap.size w w' := by
  go_enter Tryd.func3, Tryd.ntmps3
  go_wp2_with fail
  refine (widths_any p q w).mono ?_
  rintro e w1 ⟨⟨x, m, h, rfl⟩, d1⟩
  have hp := h.pos
  have hle := h.le
  have hxx := h.2.1
  have b1 : Below w.heap.size w w1 := d1.below _
  clear d1
  have HX8 : Hid ((x : Int) / 8 = ((x / 8 : Nat) : Int)) := by show (x : Int) / 8 = ((x / 8 : Nat) : Int); omega
  have hx9 : x / 8 ≤ 128 := by omega
  go_wp2_with fail
  rw [HX8.out]
  refine (fit_any a0 (x / 8) w1 ha0 (by omega)).mono ?_
  rintro e w2 ⟨⟨a, ha, rfl⟩, b2⟩
  replace b2 := chain b1 b2 (Nat.le_refl _)
  clear b1
  go_wp2_with fail
  rw [HX8.out]
  refine (fit_any b0 (x / 8) w2 hb0 (by omega)).mono ?_
  rintro e w3 ⟨⟨b, hb, rfl⟩, b3⟩
  replace b3 := chain b2 b3 (Nat.le_refl _)
  clear b2
  go_wp2_with fail
  refine (chunks_yes x m w3 h).mono ?_
  rintro e w4 ⟨⟨g, cs, hg, hrow, hcs, rfl⟩, b4⟩
  have hgl := hrow.lt
  replace b4 := chain b3 b4 (Nat.le_refl _)
  have hgw := b3.size
  clear b3
  have HA : Hid (a.size = x / 8) := ha
  have HB : Hid (b.size = x / 8) := hb
  have hal : a.size ≤ 128 := by omega
  have hbl : b.size ≤ 128 := by omega
  clear ha hb
  go_wp2_with fail
  refine (split_yes x m a w4 h HA.out).mono ?_
  rintro e w5 ⟨⟨g1, cs1, hg1, hrow1, hcs1, rfl⟩, b5⟩
  have hgl1 := hrow1.lt
  have hrow5 := hrow.below b5 hgl
  clear hrow
  replace b5 := chain b4 b5 (Nat.le_refl _)
  clear b4
  go_wp2_with fail
  refine (split_yes x m b w5 h HB.out).mono ?_
  rintro e w6 ⟨⟨g2, cs2, hg2, hrow2, hcs2, rfl⟩, b6⟩
  have hrow6 := hrow5.below b6 (by omega)
  have hrow16 := hrow1.below b6 hgl1
  have hgl2 := hrow2.lt
  clear hrow5 hrow1
  replace b6 := chain b5 b6 (Nat.le_refl _)
  clear b5
  go_wp2_with fail
  refine (distance_yes a b w6 (by omega) (by rw [HA.out, HB.out]) (ht.below b6 hw0)).mono ?_
  rintro e w7 ⟨rfl, d7⟩
  have b7 : Below w.heap.size w w7 := b6.trans (d7.below _)
  have hr7 := hrow6.below (d7.below w6.heap.size) (by omega)
  have hr17 := hrow16.below (d7.below w6.heap.size) (by omega)
  have hr27 := hrow2.below (d7.below w6.heap.size) (by omega)
  have hsz7 := (d7.below w6.heap.size).size
  clear b6 d7 hrow6 hrow16 hrow2
  have hd : ∃ d : Nat, wt (xorL a.data.toList b.data.toList) = d ∧ d ≤ 1024 := ⟨_, rfl, by
    have := wt_le (xorL a.data.toList b.data.toList)
    rw [xorL_length _ _ (by simpa using HA.out.trans HB.out.symm)] at this
    have : a.data.toList.length = a.size := by simp
    omega⟩
  obtain ⟨d, hde, hdl⟩ := hd
  rw [hde]
  have HDE : Hid _ := hde
  clear hde
  have c17 : ∀ j, j < m → w7.cell? ⟨g1, j, none⟩ = some (.int .i64 (valC a.data.toList x m j)) := fun j hj => by
    rw [hr17.cell]; exact hcs1.2 j (by simpa using hj)
  have c27 : ∀ j, j < m → w7.cell? ⟨g2, j, none⟩ = some (.int .i64 (valC b.data.toList x m j)) := fun j hj => by
    rw [hr27.cell]; exact hcs2.2 j (by simpa using hj)
  have c7 : ∀ j, j < m → w7.cell? ⟨g, j * 2, none⟩ = some (.int .i64 (frC x m j)) ∧ w7.cell? ⟨g, j * 2 + 1, none⟩ = some (.int .i64 (btC x m j)) := fun j hj => by
    rw [hr7.cell, hr7.cell, Nat.mul_comm]; exact hcs.2 j (by simpa using hj)
  have C17 : Hid _ := c17
  have C27 : Hid _ := c27
  have C7 : Hid _ := c7
  clear c17 c27 c7 hr7 hr17 hr27 hcs hcs1 hcs2
  go_wp2_with fail
  refine (join_yes x m g1 0 m (fun j => (valC a.data.toList x m j : Int)) w7 h (by omega) (fun j hj => by rw [Nat.zero_add]; exact C17.out j hj) (fun j hj => by have := (valC_lt (l := a.data.toList) h j).2; constructor <;> omega)).mono ?_
  rintro e w8 ⟨⟨t, _, htt, rfl⟩ | ⟨hno, rfl⟩, b8⟩
  · have hta : t = a := by
      rw [join_split h a.data.toList (by simpa using HA.out)] at htt
      obtain ⟨t⟩ := t
      obtain ⟨a⟩ := a
      congr 1
      exact Array.toList_inj.1 htt
    subst hta
    clear htt
    have HCH : Hid (chk x t.size = 0) := chk_ok h HA.out
    go_wp2_with fail
    refine (check_any _ _ _).mono ?_
    rintro e w9 ⟨rfl, rfl⟩
    rw [HCH.out]
    have B8 : Below w.heap.size w w9 := chain b7 b8 (Nat.le_refl _)
    have D17 : Hid (∀ j, j < m → w9.cell? ⟨g1, j, none⟩ = some (.int .i64 (valC t.data.toList x m j))) := show ∀ j, _ from fun j hj => (b8.cell (p := ⟨g1, j, none⟩) (by show g1 < _; omega)).trans (C17.out j hj)
    have D27 : Hid (∀ j, j < m → w9.cell? ⟨g2, j, none⟩ = some (.int .i64 (valC b.data.toList x m j))) := show ∀ j, _ from fun j hj => (b8.cell (p := ⟨g2, j, none⟩) (by show g2 < _; omega)).trans (C27.out j hj)
    have D7 : Hid (∀ j, j < m → w9.cell? ⟨g, j * 2, none⟩ = some (.int .i64 (frC x m j)) ∧ w9.cell? ⟨g, j * 2 + 1, none⟩ = some (.int .i64 (btC x m j))) := show ∀ j, _ from fun j hj => ⟨(b8.cell (p := ⟨g, j * 2, none⟩) (by show g < _; omega)).trans (C7.out j hj).1, (b8.cell (p := ⟨g, j * 2 + 1, none⟩) (by show g < _; omega)).trans (C7.out j hj).2⟩
    have hs9 := b8.size
    have hG : g < w9.heap.size := by omega
    have hG1 : g1 < w9.heap.size := by omega
    have hG2 : g2 < w9.heap.size := by omega
    have hG0 : w.heap.size ≤ w9.heap.size := B8.size
    clear C17 C27 C7 b8 b7 hs9 hsz7 hgl hgl1 hgl2 hg1 hg2 hg
    go_wp2_with fail
    go_loopw [19, 20, 21, 22] (fun at' sum least i wr => ∃ j l : Nat, j ≤ m ∧ i = .int .i64 j ∧ at' = .int .i64 (frC x m j) ∧ sum = .int .i64 (farTo t.data.toList b.data.toList x m j) ∧ least = .int .i64 l ∧ l ≤ 1024 ∧ j * l ≤ farTo t.data.toList b.data.toList x m j ∧ Below w9.heap.size w9 wr) (fun _ _ _ i _ => m - (intOf i).toNat)
    case atStart => exact ⟨0, x, Nat.zero_le _, rfl, by rw [frC_zero]; rfl, by rw [farTo_zero]; rfl, rfl, hxx, by simp, Below.refl _ _⟩
    case round =>
      obtain ⟨j, l, hj, rfl, rfl, rfl, rfl, hl, hjl, hb⟩ := hrel
      by_cases hlt : j < m
      · have hbt := btC_bd h j
        have e17 : wr.cell? ⟨g1, j, none⟩ = some (.int .i64 (valC t.data.toList x m j)) := (hb.cell (p := ⟨g1, j, none⟩) hG1).trans (D17.out j hlt)
        have e27 : wr.cell? ⟨g2, j, none⟩ = some (.int .i64 (valC b.data.toList x m j)) := (hb.cell (p := ⟨g2, j, none⟩) hG2).trans (D27.out j hlt)
        have e7 : wr.cell? ⟨g, j * 2, none⟩ = some (.int .i64 (frC x m j)) := (hb.cell (p := ⟨g, j * 2, none⟩) hG).trans (D7.out j hlt).1
        have e8 : wr.cell? ⟨g, j * 2 + 1, none⟩ = some (.int .i64 (btC x m j)) := (hb.cell (p := ⟨g, j * 2 + 1, none⟩) hG).trans (D7.out j hlt).2
        have hbs := hb.size
        have HJ : Hid _ := hjl
        clear hjl
        go_wp2_with fail
        have k1 : (wr.alloc (.cells #[.int .i64 (frC x m j), .int .i64 (btC x m j)] 38)).cell? ⟨wr.heap.size, 0, none⟩ = some (.int .i64 (frC x m j)) := (rowIs_new wr 38 [.int .i64 (frC x m j), .int .i64 (btC x m j)]).cell 0
        have k2 : (wr.alloc (.cells #[.int .i64 (frC x m j), .int .i64 (btC x m j)] 38)).cell? ⟨wr.heap.size, 1, none⟩ = some (.int .i64 (btC x m j)) := (rowIs_new wr 38 [.int .i64 (frC x m j), .int .i64 (btC x m j)]).cell 1
        have hb2 : Below w9.heap.size w9 (wr.alloc (.cells #[.int .i64 (frC x m j), .int .i64 (btC x m j)] 38)) := hb.alloc hb.size _
        generalize (wr.alloc (.cells #[.int .i64 (frC x m j), .int .i64 (btC x m j)] 38)) = W at *
        clear e17 e27 e7 e8 hb
        have e17 : W.cell? ⟨g1, j, none⟩ = some (.int .i64 (valC t.data.toList x m j)) := (hb2.cell (p := ⟨g1, j, none⟩) hG1).trans (D17.out j hlt)
        have e27 : W.cell? ⟨g2, j, none⟩ = some (.int .i64 (valC b.data.toList x m j)) := (hb2.cell (p := ⟨g2, j, none⟩) hG2).trans (D27.out j hlt)
        have e0 : W.cell? ⟨g, 1, none⟩ = some (.int .i64 (btC x m 0)) := (hb2.cell (p := ⟨g, 1, none⟩) hG).trans ((congrArg (fun o => w9.cell? ⟨g, o, none⟩) (by omega : 1 = 0 * 2 + 1)).trans (D7.out 0 hp).2)
        have hA := valC_lt (l := t.data.toList) h j
        have hB := valC_lt (l := b.data.toList) h j
        have hdf := btC_diff x m 0 j
        have hb0 := btC_bd h 0
        have hsh : ((valC t.data.toList x m j : Nat) : Int) / 2 ^ btC x m j = 0 := by
          have e : ((2 ^ btC x m j : Nat) : Int) = (2 : Int) ^ btC x m j := by simp
          rw [← e]; exact_mod_cast Nat.div_eq_of_lt hA.1
        have hxl : valC t.data.toList x m j ^^^ valC b.data.toList x m j < 4294967296 := Nat.xor_lt_two_pow (n := 32) hA.2 hB.2
        have hxx2 := i64_xor_nat (valC t.data.toList x m j) (valC b.data.toList x m j) (by omega) (by omega)
        have HFS : Hid _ := farTo_succ h t.data.toList b.data.toList (by simpa using HA.out) (by simpa using HB.out) j hlt
        have hfl := farTo_le t.data.toList b.data.toList x m j
        have hfr := frC_in x m j hlt
        have hpl := pop32_le (valC t.data.toList x m j ^^^ valC b.data.toList x m j)
        have hA2 := hA.2
        have hB2 := hB.2
        clear hA hB
        have HFR : Hid _ := frC_succ x m j
        generalize hFF : frC x m j = F at *
        generalize hKK : btC x m j = K at *
        generalize hA1 : valC t.data.toList x m j = A1 at *
        generalize hB1 : valC b.data.toList x m j = B1 at *
        generalize hK0 : btC x m 0 = K0 at *
        generalize hSS : farTo t.data.toList b.data.toList x m j = S at *
        generalize hPP : A1 ^^^ B1 = X at *
        generalize hPX : pop32 X = R at *
        have g1' : decide ((K : Int) < 8) = false := decide_eq_false (by omega)
        have g2' : decide ((32 : Int) < (K : Int)) = false := decide_eq_false (by omega)
        have g3' : decide ((1 : Int) < (K0 : Int) - (K : Int)) = false := decide_eq_false (by omega)
        have g4' : decide ((A1 : Int) < 0) = false := decide_eq_false (by omega)
        have hj1 : (j : Int) < (m : Int) := by omega
        have hm1 : (0 : Int) < (m : Int) := by omega
        have hKb : K ≤ 32 := hbt.2
        by_cases hj0 : j = 0
        · subst hj0
          go_quiet (fail)
          go_wp2_with fail
          have hnq : ∃ W2, W.drewN nq = W2 := ⟨_, rfl⟩
          obtain ⟨W2, hW2⟩ := hnq
          rw [hW2]
          have hb3 : Below w9.heap.size w9 W2 := by rw [← hW2]; exact hb2.trans (Drew.below ⟨_, rfl⟩ _)
          have e18 : W2.cell? ⟨g1, 0, none⟩ = some (.int .i64 A1) := by rw [← hW2]; exact e17
          have e28 : W2.cell? ⟨g2, 0, none⟩ = some (.int .i64 B1) := by rw [← hW2]; exact e27
          clear hW2 k1 k2 e17 e27 e0 hb2
          go_quiet ((go_at_call 11; exact Calls.quiet_of_same (lones_any X _ hxl)))
          rw [hPX]
          by_cases hR : R < l
          all_goals
            go_wp2
          · refine ⟨⟨0 + 1, R, hlt, by go_num, ival (by rw [HFR.out]; omega), ival (by rw [HFS.out]; omega), rfl, by omega, ?_, hb3.trans (Drew.below ⟨_, rfl⟩ _)⟩, by simp [intOf]; omega⟩
            rw [HFS.out, Nat.succ_mul]
            have h1 := Nat.mul_le_mul_left (0) (Nat.le_of_lt hR)
            have := HJ.out
            omega
          · refine ⟨⟨0 + 1, l, hlt, by go_num, ival (by rw [HFR.out]; omega), ival (by rw [HFS.out]; omega), rfl, by omega, ?_, hb3.trans (Drew.below ⟨_, rfl⟩ _)⟩, by simp [intOf]; omega⟩
            rw [HFS.out, Nat.succ_mul]
            have := HJ.out
            omega
        · have hj2 : (0 : Int) < (j : Int) := by omega
          have hj3 : 0 < j := by omega
          have hj4 : decide (0 < j) = true := decide_eq_true hj3
          have hix : ∃ i, j = i + 1 := ⟨j - 1, by omega⟩
          obtain ⟨i, hji⟩ := hix
          have e9 : W.cell? ⟨g, i * 2 + 1, none⟩ = some (.int .i64 (btC x m i)) := (hb2.cell (p := ⟨g, i * 2 + 1, none⟩) hG).trans (D7.out i (by omega)).2
          have hbp := btC_bd h i
          have han := btC_anti x m i j (by omega)
          rw [hKK] at han
          generalize btC x m i = K1 at *
          have g5' : decide ((K1 : Int) < (K : Int)) = false := decide_eq_false (by omega)
          have hje : (j : Int) - 1 = (i : Int) := by omega
          have hiq : (i : Int) < (m : Int) := by omega
          have him : i < m := by omega
          have hwi : IntKind.i64.wrap (i : Int) = (i : Int) := i64_in _ (by omega) (by omega)
          have g6' : decide (K1 < K) = false := decide_eq_false (by omega)
          have hwk : IntKind.i64.wrap ((K0 : Int) - (K : Int)) = (K0 : Int) - (K : Int) := by rw [IntKind.wrap_i64]; omega
          have HJI : Hid _ := hji
          clear hji
          have HJ0 : Hid _ := hj0
          clear hj0
          go_quiet (fail)
          go_wp2_with fail
          have hnq : ∃ W2, W.drewN nq = W2 := ⟨_, rfl⟩
          obtain ⟨W2, hW2⟩ := hnq
          rw [hW2]
          have hb3 : Below w9.heap.size w9 W2 := by rw [← hW2]; exact hb2.trans (Drew.below ⟨_, rfl⟩ _)
          have e18 : W2.cell? ⟨g1, j, none⟩ = some (.int .i64 A1) := by rw [← hW2]; exact e17
          have e28 : W2.cell? ⟨g2, j, none⟩ = some (.int .i64 B1) := by rw [← hW2]; exact e27
          clear hW2 k1 k2 e17 e27 e0 hb2
          go_quiet ((go_at_call 11; exact Calls.quiet_of_same (lones_any X _ hxl)))
          rw [hPX]
          by_cases hR : R < l
          all_goals
            go_wp2
          · refine ⟨⟨j + 1, R, hlt, by go_num, ival (by rw [HFR.out]; omega), ival (by rw [HFS.out]; omega), rfl, by omega, ?_, hb3.trans (Drew.below ⟨_, rfl⟩ _)⟩, by simp [intOf]; omega⟩
            rw [HFS.out, Nat.succ_mul]
            have h1 := Nat.mul_le_mul_left (j) (Nat.le_of_lt hR)
            have := HJ.out
            omega
          · refine ⟨⟨j + 1, l, hlt, by go_num, ival (by rw [HFR.out]; omega), ival (by rw [HFS.out]; omega), rfl, by omega, ?_, hb3.trans (Drew.below ⟨_, rfl⟩ _)⟩, by simp [intOf]; omega⟩
            rw [HFS.out, Nat.succ_mul]
            have := HJ.out
            omega
      · have e : j = m := by omega
        subst e
        have hF := frC_end x j hp
        have hS := (farTo_end h t.data.toList b.data.toList (by simpa using HA.out) (by simpa using HB.out)).trans HDE.out
        rw [hS] at hjl
        rw [hF, hS]
        have hdiv : (l : Int) ≤ (d : Int) / (j : Int) := by
          have h1 : l ≤ d / j := (Nat.le_div_iff_mul_le hp).2 (by rw [Nat.mul_comm]; exact hjl)
          have h2 : ((d / j : Nat) : Int) = (d : Int) / (j : Int) := by simp
          omega
        have hj0 : ((j : Int) == 0) = false := by rw [beq_eq_false_iff_ne]; omega
        clear hF hS hjl hlt
        go_wp2
        go_ret
        refine ⟨ret_bool (decide_eq_true ?_), B8.trans (hb.mono hG0)⟩
        have h3 : (0 : Int) ≤ (d : Int) / (j : Int) := Int.ediv_nonneg (by omega) (by omega)
        have h4 : (d : Int) / (j : Int) ≤ (d : Int) := Int.ediv_le_self _ (by omega)
        unfold wrap64
        omega
  · exact absurd (fun j _ => valC_valid h _ j) hno
end Go.Proofs.YtajnhpmokhmmeabDoor
