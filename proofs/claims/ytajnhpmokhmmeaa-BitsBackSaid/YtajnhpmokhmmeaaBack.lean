/-
  DERIVED. BitsBack: its walk.
-/
import Derived.Test.YtajnhpmokhmmeaaWidths
namespace Go.Proofs.Ytajnhpmokhmmeaa
open Go.RowKit Go.Shelf Go.Proofs.BitMath
theorem and_mask (v : Int) (k : Nat) (hk : k ≤ 32) : bits .and .i64 v (2 ^ k - 1) = v % 2 ^ k := i64_and_pow v k (by omega)
theorem own_form {w : World} {base : Nat} {e : TypeId} {size : Nat} {v : Value} {n : Nat} {xs : List Value} (h : w.ownsRow base e size v n xs) (hn : 0 < n) :
    ∃ g cap cur, v = .slice (some ⟨g, 0, none⟩) n cap ∧ base ≤ g ∧ w.heap[g]? = some (.cells cur e (0, 0)) ∧ n ≤ cap := by
  rcases h.2 with ⟨_, h0⟩ | ⟨g, cap, cur, hv, hb, hg, hc, _⟩
  · omega
  · exact ⟨g, cap, cur, hv, hb, hg, hc⟩
theorem or_top (a : Int) (k : Nat) (hk : k ≤ 32) (h0 : 0 ≤ a) (h1 : a < 2 ^ k) : bits .or .i64 a (2 ^ k) = a + 2 ^ k := by
  have hc : bits .or .i64 a (2 ^ k) = bits .or .i64 (2 ^ k) a := by simp only [bits, BitVec.or_comm]
  have hp : (2 : Int) ^ k < 2 ^ 63 := by have := Nat.pow_lt_pow_right (a := 2) (by omega) (show k < 63 by omega); exact_mod_cast this
  rw [hc, bits_join .i64 63 (by decide) i64_in k (2 ^ k) a (by have := Int.pow_pos (n := 2) (m := k) (by decide); omega) (by simp) hp h0 h1 (by omega)]
  omega
theorem pow_lo {k : Nat} (h : 8 ≤ k) : (256 : Int) ≤ 2 ^ k := by
  have := Nat.pow_le_pow_right (n := 2) (by omega) h
  have e : ((2 ^ k : Nat) : Int) = (2 : Int) ^ k := by simp
  omega
theorem pow_hi {k : Nat} (h : k ≤ 32) : (2 : Int) ^ k ≤ 4294967296 := by
  have := Nat.pow_le_pow_right (n := 2) (by omega) h
  have e : ((2 ^ k : Nat) : Int) = (2 : Int) ^ k := by simp
  omega
theorem valid_snoc {x m : Nat} {zs : List Int} {y u : Int} (h : ∀ j, j < zs.length → valid x m (fun k => zs.getD k 0) j) (hu : u = y % 2 ^ btC x m zs.length) : ∀ j, j < (zs ++ [u]).length → valid x m (fun k => (zs ++ [u]).getD k 0) j := by
  intro j hj
  rw [List.length_append] at hj
  by_cases e : j < zs.length
  · have := h j e
    unfold valid at this ⊢
    simp only [List.getD_eq_getElem?_getD] at this ⊢
    rw [List.getElem?_append_left e]; exact this
  · have e : j = zs.length := by simp at hj; omega
    subst e
    unfold valid
    have hp : (0 : Int) < 2 ^ btC x m zs.length := Int.pow_pos (by decide)
    simp only [List.getD_eq_getElem?_getD, List.getElem?_append_right (Nat.le_refl _), Nat.sub_self]
    simp only [List.getElem?_cons_zero, Option.getD_some]
    rw [hu]
    exact ⟨Int.emod_nonneg _ (by omega), Int.emod_lt_of_pos _ hp⟩
set_option maxRecDepth 100000 in
set_option maxHeartbeats 4000000 in
theorem back_walk (p q : Int) (ao : Option Addr) (len cap : Nat) (w : World) (hlen : len ≤ maxLen)
    (hv : ∀ j, j < len → ∃ b off y, ao = some ⟨b, off, none⟩ ∧ b < w.heap.size ∧ w.cell? ⟨b, off + j, none⟩ = some (.int .i64 y) ∧ -9223372036854775808 ≤ y ∧ y ≤ 9223372036854775807) :
    Calls Try.prog 5 #[.int .i64 p, .int .i64 q, .slice ao len cap] w fun e w' => e = .returned (.bool true) ∧ Below w.heap.size w w' := by
  obtain ⟨i0, hi, hz0, hz1, hz2⟩ := info_parts Try.infoI
  unfold maxLen at hlen
  go_enter Try.func5, Try.ntmps5
  go_wp2_with fail
  refine (widths_any p q w).mono ?_
  rintro e w1 ⟨⟨x, m, h, rfl⟩, d1⟩
  have hp := h.pos
  have hle := h.le
  have hxx := h.2.1
  go_wp2_with fail
  refine (chunks_yes x m w1 h).mono ?_
  rintro e w2 ⟨⟨g, cs, hg, hrow, hcs, rfl⟩, b2⟩
  have hb2 : Below w.heap.size w w2 := (d1.below _).trans (b2.mono (d1.below w.heap.size).size)
  have hgl := hrow.lt
  have hgw : w.heap.size ≤ g := Nat.le_trans (d1.below w.heap.size).size hg
  clear b2
  go_wp2_with fail
  go_loopw [9, 10] (fun v i wr => ∃ zs : List Int, zs.length ≤ m ∧ i = .int .i64 zs.length ∧ wr.ownsRow w2.heap.size 3 1 v zs.length (zs.map (Value.int .i64)) ∧ (∀ j, j < zs.length → valid x m (fun k => zs.getD k 0) j) ∧ Below w2.heap.size w2 wr) (fun _ i _ => m - (intOf i).toNat)
  case atStart => exact ⟨[], Nat.zero_le _, rfl, ⟨rfl, .inl ⟨rfl, rfl⟩⟩, fun j hj => absurd hj (by simp), Below.refl _ _⟩
  case round =>
    obtain ⟨zs, hzl, rfl, hown, hval, hb⟩ := hrel
    by_cases hlt : zs.length < m
    · have hcb : wr.cell? ⟨g, zs.length * 2 + 1, none⟩ = some (.int .i64 (btC x m zs.length)) := by
        rw [(hrow.below hb hgl).cell, Nat.mul_comm]; exact (hcs.2 _ (by simpa using hlt)).2
      by_cases hin : zs.length < len
      · obtain ⟨b, off, y, rfl, hbl, hy, hy1, hy2⟩ := hv _ hin
        have hyc : wr.cell? ⟨b, off + zs.length, none⟩ = some (.int .i64 y) := (hb.cell (p := ⟨b, off + zs.length, none⟩) (Nat.lt_of_lt_of_le hbl (Nat.le_trans hgw (Nat.le_of_lt hgl)))).trans ((hb2.cell (p := ⟨b, off + zs.length, none⟩) hbl).trans hy)
        have hbt := btC_bd h zs.length
        have hvn : ∀ u : Int, u = y % 2 ^ btC x m zs.length → ∀ j, j < (zs ++ [u]).length → valid x m (fun k => (zs ++ [u]).getD k 0) j := fun u hu => valid_snoc hval hu
        have hP : ∃ P : Int, 2 ^ btC x m zs.length = P ∧ 256 ≤ P ∧ P ≤ 4294967296 := ⟨_, rfl, pow_lo hbt.1, pow_hi hbt.2⟩
        obtain ⟨P, hPe, hP1, hP2⟩ := hP
        have hand : bits .and .i64 (y) (P - 1) = y % P := by rw [← hPe]; exact and_mask _ _ hbt.2
        rw [hPe] at hvn
        have HE : Hid _ := hPe
        have HVN : Hid _ := hvn
        have HV : Hid _ := hval
        clear hvn hval
        go_wp2_with (at_builtin; refine wpList_append_own _ rfl _ _ 38 rfl w2.heap.size 3 i0 (.int .i64 0) 1 8 Try.underlying38 hi hz0 hz1 hz2 rfl (by decide) _ _ _ rfl (hown.alloc _) ⟨wr.heap.size, 0, none⟩ 1 1 [.int .i64 (y % P)] ?_ rfl (cell_one_new _ _ _) (fun x hx => by simp at hx; subst hx; rfl) (by unfold maxLen; omega) (by omega) (by have := hb.size; simp; omega) ?_; go_simp; intro v' w3 hown' hgrow3 hnil3)
        clear hnil3
        have hgr : (wr.alloc (Obj.cells #[Value.int IntKind.i64 (y % P)] 3)).grownBy w3 u9.ownBlock := hgrow3
        clear hgrow3
        have hb3 : Below w2.heap.size w2 w3 := (hb.alloc hb.size _).grown hgr (by have := hb.size; simp; omega) (fun k hk => (hown.lt k hk).1)
        refine ⟨⟨zs ++ [y % P], ?_, ?_, ?_, HVN.out _ rfl, hb3⟩, ?_⟩
        · rw [List.length_append]; exact hlt
        · rw [List.length_append]; rfl
        · rw [List.length_append, List.map_append]; exact hown'
        · simp [intOf]; omega
      · have hbt := btC_bd h zs.length
        have hvn : ∀ u : Int, u = (zs.length : Int) * 2654435761 % 2 ^ btC x m zs.length → ∀ j, j < (zs ++ [u]).length → valid x m (fun k => (zs ++ [u]).getD k 0) j := fun u hu => valid_snoc hval hu
        have hP : ∃ P : Int, 2 ^ btC x m zs.length = P ∧ 256 ≤ P ∧ P ≤ 4294967296 := ⟨_, rfl, pow_lo hbt.1, pow_hi hbt.2⟩
        obtain ⟨P, hPe, hP1, hP2⟩ := hP
        have hand : bits .and .i64 ((zs.length : Int) * 2654435761) (P - 1) = (zs.length : Int) * 2654435761 % P := by rw [← hPe]; exact and_mask _ _ hbt.2
        rw [hPe] at hvn
        have HE : Hid _ := hPe
        have HVN : Hid _ := hvn
        have HV : Hid _ := hval
        clear hvn hval
        go_wp2_with (at_builtin; refine wpList_append_own _ rfl _ _ 38 rfl w2.heap.size 3 i0 (.int .i64 0) 1 8 Try.underlying38 hi hz0 hz1 hz2 rfl (by decide) _ _ _ rfl (hown.alloc _) ⟨wr.heap.size, 0, none⟩ 1 1 [.int .i64 ((zs.length : Int) * 2654435761 % P)] ?_ rfl (cell_one_new _ _ _) (fun x hx => by simp at hx; subst hx; rfl) (by unfold maxLen; omega) (by omega) (by have := hb.size; simp; omega) ?_; go_simp; intro v' w3 hown' hgrow3 hnil3)
        clear hnil3
        have hgr : (wr.alloc (Obj.cells #[Value.int IntKind.i64 (((zs.length : Int) * 2654435761) % P)] 3)).grownBy w3 u9.ownBlock := hgrow3
        clear hgrow3
        have hb3 : Below w2.heap.size w2 w3 := (hb.alloc hb.size _).grown hgr (by have := hb.size; simp; omega) (fun k hk => (hown.lt k hk).1)
        refine ⟨⟨zs ++ [((zs.length : Int) * 2654435761) % P], ?_, ?_, ?_, HVN.out _ rfl, hb3⟩, ?_⟩
        · rw [List.length_append]; exact hlt
        · rw [List.length_append]; rfl
        · rw [List.length_append, List.map_append]; exact hown'
        · simp [intOf]; omega
    · have hzm : zs.length = m := by omega
      clear hlt hzl hv
      rw [hzm] at hown hval
      obtain ⟨gv, capv, cur, hu9, hbase, hblk, hcap⟩ := own_form hown hp
      subst hu9
      have hgv : gv < wr.heap.size := (Array.getElem?_eq_some_iff.1 hblk).1
      have hz : ∀ j, j < m → wr.cell? ⟨gv, 0 + j, none⟩ = some (.int .i64 (zs.getD j 0)) := fun j hj => by
        rw [Nat.zero_add, hown.cellAt j (by omega), List.getElem?_map, List.getD_eq_getElem?_getD, List.getElem?_eq_getElem (by omega)]; rfl
      have hfz := hown.frozenAt 0
      generalize hzz : (fun k => zs.getD k 0) = z at hval
      replace hz : ∀ j, j < m → wr.cell? ⟨gv, 0 + j, none⟩ = some (.int .i64 (z j)) := by rw [← hzz]; exact hz
      clear hzz
      have hzb : ∀ j, j < m → -9223372036854775808 ≤ z j ∧ z j ≤ 9223372036854775807 := fun j hj => by
        have := hval j hj
        have h2 := pow_hi (btC_bd h j).2
        obtain ⟨v0, v1⟩ := this
        omega
      have hbg : RowIs wr g 44 cs := hrow.below hb hgl
      have hne : g < w2.heap.size := hgl
      have hBr : Below w.heap.size w wr := hb2.trans (hb.mono (Nat.le_trans hgw (Nat.le_of_lt hgl)))
      rw [hzm]
      have HZ : Hid _ := hz
      have HZB : Hid _ := hzb
      have HVal : Hid _ := hval
      have HO : Hid _ := hown
      have HC : Hid _ := hcs
      clear hz hzb hval hown hblk hzm hrow hb hb2 hcs
      go_wp2_with fail
      refine (join_yes x m gv 0 capv z wr h hgv HZ.out HZB.out).mono ?_
      rintro e w3 ⟨⟨t, _, ht, rfl⟩ | ⟨hno, rfl⟩, b3⟩
      · go_wp2_with fail
        refine (split_yes x m t w3 h (by show t.data.size = _; rw [← Array.length_toList, ht, joinL_length])).mono ?_
        rintro e w4 ⟨⟨g2, cs2, hg2, hrow2, hcs2, rfl⟩, b4⟩
        have b4' : Below wr.heap.size wr w4 := chain b3 b4 (Nat.le_refl _)
        have q1 : ∀ j, j < m → w4.cell? ⟨gv, 0 + j, none⟩ = some (.int .i64 (z j)) := fun j hj => (b4'.cell (p := ⟨gv, 0 + j, none⟩) hgv).trans (HZ.out j hj)
        have q2 : ∀ j, j < m → w4.cell? ⟨g2, 0 + j, none⟩ = some (.int .i64 (z j)) := fun j hj => by
          rw [Nat.zero_add, hrow2.cell, hcs2.2 j (by simpa using hj), ht, split_join h z HVal.out j hj]
        have Q1 : Hid _ := q1
        have Q2 : Hid _ := q2
        clear q1 q2 b3 b4 hcs2 hrow2 ht
        go_wp2_with fail
        refine (sameInts_yes gv 0 capv g2 0 m m z w4 (by omega) Q1.out Q2.out).mono ?_
        rintro e w5 ⟨rfl, d5⟩
        have b5 : Below wr.heap.size wr w5 := b4'.trans (d5.below _)
        clear b4' d5 Q1 Q2
        have hm1 : (m : Int) - 1 = ((m - 1 : Nat) : Int) := by omega
        have hm2 : m - 1 ≤ m := by omega
        go_wp2_with fail
        refine (join_len x m _ (m - 1) capv w5 h (by omega)).mono ?_
        rintro e w6 ⟨rfl, b6⟩
        have b6' : Below wr.heap.size wr w6 := chain b5 b6 (Nat.le_refl _)
        have hc0 : w6.cell? ⟨gv, 0, none⟩ = some (.int .i64 (z 0)) := (b6'.cell (p := ⟨gv, 0, none⟩) hgv).trans (HZ.out 0 hp)
        have hgr : g < wr.heap.size := by omega
        have hc1 : w6.cell? ⟨g, 1, none⟩ = some (.int .i64 (btC x m 0)) := (b6'.cell (p := ⟨g, 1, none⟩) hgr).trans ((hbg.cell 1).trans (HC.out.2 0 (by simpa using hp)).2)
        have hf0 : w6.frozen? ⟨gv, 0, none⟩ = false := (b6'.frozen (p := ⟨gv, 0, none⟩) hgv).trans hfz
        have hbt := btC_bd h 0
        have hv0 := HVal.out 0 hp
        unfold valid at hv0
        have hP : ∃ P : Int, 2 ^ btC x m 0 = P ∧ 256 ≤ P ∧ P ≤ 4294967296 := ⟨_, rfl, pow_lo hbt.1, pow_hi hbt.2⟩
        obtain ⟨P, hPe, hP1, hP2⟩ := hP
        have hor : bits .or .i64 (z 0) P = z 0 + P := by rw [← hPe]; exact or_top _ _ hbt.2 hv0.1 hv0.2
        rw [hPe] at hv0
        have HE : Hid _ := hPe
        clear b5 b6 hm1 hm2
        go_wp2_with fail
        go_region
        go_wp2_with fail
        have b7 : Below w.heap.size w (w6.setCell ⟨gv, 0, none⟩ (.int .i64 (z 0 + P))).drew :=
          ((hBr.trans (b6'.mono hBr.size)).setCell (p := ⟨gv, 0, none⟩) (by show w.heap.size ≤ gv; omega) _).drew
        have z1 : ∀ j, j < m → (w6.setCell ⟨gv, 0, none⟩ (.int .i64 (z 0 + P))).drew.cell? ⟨gv, 0 + j, none⟩ = some (.int .i64 ((fun k => if k = 0 then z 0 + P else z k) j)) := fun j hj => by
          show (w6.setCell ⟨gv, 0, none⟩ (.int .i64 (z 0 + P))).cell? ⟨gv, 0 + j, none⟩ = _
          by_cases e : j = 0
          · subst e
            exact World.cell?_setCell_same' _ _ _ (by rw [hc0]; rfl)
          · rw [World.cell?_setCell_other _ _ _ _ (by intro e2; injection e2; omega), b6'.cell (p := ⟨gv, 0 + j, none⟩) hgv, HZ.out j hj]; simp [e]
        have hsz : gv < (w6.setCell ⟨gv, 0, none⟩ (.int .i64 (z 0 + P))).drew.heap.size := by
          show gv < (w6.setCell ⟨gv, 0, none⟩ (.int .i64 (z 0 + P))).heap.size
          rw [World.size_setCell]; exact Nat.lt_of_lt_of_le hgv b6'.size
        generalize (w6.setCell ⟨gv, 0, none⟩ (.int .i64 (z 0 + P))).drew = w7 at *
        refine (join_yes x m gv 0 capv _ w7 h hsz z1 (fun j hj => ?_)).mono ?_
        · have := HZB.out j hj
          split
          · omega
          · exact this
        rintro e w8 ⟨⟨t2, hyes, _, rfl⟩ | ⟨hno, rfl⟩, b8⟩
        · have := (hyes 0 hp).2
          rw [HE.out] at this
          simp at this
          omega
        · have b8' := chain b7 b8 (Nat.le_refl _)
          clear z1 hsz b8 hor hc0 hc1 hf0 HO HC HZ HZB HVal hno
          go_wp2
          go_ret
          exact ⟨rfl, b8'⟩
      · exact absurd HVal.out hno
end Go.Proofs.Ytajnhpmokhmmeaa
