/-
  DERIVED. The law of the chain, in range.
-/
import Derived.Test.YtnnbcdfpbdmgdaaDoorTChain0
import Derived.Test.YtnnbcdfpbdmgdaaDoorTBitW
import Derived.Test.YtnnbcdfpbdmgdaaDoorTBegun
set_option linter.unusedVariables false
set_option linter.unusedSimpArgs false
namespace Go.Proofs.YtnnbcdfpbdmgdaaDoor
open Go.RowKit Go.Maps Go.Sort Go.Proofs.BitMath Go.Proofs.TreeMath
/-- A list of numbers, as a slice that may lie anywhere. -/
def IAt (W : World) (la : Option Addr) (l : List Int) : Prop := ∀ j q, l[j]? = some q → ∃ g off, la = some ⟨g, off, none⟩ ∧ W.cell? ⟨g, off + j, none⟩ = some (.int .i64 q)
theorem IAt.below {w w' : World} {la : Option Addr} {l : List Int} (h : IAt w la l) (b : Below w.heap.size w w') : IAt w' la l := fun j q hq => by
  obtain ⟨g, off, e, hc⟩ := h j q hq
  exact ⟨g, off, e, cell_lat b hc⟩

set_option maxHeartbeats 4000000 in
set_option maxRecDepth 100000 in
theorem law_chainI (w8 m : Nat) (l : List Int) (la : Option Addr) (lc : Nat) (Q : Int) (W : World) (ht : Tab W) (hl : IAt W la l) (hll : l.length < 4611686018427387904) (hw : isW w8 = true) (Mi : Int) (hMi : Mi = m) (hm0 : 0 < m) (hm1 : m ≤ w8) : Calls Tryd.prog 3 #[.int .i64 w8, .int .i64 Mi, .slice la l.length lc, .int .i64 Q] W fun r w' => r = .returned (.bool true) ∧ Below W.heap.size W w' := by
  have hW0 : 0 < W.heap.size := World.block_lt_of_cell? W ⟨0, 0, none⟩ (ht 0 (by omega))
  have htW : ∀ (w : World), Below W.heap.size W w → Tab w := fun w b => ht.below b hW0
  have HW := Hid.mk htW
  have HB := Hid.mk (begun_any W ht)
  obtain ⟨ln, hln⟩ : ∃ ln, ln = l.length := ⟨_, rfl⟩
  have HL := Hid.mk (And.intro hl hln)
  rw [← hln] at hll ⊢
  clear hl hln ht htW
  obtain ⟨n, hn⟩ : ∃ n, w8 = 8 * n := ⟨w8 / 8, by have h1 := isW_mod hw; omega⟩
  have hb8 := isW_bd hw
  have hn1 : n ≤ 128 := by omega
  have hnew := fun W => new_yes w8 n W hw hn
  have hbit := fun i (hi : i < w8) w => bit_any n i hn1 (by omega) w
  rw [← hn] at hbit
  have HN := Hid.mk hnew
  have HBt := Hid.mk hbit
  have H8 := Hid.mk hn
  have hw0 : 0 < w8 := by omega
  have hw1 : w8 ≤ 1024 := by omega
  clear hnew hbit hw hn hb8
  have d1 : decide (Mi < 1) = false := by simp; omega
  have d2 : decide ((w8 : Int) < Mi) = false := by simp; omega
  have HMi := Hid.mk hMi
  have hM0 : 0 < Mi := by omega
  have hM1 : Mi ≤ 1024 := by omega
  clear hMi
  go_enter Tryd.func3, Tryd.ntmps3
  go_wp2_with fail
  refine HB.out.mono ?_
  rintro e w1 ⟨rfl, b1⟩
  go_wp2_with fail
  refine (HN.out w1).mono ?_
  rintro e w2 ⟨rfl, htr, b2⟩
  obtain ⟨t, hte⟩ : ∃ t, t = w1.heap.size := ⟨_, rfl⟩
  have htp : 0 < t := by have := b1.size; omega
  have H0 := Hid.mk (show OT (n := n) W w2 t w8 (chn n 0) [] [] ⟨0, 0, 0, 0⟩ from ⟨by rw [hte]; exact htr, (fun k hk => by
    rcases hk with rfl | hk | hk
    · rw [hte]; exact b1.size
    · cases hk
    · cases hk), chain b1 b2 (Nat.le_refl _)⟩)
  rw [← hte]
  clear htr b1 b2 hte
  go_wp2_with fail
  go_loopw [11, 12, 13] (fun u y z wr => ∃ (i : Nat) (bs : List Nat) (ms : List (Option Nat)) (x : Num), u = .int .i64 i ∧ i ≤ m ∧ Hid (OT W wr t w8 (chn n i) bs ms x)) (fun u _ _ _ => m - (intOf u).toNat)
  case atStart => exact ⟨0, [], [], ⟨0, 0, 0, 0⟩, rfl, Nat.zero_le _, H0⟩
  case round =>
    obtain ⟨i, bs, ms, x, rfl, hi, HJ⟩ := hrel
    by_cases hlt : i < m
    · have i1 : (i : Int) < Mi := by rw [HMi.out]; omega
      have hwi : IntKind.i64.wrap ((i : Int) + 1) = ((i + 1 : Nat) : Int) := by rw [IntKind.wrap_i64]; omega
      go_wp2_with fail
      refine (HBt.out i (by omega) wr).mono ?_
      rintro e w3 ⟨rfl, b3⟩
      have o3 := HJ.out.below b3
      go_wp2_with fail
      refine (chn_add o3.tr (HW.out w3 o3.be) (by have := o3.tr.lt (.inl rfl); omega) (by have := H8.out; omega) hn1).mono ?_
      rintro e w4 ⟨rfl, h4⟩
      obtain ⟨bs', ms', x', o4, -⟩ := o3.moved h4
      have hdp := chn_depth o4.tr
      have HJ' := Hid.mk o4
      clear h4 o4 o3 b3
      go_wp2_with (first
        | (go_at_call 13; refine (depth_any _ HJ'.out.tr).mono ?_; rintro e' w' ⟨rfl, he'⟩; subst he')
        | go_in)
      all_goals first
        | (exfalso; omega)
        | (refine ⟨⟨i + 1, bs', ms', x', by push_cast; rfl, hlt, HJ'⟩, by simp only [intOf]; omega⟩)
    · have i1 : ¬ (i : Int) < Mi := by rw [HMi.out]; omega
      have hie : i = m := by omega
      rw [hie] at HJ
      have H2 := Hid.mk (show OT W wr t w8 (chn n m) bs ms x ∧ Few m (chn n m) ∧ Mi = ((lives (chn n m)).length : Nat) from ⟨HJ.out, few_chn, by rw [chn_lives]; simp; exact HMi.out⟩)
      have hiw : i ≤ w8 := by omega
      clear hie
      clear HJ hi hlt
      go_wp2_with fail
      go_loopw [14, 15, 16] (fun lv u kv wr => ∃ (L : Int) (i : Nat) (T : List (Nd (Cd n))) (bs : List Nat) (ms : List (Option Nat)) (x : Num), lv = .int .i64 L ∧ u = .int .i64 i ∧ i ≤ ln ∧ 0 ≤ L ∧ L ≤ 1024 ∧ Hid (OT W wr t w8 T bs ms x ∧ Few m T ∧ L = ((lives T).length : Nat))) (fun _ u _ _ => ln - (intOf u).toNat)
      case atStart => exact ⟨_, 0, _, bs, ms, x, rfl, rfl, Nat.zero_le _, by omega, by omega, H2⟩
      case round =>
        obtain ⟨L, i, T, bs, ms, x, rfl, rfl, hi, hL0, hL1, HT⟩ := hrel
        by_cases hlt : i < ln
        · have j1 : (i : Int) < (ln : Int) := by omega
          have j2 : (0 : Int) ≤ (i : Int) := by omega
          have hwi : IntKind.i64.wrap ((i : Int) + 1) = ((i + 1 : Nat) : Int) := by rw [IntKind.wrap_i64]; omega
          obtain ⟨g, off, ela, o0⟩ := (HL.out.1.below HT.out.1.be) i _ (List.getElem?_eq_getElem (by rw [← HL.out.2]; exact hlt))
          subst ela
          obtain ⟨K, hK⟩ : ∃ K, K = (l[i]'(by rw [← HL.out.2]; exact hlt)) := ⟨_, rfl⟩
          rw [← hK] at o0
          clear hK
          by_cases hk0 : 0 ≤ K
          · by_cases hk1 : K < Mi
            · obtain ⟨k, rfl⟩ : ∃ k : Nat, K = k := ⟨K.toNat, by omega⟩
              have hkw : k < w8 := by have := HMi.out; omega
              go_wp2_with fail
              refine (HBt.out k hkw wr).mono ?_
              rintro e w3 ⟨rfl, b3⟩
              have o3 := HT.out.1.below b3
              go_wp2_with fail
              refine (drop_all (bitC n k).1 w3 o3.tr (HW.out w3 o3.be) htp).mono ?_
              rintro e w4 hd
              obtain ⟨T', bs', ms', x', y, rfl, o4, hf4, hy⟩ := drop_few o3 HT.out.2.1 hd
              have hLe := HT.out.2.2
              clear hd o3 b3
              cases y with
              | true =>
                have hwl : IntKind.i64.wrap (L - 1) = L - 1 := by
                  simp at hy
                  rw [IntKind.wrap_i64]; omega
                have HT' := Hid.mk (show OT W w4 t w8 T' bs' ms' x' ∧ Few m T' ∧ L - 1 = ((lives T').length : Nat) from ⟨o4, hf4, by simp at hy; omega⟩)
                have hL2 : 0 ≤ L - 1 := by simp at hy; omega
                clear hy hLe o4 hf4
                go_wp2_with fail
                all_goals exact ⟨⟨L - 1, i + 1, T', bs', ms', x', rfl, by push_cast; rfl, hlt, hL2, by omega, HT'⟩, by simp only [intOf]; omega⟩
              | false =>
                have HT' := Hid.mk (show OT W w4 t w8 T' bs' ms' x' ∧ Few m T' ∧ L = ((lives T').length : Nat) from ⟨o4, hf4, by simp at hy; omega⟩)
                clear hy hLe o4 hf4
                go_wp2_with fail
                all_goals exact ⟨⟨L, i + 1, T', bs', ms', x', rfl, by push_cast; rfl, hlt, hL0, hL1, HT'⟩, by simp only [intOf]; omega⟩
            · go_wp2_with fail
              all_goals exact ⟨⟨L, i + 1, T, bs, ms, x, rfl, by push_cast; rfl, hlt, hL0, hL1, HT⟩, by simp only [intOf]; omega⟩
          · go_wp2_with fail
            all_goals exact ⟨⟨L, i + 1, T, bs, ms, x, rfl, by push_cast; rfl, hlt, hL0, hL1, HT⟩, by simp only [intOf]; omega⟩
        · have j1 : ¬ (i : Int) < (ln : Int) := by omega
          clear hlt hi hll
          by_cases hq : 0 ≤ Q ∧ Q < Mi
          · obtain ⟨q, rfl⟩ : ∃ q : Nat, Q = q := ⟨Q.toNat, by omega⟩
            have q1 : decide ((q : Int) < 0) = false := by simp
            have q2 : decide (Mi ≤ (q : Int)) = false := by simp; omega
            have hqm : q < m := by have hk1 := hq.2; have := HMi.out; omega
            have hqw : q < w8 := by omega
            have HBq := Hid.mk (show ∀ w, Calls Tryd.prog 12 #[.int .i64 w8, .int .i64 (q : Int)] w fun r w' => r = .returned (.string (bitC n q).1) ∧ Below w.heap.size w w' from HBt.out q hqw)
            go_wp2_with fail
            refine (HBq.out wr).mono ?_
            rintro e w3 ⟨rfl, b3⟩
            have o3 := HT.out.1.below b3
            go_wp2_with fail
            refine (has_any (bitC n q).1 w3 o3.tr (HW.out w3 o3.be) (by have := o3.tr.lt (.inl rfl); omega)).mono ?_
            rintro e w4 ⟨b4, there, rfl, hth⟩
            have hth2 : there = true → bitC n q ∈ lives T := fun h => by
              obtain ⟨c, hc, e⟩ := hth.1 h
              rwa [show c = bitC n q from Subtype.ext e] at hc
            have o4 := o3.below b4
            clear o3 b3 b4 hth
            go_wp2_with fail
            refine (HBq.out w4).mono ?_
            rintro e w5 ⟨rfl, b5⟩
            have o5 := o4.below b5
            have hT40 : T.length < 1099511627776 := by have := HT.out.2.1.le; omega
            clear o4 b5
            go_wp2_with fail
            refine (within_any (bitC n q).1 2 w5 o5.tr (HW.out w5 o5.be) htp hT40).mono ?_
            rintro e w6 hwO
            obtain ⟨a6, c6, x6, rfl, o6, hA⟩ := with_bit o5 HT.out.2.1 (by omega) hqm hwO
            clear hwO o5
            go_wp2_with fail
            refine (HBq.out w6).mono ?_
            rintro e w7 ⟨rfl, b7⟩
            have o7 := o6.below b7
            go_wp2_with fail
            refine (nearest_any (bitC n q).1 1 w7 o7.tr (HW.out w7 o7.be) htp hT40).mono ?_
            rintro e wz hnO
            obtain ⟨a8, k8, c8, x8, rfl, oz, hst, hN8⟩ := near_bit o7 hnO
            have hA2 : bitC n q ∈ lives T → ∃ g, a6 = some ⟨g, 0, none⟩ ∧ wz.cell? ⟨g, 2, none⟩ = some (.string (bitC n q).1) := fun h => by
              obtain ⟨g, h1, h2, h3⟩ := hA h
              have h4 := cell_lat b7 h3
              exact ⟨g, h1, cell_sty hst (fun e => by
                rcases e with e | e
                · exact h2 e
                · have := World.block_lt_of_cell? w7 _ h4; simp at this; omega) h4⟩
            have hlive : (x8.live : Int) = L := by rw [HT.out.2.2, oz.tr.live]
            have hll2 : (((lives T).length : Nat) : Int) = L := HT.out.2.2.symm
            have HZ := Hid.mk oz
            clear hnO o6 o7 b7 hA hst oz
            obtain ⟨tl, htl⟩ : ∃ tl, tl = (lives T).length := ⟨_, rfl⟩
            rw [← htl] at hll2 ⊢
            clear htl
            have hE := (Below.refl wz.heap.size wz).drew
            have HE := Hid.mk hE
            clear hE
            cases there with
            | false =>
              clear hth2 hN8 hA2
              go_wp2_with (first
                | (go_at_call 18; refine (len_any _ HZ.out.tr).mono ?_; rintro e' w' ⟨rfl, he'⟩; subst he')
                | go_in)
              refine wp_region_held_drew (S := fun _ => True) (by kernel_rfl) ?_ (fun hHeld => ?_)
              · trivial
              refine wpAnyH_take (i := 0) (oi := { dst := some 139, op := Op.move (Operand.tmp 17), type := 4, pos := "plain.go:193", after := #[], guard := none }) (v := ?vfa0) rfl (by kernel_rfl) (by kernel_rfl) (by kernel_rfl) (fun _ _ _ h => h) (Or.inl ⟨by rfl, ?hfa0⟩) (by assumption) ?rfa0
              case hfa0 => (intro w0 hSw; (try dsimp only at hSw); go_simp; try (with_reducible rfl))
              simp only [Act.put, List.setIfInBounds_toArray, List.set_cons_zero, List.set_cons_succ]
              refine wpAnyH_take (i := 1) (oi := { dst := some 140, op := Op.unOp UnOp.not 4 (Operand.tmp 139), type := 4, pos := "plain.go:193", after := #[{ on := 0, ground := Ground.data }], guard := none }) (v := ?vfa1) rfl (by kernel_rfl) (by kernel_rfl) (by kernel_rfl) (fun _ _ _ h => h) (Or.inl ⟨by rfl, ?hfa1⟩) (by assumption) ?rfa1
              case hfa1 => (intro w0 hSw; (try dsimp only at hSw); go_simp; try (with_reducible rfl))
              simp only [Act.put, List.setIfInBounds_toArray, List.set_cons_zero, List.set_cons_succ]
              refine wpAnyH_take (i := 2) (oi := { dst := some 141, op := Op.move (Operand.tmp 140), type := 4, pos := "plain.go:193", after := #[{ on := 1, ground := Ground.data }], guard := none }) (v := ?vfa2) rfl (by kernel_rfl) (by kernel_rfl) (by kernel_rfl) (fun _ _ _ h => h) (Or.inl ⟨by rfl, ?hfa2⟩) (by assumption) ?rfa2
              case hfa2 => (intro w0 hSw; (try dsimp only at hSw); go_simp; try (with_reducible rfl))
              simp only [Act.put, List.setIfInBounds_toArray, List.set_cons_zero, List.set_cons_succ]
              refine wpAnyH_take (i := 3) (oi := { dst := some 142, op := Op.move (Operand.tmp 20), type := 32, pos := "plain.go:193", after := #[{ on := 2, ground := Ground.guard }], guard := some (2, false) }) rfl (by kernel_rfl) (by kernel_rfl) (by kernel_rfl) (fun _ _ _ h => h) (Or.inr ⟨by rfl, rfl⟩) (by assumption) ?_
              simp only [Act.put, List.setIfInBounds_toArray, List.set_cons_zero, List.set_cons_succ]
              refine wpAnyH_take (i := 4) (oi := { dst := some 143, op := Op.call { callee := Callee.builtin Builtin.len, args := #[Operand.tmp 142], argTypes := #[32] }, type := 3, pos := "plain.go:193", after := #[{ on := 3, ground := Ground.data }, { on := 2, ground := Ground.guard }], guard := some (2, false) }) rfl (by kernel_rfl) (by kernel_rfl) (by kernel_rfl) (fun _ _ _ h => h) (Or.inr ⟨by rfl, rfl⟩) (by assumption) ?_
              simp only [Act.put, List.setIfInBounds_toArray, List.set_cons_zero, List.set_cons_succ]
              refine wpAnyH_take (i := 5) (oi := { dst := some 144, op := Op.binOp BinOp.eql 3 (Operand.tmp 143) (Operand.const (Value.int IntKind.i64 1)) 3, type := 4, pos := "plain.go:193", after := #[{ on := 4, ground := Ground.data }, { on := 2, ground := Ground.guard }], guard := some (2, false) }) rfl (by kernel_rfl) (by kernel_rfl) (by kernel_rfl) (fun _ _ _ h => h) (Or.inr ⟨by rfl, rfl⟩) (by assumption) ?_
              simp only [Act.put, List.setIfInBounds_toArray, List.set_cons_zero, List.set_cons_succ]
              refine wpAnyH_take (i := 6) (oi := { dst := some 145, op := Op.move (Operand.tmp 144), type := 4, pos := "plain.go:193", after := #[{ on := 5, ground := Ground.data }, { on := 2, ground := Ground.chain }, { on := 2, ground := Ground.guard }], guard := some (2, false) }) rfl (by kernel_rfl) (by kernel_rfl) (by kernel_rfl) (fun _ _ _ h => h) (Or.inr ⟨by rfl, rfl⟩) (by assumption) ?_
              simp only [Act.put, List.setIfInBounds_toArray, List.set_cons_zero, List.set_cons_succ]
              refine wpAnyH_take (i := 7) (oi := { dst := some 146, op := Op.move (Operand.tmp 20), type := 32, pos := "plain.go:193", after := #[{ on := 6, ground := Ground.guard }], guard := some (6, true) }) rfl (by kernel_rfl) (by kernel_rfl) (by kernel_rfl) (fun _ _ _ h => h) (Or.inr ⟨by rfl, rfl⟩) (by assumption) ?_
              simp only [Act.put, List.setIfInBounds_toArray, List.set_cons_zero, List.set_cons_succ]
              refine wpAnyH_take (i := 8) (oi := { dst := some 147, op := Op.indexAddr 32 (Operand.tmp 146) (Operand.const (Value.int IntKind.i64 0)), type := 0, pos := "plain.go:193", after := #[{ on := 7, ground := Ground.data }, { on := 6, ground := Ground.guard }], guard := some (6, true) }) rfl (by kernel_rfl) (by kernel_rfl) (by kernel_rfl) (fun _ _ _ h => h) (Or.inr ⟨by rfl, rfl⟩) (by assumption) ?_
              simp only [Act.put, List.setIfInBounds_toArray, List.set_cons_zero, List.set_cons_succ]
              refine wpAnyH_take (i := 9) (oi := { dst := some 148, op := Op.fieldAddr 36 (Operand.tmp 147) 0, type := 0, pos := "plain.go:193", after := #[{ on := 8, ground := Ground.data }, { on := 6, ground := Ground.guard }], guard := some (6, true) }) rfl (by kernel_rfl) (by kernel_rfl) (by kernel_rfl) (fun _ _ _ h => h) (Or.inr ⟨by rfl, rfl⟩) (by assumption) ?_
              simp only [Act.put, List.setIfInBounds_toArray, List.set_cons_zero, List.set_cons_succ]
              refine wpAnyH_take (i := 10) (oi := { dst := some 149, op := Op.load 3 (Operand.tmp 148), type := 3, pos := "plain.go:193", after := #[{ on := 9, ground := Ground.data }, { on := 6, ground := Ground.guard }], guard := some (6, true) }) rfl (by kernel_rfl) (by kernel_rfl) (by kernel_rfl) (fun _ _ _ h => h) (Or.inr ⟨by rfl, rfl⟩) (by assumption) ?_
              simp only [Act.put, List.setIfInBounds_toArray, List.set_cons_zero, List.set_cons_succ]
              refine wpAnyH_take (i := 11) (oi := { dst := some 150, op := Op.binOp BinOp.eql 3 (Operand.tmp 149) (Operand.const (Value.int IntKind.i64 0)) 3, type := 4, pos := "plain.go:193", after := #[{ on := 10, ground := Ground.data }, { on := 6, ground := Ground.guard }], guard := some (6, true) }) rfl (by kernel_rfl) (by kernel_rfl) (by kernel_rfl) (fun _ _ _ h => h) (Or.inr ⟨by rfl, rfl⟩) (by assumption) ?_
              simp only [Act.put, List.setIfInBounds_toArray, List.set_cons_zero, List.set_cons_succ]
              refine wpAnyH_take (i := 12) (oi := { dst := some 151, op := Op.pick (Operand.tmp 145) (Operand.tmp 150) (Operand.const (Value.bool false)), type := 4, pos := "plain.go:193", after := #[{ on := 6, ground := Ground.data }, { on := 11, ground := Ground.data }, { on := 2, ground := Ground.guard }], guard := some (2, false) }) rfl (by kernel_rfl) (by kernel_rfl) (by kernel_rfl) (fun _ _ _ h => h) (Or.inr ⟨by rfl, rfl⟩) (by assumption) ?_
              simp only [Act.put, List.setIfInBounds_toArray, List.set_cons_zero, List.set_cons_succ]
              refine wpAnyH_take (i := 13) (oi := { dst := some 152, op := Op.move (Operand.tmp 151), type := 4, pos := "plain.go:193", after := #[{ on := 12, ground := Ground.data }, { on := 6, ground := Ground.chain }, { on := 2, ground := Ground.guard }], guard := some (2, false) }) rfl (by kernel_rfl) (by kernel_rfl) (by kernel_rfl) (fun _ _ _ h => h) (Or.inr ⟨by rfl, rfl⟩) (by assumption) ?_
              simp only [Act.put, List.setIfInBounds_toArray, List.set_cons_zero, List.set_cons_succ]
              refine wpAnyH_take (i := 14) (oi := { dst := some 153, op := Op.move (Operand.tmp 18), type := 32, pos := "plain.go:193", after := #[{ on := 13, ground := Ground.guard }], guard := some (13, true) }) rfl (by kernel_rfl) (by kernel_rfl) (by kernel_rfl) (fun _ _ _ h => h) (Or.inr ⟨by rfl, rfl⟩) (by assumption) ?_
              simp only [Act.put, List.setIfInBounds_toArray, List.set_cons_zero, List.set_cons_succ]
              refine wpAnyH_take (i := 15) (oi := { dst := some 154, op := Op.indexAddr 32 (Operand.tmp 153) (Operand.const (Value.int IntKind.i64 0)), type := 0, pos := "plain.go:193", after := #[{ on := 14, ground := Ground.data }, { on := 13, ground := Ground.guard }], guard := some (13, true) }) rfl (by kernel_rfl) (by kernel_rfl) (by kernel_rfl) (fun _ _ _ h => h) (Or.inr ⟨by rfl, rfl⟩) (by assumption) ?_
              simp only [Act.put, List.setIfInBounds_toArray, List.set_cons_zero, List.set_cons_succ]
              refine wpAnyH_take (i := 16) (oi := { dst := some 155, op := Op.fieldAddr 36 (Operand.tmp 154) 2, type := 0, pos := "plain.go:193", after := #[{ on := 15, ground := Ground.data }, { on := 13, ground := Ground.guard }], guard := some (13, true) }) rfl (by kernel_rfl) (by kernel_rfl) (by kernel_rfl) (fun _ _ _ h => h) (Or.inr ⟨by rfl, rfl⟩) (by assumption) ?_
              simp only [Act.put, List.setIfInBounds_toArray, List.set_cons_zero, List.set_cons_succ]
              refine wpAnyH_take (i := 17) (oi := { dst := some 156, op := Op.load 9 (Operand.tmp 155), type := 9, pos := "plain.go:193", after := #[{ on := 16, ground := Ground.data }, { on := 13, ground := Ground.guard }], guard := some (13, true) }) rfl (by kernel_rfl) (by kernel_rfl) (by kernel_rfl) (fun _ _ _ h => h) (Or.inr ⟨by rfl, rfl⟩) (by assumption) ?_
              simp only [Act.put, List.setIfInBounds_toArray, List.set_cons_zero, List.set_cons_succ]
              refine wpAnyH_take (i := 18) (oi := { dst := some 157, op := Op.move (Operand.tmp 0), type := 3, pos := "plain.go:193", after := #[{ on := 13, ground := Ground.guard }], guard := some (13, true) }) rfl (by kernel_rfl) (by kernel_rfl) (by kernel_rfl) (fun _ _ _ h => h) (Or.inr ⟨by rfl, rfl⟩) (by assumption) ?_
              simp only [Act.put, List.setIfInBounds_toArray, List.set_cons_zero, List.set_cons_succ]
              refine wpAnyH_take (i := 19) (oi := { dst := some 158, op := Op.move (Operand.tmp 3), type := 3, pos := "plain.go:193", after := #[{ on := 13, ground := Ground.guard }], guard := some (13, true) }) rfl (by kernel_rfl) (by kernel_rfl) (by kernel_rfl) (fun _ _ _ h => h) (Or.inr ⟨by rfl, rfl⟩) (by assumption) ?_
              simp only [Act.put, List.setIfInBounds_toArray, List.set_cons_zero, List.set_cons_succ]
              refine wpAnyH_take (i := 20) (oi := { dst := some 159, op := Op.call { callee := Callee.value (Operand.func 12), args := #[Operand.tmp 157, Operand.tmp 158], argTypes := #[3, 3] }, type := 9, pos := "plain.go:193", after := #[{ on := 18, ground := Ground.data }, { on := 19, ground := Ground.data }, { on := 13, ground := Ground.chain }, { on := 13, ground := Ground.guard }], guard := some (13, true) }) rfl (by kernel_rfl) (by kernel_rfl) (by kernel_rfl) (fun _ _ _ h => h) (Or.inr ⟨by rfl, rfl⟩) (by assumption) ?_
              simp only [Act.put, List.setIfInBounds_toArray, List.set_cons_zero, List.set_cons_succ]
              refine wpAnyH_take (i := 21) (oi := { dst := some 160, op := Op.binOp BinOp.eql 9 (Operand.tmp 156) (Operand.tmp 159) 9, type := 4, pos := "plain.go:193", after := #[{ on := 17, ground := Ground.data }, { on := 20, ground := Ground.data }, { on := 13, ground := Ground.guard }], guard := some (13, true) }) rfl (by kernel_rfl) (by kernel_rfl) (by kernel_rfl) (fun _ _ _ h => h) (Or.inr ⟨by rfl, rfl⟩) (by assumption) ?_
              simp only [Act.put, List.setIfInBounds_toArray, List.set_cons_zero, List.set_cons_succ]
              refine wpAnyH_take (i := 22) (oi := { dst := some 161, op := Op.pick (Operand.tmp 152) (Operand.tmp 160) (Operand.const (Value.bool false)), type := 4, pos := "plain.go:193", after := #[{ on := 13, ground := Ground.data }, { on := 21, ground := Ground.data }, { on := 2, ground := Ground.guard }], guard := some (2, false) }) rfl (by kernel_rfl) (by kernel_rfl) (by kernel_rfl) (fun _ _ _ h => h) (Or.inr ⟨by rfl, rfl⟩) (by assumption) ?_
              simp only [Act.put, List.setIfInBounds_toArray, List.set_cons_zero, List.set_cons_succ]
              refine wpAnyH_take (i := 23) (oi := { dst := some 162, op := Op.pick (Operand.tmp 141) (Operand.const (Value.bool true)) (Operand.tmp 161), type := 4, pos := "plain.go:193", after := #[{ on := 2, ground := Ground.data }, { on := 22, ground := Ground.data }], guard := none }) (v := ?vfa23) rfl (by kernel_rfl) (by kernel_rfl) (by kernel_rfl) (fun _ _ _ h => h) (Or.inl ⟨by rfl, ?hfa23⟩) (by assumption) ?rfa23
              case hfa23 => (intro w0 hSw; (try dsimp only at hSw); go_simp; try (with_reducible rfl))
              simp only [Act.put, List.setIfInBounds_toArray, List.set_cons_zero, List.set_cons_succ]
              refine wpAnyH_take (i := 24) (oi := { dst := some 8, op := Op.assign (Operand.tmp 162), type := 4, pos := "plain.go:193", after := #[{ on := 23, ground := Ground.data }, { on := 20, ground := Ground.chain }, { on := 0, ground := Ground.phase }, { on := 1, ground := Ground.phase }, { on := 2, ground := Ground.phase }, { on := 3, ground := Ground.phase }, { on := 4, ground := Ground.phase }, { on := 5, ground := Ground.phase }, { on := 6, ground := Ground.phase }, { on := 7, ground := Ground.phase }, { on := 8, ground := Ground.phase }, { on := 9, ground := Ground.phase }, { on := 10, ground := Ground.phase }, { on := 11, ground := Ground.phase }, { on := 12, ground := Ground.phase }, { on := 13, ground := Ground.phase }, { on := 14, ground := Ground.phase }, { on := 15, ground := Ground.phase }, { on := 16, ground := Ground.phase }, { on := 17, ground := Ground.phase }, { on := 18, ground := Ground.phase }, { on := 19, ground := Ground.phase }, { on := 20, ground := Ground.phase }, { on := 21, ground := Ground.phase }, { on := 22, ground := Ground.phase }, { on := 23, ground := Ground.phase }], guard := none }) (v := ?vfa24) rfl (by kernel_rfl) (by kernel_rfl) (by kernel_rfl) (fun _ _ _ h => h) (Or.inl ⟨by rfl, ?hfa24⟩) (by assumption) ?rfa24
              case hfa24 => (intro w0 hSw; (try dsimp only at hSw); go_simp; try (with_reducible rfl))
              simp only [Act.put, List.setIfInBounds_toArray, List.set_cons_zero, List.set_cons_succ]
              refine wpAnyH_done (by kernel_rfl) ?_ _
              go_wp2_with fail
              go_ret
              exact ⟨rfl, HZ.out.be.drew⟩
            | true =>
              have hLp : 0 < L := by
                have h1 := HT.out.2.2
                have h2 := List.length_pos_of_mem (hth2 rfl)
                omega
              obtain ⟨g6, rfl, c60⟩ := hA2 (hth2 rfl)
              obtain ⟨rfl, g8, rfl, c80⟩ := hN8 (hth2 rfl)
              clear hth2 hN8 hA2
              generalize (bitC n q).1 = sq at HBq c60
              go_wp2_with (first
                | (go_at_call 18; refine (len_any _ HZ.out.tr).mono ?_; rintro e' w' ⟨rfl, he'⟩; subst he')
                | go_in)
              refine wp_region_held_drew (S := fun w' => w'.cell? ⟨g6, 2, none⟩ = some (.string sq) ∧ w'.cell? ⟨g8, 0, none⟩ = some (.int .i64 0)) (by kernel_rfl) ?_ (fun hHeld => ?_)
              · exact ⟨c60, c80⟩
              refine wpAnyH_take (i := 0) (oi := { dst := some 139, op := Op.move (Operand.tmp 17), type := 4, pos := "plain.go:193", after := #[], guard := none }) (v := ?vta0) rfl (by kernel_rfl) (by kernel_rfl) (by kernel_rfl) (fun _ _ _ h => h) (Or.inl ⟨by rfl, ?hta0⟩) (by assumption) ?rta0
              case hta0 => (intro w0 hSw; (try dsimp only at hSw); go_simp; try (with_reducible rfl))
              simp only [Act.put, List.setIfInBounds_toArray, List.set_cons_zero, List.set_cons_succ]
              refine wpAnyH_take (i := 1) (oi := { dst := some 140, op := Op.unOp UnOp.not 4 (Operand.tmp 139), type := 4, pos := "plain.go:193", after := #[{ on := 0, ground := Ground.data }], guard := none }) (v := ?vta1) rfl (by kernel_rfl) (by kernel_rfl) (by kernel_rfl) (fun _ _ _ h => h) (Or.inl ⟨by rfl, ?hta1⟩) (by assumption) ?rta1
              case hta1 => (intro w0 hSw; (try dsimp only at hSw); go_simp; try (with_reducible rfl))
              simp only [Act.put, List.setIfInBounds_toArray, List.set_cons_zero, List.set_cons_succ]
              refine wpAnyH_take (i := 2) (oi := { dst := some 141, op := Op.move (Operand.tmp 140), type := 4, pos := "plain.go:193", after := #[{ on := 1, ground := Ground.data }], guard := none }) (v := ?vta2) rfl (by kernel_rfl) (by kernel_rfl) (by kernel_rfl) (fun _ _ _ h => h) (Or.inl ⟨by rfl, ?hta2⟩) (by assumption) ?rta2
              case hta2 => (intro w0 hSw; (try dsimp only at hSw); go_simp; try (with_reducible rfl))
              simp only [Act.put, List.setIfInBounds_toArray, List.set_cons_zero, List.set_cons_succ]
              refine wpAnyH_take (i := 3) (oi := { dst := some 142, op := Op.move (Operand.tmp 20), type := 32, pos := "plain.go:193", after := #[{ on := 2, ground := Ground.guard }], guard := some (2, false) }) (v := ?vta3) rfl (by kernel_rfl) (by kernel_rfl) (by kernel_rfl) (fun _ _ _ h => h) (Or.inl ⟨by rfl, ?hta3⟩) (by assumption) ?rta3
              case hta3 => (intro w0 hSw; (try dsimp only at hSw); go_simp; try (with_reducible rfl))
              simp only [Act.put, List.setIfInBounds_toArray, List.set_cons_zero, List.set_cons_succ]
              refine wpAnyH_take (i := 4) (oi := { dst := some 143, op := Op.call { callee := Callee.builtin Builtin.len, args := #[Operand.tmp 142], argTypes := #[32] }, type := 3, pos := "plain.go:193", after := #[{ on := 3, ground := Ground.data }, { on := 2, ground := Ground.guard }], guard := some (2, false) }) (v := ?vta4) rfl (by kernel_rfl) (by kernel_rfl) (by kernel_rfl) (fun _ _ _ h => h) (Or.inl ⟨by rfl, ?hta4⟩) (by assumption) ?rta4
              case hta4 => (intro w0 hSw; (try dsimp only at hSw); go_simp; try (with_reducible rfl))
              simp only [Act.put, List.setIfInBounds_toArray, List.set_cons_zero, List.set_cons_succ]
              refine wpAnyH_take (i := 5) (oi := { dst := some 144, op := Op.binOp BinOp.eql 3 (Operand.tmp 143) (Operand.const (Value.int IntKind.i64 1)) 3, type := 4, pos := "plain.go:193", after := #[{ on := 4, ground := Ground.data }, { on := 2, ground := Ground.guard }], guard := some (2, false) }) (v := ?vta5) rfl (by kernel_rfl) (by kernel_rfl) (by kernel_rfl) (fun _ _ _ h => h) (Or.inl ⟨by rfl, ?hta5⟩) (by assumption) ?rta5
              case hta5 => (intro w0 hSw; (try dsimp only at hSw); go_simp; try (with_reducible rfl))
              simp only [Act.put, List.setIfInBounds_toArray, List.set_cons_zero, List.set_cons_succ]
              refine wpAnyH_take (i := 6) (oi := { dst := some 145, op := Op.move (Operand.tmp 144), type := 4, pos := "plain.go:193", after := #[{ on := 5, ground := Ground.data }, { on := 2, ground := Ground.chain }, { on := 2, ground := Ground.guard }], guard := some (2, false) }) (v := ?vta6) rfl (by kernel_rfl) (by kernel_rfl) (by kernel_rfl) (fun _ _ _ h => h) (Or.inl ⟨by rfl, ?hta6⟩) (by assumption) ?rta6
              case hta6 => (intro w0 hSw; (try dsimp only at hSw); go_simp; try (with_reducible rfl))
              simp only [Act.put, List.setIfInBounds_toArray, List.set_cons_zero, List.set_cons_succ]
              refine wpAnyH_take (i := 7) (oi := { dst := some 146, op := Op.move (Operand.tmp 20), type := 32, pos := "plain.go:193", after := #[{ on := 6, ground := Ground.guard }], guard := some (6, true) }) (v := ?vta7) rfl (by kernel_rfl) (by kernel_rfl) (by kernel_rfl) (fun _ _ _ h => h) (Or.inl ⟨by rfl, ?hta7⟩) (by assumption) ?rta7
              case hta7 => (intro w0 hSw; (try dsimp only at hSw); go_simp; try (with_reducible rfl))
              simp only [Act.put, List.setIfInBounds_toArray, List.set_cons_zero, List.set_cons_succ]
              refine wpAnyH_take (i := 8) (oi := { dst := some 147, op := Op.indexAddr 32 (Operand.tmp 146) (Operand.const (Value.int IntKind.i64 0)), type := 0, pos := "plain.go:193", after := #[{ on := 7, ground := Ground.data }, { on := 6, ground := Ground.guard }], guard := some (6, true) }) (v := ?vta8) rfl (by kernel_rfl) (by kernel_rfl) (by kernel_rfl) (fun _ _ _ h => h) (Or.inl ⟨by rfl, ?hta8⟩) (by assumption) ?rta8
              case hta8 => (intro w0 hSw; (try dsimp only at hSw); go_simp; try (with_reducible rfl))
              simp only [Act.put, List.setIfInBounds_toArray, List.set_cons_zero, List.set_cons_succ]
              refine wpAnyH_take (i := 9) (oi := { dst := some 148, op := Op.fieldAddr 36 (Operand.tmp 147) 0, type := 0, pos := "plain.go:193", after := #[{ on := 8, ground := Ground.data }, { on := 6, ground := Ground.guard }], guard := some (6, true) }) (v := ?vta9) rfl (by kernel_rfl) (by kernel_rfl) (by kernel_rfl) (fun _ _ _ h => h) (Or.inl ⟨by rfl, ?hta9⟩) (by assumption) ?rta9
              case hta9 => (intro w0 hSw; (try dsimp only at hSw); go_simp; try (with_reducible rfl))
              simp only [Act.put, List.setIfInBounds_toArray, List.set_cons_zero, List.set_cons_succ]
              refine wpAnyH_take (i := 10) (oi := { dst := some 149, op := Op.load 3 (Operand.tmp 148), type := 3, pos := "plain.go:193", after := #[{ on := 9, ground := Ground.data }, { on := 6, ground := Ground.guard }], guard := some (6, true) }) (v := ?vta10) rfl (by kernel_rfl) (by kernel_rfl) (by kernel_rfl) (fun _ _ _ h => h) (Or.inl ⟨by rfl, ?hta10⟩) (by assumption) ?rta10
              case hta10 => (intro w0 hSw; (try dsimp only at hSw); go_simp; try (with_reducible rfl))
              simp only [Act.put, List.setIfInBounds_toArray, List.set_cons_zero, List.set_cons_succ]
              refine wpAnyH_take (i := 11) (oi := { dst := some 150, op := Op.binOp BinOp.eql 3 (Operand.tmp 149) (Operand.const (Value.int IntKind.i64 0)) 3, type := 4, pos := "plain.go:193", after := #[{ on := 10, ground := Ground.data }, { on := 6, ground := Ground.guard }], guard := some (6, true) }) (v := ?vta11) rfl (by kernel_rfl) (by kernel_rfl) (by kernel_rfl) (fun _ _ _ h => h) (Or.inl ⟨by rfl, ?hta11⟩) (by assumption) ?rta11
              case hta11 => (intro w0 hSw; (try dsimp only at hSw); go_simp; try (with_reducible rfl))
              simp only [Act.put, List.setIfInBounds_toArray, List.set_cons_zero, List.set_cons_succ]
              refine wpAnyH_take (i := 12) (oi := { dst := some 151, op := Op.pick (Operand.tmp 145) (Operand.tmp 150) (Operand.const (Value.bool false)), type := 4, pos := "plain.go:193", after := #[{ on := 6, ground := Ground.data }, { on := 11, ground := Ground.data }, { on := 2, ground := Ground.guard }], guard := some (2, false) }) (v := ?vta12) rfl (by kernel_rfl) (by kernel_rfl) (by kernel_rfl) (fun _ _ _ h => h) (Or.inl ⟨by rfl, ?hta12⟩) (by assumption) ?rta12
              case hta12 => (intro w0 hSw; (try dsimp only at hSw); go_simp; try (with_reducible rfl))
              simp only [Act.put, List.setIfInBounds_toArray, List.set_cons_zero, List.set_cons_succ]
              refine wpAnyH_take (i := 13) (oi := { dst := some 152, op := Op.move (Operand.tmp 151), type := 4, pos := "plain.go:193", after := #[{ on := 12, ground := Ground.data }, { on := 6, ground := Ground.chain }, { on := 2, ground := Ground.guard }], guard := some (2, false) }) (v := ?vta13) rfl (by kernel_rfl) (by kernel_rfl) (by kernel_rfl) (fun _ _ _ h => h) (Or.inl ⟨by rfl, ?hta13⟩) (by assumption) ?rta13
              case hta13 => (intro w0 hSw; (try dsimp only at hSw); go_simp; try (with_reducible rfl))
              simp only [Act.put, List.setIfInBounds_toArray, List.set_cons_zero, List.set_cons_succ]
              refine wpAnyH_take (i := 14) (oi := { dst := some 153, op := Op.move (Operand.tmp 18), type := 32, pos := "plain.go:193", after := #[{ on := 13, ground := Ground.guard }], guard := some (13, true) }) (v := ?vta14) rfl (by kernel_rfl) (by kernel_rfl) (by kernel_rfl) (fun _ _ _ h => h) (Or.inl ⟨by rfl, ?hta14⟩) (by assumption) ?rta14
              case hta14 => (intro w0 hSw; (try dsimp only at hSw); go_simp; try (with_reducible rfl))
              simp only [Act.put, List.setIfInBounds_toArray, List.set_cons_zero, List.set_cons_succ]
              refine wpAnyH_take (i := 15) (oi := { dst := some 154, op := Op.indexAddr 32 (Operand.tmp 153) (Operand.const (Value.int IntKind.i64 0)), type := 0, pos := "plain.go:193", after := #[{ on := 14, ground := Ground.data }, { on := 13, ground := Ground.guard }], guard := some (13, true) }) (v := ?vta15) rfl (by kernel_rfl) (by kernel_rfl) (by kernel_rfl) (fun _ _ _ h => h) (Or.inl ⟨by rfl, ?hta15⟩) (by assumption) ?rta15
              case hta15 => (intro w0 hSw; (try dsimp only at hSw); go_simp; try (with_reducible rfl))
              simp only [Act.put, List.setIfInBounds_toArray, List.set_cons_zero, List.set_cons_succ]
              refine wpAnyH_take (i := 16) (oi := { dst := some 155, op := Op.fieldAddr 36 (Operand.tmp 154) 2, type := 0, pos := "plain.go:193", after := #[{ on := 15, ground := Ground.data }, { on := 13, ground := Ground.guard }], guard := some (13, true) }) (v := ?vta16) rfl (by kernel_rfl) (by kernel_rfl) (by kernel_rfl) (fun _ _ _ h => h) (Or.inl ⟨by rfl, ?hta16⟩) (by assumption) ?rta16
              case hta16 => (intro w0 hSw; (try dsimp only at hSw); go_simp; try (with_reducible rfl))
              simp only [Act.put, List.setIfInBounds_toArray, List.set_cons_zero, List.set_cons_succ]
              refine wpAnyH_take (i := 17) (oi := { dst := some 156, op := Op.load 9 (Operand.tmp 155), type := 9, pos := "plain.go:193", after := #[{ on := 16, ground := Ground.data }, { on := 13, ground := Ground.guard }], guard := some (13, true) }) (v := ?vta17) rfl (by kernel_rfl) (by kernel_rfl) (by kernel_rfl) (fun _ _ _ h => h) (Or.inl ⟨by rfl, ?hta17⟩) (by assumption) ?rta17
              case hta17 => (intro w0 hSw; (try dsimp only at hSw); go_simp; try (with_reducible rfl))
              simp only [Act.put, List.setIfInBounds_toArray, List.set_cons_zero, List.set_cons_succ]
              refine wpAnyH_take (i := 18) (oi := { dst := some 157, op := Op.move (Operand.tmp 0), type := 3, pos := "plain.go:193", after := #[{ on := 13, ground := Ground.guard }], guard := some (13, true) }) (v := ?vta18) rfl (by kernel_rfl) (by kernel_rfl) (by kernel_rfl) (fun _ _ _ h => h) (Or.inl ⟨by rfl, ?hta18⟩) (by assumption) ?rta18
              case hta18 => (intro w0 hSw; (try dsimp only at hSw); go_simp; try (with_reducible rfl))
              simp only [Act.put, List.setIfInBounds_toArray, List.set_cons_zero, List.set_cons_succ]
              refine wpAnyH_take (i := 19) (oi := { dst := some 158, op := Op.move (Operand.tmp 3), type := 3, pos := "plain.go:193", after := #[{ on := 13, ground := Ground.guard }], guard := some (13, true) }) (v := ?vta19) rfl (by kernel_rfl) (by kernel_rfl) (by kernel_rfl) (fun _ _ _ h => h) (Or.inl ⟨by rfl, ?hta19⟩) (by assumption) ?rta19
              case hta19 => (intro w0 hSw; (try dsimp only at hSw); go_simp; try (with_reducible rfl))
              simp only [Act.put, List.setIfInBounds_toArray, List.set_cons_zero, List.set_cons_succ]
              refine wpAnyH_ready (rs := [20]) (by kernel_rfl) (by simp) ?_
              refine AllReadyH.cons rfl (fun K hK => ?_) AllReadyH.nil
              go_simp
              go_wp2_with (go_at_call 12; refine (HBq.out _).mono ?_; rintro e' w9 ⟨rfl, b9⟩; have hE := chain HE.out b9 (Nat.le_refl _); clear HE; have HE := Hid.mk hE)
              refine hK.out _ _ ?_ (fun hHeld => ?_)
              · exact ⟨cell_lat hE c60, cell_lat hE c80⟩
              clear hK K
              refine wpAnyH_take (i := 21) (oi := { dst := some 160, op := Op.binOp BinOp.eql 9 (Operand.tmp 156) (Operand.tmp 159) 9, type := 4, pos := "plain.go:193", after := #[{ on := 17, ground := Ground.data }, { on := 20, ground := Ground.data }, { on := 13, ground := Ground.guard }], guard := some (13, true) }) (v := ?vta21) rfl (by kernel_rfl) (by kernel_rfl) (by kernel_rfl) (fun _ _ _ h => h) (Or.inl ⟨by rfl, ?hta21⟩) (by assumption) ?rta21
              case hta21 => (intro w0 hSw; (try dsimp only at hSw); go_simp; try (with_reducible rfl))
              simp only [Act.put, List.setIfInBounds_toArray, List.set_cons_zero, List.set_cons_succ]
              refine wpAnyH_take (i := 22) (oi := { dst := some 161, op := Op.pick (Operand.tmp 152) (Operand.tmp 160) (Operand.const (Value.bool false)), type := 4, pos := "plain.go:193", after := #[{ on := 13, ground := Ground.data }, { on := 21, ground := Ground.data }, { on := 2, ground := Ground.guard }], guard := some (2, false) }) (v := ?vta22) rfl (by kernel_rfl) (by kernel_rfl) (by kernel_rfl) (fun _ _ _ h => h) (Or.inl ⟨by rfl, ?hta22⟩) (by assumption) ?rta22
              case hta22 => (intro w0 hSw; (try dsimp only at hSw); go_simp; try (with_reducible rfl))
              simp only [Act.put, List.setIfInBounds_toArray, List.set_cons_zero, List.set_cons_succ]
              refine wpAnyH_take (i := 23) (oi := { dst := some 162, op := Op.pick (Operand.tmp 141) (Operand.const (Value.bool true)) (Operand.tmp 161), type := 4, pos := "plain.go:193", after := #[{ on := 2, ground := Ground.data }, { on := 22, ground := Ground.data }], guard := none }) (v := ?vta23) rfl (by kernel_rfl) (by kernel_rfl) (by kernel_rfl) (fun _ _ _ h => h) (Or.inl ⟨by rfl, ?hta23⟩) (by assumption) ?rta23
              case hta23 => (intro w0 hSw; (try dsimp only at hSw); go_simp; try (with_reducible rfl))
              simp only [Act.put, List.setIfInBounds_toArray, List.set_cons_zero, List.set_cons_succ]
              refine wpAnyH_take (i := 24) (oi := { dst := some 8, op := Op.assign (Operand.tmp 162), type := 4, pos := "plain.go:193", after := #[{ on := 23, ground := Ground.data }, { on := 20, ground := Ground.chain }, { on := 0, ground := Ground.phase }, { on := 1, ground := Ground.phase }, { on := 2, ground := Ground.phase }, { on := 3, ground := Ground.phase }, { on := 4, ground := Ground.phase }, { on := 5, ground := Ground.phase }, { on := 6, ground := Ground.phase }, { on := 7, ground := Ground.phase }, { on := 8, ground := Ground.phase }, { on := 9, ground := Ground.phase }, { on := 10, ground := Ground.phase }, { on := 11, ground := Ground.phase }, { on := 12, ground := Ground.phase }, { on := 13, ground := Ground.phase }, { on := 14, ground := Ground.phase }, { on := 15, ground := Ground.phase }, { on := 16, ground := Ground.phase }, { on := 17, ground := Ground.phase }, { on := 18, ground := Ground.phase }, { on := 19, ground := Ground.phase }, { on := 20, ground := Ground.phase }, { on := 21, ground := Ground.phase }, { on := 22, ground := Ground.phase }, { on := 23, ground := Ground.phase }], guard := none }) (v := ?vta24) rfl (by kernel_rfl) (by kernel_rfl) (by kernel_rfl) (fun _ _ _ h => h) (Or.inl ⟨by rfl, ?hta24⟩) (by assumption) ?rta24
              case hta24 => (intro w0 hSw; (try dsimp only at hSw); go_simp; try (with_reducible rfl))
              simp only [Act.put, List.setIfInBounds_toArray, List.set_cons_zero, List.set_cons_succ]
              refine wpAnyH_done (by kernel_rfl) ?_ _
              go_wp2_with fail
              go_ret
              exact ⟨rfl, chain HZ.out.be HE.out (Nat.le_refl _)⟩
          · obtain ⟨q, hq0⟩ : ∃ q : Nat, q = 0 := ⟨0, rfl⟩
            have hqm : q < m := by omega
            have hqw : q < w8 := by omega
            by_cases hq3 : Q < 0
            · have q1 : decide (Q < 0) = true := by simpa using hq3
              have hqz : ((q : Nat) : Int) = 0 := by rw [hq0]; rfl
              have HQZ := Hid.mk hqz
              clear hq hq0 hqz hq3
              have HBq := Hid.mk (show ∀ w, Calls Tryd.prog 12 #[.int .i64 w8, .int .i64 0] w fun r w' => r = .returned (.string (bitC n q).1) ∧ Below w.heap.size w w' from fun w => by have h := HBt.out q hqw w; rwa [HQZ.out] at h)
              go_wp2_with fail
              refine (HBq.out wr).mono ?_
              rintro e w3 ⟨rfl, b3⟩
              have o3 := HT.out.1.below b3
              go_wp2_with fail
              refine (has_any (bitC n q).1 w3 o3.tr (HW.out w3 o3.be) (by have := o3.tr.lt (.inl rfl); omega)).mono ?_
              rintro e w4 ⟨b4, there, rfl, hth⟩
              have hth2 : there = true → bitC n q ∈ lives T := fun h => by
                obtain ⟨c, hc, e⟩ := hth.1 h
                rwa [show c = bitC n q from Subtype.ext e] at hc
              have o4 := o3.below b4
              clear o3 b3 b4 hth
              go_wp2_with fail
              refine (HBq.out w4).mono ?_
              rintro e w5 ⟨rfl, b5⟩
              have o5 := o4.below b5
              have hT40 : T.length < 1099511627776 := by have := HT.out.2.1.le; omega
              clear o4 b5
              go_wp2_with fail
              refine (within_any (bitC n q).1 2 w5 o5.tr (HW.out w5 o5.be) htp hT40).mono ?_
              rintro e w6 hwO
              obtain ⟨a6, c6, x6, rfl, o6, hA⟩ := with_bit o5 HT.out.2.1 (by omega) hqm hwO
              clear hwO o5
              go_wp2_with fail
              refine (HBq.out w6).mono ?_
              rintro e w7 ⟨rfl, b7⟩
              have o7 := o6.below b7
              go_wp2_with fail
              refine (nearest_any (bitC n q).1 1 w7 o7.tr (HW.out w7 o7.be) htp hT40).mono ?_
              rintro e wz hnO
              obtain ⟨a8, k8, c8, x8, rfl, oz, hst, hN8⟩ := near_bit o7 hnO
              have hA2 : bitC n q ∈ lives T → ∃ g, a6 = some ⟨g, 0, none⟩ ∧ wz.cell? ⟨g, 2, none⟩ = some (.string (bitC n q).1) := fun h => by
                obtain ⟨g, h1, h2, h3⟩ := hA h
                have h4 := cell_lat b7 h3
                exact ⟨g, h1, cell_sty hst (fun e => by
                  rcases e with e | e
                  · exact h2 e
                  · have := World.block_lt_of_cell? w7 _ h4; simp at this; omega) h4⟩
              have hlive : (x8.live : Int) = L := by rw [HT.out.2.2, oz.tr.live]
              have hll2 : (((lives T).length : Nat) : Int) = L := HT.out.2.2.symm
              have HZ := Hid.mk oz
              clear hnO o6 o7 b7 hA hst oz
              obtain ⟨tl, htl⟩ : ∃ tl, tl = (lives T).length := ⟨_, rfl⟩
              rw [← htl] at hll2 ⊢
              clear htl
              have hE := (Below.refl wz.heap.size wz).drew
              have HE := Hid.mk hE
              clear hE
              cases there with
              | false =>
                clear hth2 hN8 hA2
                go_wp2_with (first
                  | (go_at_call 18; refine (len_any _ HZ.out.tr).mono ?_; rintro e' w' ⟨rfl, he'⟩; subst he')
                  | go_in)
                refine wp_region_held_drew (S := fun _ => True) (by kernel_rfl) ?_ (fun hHeld => ?_)
                · trivial
                refine wpAnyH_take (i := 0) (oi := { dst := some 139, op := Op.move (Operand.tmp 17), type := 4, pos := "plain.go:193", after := #[], guard := none }) (v := ?vfb0) rfl (by kernel_rfl) (by kernel_rfl) (by kernel_rfl) (fun _ _ _ h => h) (Or.inl ⟨by rfl, ?hfb0⟩) (by assumption) ?rfb0
                case hfb0 => (intro w0 hSw; (try dsimp only at hSw); go_simp; try (with_reducible rfl))
                simp only [Act.put, List.setIfInBounds_toArray, List.set_cons_zero, List.set_cons_succ]
                refine wpAnyH_take (i := 1) (oi := { dst := some 140, op := Op.unOp UnOp.not 4 (Operand.tmp 139), type := 4, pos := "plain.go:193", after := #[{ on := 0, ground := Ground.data }], guard := none }) (v := ?vfb1) rfl (by kernel_rfl) (by kernel_rfl) (by kernel_rfl) (fun _ _ _ h => h) (Or.inl ⟨by rfl, ?hfb1⟩) (by assumption) ?rfb1
                case hfb1 => (intro w0 hSw; (try dsimp only at hSw); go_simp; try (with_reducible rfl))
                simp only [Act.put, List.setIfInBounds_toArray, List.set_cons_zero, List.set_cons_succ]
                refine wpAnyH_take (i := 2) (oi := { dst := some 141, op := Op.move (Operand.tmp 140), type := 4, pos := "plain.go:193", after := #[{ on := 1, ground := Ground.data }], guard := none }) (v := ?vfb2) rfl (by kernel_rfl) (by kernel_rfl) (by kernel_rfl) (fun _ _ _ h => h) (Or.inl ⟨by rfl, ?hfb2⟩) (by assumption) ?rfb2
                case hfb2 => (intro w0 hSw; (try dsimp only at hSw); go_simp; try (with_reducible rfl))
                simp only [Act.put, List.setIfInBounds_toArray, List.set_cons_zero, List.set_cons_succ]
                refine wpAnyH_take (i := 3) (oi := { dst := some 142, op := Op.move (Operand.tmp 20), type := 32, pos := "plain.go:193", after := #[{ on := 2, ground := Ground.guard }], guard := some (2, false) }) rfl (by kernel_rfl) (by kernel_rfl) (by kernel_rfl) (fun _ _ _ h => h) (Or.inr ⟨by rfl, rfl⟩) (by assumption) ?_
                simp only [Act.put, List.setIfInBounds_toArray, List.set_cons_zero, List.set_cons_succ]
                refine wpAnyH_take (i := 4) (oi := { dst := some 143, op := Op.call { callee := Callee.builtin Builtin.len, args := #[Operand.tmp 142], argTypes := #[32] }, type := 3, pos := "plain.go:193", after := #[{ on := 3, ground := Ground.data }, { on := 2, ground := Ground.guard }], guard := some (2, false) }) rfl (by kernel_rfl) (by kernel_rfl) (by kernel_rfl) (fun _ _ _ h => h) (Or.inr ⟨by rfl, rfl⟩) (by assumption) ?_
                simp only [Act.put, List.setIfInBounds_toArray, List.set_cons_zero, List.set_cons_succ]
                refine wpAnyH_take (i := 5) (oi := { dst := some 144, op := Op.binOp BinOp.eql 3 (Operand.tmp 143) (Operand.const (Value.int IntKind.i64 1)) 3, type := 4, pos := "plain.go:193", after := #[{ on := 4, ground := Ground.data }, { on := 2, ground := Ground.guard }], guard := some (2, false) }) rfl (by kernel_rfl) (by kernel_rfl) (by kernel_rfl) (fun _ _ _ h => h) (Or.inr ⟨by rfl, rfl⟩) (by assumption) ?_
                simp only [Act.put, List.setIfInBounds_toArray, List.set_cons_zero, List.set_cons_succ]
                refine wpAnyH_take (i := 6) (oi := { dst := some 145, op := Op.move (Operand.tmp 144), type := 4, pos := "plain.go:193", after := #[{ on := 5, ground := Ground.data }, { on := 2, ground := Ground.chain }, { on := 2, ground := Ground.guard }], guard := some (2, false) }) rfl (by kernel_rfl) (by kernel_rfl) (by kernel_rfl) (fun _ _ _ h => h) (Or.inr ⟨by rfl, rfl⟩) (by assumption) ?_
                simp only [Act.put, List.setIfInBounds_toArray, List.set_cons_zero, List.set_cons_succ]
                refine wpAnyH_take (i := 7) (oi := { dst := some 146, op := Op.move (Operand.tmp 20), type := 32, pos := "plain.go:193", after := #[{ on := 6, ground := Ground.guard }], guard := some (6, true) }) rfl (by kernel_rfl) (by kernel_rfl) (by kernel_rfl) (fun _ _ _ h => h) (Or.inr ⟨by rfl, rfl⟩) (by assumption) ?_
                simp only [Act.put, List.setIfInBounds_toArray, List.set_cons_zero, List.set_cons_succ]
                refine wpAnyH_take (i := 8) (oi := { dst := some 147, op := Op.indexAddr 32 (Operand.tmp 146) (Operand.const (Value.int IntKind.i64 0)), type := 0, pos := "plain.go:193", after := #[{ on := 7, ground := Ground.data }, { on := 6, ground := Ground.guard }], guard := some (6, true) }) rfl (by kernel_rfl) (by kernel_rfl) (by kernel_rfl) (fun _ _ _ h => h) (Or.inr ⟨by rfl, rfl⟩) (by assumption) ?_
                simp only [Act.put, List.setIfInBounds_toArray, List.set_cons_zero, List.set_cons_succ]
                refine wpAnyH_take (i := 9) (oi := { dst := some 148, op := Op.fieldAddr 36 (Operand.tmp 147) 0, type := 0, pos := "plain.go:193", after := #[{ on := 8, ground := Ground.data }, { on := 6, ground := Ground.guard }], guard := some (6, true) }) rfl (by kernel_rfl) (by kernel_rfl) (by kernel_rfl) (fun _ _ _ h => h) (Or.inr ⟨by rfl, rfl⟩) (by assumption) ?_
                simp only [Act.put, List.setIfInBounds_toArray, List.set_cons_zero, List.set_cons_succ]
                refine wpAnyH_take (i := 10) (oi := { dst := some 149, op := Op.load 3 (Operand.tmp 148), type := 3, pos := "plain.go:193", after := #[{ on := 9, ground := Ground.data }, { on := 6, ground := Ground.guard }], guard := some (6, true) }) rfl (by kernel_rfl) (by kernel_rfl) (by kernel_rfl) (fun _ _ _ h => h) (Or.inr ⟨by rfl, rfl⟩) (by assumption) ?_
                simp only [Act.put, List.setIfInBounds_toArray, List.set_cons_zero, List.set_cons_succ]
                refine wpAnyH_take (i := 11) (oi := { dst := some 150, op := Op.binOp BinOp.eql 3 (Operand.tmp 149) (Operand.const (Value.int IntKind.i64 0)) 3, type := 4, pos := "plain.go:193", after := #[{ on := 10, ground := Ground.data }, { on := 6, ground := Ground.guard }], guard := some (6, true) }) rfl (by kernel_rfl) (by kernel_rfl) (by kernel_rfl) (fun _ _ _ h => h) (Or.inr ⟨by rfl, rfl⟩) (by assumption) ?_
                simp only [Act.put, List.setIfInBounds_toArray, List.set_cons_zero, List.set_cons_succ]
                refine wpAnyH_take (i := 12) (oi := { dst := some 151, op := Op.pick (Operand.tmp 145) (Operand.tmp 150) (Operand.const (Value.bool false)), type := 4, pos := "plain.go:193", after := #[{ on := 6, ground := Ground.data }, { on := 11, ground := Ground.data }, { on := 2, ground := Ground.guard }], guard := some (2, false) }) rfl (by kernel_rfl) (by kernel_rfl) (by kernel_rfl) (fun _ _ _ h => h) (Or.inr ⟨by rfl, rfl⟩) (by assumption) ?_
                simp only [Act.put, List.setIfInBounds_toArray, List.set_cons_zero, List.set_cons_succ]
                refine wpAnyH_take (i := 13) (oi := { dst := some 152, op := Op.move (Operand.tmp 151), type := 4, pos := "plain.go:193", after := #[{ on := 12, ground := Ground.data }, { on := 6, ground := Ground.chain }, { on := 2, ground := Ground.guard }], guard := some (2, false) }) rfl (by kernel_rfl) (by kernel_rfl) (by kernel_rfl) (fun _ _ _ h => h) (Or.inr ⟨by rfl, rfl⟩) (by assumption) ?_
                simp only [Act.put, List.setIfInBounds_toArray, List.set_cons_zero, List.set_cons_succ]
                refine wpAnyH_take (i := 14) (oi := { dst := some 153, op := Op.move (Operand.tmp 18), type := 32, pos := "plain.go:193", after := #[{ on := 13, ground := Ground.guard }], guard := some (13, true) }) rfl (by kernel_rfl) (by kernel_rfl) (by kernel_rfl) (fun _ _ _ h => h) (Or.inr ⟨by rfl, rfl⟩) (by assumption) ?_
                simp only [Act.put, List.setIfInBounds_toArray, List.set_cons_zero, List.set_cons_succ]
                refine wpAnyH_take (i := 15) (oi := { dst := some 154, op := Op.indexAddr 32 (Operand.tmp 153) (Operand.const (Value.int IntKind.i64 0)), type := 0, pos := "plain.go:193", after := #[{ on := 14, ground := Ground.data }, { on := 13, ground := Ground.guard }], guard := some (13, true) }) rfl (by kernel_rfl) (by kernel_rfl) (by kernel_rfl) (fun _ _ _ h => h) (Or.inr ⟨by rfl, rfl⟩) (by assumption) ?_
                simp only [Act.put, List.setIfInBounds_toArray, List.set_cons_zero, List.set_cons_succ]
                refine wpAnyH_take (i := 16) (oi := { dst := some 155, op := Op.fieldAddr 36 (Operand.tmp 154) 2, type := 0, pos := "plain.go:193", after := #[{ on := 15, ground := Ground.data }, { on := 13, ground := Ground.guard }], guard := some (13, true) }) rfl (by kernel_rfl) (by kernel_rfl) (by kernel_rfl) (fun _ _ _ h => h) (Or.inr ⟨by rfl, rfl⟩) (by assumption) ?_
                simp only [Act.put, List.setIfInBounds_toArray, List.set_cons_zero, List.set_cons_succ]
                refine wpAnyH_take (i := 17) (oi := { dst := some 156, op := Op.load 9 (Operand.tmp 155), type := 9, pos := "plain.go:193", after := #[{ on := 16, ground := Ground.data }, { on := 13, ground := Ground.guard }], guard := some (13, true) }) rfl (by kernel_rfl) (by kernel_rfl) (by kernel_rfl) (fun _ _ _ h => h) (Or.inr ⟨by rfl, rfl⟩) (by assumption) ?_
                simp only [Act.put, List.setIfInBounds_toArray, List.set_cons_zero, List.set_cons_succ]
                refine wpAnyH_take (i := 18) (oi := { dst := some 157, op := Op.move (Operand.tmp 0), type := 3, pos := "plain.go:193", after := #[{ on := 13, ground := Ground.guard }], guard := some (13, true) }) rfl (by kernel_rfl) (by kernel_rfl) (by kernel_rfl) (fun _ _ _ h => h) (Or.inr ⟨by rfl, rfl⟩) (by assumption) ?_
                simp only [Act.put, List.setIfInBounds_toArray, List.set_cons_zero, List.set_cons_succ]
                refine wpAnyH_take (i := 19) (oi := { dst := some 158, op := Op.move (Operand.tmp 3), type := 3, pos := "plain.go:193", after := #[{ on := 13, ground := Ground.guard }], guard := some (13, true) }) rfl (by kernel_rfl) (by kernel_rfl) (by kernel_rfl) (fun _ _ _ h => h) (Or.inr ⟨by rfl, rfl⟩) (by assumption) ?_
                simp only [Act.put, List.setIfInBounds_toArray, List.set_cons_zero, List.set_cons_succ]
                refine wpAnyH_take (i := 20) (oi := { dst := some 159, op := Op.call { callee := Callee.value (Operand.func 12), args := #[Operand.tmp 157, Operand.tmp 158], argTypes := #[3, 3] }, type := 9, pos := "plain.go:193", after := #[{ on := 18, ground := Ground.data }, { on := 19, ground := Ground.data }, { on := 13, ground := Ground.chain }, { on := 13, ground := Ground.guard }], guard := some (13, true) }) rfl (by kernel_rfl) (by kernel_rfl) (by kernel_rfl) (fun _ _ _ h => h) (Or.inr ⟨by rfl, rfl⟩) (by assumption) ?_
                simp only [Act.put, List.setIfInBounds_toArray, List.set_cons_zero, List.set_cons_succ]
                refine wpAnyH_take (i := 21) (oi := { dst := some 160, op := Op.binOp BinOp.eql 9 (Operand.tmp 156) (Operand.tmp 159) 9, type := 4, pos := "plain.go:193", after := #[{ on := 17, ground := Ground.data }, { on := 20, ground := Ground.data }, { on := 13, ground := Ground.guard }], guard := some (13, true) }) rfl (by kernel_rfl) (by kernel_rfl) (by kernel_rfl) (fun _ _ _ h => h) (Or.inr ⟨by rfl, rfl⟩) (by assumption) ?_
                simp only [Act.put, List.setIfInBounds_toArray, List.set_cons_zero, List.set_cons_succ]
                refine wpAnyH_take (i := 22) (oi := { dst := some 161, op := Op.pick (Operand.tmp 152) (Operand.tmp 160) (Operand.const (Value.bool false)), type := 4, pos := "plain.go:193", after := #[{ on := 13, ground := Ground.data }, { on := 21, ground := Ground.data }, { on := 2, ground := Ground.guard }], guard := some (2, false) }) rfl (by kernel_rfl) (by kernel_rfl) (by kernel_rfl) (fun _ _ _ h => h) (Or.inr ⟨by rfl, rfl⟩) (by assumption) ?_
                simp only [Act.put, List.setIfInBounds_toArray, List.set_cons_zero, List.set_cons_succ]
                refine wpAnyH_take (i := 23) (oi := { dst := some 162, op := Op.pick (Operand.tmp 141) (Operand.const (Value.bool true)) (Operand.tmp 161), type := 4, pos := "plain.go:193", after := #[{ on := 2, ground := Ground.data }, { on := 22, ground := Ground.data }], guard := none }) (v := ?vfb23) rfl (by kernel_rfl) (by kernel_rfl) (by kernel_rfl) (fun _ _ _ h => h) (Or.inl ⟨by rfl, ?hfb23⟩) (by assumption) ?rfb23
                case hfb23 => (intro w0 hSw; (try dsimp only at hSw); go_simp; try (with_reducible rfl))
                simp only [Act.put, List.setIfInBounds_toArray, List.set_cons_zero, List.set_cons_succ]
                refine wpAnyH_take (i := 24) (oi := { dst := some 8, op := Op.assign (Operand.tmp 162), type := 4, pos := "plain.go:193", after := #[{ on := 23, ground := Ground.data }, { on := 20, ground := Ground.chain }, { on := 0, ground := Ground.phase }, { on := 1, ground := Ground.phase }, { on := 2, ground := Ground.phase }, { on := 3, ground := Ground.phase }, { on := 4, ground := Ground.phase }, { on := 5, ground := Ground.phase }, { on := 6, ground := Ground.phase }, { on := 7, ground := Ground.phase }, { on := 8, ground := Ground.phase }, { on := 9, ground := Ground.phase }, { on := 10, ground := Ground.phase }, { on := 11, ground := Ground.phase }, { on := 12, ground := Ground.phase }, { on := 13, ground := Ground.phase }, { on := 14, ground := Ground.phase }, { on := 15, ground := Ground.phase }, { on := 16, ground := Ground.phase }, { on := 17, ground := Ground.phase }, { on := 18, ground := Ground.phase }, { on := 19, ground := Ground.phase }, { on := 20, ground := Ground.phase }, { on := 21, ground := Ground.phase }, { on := 22, ground := Ground.phase }, { on := 23, ground := Ground.phase }], guard := none }) (v := ?vfb24) rfl (by kernel_rfl) (by kernel_rfl) (by kernel_rfl) (fun _ _ _ h => h) (Or.inl ⟨by rfl, ?hfb24⟩) (by assumption) ?rfb24
                case hfb24 => (intro w0 hSw; (try dsimp only at hSw); go_simp; try (with_reducible rfl))
                simp only [Act.put, List.setIfInBounds_toArray, List.set_cons_zero, List.set_cons_succ]
                refine wpAnyH_done (by kernel_rfl) ?_ _
                go_wp2_with fail
                go_ret
                exact ⟨rfl, HZ.out.be.drew⟩
              | true =>
                have hLp : 0 < L := by
                  have h1 := HT.out.2.2
                  have h2 := List.length_pos_of_mem (hth2 rfl)
                  omega
                obtain ⟨g6, rfl, c60⟩ := hA2 (hth2 rfl)
                obtain ⟨rfl, g8, rfl, c80⟩ := hN8 (hth2 rfl)
                clear hth2 hN8 hA2
                generalize (bitC n q).1 = sq at HBq c60
                go_wp2_with (first
                  | (go_at_call 18; refine (len_any _ HZ.out.tr).mono ?_; rintro e' w' ⟨rfl, he'⟩; subst he')
                  | go_in)
                refine wp_region_held_drew (S := fun w' => w'.cell? ⟨g6, 2, none⟩ = some (.string sq) ∧ w'.cell? ⟨g8, 0, none⟩ = some (.int .i64 0)) (by kernel_rfl) ?_ (fun hHeld => ?_)
                · exact ⟨c60, c80⟩
                refine wpAnyH_take (i := 0) (oi := { dst := some 139, op := Op.move (Operand.tmp 17), type := 4, pos := "plain.go:193", after := #[], guard := none }) (v := ?vtb0) rfl (by kernel_rfl) (by kernel_rfl) (by kernel_rfl) (fun _ _ _ h => h) (Or.inl ⟨by rfl, ?htb0⟩) (by assumption) ?rtb0
                case htb0 => (intro w0 hSw; (try dsimp only at hSw); go_simp; try (with_reducible rfl))
                simp only [Act.put, List.setIfInBounds_toArray, List.set_cons_zero, List.set_cons_succ]
                refine wpAnyH_take (i := 1) (oi := { dst := some 140, op := Op.unOp UnOp.not 4 (Operand.tmp 139), type := 4, pos := "plain.go:193", after := #[{ on := 0, ground := Ground.data }], guard := none }) (v := ?vtb1) rfl (by kernel_rfl) (by kernel_rfl) (by kernel_rfl) (fun _ _ _ h => h) (Or.inl ⟨by rfl, ?htb1⟩) (by assumption) ?rtb1
                case htb1 => (intro w0 hSw; (try dsimp only at hSw); go_simp; try (with_reducible rfl))
                simp only [Act.put, List.setIfInBounds_toArray, List.set_cons_zero, List.set_cons_succ]
                refine wpAnyH_take (i := 2) (oi := { dst := some 141, op := Op.move (Operand.tmp 140), type := 4, pos := "plain.go:193", after := #[{ on := 1, ground := Ground.data }], guard := none }) (v := ?vtb2) rfl (by kernel_rfl) (by kernel_rfl) (by kernel_rfl) (fun _ _ _ h => h) (Or.inl ⟨by rfl, ?htb2⟩) (by assumption) ?rtb2
                case htb2 => (intro w0 hSw; (try dsimp only at hSw); go_simp; try (with_reducible rfl))
                simp only [Act.put, List.setIfInBounds_toArray, List.set_cons_zero, List.set_cons_succ]
                refine wpAnyH_take (i := 3) (oi := { dst := some 142, op := Op.move (Operand.tmp 20), type := 32, pos := "plain.go:193", after := #[{ on := 2, ground := Ground.guard }], guard := some (2, false) }) (v := ?vtb3) rfl (by kernel_rfl) (by kernel_rfl) (by kernel_rfl) (fun _ _ _ h => h) (Or.inl ⟨by rfl, ?htb3⟩) (by assumption) ?rtb3
                case htb3 => (intro w0 hSw; (try dsimp only at hSw); go_simp; try (with_reducible rfl))
                simp only [Act.put, List.setIfInBounds_toArray, List.set_cons_zero, List.set_cons_succ]
                refine wpAnyH_take (i := 4) (oi := { dst := some 143, op := Op.call { callee := Callee.builtin Builtin.len, args := #[Operand.tmp 142], argTypes := #[32] }, type := 3, pos := "plain.go:193", after := #[{ on := 3, ground := Ground.data }, { on := 2, ground := Ground.guard }], guard := some (2, false) }) (v := ?vtb4) rfl (by kernel_rfl) (by kernel_rfl) (by kernel_rfl) (fun _ _ _ h => h) (Or.inl ⟨by rfl, ?htb4⟩) (by assumption) ?rtb4
                case htb4 => (intro w0 hSw; (try dsimp only at hSw); go_simp; try (with_reducible rfl))
                simp only [Act.put, List.setIfInBounds_toArray, List.set_cons_zero, List.set_cons_succ]
                refine wpAnyH_take (i := 5) (oi := { dst := some 144, op := Op.binOp BinOp.eql 3 (Operand.tmp 143) (Operand.const (Value.int IntKind.i64 1)) 3, type := 4, pos := "plain.go:193", after := #[{ on := 4, ground := Ground.data }, { on := 2, ground := Ground.guard }], guard := some (2, false) }) (v := ?vtb5) rfl (by kernel_rfl) (by kernel_rfl) (by kernel_rfl) (fun _ _ _ h => h) (Or.inl ⟨by rfl, ?htb5⟩) (by assumption) ?rtb5
                case htb5 => (intro w0 hSw; (try dsimp only at hSw); go_simp; try (with_reducible rfl))
                simp only [Act.put, List.setIfInBounds_toArray, List.set_cons_zero, List.set_cons_succ]
                refine wpAnyH_take (i := 6) (oi := { dst := some 145, op := Op.move (Operand.tmp 144), type := 4, pos := "plain.go:193", after := #[{ on := 5, ground := Ground.data }, { on := 2, ground := Ground.chain }, { on := 2, ground := Ground.guard }], guard := some (2, false) }) (v := ?vtb6) rfl (by kernel_rfl) (by kernel_rfl) (by kernel_rfl) (fun _ _ _ h => h) (Or.inl ⟨by rfl, ?htb6⟩) (by assumption) ?rtb6
                case htb6 => (intro w0 hSw; (try dsimp only at hSw); go_simp; try (with_reducible rfl))
                simp only [Act.put, List.setIfInBounds_toArray, List.set_cons_zero, List.set_cons_succ]
                refine wpAnyH_take (i := 7) (oi := { dst := some 146, op := Op.move (Operand.tmp 20), type := 32, pos := "plain.go:193", after := #[{ on := 6, ground := Ground.guard }], guard := some (6, true) }) (v := ?vtb7) rfl (by kernel_rfl) (by kernel_rfl) (by kernel_rfl) (fun _ _ _ h => h) (Or.inl ⟨by rfl, ?htb7⟩) (by assumption) ?rtb7
                case htb7 => (intro w0 hSw; (try dsimp only at hSw); go_simp; try (with_reducible rfl))
                simp only [Act.put, List.setIfInBounds_toArray, List.set_cons_zero, List.set_cons_succ]
                refine wpAnyH_take (i := 8) (oi := { dst := some 147, op := Op.indexAddr 32 (Operand.tmp 146) (Operand.const (Value.int IntKind.i64 0)), type := 0, pos := "plain.go:193", after := #[{ on := 7, ground := Ground.data }, { on := 6, ground := Ground.guard }], guard := some (6, true) }) (v := ?vtb8) rfl (by kernel_rfl) (by kernel_rfl) (by kernel_rfl) (fun _ _ _ h => h) (Or.inl ⟨by rfl, ?htb8⟩) (by assumption) ?rtb8
                case htb8 => (intro w0 hSw; (try dsimp only at hSw); go_simp; try (with_reducible rfl))
                simp only [Act.put, List.setIfInBounds_toArray, List.set_cons_zero, List.set_cons_succ]
                refine wpAnyH_take (i := 9) (oi := { dst := some 148, op := Op.fieldAddr 36 (Operand.tmp 147) 0, type := 0, pos := "plain.go:193", after := #[{ on := 8, ground := Ground.data }, { on := 6, ground := Ground.guard }], guard := some (6, true) }) (v := ?vtb9) rfl (by kernel_rfl) (by kernel_rfl) (by kernel_rfl) (fun _ _ _ h => h) (Or.inl ⟨by rfl, ?htb9⟩) (by assumption) ?rtb9
                case htb9 => (intro w0 hSw; (try dsimp only at hSw); go_simp; try (with_reducible rfl))
                simp only [Act.put, List.setIfInBounds_toArray, List.set_cons_zero, List.set_cons_succ]
                refine wpAnyH_take (i := 10) (oi := { dst := some 149, op := Op.load 3 (Operand.tmp 148), type := 3, pos := "plain.go:193", after := #[{ on := 9, ground := Ground.data }, { on := 6, ground := Ground.guard }], guard := some (6, true) }) (v := ?vtb10) rfl (by kernel_rfl) (by kernel_rfl) (by kernel_rfl) (fun _ _ _ h => h) (Or.inl ⟨by rfl, ?htb10⟩) (by assumption) ?rtb10
                case htb10 => (intro w0 hSw; (try dsimp only at hSw); go_simp; try (with_reducible rfl))
                simp only [Act.put, List.setIfInBounds_toArray, List.set_cons_zero, List.set_cons_succ]
                refine wpAnyH_take (i := 11) (oi := { dst := some 150, op := Op.binOp BinOp.eql 3 (Operand.tmp 149) (Operand.const (Value.int IntKind.i64 0)) 3, type := 4, pos := "plain.go:193", after := #[{ on := 10, ground := Ground.data }, { on := 6, ground := Ground.guard }], guard := some (6, true) }) (v := ?vtb11) rfl (by kernel_rfl) (by kernel_rfl) (by kernel_rfl) (fun _ _ _ h => h) (Or.inl ⟨by rfl, ?htb11⟩) (by assumption) ?rtb11
                case htb11 => (intro w0 hSw; (try dsimp only at hSw); go_simp; try (with_reducible rfl))
                simp only [Act.put, List.setIfInBounds_toArray, List.set_cons_zero, List.set_cons_succ]
                refine wpAnyH_take (i := 12) (oi := { dst := some 151, op := Op.pick (Operand.tmp 145) (Operand.tmp 150) (Operand.const (Value.bool false)), type := 4, pos := "plain.go:193", after := #[{ on := 6, ground := Ground.data }, { on := 11, ground := Ground.data }, { on := 2, ground := Ground.guard }], guard := some (2, false) }) (v := ?vtb12) rfl (by kernel_rfl) (by kernel_rfl) (by kernel_rfl) (fun _ _ _ h => h) (Or.inl ⟨by rfl, ?htb12⟩) (by assumption) ?rtb12
                case htb12 => (intro w0 hSw; (try dsimp only at hSw); go_simp; try (with_reducible rfl))
                simp only [Act.put, List.setIfInBounds_toArray, List.set_cons_zero, List.set_cons_succ]
                refine wpAnyH_take (i := 13) (oi := { dst := some 152, op := Op.move (Operand.tmp 151), type := 4, pos := "plain.go:193", after := #[{ on := 12, ground := Ground.data }, { on := 6, ground := Ground.chain }, { on := 2, ground := Ground.guard }], guard := some (2, false) }) (v := ?vtb13) rfl (by kernel_rfl) (by kernel_rfl) (by kernel_rfl) (fun _ _ _ h => h) (Or.inl ⟨by rfl, ?htb13⟩) (by assumption) ?rtb13
                case htb13 => (intro w0 hSw; (try dsimp only at hSw); go_simp; try (with_reducible rfl))
                simp only [Act.put, List.setIfInBounds_toArray, List.set_cons_zero, List.set_cons_succ]
                refine wpAnyH_take (i := 14) (oi := { dst := some 153, op := Op.move (Operand.tmp 18), type := 32, pos := "plain.go:193", after := #[{ on := 13, ground := Ground.guard }], guard := some (13, true) }) (v := ?vtb14) rfl (by kernel_rfl) (by kernel_rfl) (by kernel_rfl) (fun _ _ _ h => h) (Or.inl ⟨by rfl, ?htb14⟩) (by assumption) ?rtb14
                case htb14 => (intro w0 hSw; (try dsimp only at hSw); go_simp; try (with_reducible rfl))
                simp only [Act.put, List.setIfInBounds_toArray, List.set_cons_zero, List.set_cons_succ]
                refine wpAnyH_take (i := 15) (oi := { dst := some 154, op := Op.indexAddr 32 (Operand.tmp 153) (Operand.const (Value.int IntKind.i64 0)), type := 0, pos := "plain.go:193", after := #[{ on := 14, ground := Ground.data }, { on := 13, ground := Ground.guard }], guard := some (13, true) }) (v := ?vtb15) rfl (by kernel_rfl) (by kernel_rfl) (by kernel_rfl) (fun _ _ _ h => h) (Or.inl ⟨by rfl, ?htb15⟩) (by assumption) ?rtb15
                case htb15 => (intro w0 hSw; (try dsimp only at hSw); go_simp; try (with_reducible rfl))
                simp only [Act.put, List.setIfInBounds_toArray, List.set_cons_zero, List.set_cons_succ]
                refine wpAnyH_take (i := 16) (oi := { dst := some 155, op := Op.fieldAddr 36 (Operand.tmp 154) 2, type := 0, pos := "plain.go:193", after := #[{ on := 15, ground := Ground.data }, { on := 13, ground := Ground.guard }], guard := some (13, true) }) (v := ?vtb16) rfl (by kernel_rfl) (by kernel_rfl) (by kernel_rfl) (fun _ _ _ h => h) (Or.inl ⟨by rfl, ?htb16⟩) (by assumption) ?rtb16
                case htb16 => (intro w0 hSw; (try dsimp only at hSw); go_simp; try (with_reducible rfl))
                simp only [Act.put, List.setIfInBounds_toArray, List.set_cons_zero, List.set_cons_succ]
                refine wpAnyH_take (i := 17) (oi := { dst := some 156, op := Op.load 9 (Operand.tmp 155), type := 9, pos := "plain.go:193", after := #[{ on := 16, ground := Ground.data }, { on := 13, ground := Ground.guard }], guard := some (13, true) }) (v := ?vtb17) rfl (by kernel_rfl) (by kernel_rfl) (by kernel_rfl) (fun _ _ _ h => h) (Or.inl ⟨by rfl, ?htb17⟩) (by assumption) ?rtb17
                case htb17 => (intro w0 hSw; (try dsimp only at hSw); go_simp; try (with_reducible rfl))
                simp only [Act.put, List.setIfInBounds_toArray, List.set_cons_zero, List.set_cons_succ]
                refine wpAnyH_take (i := 18) (oi := { dst := some 157, op := Op.move (Operand.tmp 0), type := 3, pos := "plain.go:193", after := #[{ on := 13, ground := Ground.guard }], guard := some (13, true) }) (v := ?vtb18) rfl (by kernel_rfl) (by kernel_rfl) (by kernel_rfl) (fun _ _ _ h => h) (Or.inl ⟨by rfl, ?htb18⟩) (by assumption) ?rtb18
                case htb18 => (intro w0 hSw; (try dsimp only at hSw); go_simp; try (with_reducible rfl))
                simp only [Act.put, List.setIfInBounds_toArray, List.set_cons_zero, List.set_cons_succ]
                refine wpAnyH_take (i := 19) (oi := { dst := some 158, op := Op.move (Operand.tmp 3), type := 3, pos := "plain.go:193", after := #[{ on := 13, ground := Ground.guard }], guard := some (13, true) }) (v := ?vtb19) rfl (by kernel_rfl) (by kernel_rfl) (by kernel_rfl) (fun _ _ _ h => h) (Or.inl ⟨by rfl, ?htb19⟩) (by assumption) ?rtb19
                case htb19 => (intro w0 hSw; (try dsimp only at hSw); go_simp; try (with_reducible rfl))
                simp only [Act.put, List.setIfInBounds_toArray, List.set_cons_zero, List.set_cons_succ]
                refine wpAnyH_ready (rs := [20]) (by kernel_rfl) (by simp) ?_
                refine AllReadyH.cons rfl (fun K hK => ?_) AllReadyH.nil
                go_simp
                go_wp2_with (go_at_call 12; refine (HBq.out _).mono ?_; rintro e' w9 ⟨rfl, b9⟩; have hE := chain HE.out b9 (Nat.le_refl _); clear HE; have HE := Hid.mk hE)
                refine hK.out _ _ ?_ (fun hHeld => ?_)
                · exact ⟨cell_lat hE c60, cell_lat hE c80⟩
                clear hK K
                refine wpAnyH_take (i := 21) (oi := { dst := some 160, op := Op.binOp BinOp.eql 9 (Operand.tmp 156) (Operand.tmp 159) 9, type := 4, pos := "plain.go:193", after := #[{ on := 17, ground := Ground.data }, { on := 20, ground := Ground.data }, { on := 13, ground := Ground.guard }], guard := some (13, true) }) (v := ?vtb21) rfl (by kernel_rfl) (by kernel_rfl) (by kernel_rfl) (fun _ _ _ h => h) (Or.inl ⟨by rfl, ?htb21⟩) (by assumption) ?rtb21
                case htb21 => (intro w0 hSw; (try dsimp only at hSw); go_simp; try (with_reducible rfl))
                simp only [Act.put, List.setIfInBounds_toArray, List.set_cons_zero, List.set_cons_succ]
                refine wpAnyH_take (i := 22) (oi := { dst := some 161, op := Op.pick (Operand.tmp 152) (Operand.tmp 160) (Operand.const (Value.bool false)), type := 4, pos := "plain.go:193", after := #[{ on := 13, ground := Ground.data }, { on := 21, ground := Ground.data }, { on := 2, ground := Ground.guard }], guard := some (2, false) }) (v := ?vtb22) rfl (by kernel_rfl) (by kernel_rfl) (by kernel_rfl) (fun _ _ _ h => h) (Or.inl ⟨by rfl, ?htb22⟩) (by assumption) ?rtb22
                case htb22 => (intro w0 hSw; (try dsimp only at hSw); go_simp; try (with_reducible rfl))
                simp only [Act.put, List.setIfInBounds_toArray, List.set_cons_zero, List.set_cons_succ]
                refine wpAnyH_take (i := 23) (oi := { dst := some 162, op := Op.pick (Operand.tmp 141) (Operand.const (Value.bool true)) (Operand.tmp 161), type := 4, pos := "plain.go:193", after := #[{ on := 2, ground := Ground.data }, { on := 22, ground := Ground.data }], guard := none }) (v := ?vtb23) rfl (by kernel_rfl) (by kernel_rfl) (by kernel_rfl) (fun _ _ _ h => h) (Or.inl ⟨by rfl, ?htb23⟩) (by assumption) ?rtb23
                case htb23 => (intro w0 hSw; (try dsimp only at hSw); go_simp; try (with_reducible rfl))
                simp only [Act.put, List.setIfInBounds_toArray, List.set_cons_zero, List.set_cons_succ]
                refine wpAnyH_take (i := 24) (oi := { dst := some 8, op := Op.assign (Operand.tmp 162), type := 4, pos := "plain.go:193", after := #[{ on := 23, ground := Ground.data }, { on := 20, ground := Ground.chain }, { on := 0, ground := Ground.phase }, { on := 1, ground := Ground.phase }, { on := 2, ground := Ground.phase }, { on := 3, ground := Ground.phase }, { on := 4, ground := Ground.phase }, { on := 5, ground := Ground.phase }, { on := 6, ground := Ground.phase }, { on := 7, ground := Ground.phase }, { on := 8, ground := Ground.phase }, { on := 9, ground := Ground.phase }, { on := 10, ground := Ground.phase }, { on := 11, ground := Ground.phase }, { on := 12, ground := Ground.phase }, { on := 13, ground := Ground.phase }, { on := 14, ground := Ground.phase }, { on := 15, ground := Ground.phase }, { on := 16, ground := Ground.phase }, { on := 17, ground := Ground.phase }, { on := 18, ground := Ground.phase }, { on := 19, ground := Ground.phase }, { on := 20, ground := Ground.phase }, { on := 21, ground := Ground.phase }, { on := 22, ground := Ground.phase }, { on := 23, ground := Ground.phase }], guard := none }) (v := ?vtb24) rfl (by kernel_rfl) (by kernel_rfl) (by kernel_rfl) (fun _ _ _ h => h) (Or.inl ⟨by rfl, ?htb24⟩) (by assumption) ?rtb24
                case htb24 => (intro w0 hSw; (try dsimp only at hSw); go_simp; try (with_reducible rfl))
                simp only [Act.put, List.setIfInBounds_toArray, List.set_cons_zero, List.set_cons_succ]
                refine wpAnyH_done (by kernel_rfl) ?_ _
                go_wp2_with fail
                go_ret
                exact ⟨rfl, chain HZ.out.be HE.out (Nat.le_refl _)⟩
            · have q1 : decide (Q < 0) = false := by simpa using hq3
              have q2 : decide (Mi ≤ Q) = true := by simp; omega
              have hqz : ((q : Nat) : Int) = 0 := by rw [hq0]; rfl
              have HQZ := Hid.mk hqz
              clear hq hq0 hqz hq3
              have HBq := Hid.mk (show ∀ w, Calls Tryd.prog 12 #[.int .i64 w8, .int .i64 0] w fun r w' => r = .returned (.string (bitC n q).1) ∧ Below w.heap.size w w' from fun w => by have h := HBt.out q hqw w; rwa [HQZ.out] at h)
              go_wp2_with fail
              refine (HBq.out wr).mono ?_
              rintro e w3 ⟨rfl, b3⟩
              have o3 := HT.out.1.below b3
              go_wp2_with fail
              refine (has_any (bitC n q).1 w3 o3.tr (HW.out w3 o3.be) (by have := o3.tr.lt (.inl rfl); omega)).mono ?_
              rintro e w4 ⟨b4, there, rfl, hth⟩
              have hth2 : there = true → bitC n q ∈ lives T := fun h => by
                obtain ⟨c, hc, e⟩ := hth.1 h
                rwa [show c = bitC n q from Subtype.ext e] at hc
              have o4 := o3.below b4
              clear o3 b3 b4 hth
              go_wp2_with fail
              refine (HBq.out w4).mono ?_
              rintro e w5 ⟨rfl, b5⟩
              have o5 := o4.below b5
              have hT40 : T.length < 1099511627776 := by have := HT.out.2.1.le; omega
              clear o4 b5
              go_wp2_with fail
              refine (within_any (bitC n q).1 2 w5 o5.tr (HW.out w5 o5.be) htp hT40).mono ?_
              rintro e w6 hwO
              obtain ⟨a6, c6, x6, rfl, o6, hA⟩ := with_bit o5 HT.out.2.1 (by omega) hqm hwO
              clear hwO o5
              go_wp2_with fail
              refine (HBq.out w6).mono ?_
              rintro e w7 ⟨rfl, b7⟩
              have o7 := o6.below b7
              go_wp2_with fail
              refine (nearest_any (bitC n q).1 1 w7 o7.tr (HW.out w7 o7.be) htp hT40).mono ?_
              rintro e wz hnO
              obtain ⟨a8, k8, c8, x8, rfl, oz, hst, hN8⟩ := near_bit o7 hnO
              have hA2 : bitC n q ∈ lives T → ∃ g, a6 = some ⟨g, 0, none⟩ ∧ wz.cell? ⟨g, 2, none⟩ = some (.string (bitC n q).1) := fun h => by
                obtain ⟨g, h1, h2, h3⟩ := hA h
                have h4 := cell_lat b7 h3
                exact ⟨g, h1, cell_sty hst (fun e => by
                  rcases e with e | e
                  · exact h2 e
                  · have := World.block_lt_of_cell? w7 _ h4; simp at this; omega) h4⟩
              have hlive : (x8.live : Int) = L := by rw [HT.out.2.2, oz.tr.live]
              have hll2 : (((lives T).length : Nat) : Int) = L := HT.out.2.2.symm
              have HZ := Hid.mk oz
              clear hnO o6 o7 b7 hA hst oz
              obtain ⟨tl, htl⟩ : ∃ tl, tl = (lives T).length := ⟨_, rfl⟩
              rw [← htl] at hll2 ⊢
              clear htl
              have hE := (Below.refl wz.heap.size wz).drew
              have HE := Hid.mk hE
              clear hE
              cases there with
              | false =>
                clear hth2 hN8 hA2
                go_wp2_with (first
                  | (go_at_call 18; refine (len_any _ HZ.out.tr).mono ?_; rintro e' w' ⟨rfl, he'⟩; subst he')
                  | go_in)
                refine wp_region_held_drew (S := fun _ => True) (by kernel_rfl) ?_ (fun hHeld => ?_)
                · trivial
                refine wpAnyH_take (i := 0) (oi := { dst := some 139, op := Op.move (Operand.tmp 17), type := 4, pos := "plain.go:193", after := #[], guard := none }) (v := ?vfc0) rfl (by kernel_rfl) (by kernel_rfl) (by kernel_rfl) (fun _ _ _ h => h) (Or.inl ⟨by rfl, ?hfc0⟩) (by assumption) ?rfc0
                case hfc0 => (intro w0 hSw; (try dsimp only at hSw); go_simp; try (with_reducible rfl))
                simp only [Act.put, List.setIfInBounds_toArray, List.set_cons_zero, List.set_cons_succ]
                refine wpAnyH_take (i := 1) (oi := { dst := some 140, op := Op.unOp UnOp.not 4 (Operand.tmp 139), type := 4, pos := "plain.go:193", after := #[{ on := 0, ground := Ground.data }], guard := none }) (v := ?vfc1) rfl (by kernel_rfl) (by kernel_rfl) (by kernel_rfl) (fun _ _ _ h => h) (Or.inl ⟨by rfl, ?hfc1⟩) (by assumption) ?rfc1
                case hfc1 => (intro w0 hSw; (try dsimp only at hSw); go_simp; try (with_reducible rfl))
                simp only [Act.put, List.setIfInBounds_toArray, List.set_cons_zero, List.set_cons_succ]
                refine wpAnyH_take (i := 2) (oi := { dst := some 141, op := Op.move (Operand.tmp 140), type := 4, pos := "plain.go:193", after := #[{ on := 1, ground := Ground.data }], guard := none }) (v := ?vfc2) rfl (by kernel_rfl) (by kernel_rfl) (by kernel_rfl) (fun _ _ _ h => h) (Or.inl ⟨by rfl, ?hfc2⟩) (by assumption) ?rfc2
                case hfc2 => (intro w0 hSw; (try dsimp only at hSw); go_simp; try (with_reducible rfl))
                simp only [Act.put, List.setIfInBounds_toArray, List.set_cons_zero, List.set_cons_succ]
                refine wpAnyH_take (i := 3) (oi := { dst := some 142, op := Op.move (Operand.tmp 20), type := 32, pos := "plain.go:193", after := #[{ on := 2, ground := Ground.guard }], guard := some (2, false) }) rfl (by kernel_rfl) (by kernel_rfl) (by kernel_rfl) (fun _ _ _ h => h) (Or.inr ⟨by rfl, rfl⟩) (by assumption) ?_
                simp only [Act.put, List.setIfInBounds_toArray, List.set_cons_zero, List.set_cons_succ]
                refine wpAnyH_take (i := 4) (oi := { dst := some 143, op := Op.call { callee := Callee.builtin Builtin.len, args := #[Operand.tmp 142], argTypes := #[32] }, type := 3, pos := "plain.go:193", after := #[{ on := 3, ground := Ground.data }, { on := 2, ground := Ground.guard }], guard := some (2, false) }) rfl (by kernel_rfl) (by kernel_rfl) (by kernel_rfl) (fun _ _ _ h => h) (Or.inr ⟨by rfl, rfl⟩) (by assumption) ?_
                simp only [Act.put, List.setIfInBounds_toArray, List.set_cons_zero, List.set_cons_succ]
                refine wpAnyH_take (i := 5) (oi := { dst := some 144, op := Op.binOp BinOp.eql 3 (Operand.tmp 143) (Operand.const (Value.int IntKind.i64 1)) 3, type := 4, pos := "plain.go:193", after := #[{ on := 4, ground := Ground.data }, { on := 2, ground := Ground.guard }], guard := some (2, false) }) rfl (by kernel_rfl) (by kernel_rfl) (by kernel_rfl) (fun _ _ _ h => h) (Or.inr ⟨by rfl, rfl⟩) (by assumption) ?_
                simp only [Act.put, List.setIfInBounds_toArray, List.set_cons_zero, List.set_cons_succ]
                refine wpAnyH_take (i := 6) (oi := { dst := some 145, op := Op.move (Operand.tmp 144), type := 4, pos := "plain.go:193", after := #[{ on := 5, ground := Ground.data }, { on := 2, ground := Ground.chain }, { on := 2, ground := Ground.guard }], guard := some (2, false) }) rfl (by kernel_rfl) (by kernel_rfl) (by kernel_rfl) (fun _ _ _ h => h) (Or.inr ⟨by rfl, rfl⟩) (by assumption) ?_
                simp only [Act.put, List.setIfInBounds_toArray, List.set_cons_zero, List.set_cons_succ]
                refine wpAnyH_take (i := 7) (oi := { dst := some 146, op := Op.move (Operand.tmp 20), type := 32, pos := "plain.go:193", after := #[{ on := 6, ground := Ground.guard }], guard := some (6, true) }) rfl (by kernel_rfl) (by kernel_rfl) (by kernel_rfl) (fun _ _ _ h => h) (Or.inr ⟨by rfl, rfl⟩) (by assumption) ?_
                simp only [Act.put, List.setIfInBounds_toArray, List.set_cons_zero, List.set_cons_succ]
                refine wpAnyH_take (i := 8) (oi := { dst := some 147, op := Op.indexAddr 32 (Operand.tmp 146) (Operand.const (Value.int IntKind.i64 0)), type := 0, pos := "plain.go:193", after := #[{ on := 7, ground := Ground.data }, { on := 6, ground := Ground.guard }], guard := some (6, true) }) rfl (by kernel_rfl) (by kernel_rfl) (by kernel_rfl) (fun _ _ _ h => h) (Or.inr ⟨by rfl, rfl⟩) (by assumption) ?_
                simp only [Act.put, List.setIfInBounds_toArray, List.set_cons_zero, List.set_cons_succ]
                refine wpAnyH_take (i := 9) (oi := { dst := some 148, op := Op.fieldAddr 36 (Operand.tmp 147) 0, type := 0, pos := "plain.go:193", after := #[{ on := 8, ground := Ground.data }, { on := 6, ground := Ground.guard }], guard := some (6, true) }) rfl (by kernel_rfl) (by kernel_rfl) (by kernel_rfl) (fun _ _ _ h => h) (Or.inr ⟨by rfl, rfl⟩) (by assumption) ?_
                simp only [Act.put, List.setIfInBounds_toArray, List.set_cons_zero, List.set_cons_succ]
                refine wpAnyH_take (i := 10) (oi := { dst := some 149, op := Op.load 3 (Operand.tmp 148), type := 3, pos := "plain.go:193", after := #[{ on := 9, ground := Ground.data }, { on := 6, ground := Ground.guard }], guard := some (6, true) }) rfl (by kernel_rfl) (by kernel_rfl) (by kernel_rfl) (fun _ _ _ h => h) (Or.inr ⟨by rfl, rfl⟩) (by assumption) ?_
                simp only [Act.put, List.setIfInBounds_toArray, List.set_cons_zero, List.set_cons_succ]
                refine wpAnyH_take (i := 11) (oi := { dst := some 150, op := Op.binOp BinOp.eql 3 (Operand.tmp 149) (Operand.const (Value.int IntKind.i64 0)) 3, type := 4, pos := "plain.go:193", after := #[{ on := 10, ground := Ground.data }, { on := 6, ground := Ground.guard }], guard := some (6, true) }) rfl (by kernel_rfl) (by kernel_rfl) (by kernel_rfl) (fun _ _ _ h => h) (Or.inr ⟨by rfl, rfl⟩) (by assumption) ?_
                simp only [Act.put, List.setIfInBounds_toArray, List.set_cons_zero, List.set_cons_succ]
                refine wpAnyH_take (i := 12) (oi := { dst := some 151, op := Op.pick (Operand.tmp 145) (Operand.tmp 150) (Operand.const (Value.bool false)), type := 4, pos := "plain.go:193", after := #[{ on := 6, ground := Ground.data }, { on := 11, ground := Ground.data }, { on := 2, ground := Ground.guard }], guard := some (2, false) }) rfl (by kernel_rfl) (by kernel_rfl) (by kernel_rfl) (fun _ _ _ h => h) (Or.inr ⟨by rfl, rfl⟩) (by assumption) ?_
                simp only [Act.put, List.setIfInBounds_toArray, List.set_cons_zero, List.set_cons_succ]
                refine wpAnyH_take (i := 13) (oi := { dst := some 152, op := Op.move (Operand.tmp 151), type := 4, pos := "plain.go:193", after := #[{ on := 12, ground := Ground.data }, { on := 6, ground := Ground.chain }, { on := 2, ground := Ground.guard }], guard := some (2, false) }) rfl (by kernel_rfl) (by kernel_rfl) (by kernel_rfl) (fun _ _ _ h => h) (Or.inr ⟨by rfl, rfl⟩) (by assumption) ?_
                simp only [Act.put, List.setIfInBounds_toArray, List.set_cons_zero, List.set_cons_succ]
                refine wpAnyH_take (i := 14) (oi := { dst := some 153, op := Op.move (Operand.tmp 18), type := 32, pos := "plain.go:193", after := #[{ on := 13, ground := Ground.guard }], guard := some (13, true) }) rfl (by kernel_rfl) (by kernel_rfl) (by kernel_rfl) (fun _ _ _ h => h) (Or.inr ⟨by rfl, rfl⟩) (by assumption) ?_
                simp only [Act.put, List.setIfInBounds_toArray, List.set_cons_zero, List.set_cons_succ]
                refine wpAnyH_take (i := 15) (oi := { dst := some 154, op := Op.indexAddr 32 (Operand.tmp 153) (Operand.const (Value.int IntKind.i64 0)), type := 0, pos := "plain.go:193", after := #[{ on := 14, ground := Ground.data }, { on := 13, ground := Ground.guard }], guard := some (13, true) }) rfl (by kernel_rfl) (by kernel_rfl) (by kernel_rfl) (fun _ _ _ h => h) (Or.inr ⟨by rfl, rfl⟩) (by assumption) ?_
                simp only [Act.put, List.setIfInBounds_toArray, List.set_cons_zero, List.set_cons_succ]
                refine wpAnyH_take (i := 16) (oi := { dst := some 155, op := Op.fieldAddr 36 (Operand.tmp 154) 2, type := 0, pos := "plain.go:193", after := #[{ on := 15, ground := Ground.data }, { on := 13, ground := Ground.guard }], guard := some (13, true) }) rfl (by kernel_rfl) (by kernel_rfl) (by kernel_rfl) (fun _ _ _ h => h) (Or.inr ⟨by rfl, rfl⟩) (by assumption) ?_
                simp only [Act.put, List.setIfInBounds_toArray, List.set_cons_zero, List.set_cons_succ]
                refine wpAnyH_take (i := 17) (oi := { dst := some 156, op := Op.load 9 (Operand.tmp 155), type := 9, pos := "plain.go:193", after := #[{ on := 16, ground := Ground.data }, { on := 13, ground := Ground.guard }], guard := some (13, true) }) rfl (by kernel_rfl) (by kernel_rfl) (by kernel_rfl) (fun _ _ _ h => h) (Or.inr ⟨by rfl, rfl⟩) (by assumption) ?_
                simp only [Act.put, List.setIfInBounds_toArray, List.set_cons_zero, List.set_cons_succ]
                refine wpAnyH_take (i := 18) (oi := { dst := some 157, op := Op.move (Operand.tmp 0), type := 3, pos := "plain.go:193", after := #[{ on := 13, ground := Ground.guard }], guard := some (13, true) }) rfl (by kernel_rfl) (by kernel_rfl) (by kernel_rfl) (fun _ _ _ h => h) (Or.inr ⟨by rfl, rfl⟩) (by assumption) ?_
                simp only [Act.put, List.setIfInBounds_toArray, List.set_cons_zero, List.set_cons_succ]
                refine wpAnyH_take (i := 19) (oi := { dst := some 158, op := Op.move (Operand.tmp 3), type := 3, pos := "plain.go:193", after := #[{ on := 13, ground := Ground.guard }], guard := some (13, true) }) rfl (by kernel_rfl) (by kernel_rfl) (by kernel_rfl) (fun _ _ _ h => h) (Or.inr ⟨by rfl, rfl⟩) (by assumption) ?_
                simp only [Act.put, List.setIfInBounds_toArray, List.set_cons_zero, List.set_cons_succ]
                refine wpAnyH_take (i := 20) (oi := { dst := some 159, op := Op.call { callee := Callee.value (Operand.func 12), args := #[Operand.tmp 157, Operand.tmp 158], argTypes := #[3, 3] }, type := 9, pos := "plain.go:193", after := #[{ on := 18, ground := Ground.data }, { on := 19, ground := Ground.data }, { on := 13, ground := Ground.chain }, { on := 13, ground := Ground.guard }], guard := some (13, true) }) rfl (by kernel_rfl) (by kernel_rfl) (by kernel_rfl) (fun _ _ _ h => h) (Or.inr ⟨by rfl, rfl⟩) (by assumption) ?_
                simp only [Act.put, List.setIfInBounds_toArray, List.set_cons_zero, List.set_cons_succ]
                refine wpAnyH_take (i := 21) (oi := { dst := some 160, op := Op.binOp BinOp.eql 9 (Operand.tmp 156) (Operand.tmp 159) 9, type := 4, pos := "plain.go:193", after := #[{ on := 17, ground := Ground.data }, { on := 20, ground := Ground.data }, { on := 13, ground := Ground.guard }], guard := some (13, true) }) rfl (by kernel_rfl) (by kernel_rfl) (by kernel_rfl) (fun _ _ _ h => h) (Or.inr ⟨by rfl, rfl⟩) (by assumption) ?_
                simp only [Act.put, List.setIfInBounds_toArray, List.set_cons_zero, List.set_cons_succ]
                refine wpAnyH_take (i := 22) (oi := { dst := some 161, op := Op.pick (Operand.tmp 152) (Operand.tmp 160) (Operand.const (Value.bool false)), type := 4, pos := "plain.go:193", after := #[{ on := 13, ground := Ground.data }, { on := 21, ground := Ground.data }, { on := 2, ground := Ground.guard }], guard := some (2, false) }) rfl (by kernel_rfl) (by kernel_rfl) (by kernel_rfl) (fun _ _ _ h => h) (Or.inr ⟨by rfl, rfl⟩) (by assumption) ?_
                simp only [Act.put, List.setIfInBounds_toArray, List.set_cons_zero, List.set_cons_succ]
                refine wpAnyH_take (i := 23) (oi := { dst := some 162, op := Op.pick (Operand.tmp 141) (Operand.const (Value.bool true)) (Operand.tmp 161), type := 4, pos := "plain.go:193", after := #[{ on := 2, ground := Ground.data }, { on := 22, ground := Ground.data }], guard := none }) (v := ?vfc23) rfl (by kernel_rfl) (by kernel_rfl) (by kernel_rfl) (fun _ _ _ h => h) (Or.inl ⟨by rfl, ?hfc23⟩) (by assumption) ?rfc23
                case hfc23 => (intro w0 hSw; (try dsimp only at hSw); go_simp; try (with_reducible rfl))
                simp only [Act.put, List.setIfInBounds_toArray, List.set_cons_zero, List.set_cons_succ]
                refine wpAnyH_take (i := 24) (oi := { dst := some 8, op := Op.assign (Operand.tmp 162), type := 4, pos := "plain.go:193", after := #[{ on := 23, ground := Ground.data }, { on := 20, ground := Ground.chain }, { on := 0, ground := Ground.phase }, { on := 1, ground := Ground.phase }, { on := 2, ground := Ground.phase }, { on := 3, ground := Ground.phase }, { on := 4, ground := Ground.phase }, { on := 5, ground := Ground.phase }, { on := 6, ground := Ground.phase }, { on := 7, ground := Ground.phase }, { on := 8, ground := Ground.phase }, { on := 9, ground := Ground.phase }, { on := 10, ground := Ground.phase }, { on := 11, ground := Ground.phase }, { on := 12, ground := Ground.phase }, { on := 13, ground := Ground.phase }, { on := 14, ground := Ground.phase }, { on := 15, ground := Ground.phase }, { on := 16, ground := Ground.phase }, { on := 17, ground := Ground.phase }, { on := 18, ground := Ground.phase }, { on := 19, ground := Ground.phase }, { on := 20, ground := Ground.phase }, { on := 21, ground := Ground.phase }, { on := 22, ground := Ground.phase }, { on := 23, ground := Ground.phase }], guard := none }) (v := ?vfc24) rfl (by kernel_rfl) (by kernel_rfl) (by kernel_rfl) (fun _ _ _ h => h) (Or.inl ⟨by rfl, ?hfc24⟩) (by assumption) ?rfc24
                case hfc24 => (intro w0 hSw; (try dsimp only at hSw); go_simp; try (with_reducible rfl))
                simp only [Act.put, List.setIfInBounds_toArray, List.set_cons_zero, List.set_cons_succ]
                refine wpAnyH_done (by kernel_rfl) ?_ _
                go_wp2_with fail
                go_ret
                exact ⟨rfl, HZ.out.be.drew⟩
              | true =>
                have hLp : 0 < L := by
                  have h1 := HT.out.2.2
                  have h2 := List.length_pos_of_mem (hth2 rfl)
                  omega
                obtain ⟨g6, rfl, c60⟩ := hA2 (hth2 rfl)
                obtain ⟨rfl, g8, rfl, c80⟩ := hN8 (hth2 rfl)
                clear hth2 hN8 hA2
                generalize (bitC n q).1 = sq at HBq c60
                go_wp2_with (first
                  | (go_at_call 18; refine (len_any _ HZ.out.tr).mono ?_; rintro e' w' ⟨rfl, he'⟩; subst he')
                  | go_in)
                refine wp_region_held_drew (S := fun w' => w'.cell? ⟨g6, 2, none⟩ = some (.string sq) ∧ w'.cell? ⟨g8, 0, none⟩ = some (.int .i64 0)) (by kernel_rfl) ?_ (fun hHeld => ?_)
                · exact ⟨c60, c80⟩
                refine wpAnyH_take (i := 0) (oi := { dst := some 139, op := Op.move (Operand.tmp 17), type := 4, pos := "plain.go:193", after := #[], guard := none }) (v := ?vtc0) rfl (by kernel_rfl) (by kernel_rfl) (by kernel_rfl) (fun _ _ _ h => h) (Or.inl ⟨by rfl, ?htc0⟩) (by assumption) ?rtc0
                case htc0 => (intro w0 hSw; (try dsimp only at hSw); go_simp; try (with_reducible rfl))
                simp only [Act.put, List.setIfInBounds_toArray, List.set_cons_zero, List.set_cons_succ]
                refine wpAnyH_take (i := 1) (oi := { dst := some 140, op := Op.unOp UnOp.not 4 (Operand.tmp 139), type := 4, pos := "plain.go:193", after := #[{ on := 0, ground := Ground.data }], guard := none }) (v := ?vtc1) rfl (by kernel_rfl) (by kernel_rfl) (by kernel_rfl) (fun _ _ _ h => h) (Or.inl ⟨by rfl, ?htc1⟩) (by assumption) ?rtc1
                case htc1 => (intro w0 hSw; (try dsimp only at hSw); go_simp; try (with_reducible rfl))
                simp only [Act.put, List.setIfInBounds_toArray, List.set_cons_zero, List.set_cons_succ]
                refine wpAnyH_take (i := 2) (oi := { dst := some 141, op := Op.move (Operand.tmp 140), type := 4, pos := "plain.go:193", after := #[{ on := 1, ground := Ground.data }], guard := none }) (v := ?vtc2) rfl (by kernel_rfl) (by kernel_rfl) (by kernel_rfl) (fun _ _ _ h => h) (Or.inl ⟨by rfl, ?htc2⟩) (by assumption) ?rtc2
                case htc2 => (intro w0 hSw; (try dsimp only at hSw); go_simp; try (with_reducible rfl))
                simp only [Act.put, List.setIfInBounds_toArray, List.set_cons_zero, List.set_cons_succ]
                refine wpAnyH_take (i := 3) (oi := { dst := some 142, op := Op.move (Operand.tmp 20), type := 32, pos := "plain.go:193", after := #[{ on := 2, ground := Ground.guard }], guard := some (2, false) }) (v := ?vtc3) rfl (by kernel_rfl) (by kernel_rfl) (by kernel_rfl) (fun _ _ _ h => h) (Or.inl ⟨by rfl, ?htc3⟩) (by assumption) ?rtc3
                case htc3 => (intro w0 hSw; (try dsimp only at hSw); go_simp; try (with_reducible rfl))
                simp only [Act.put, List.setIfInBounds_toArray, List.set_cons_zero, List.set_cons_succ]
                refine wpAnyH_take (i := 4) (oi := { dst := some 143, op := Op.call { callee := Callee.builtin Builtin.len, args := #[Operand.tmp 142], argTypes := #[32] }, type := 3, pos := "plain.go:193", after := #[{ on := 3, ground := Ground.data }, { on := 2, ground := Ground.guard }], guard := some (2, false) }) (v := ?vtc4) rfl (by kernel_rfl) (by kernel_rfl) (by kernel_rfl) (fun _ _ _ h => h) (Or.inl ⟨by rfl, ?htc4⟩) (by assumption) ?rtc4
                case htc4 => (intro w0 hSw; (try dsimp only at hSw); go_simp; try (with_reducible rfl))
                simp only [Act.put, List.setIfInBounds_toArray, List.set_cons_zero, List.set_cons_succ]
                refine wpAnyH_take (i := 5) (oi := { dst := some 144, op := Op.binOp BinOp.eql 3 (Operand.tmp 143) (Operand.const (Value.int IntKind.i64 1)) 3, type := 4, pos := "plain.go:193", after := #[{ on := 4, ground := Ground.data }, { on := 2, ground := Ground.guard }], guard := some (2, false) }) (v := ?vtc5) rfl (by kernel_rfl) (by kernel_rfl) (by kernel_rfl) (fun _ _ _ h => h) (Or.inl ⟨by rfl, ?htc5⟩) (by assumption) ?rtc5
                case htc5 => (intro w0 hSw; (try dsimp only at hSw); go_simp; try (with_reducible rfl))
                simp only [Act.put, List.setIfInBounds_toArray, List.set_cons_zero, List.set_cons_succ]
                refine wpAnyH_take (i := 6) (oi := { dst := some 145, op := Op.move (Operand.tmp 144), type := 4, pos := "plain.go:193", after := #[{ on := 5, ground := Ground.data }, { on := 2, ground := Ground.chain }, { on := 2, ground := Ground.guard }], guard := some (2, false) }) (v := ?vtc6) rfl (by kernel_rfl) (by kernel_rfl) (by kernel_rfl) (fun _ _ _ h => h) (Or.inl ⟨by rfl, ?htc6⟩) (by assumption) ?rtc6
                case htc6 => (intro w0 hSw; (try dsimp only at hSw); go_simp; try (with_reducible rfl))
                simp only [Act.put, List.setIfInBounds_toArray, List.set_cons_zero, List.set_cons_succ]
                refine wpAnyH_take (i := 7) (oi := { dst := some 146, op := Op.move (Operand.tmp 20), type := 32, pos := "plain.go:193", after := #[{ on := 6, ground := Ground.guard }], guard := some (6, true) }) (v := ?vtc7) rfl (by kernel_rfl) (by kernel_rfl) (by kernel_rfl) (fun _ _ _ h => h) (Or.inl ⟨by rfl, ?htc7⟩) (by assumption) ?rtc7
                case htc7 => (intro w0 hSw; (try dsimp only at hSw); go_simp; try (with_reducible rfl))
                simp only [Act.put, List.setIfInBounds_toArray, List.set_cons_zero, List.set_cons_succ]
                refine wpAnyH_take (i := 8) (oi := { dst := some 147, op := Op.indexAddr 32 (Operand.tmp 146) (Operand.const (Value.int IntKind.i64 0)), type := 0, pos := "plain.go:193", after := #[{ on := 7, ground := Ground.data }, { on := 6, ground := Ground.guard }], guard := some (6, true) }) (v := ?vtc8) rfl (by kernel_rfl) (by kernel_rfl) (by kernel_rfl) (fun _ _ _ h => h) (Or.inl ⟨by rfl, ?htc8⟩) (by assumption) ?rtc8
                case htc8 => (intro w0 hSw; (try dsimp only at hSw); go_simp; try (with_reducible rfl))
                simp only [Act.put, List.setIfInBounds_toArray, List.set_cons_zero, List.set_cons_succ]
                refine wpAnyH_take (i := 9) (oi := { dst := some 148, op := Op.fieldAddr 36 (Operand.tmp 147) 0, type := 0, pos := "plain.go:193", after := #[{ on := 8, ground := Ground.data }, { on := 6, ground := Ground.guard }], guard := some (6, true) }) (v := ?vtc9) rfl (by kernel_rfl) (by kernel_rfl) (by kernel_rfl) (fun _ _ _ h => h) (Or.inl ⟨by rfl, ?htc9⟩) (by assumption) ?rtc9
                case htc9 => (intro w0 hSw; (try dsimp only at hSw); go_simp; try (with_reducible rfl))
                simp only [Act.put, List.setIfInBounds_toArray, List.set_cons_zero, List.set_cons_succ]
                refine wpAnyH_take (i := 10) (oi := { dst := some 149, op := Op.load 3 (Operand.tmp 148), type := 3, pos := "plain.go:193", after := #[{ on := 9, ground := Ground.data }, { on := 6, ground := Ground.guard }], guard := some (6, true) }) (v := ?vtc10) rfl (by kernel_rfl) (by kernel_rfl) (by kernel_rfl) (fun _ _ _ h => h) (Or.inl ⟨by rfl, ?htc10⟩) (by assumption) ?rtc10
                case htc10 => (intro w0 hSw; (try dsimp only at hSw); go_simp; try (with_reducible rfl))
                simp only [Act.put, List.setIfInBounds_toArray, List.set_cons_zero, List.set_cons_succ]
                refine wpAnyH_take (i := 11) (oi := { dst := some 150, op := Op.binOp BinOp.eql 3 (Operand.tmp 149) (Operand.const (Value.int IntKind.i64 0)) 3, type := 4, pos := "plain.go:193", after := #[{ on := 10, ground := Ground.data }, { on := 6, ground := Ground.guard }], guard := some (6, true) }) (v := ?vtc11) rfl (by kernel_rfl) (by kernel_rfl) (by kernel_rfl) (fun _ _ _ h => h) (Or.inl ⟨by rfl, ?htc11⟩) (by assumption) ?rtc11
                case htc11 => (intro w0 hSw; (try dsimp only at hSw); go_simp; try (with_reducible rfl))
                simp only [Act.put, List.setIfInBounds_toArray, List.set_cons_zero, List.set_cons_succ]
                refine wpAnyH_take (i := 12) (oi := { dst := some 151, op := Op.pick (Operand.tmp 145) (Operand.tmp 150) (Operand.const (Value.bool false)), type := 4, pos := "plain.go:193", after := #[{ on := 6, ground := Ground.data }, { on := 11, ground := Ground.data }, { on := 2, ground := Ground.guard }], guard := some (2, false) }) (v := ?vtc12) rfl (by kernel_rfl) (by kernel_rfl) (by kernel_rfl) (fun _ _ _ h => h) (Or.inl ⟨by rfl, ?htc12⟩) (by assumption) ?rtc12
                case htc12 => (intro w0 hSw; (try dsimp only at hSw); go_simp; try (with_reducible rfl))
                simp only [Act.put, List.setIfInBounds_toArray, List.set_cons_zero, List.set_cons_succ]
                refine wpAnyH_take (i := 13) (oi := { dst := some 152, op := Op.move (Operand.tmp 151), type := 4, pos := "plain.go:193", after := #[{ on := 12, ground := Ground.data }, { on := 6, ground := Ground.chain }, { on := 2, ground := Ground.guard }], guard := some (2, false) }) (v := ?vtc13) rfl (by kernel_rfl) (by kernel_rfl) (by kernel_rfl) (fun _ _ _ h => h) (Or.inl ⟨by rfl, ?htc13⟩) (by assumption) ?rtc13
                case htc13 => (intro w0 hSw; (try dsimp only at hSw); go_simp; try (with_reducible rfl))
                simp only [Act.put, List.setIfInBounds_toArray, List.set_cons_zero, List.set_cons_succ]
                refine wpAnyH_take (i := 14) (oi := { dst := some 153, op := Op.move (Operand.tmp 18), type := 32, pos := "plain.go:193", after := #[{ on := 13, ground := Ground.guard }], guard := some (13, true) }) (v := ?vtc14) rfl (by kernel_rfl) (by kernel_rfl) (by kernel_rfl) (fun _ _ _ h => h) (Or.inl ⟨by rfl, ?htc14⟩) (by assumption) ?rtc14
                case htc14 => (intro w0 hSw; (try dsimp only at hSw); go_simp; try (with_reducible rfl))
                simp only [Act.put, List.setIfInBounds_toArray, List.set_cons_zero, List.set_cons_succ]
                refine wpAnyH_take (i := 15) (oi := { dst := some 154, op := Op.indexAddr 32 (Operand.tmp 153) (Operand.const (Value.int IntKind.i64 0)), type := 0, pos := "plain.go:193", after := #[{ on := 14, ground := Ground.data }, { on := 13, ground := Ground.guard }], guard := some (13, true) }) (v := ?vtc15) rfl (by kernel_rfl) (by kernel_rfl) (by kernel_rfl) (fun _ _ _ h => h) (Or.inl ⟨by rfl, ?htc15⟩) (by assumption) ?rtc15
                case htc15 => (intro w0 hSw; (try dsimp only at hSw); go_simp; try (with_reducible rfl))
                simp only [Act.put, List.setIfInBounds_toArray, List.set_cons_zero, List.set_cons_succ]
                refine wpAnyH_take (i := 16) (oi := { dst := some 155, op := Op.fieldAddr 36 (Operand.tmp 154) 2, type := 0, pos := "plain.go:193", after := #[{ on := 15, ground := Ground.data }, { on := 13, ground := Ground.guard }], guard := some (13, true) }) (v := ?vtc16) rfl (by kernel_rfl) (by kernel_rfl) (by kernel_rfl) (fun _ _ _ h => h) (Or.inl ⟨by rfl, ?htc16⟩) (by assumption) ?rtc16
                case htc16 => (intro w0 hSw; (try dsimp only at hSw); go_simp; try (with_reducible rfl))
                simp only [Act.put, List.setIfInBounds_toArray, List.set_cons_zero, List.set_cons_succ]
                refine wpAnyH_take (i := 17) (oi := { dst := some 156, op := Op.load 9 (Operand.tmp 155), type := 9, pos := "plain.go:193", after := #[{ on := 16, ground := Ground.data }, { on := 13, ground := Ground.guard }], guard := some (13, true) }) (v := ?vtc17) rfl (by kernel_rfl) (by kernel_rfl) (by kernel_rfl) (fun _ _ _ h => h) (Or.inl ⟨by rfl, ?htc17⟩) (by assumption) ?rtc17
                case htc17 => (intro w0 hSw; (try dsimp only at hSw); go_simp; try (with_reducible rfl))
                simp only [Act.put, List.setIfInBounds_toArray, List.set_cons_zero, List.set_cons_succ]
                refine wpAnyH_take (i := 18) (oi := { dst := some 157, op := Op.move (Operand.tmp 0), type := 3, pos := "plain.go:193", after := #[{ on := 13, ground := Ground.guard }], guard := some (13, true) }) (v := ?vtc18) rfl (by kernel_rfl) (by kernel_rfl) (by kernel_rfl) (fun _ _ _ h => h) (Or.inl ⟨by rfl, ?htc18⟩) (by assumption) ?rtc18
                case htc18 => (intro w0 hSw; (try dsimp only at hSw); go_simp; try (with_reducible rfl))
                simp only [Act.put, List.setIfInBounds_toArray, List.set_cons_zero, List.set_cons_succ]
                refine wpAnyH_take (i := 19) (oi := { dst := some 158, op := Op.move (Operand.tmp 3), type := 3, pos := "plain.go:193", after := #[{ on := 13, ground := Ground.guard }], guard := some (13, true) }) (v := ?vtc19) rfl (by kernel_rfl) (by kernel_rfl) (by kernel_rfl) (fun _ _ _ h => h) (Or.inl ⟨by rfl, ?htc19⟩) (by assumption) ?rtc19
                case htc19 => (intro w0 hSw; (try dsimp only at hSw); go_simp; try (with_reducible rfl))
                simp only [Act.put, List.setIfInBounds_toArray, List.set_cons_zero, List.set_cons_succ]
                refine wpAnyH_ready (rs := [20]) (by kernel_rfl) (by simp) ?_
                refine AllReadyH.cons rfl (fun K hK => ?_) AllReadyH.nil
                go_simp
                go_wp2_with (go_at_call 12; refine (HBq.out _).mono ?_; rintro e' w9 ⟨rfl, b9⟩; have hE := chain HE.out b9 (Nat.le_refl _); clear HE; have HE := Hid.mk hE)
                refine hK.out _ _ ?_ (fun hHeld => ?_)
                · exact ⟨cell_lat hE c60, cell_lat hE c80⟩
                clear hK K
                refine wpAnyH_take (i := 21) (oi := { dst := some 160, op := Op.binOp BinOp.eql 9 (Operand.tmp 156) (Operand.tmp 159) 9, type := 4, pos := "plain.go:193", after := #[{ on := 17, ground := Ground.data }, { on := 20, ground := Ground.data }, { on := 13, ground := Ground.guard }], guard := some (13, true) }) (v := ?vtc21) rfl (by kernel_rfl) (by kernel_rfl) (by kernel_rfl) (fun _ _ _ h => h) (Or.inl ⟨by rfl, ?htc21⟩) (by assumption) ?rtc21
                case htc21 => (intro w0 hSw; (try dsimp only at hSw); go_simp; try (with_reducible rfl))
                simp only [Act.put, List.setIfInBounds_toArray, List.set_cons_zero, List.set_cons_succ]
                refine wpAnyH_take (i := 22) (oi := { dst := some 161, op := Op.pick (Operand.tmp 152) (Operand.tmp 160) (Operand.const (Value.bool false)), type := 4, pos := "plain.go:193", after := #[{ on := 13, ground := Ground.data }, { on := 21, ground := Ground.data }, { on := 2, ground := Ground.guard }], guard := some (2, false) }) (v := ?vtc22) rfl (by kernel_rfl) (by kernel_rfl) (by kernel_rfl) (fun _ _ _ h => h) (Or.inl ⟨by rfl, ?htc22⟩) (by assumption) ?rtc22
                case htc22 => (intro w0 hSw; (try dsimp only at hSw); go_simp; try (with_reducible rfl))
                simp only [Act.put, List.setIfInBounds_toArray, List.set_cons_zero, List.set_cons_succ]
                refine wpAnyH_take (i := 23) (oi := { dst := some 162, op := Op.pick (Operand.tmp 141) (Operand.const (Value.bool true)) (Operand.tmp 161), type := 4, pos := "plain.go:193", after := #[{ on := 2, ground := Ground.data }, { on := 22, ground := Ground.data }], guard := none }) (v := ?vtc23) rfl (by kernel_rfl) (by kernel_rfl) (by kernel_rfl) (fun _ _ _ h => h) (Or.inl ⟨by rfl, ?htc23⟩) (by assumption) ?rtc23
                case htc23 => (intro w0 hSw; (try dsimp only at hSw); go_simp; try (with_reducible rfl))
                simp only [Act.put, List.setIfInBounds_toArray, List.set_cons_zero, List.set_cons_succ]
                refine wpAnyH_take (i := 24) (oi := { dst := some 8, op := Op.assign (Operand.tmp 162), type := 4, pos := "plain.go:193", after := #[{ on := 23, ground := Ground.data }, { on := 20, ground := Ground.chain }, { on := 0, ground := Ground.phase }, { on := 1, ground := Ground.phase }, { on := 2, ground := Ground.phase }, { on := 3, ground := Ground.phase }, { on := 4, ground := Ground.phase }, { on := 5, ground := Ground.phase }, { on := 6, ground := Ground.phase }, { on := 7, ground := Ground.phase }, { on := 8, ground := Ground.phase }, { on := 9, ground := Ground.phase }, { on := 10, ground := Ground.phase }, { on := 11, ground := Ground.phase }, { on := 12, ground := Ground.phase }, { on := 13, ground := Ground.phase }, { on := 14, ground := Ground.phase }, { on := 15, ground := Ground.phase }, { on := 16, ground := Ground.phase }, { on := 17, ground := Ground.phase }, { on := 18, ground := Ground.phase }, { on := 19, ground := Ground.phase }, { on := 20, ground := Ground.phase }, { on := 21, ground := Ground.phase }, { on := 22, ground := Ground.phase }, { on := 23, ground := Ground.phase }], guard := none }) (v := ?vtc24) rfl (by kernel_rfl) (by kernel_rfl) (by kernel_rfl) (fun _ _ _ h => h) (Or.inl ⟨by rfl, ?htc24⟩) (by assumption) ?rtc24
                case htc24 => (intro w0 hSw; (try dsimp only at hSw); go_simp; try (with_reducible rfl))
                simp only [Act.put, List.setIfInBounds_toArray, List.set_cons_zero, List.set_cons_succ]
                refine wpAnyH_done (by kernel_rfl) ?_ _
                go_wp2_with fail
                go_ret
                exact ⟨rfl, chain HZ.out.be HE.out (Nat.le_refl _)⟩
end Go.Proofs.YtnnbcdfpbdmgdaaDoor
