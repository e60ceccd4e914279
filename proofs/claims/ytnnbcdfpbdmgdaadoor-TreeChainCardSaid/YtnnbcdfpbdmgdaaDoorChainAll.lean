/-
  DERIVED. TChainP, TChain, ChainRow, as one text.
-/
import Derived.Test.YtnnbcdfpbdmgdaaDoorTChainI
import Derived.Test.YtnnbcdfpbdmgdaaDoorTBitW
import Derived.Test.YtnnbcdfpbdmgdaaDoorTBegun
import Derived.Test.YtnnbcdfpbdmgdaaDoorTChainO
import Derived.Test.YtnnbcdfpbdmgdaaDoorCards
import Derived.Test.YtnnbcdfpbdmgdaaDoorTie
import Derived.ProofKit
import Derived.LaidMore
import Derived.SizedLaws
import Derived.OpenShut
import Derived.Lib.LaidTab
import Derived.Stop.Joined
import Derived.SevenTiedAt
import Derived.Deep.Slices
import Derived.WideShapes
import Derived.ChangeShapes
import Derived.ChangeSlices
import Derived.ChangeMaps5
set_option linter.unusedVariables false
set_option linter.unusedSimpArgs false
namespace Go.Proofs.YtnnbcdfpbdmgdaaDoor
open Go.RowKit Go.Maps Go.Sort Go.Proofs.BitMath Go.Proofs.TreeMath

set_option maxHeartbeats 4000000 in
set_option maxRecDepth 100000 in
theorem law_chainP (w8  : Nat) (N : Int) (l : List Int) (la : Option Addr) (lc : Nat) (Q : Int) (W : World) (ht : Tab W) (hl : IAt W la l) (hll : l.length < 4611686018427387904) (hw : isW w8 = true) (hN : ¬ N < 1) (hN2 : (w8 : Int) < N) : Calls Tryd.prog 3 #[.int .i64 w8, .int .i64 N, .slice la l.length lc, .int .i64 Q] W fun r w' => r = .returned (.bool true) ∧ Below W.heap.size W w' := by
  have hW0 : 0 < W.heap.size := World.block_lt_of_cell? W ⟨0, 0, none⟩ (ht 0 (by omega))
  have htW : ∀ (w : World), Below W.heap.size W w → Tab w := fun w b => ht.below b hW0
  have HW := Hid.mk htW
  have HB := Hid.mk (begun_any W ht)
  obtain ⟨ln, hln⟩ : ∃ ln, ln = l.length := ⟨_, rfl⟩
  have HL := Hid.mk (And.intro hl hln)
  rw [← hln] at hll ⊢
  clear hl hln ht htW
  obtain ⟨n, hn⟩ : ∃ n, w8 = 8 * n := ⟨w8 / 8, by have h1 := isW_mod hw; omega⟩
  have hb8 := isW_bd hw
  have hn1 : n ≤ 128 := by omega
  have hnew := fun W => new_yes w8 n W hw hn
  have hbit := fun i (hi : i < w8) w => bit_any n i hn1 (by omega) w
  rw [← hn] at hbit
  have HN := Hid.mk hnew
  have HBt := Hid.mk hbit
  have H8 := Hid.mk hn
  have hw0 : 0 < w8 := by omega
  have hw1 : w8 ≤ 1024 := by omega
  clear hnew hbit hw hn hb8
  have d1 : decide (N < 1) = false := by simpa using hN
  have d2 : decide ((w8 : Int) < N) = true := by simpa using hN2
  clear hN hN2
  go_enter Tryd.func3, Tryd.ntmps3
  go_wp2_with fail
  refine HB.out.mono ?_
  rintro e w1 ⟨rfl, b1⟩
  go_wp2_with fail
  refine (HN.out w1).mono ?_
  rintro e w2 ⟨rfl, htr, b2⟩
  obtain ⟨t, hte⟩ : ∃ t, t = w1.heap.size := ⟨_, rfl⟩
  have htp : 0 < t := by have := b1.size; omega
  have H0 := Hid.mk (show OT (n := n) W w2 t w8 (chn n 0) [] [] ⟨0, 0, 0, 0⟩ from ⟨by rw [hte]; exact htr, (fun k hk => by
    rcases hk with rfl | hk | hk
    · rw [hte]; exact b1.size
    · cases hk
    · cases hk), chain b1 b2 (Nat.le_refl _)⟩)
  rw [← hte]
  clear htr b1 b2 hte
  go_wp2_with fail
  go_loopw [11, 12, 13] (fun u y z wr => ∃ (i : Nat) (bs : List Nat) (ms : List (Option Nat)) (x : Num), u = .int .i64 i ∧ i ≤ w8 ∧ Hid (OT W wr t w8 (chn n i) bs ms x)) (fun u _ _ _ => w8 - (intOf u).toNat)
  case atStart => exact ⟨0, [], [], ⟨0, 0, 0, 0⟩, rfl, Nat.zero_le _, H0⟩
  case round =>
    obtain ⟨i, bs, ms, x, rfl, hi, HJ⟩ := hrel
    by_cases hlt : i < w8
    · have i1 : (i : Int) < (w8 : Int) := by omega
      have hwi : IntKind.i64.wrap ((i : Int) + 1) = ((i + 1 : Nat) : Int) := by rw [IntKind.wrap_i64]; omega
      go_wp2_with fail
      refine (HBt.out i (by omega) wr).mono ?_
      rintro e w3 ⟨rfl, b3⟩
      have o3 := HJ.out.below b3
      go_wp2_with fail
      refine (chn_add o3.tr (HW.out w3 o3.be) (by have := o3.tr.lt (.inl rfl); omega) (by have := H8.out; omega) hn1).mono ?_
      rintro e w4 ⟨rfl, h4⟩
      obtain ⟨bs', ms', x', o4, -⟩ := o3.moved h4
      have hdp := chn_depth o4.tr
      have HJ' := Hid.mk o4
      clear h4 o4 o3 b3
      go_wp2_with (first
        | (go_at_call 13; refine (depth_any _ HJ'.out.tr).mono ?_; rintro e' w' ⟨rfl, he'⟩; subst he')
        | go_in)
      all_goals first
        | (exfalso; omega)
        | (refine ⟨⟨i + 1, bs', ms', x', by push_cast; rfl, hlt, HJ'⟩, by simp only [intOf]; omega⟩)
    · have i1 : ¬ (i : Int) < (w8 : Int) := by omega
      have hie : i = w8 := by omega
      rw [hie] at HJ
      have H2 := Hid.mk (show OT W wr t w8 (chn n w8) bs ms x ∧ Few w8 (chn n w8) ∧ (w8 : Int) = ((lives (chn n w8)).length : Nat) from ⟨HJ.out, few_chn, by rw [chn_lives]; simp⟩)
      have hiw : i ≤ w8 := by omega
      clear hie
      clear HJ hi hlt
      go_wp2_with fail
      go_loopw [14, 15, 16] (fun lv u kv wr => ∃ (L : Int) (i : Nat) (T : List (Nd (Cd n))) (bs : List Nat) (ms : List (Option Nat)) (x : Num), lv = .int .i64 L ∧ u = .int .i64 i ∧ i ≤ ln ∧ 0 ≤ L ∧ L ≤ 1024 ∧ Hid (OT W wr t w8 T bs ms x ∧ Few w8 T ∧ L = ((lives T).length : Nat))) (fun _ u _ _ => ln - (intOf u).toNat)
      case atStart => exact ⟨_, 0, _, bs, ms, x, rfl, rfl, Nat.zero_le _, by omega, by omega, H2⟩
      case round =>
        obtain ⟨L, i, T, bs, ms, x, rfl, rfl, hi, hL0, hL1, HT⟩ := hrel
        by_cases hlt : i < ln
        · have j1 : (i : Int) < (ln : Int) := by omega
          have j2 : (0 : Int) ≤ (i : Int) := by omega
          have hwi : IntKind.i64.wrap ((i : Int) + 1) = ((i + 1 : Nat) : Int) := by rw [IntKind.wrap_i64]; omega
          obtain ⟨g, off, ela, o0⟩ := (HL.out.1.below HT.out.1.be) i _ (List.getElem?_eq_getElem (by rw [← HL.out.2]; exact hlt))
          subst ela
          obtain ⟨K, hK⟩ : ∃ K, K = (l[i]'(by rw [← HL.out.2]; exact hlt)) := ⟨_, rfl⟩
          rw [← hK] at o0
          clear hK
          by_cases hk0 : 0 ≤ K
          · by_cases hk1 : K < (w8 : Int)
            · obtain ⟨k, rfl⟩ : ∃ k : Nat, K = k := ⟨K.toNat, by omega⟩
              have hkw : k < w8 := by omega
              go_wp2_with fail
              refine (HBt.out k hkw wr).mono ?_
              rintro e w3 ⟨rfl, b3⟩
              have o3 := HT.out.1.below b3
              go_wp2_with fail
              refine (drop_all (bitC n k).1 w3 o3.tr (HW.out w3 o3.be) htp).mono ?_
              rintro e w4 hd
              obtain ⟨T', bs', ms', x', y, rfl, o4, hf4, hy⟩ := drop_few o3 HT.out.2.1 hd
              have hLe := HT.out.2.2
              clear hd o3 b3
              cases y with
              | true =>
                have hwl : IntKind.i64.wrap (L - 1) = L - 1 := by
                  simp at hy
                  rw [IntKind.wrap_i64]; omega
                have HT' := Hid.mk (show OT W w4 t w8 T' bs' ms' x' ∧ Few w8 T' ∧ L - 1 = ((lives T').length : Nat) from ⟨o4, hf4, by simp at hy; omega⟩)
                have hL2 : 0 ≤ L - 1 := by simp at hy; omega
                clear hy hLe o4 hf4
                go_wp2_with fail
                all_goals exact ⟨⟨L - 1, i + 1, T', bs', ms', x', rfl, by push_cast; rfl, hlt, hL2, by omega, HT'⟩, by simp only [intOf]; omega⟩
              | false =>
                have HT' := Hid.mk (show OT W w4 t w8 T' bs' ms' x' ∧ Few w8 T' ∧ L = ((lives T').length : Nat) from ⟨o4, hf4, by simp at hy; omega⟩)
                clear hy hLe o4 hf4
                go_wp2_with fail
                all_goals exact ⟨⟨L, i + 1, T', bs', ms', x', rfl, by push_cast; rfl, hlt, hL0, hL1, HT'⟩, by simp only [intOf]; omega⟩
            · go_wp2_with fail
              all_goals exact ⟨⟨L, i + 1, T, bs, ms, x, rfl, by push_cast; rfl, hlt, hL0, hL1, HT⟩, by simp only [intOf]; omega⟩
          · go_wp2_with fail
            all_goals exact ⟨⟨L, i + 1, T, bs, ms, x, rfl, by push_cast; rfl, hlt, hL0, hL1, HT⟩, by simp only [intOf]; omega⟩
        · have j1 : ¬ (i : Int) < (ln : Int) := by omega
          clear hlt hi hll
          by_cases hq : 0 ≤ Q ∧ Q < (w8 : Int)
          · obtain ⟨q, rfl⟩ : ∃ q : Nat, Q = q := ⟨Q.toNat, by omega⟩
            have q1 : decide ((q : Int) < 0) = false := by simp
            have q2 : decide ((w8 : Int) ≤ (q : Int)) = false := by simp; omega
            have hqm : q < w8 := by have hk1 := hq.2; omega
            have hqw : q < w8 := by omega
            have HBq := Hid.mk (show ∀ w, Calls Tryd.prog 12 #[.int .i64 w8, .int .i64 (q : Int)] w fun r w' => r = .returned (.string (bitC n q).1) ∧ Below w.heap.size w w' from HBt.out q hqw)
            go_wp2_with fail
            refine (HBq.out wr).mono ?_
            rintro e w3 ⟨rfl, b3⟩
            have o3 := HT.out.1.below b3
            go_wp2_with fail
            refine (has_any (bitC n q).1 w3 o3.tr (HW.out w3 o3.be) (by have := o3.tr.lt (.inl rfl); omega)).mono ?_
            rintro e w4 ⟨b4, there, rfl, hth⟩
            have hth2 : there = true → bitC n q ∈ lives T := fun h => by
              obtain ⟨c, hc, e⟩ := hth.1 h
              rwa [show c = bitC n q from Subtype.ext e] at hc
            have o4 := o3.below b4
            clear o3 b3 b4 hth
            go_wp2_with fail
            refine (HBq.out w4).mono ?_
            rintro e w5 ⟨rfl, b5⟩
            have o5 := o4.below b5
            have hT40 : T.length < 1099511627776 := by have := HT.out.2.1.le; omega
            clear o4 b5
            go_wp2_with fail
            refine (within_any (bitC n q).1 2 w5 o5.tr (HW.out w5 o5.be) htp hT40).mono ?_
            rintro e w6 hwO
            obtain ⟨a6, c6, x6, rfl, o6, hA⟩ := with_bit o5 HT.out.2.1 (by omega) hqm hwO
            clear hwO o5
            go_wp2_with fail
            refine (HBq.out w6).mono ?_
            rintro e w7 ⟨rfl, b7⟩
            have o7 := o6.below b7
            go_wp2_with fail
            refine (nearest_any (bitC n q).1 1 w7 o7.tr (HW.out w7 o7.be) htp hT40).mono ?_
            rintro e wz hnO
            obtain ⟨a8, k8, c8, x8, rfl, oz, hst, hN8⟩ := near_bit o7 hnO
            have hA2 : bitC n q ∈ lives T → ∃ g, a6 = some ⟨g, 0, none⟩ ∧ wz.cell? ⟨g, 2, none⟩ = some (.string (bitC n q).1) := fun h => by
              obtain ⟨g, h1, h2, h3⟩ := hA h
              have h4 := cell_lat b7 h3
              exact ⟨g, h1, cell_sty hst (fun e => by
                rcases e with e | e
                · exact h2 e
                · have := World.block_lt_of_cell? w7 _ h4; simp at this; omega) h4⟩
            have hlive : (x8.live : Int) = L := by rw [HT.out.2.2, oz.tr.live]
            have hll2 : (((lives T).length : Nat) : Int) = L := HT.out.2.2.symm
            have HZ := Hid.mk oz
            clear hnO o6 o7 b7 hA hst oz
            obtain ⟨tl, htl⟩ : ∃ tl, tl = (lives T).length := ⟨_, rfl⟩
            rw [← htl] at hll2 ⊢
            clear htl
            have hE := (Below.refl wz.heap.size wz).drew
            have HE := Hid.mk hE
            clear hE
            cases there with
            | false =>
              clear hth2 hN8 hA2
              go_wp2_with (first
                | (go_at_call 18; refine (len_any _ HZ.out.tr).mono ?_; rintro e' w' ⟨rfl, he'⟩; subst he')
                | go_in)
              refine wp_region_held_drew (S := fun _ => True) (by kernel_rfl) ?_ (fun hHeld => ?_)
              · trivial
              refine wpAnyH_take (i := 0) (oi := { dst := some 139, op := Op.move (Operand.tmp 17), type := 4, pos := "plain.go:193", after := #[], guard := none }) (v := ?vfa0) rfl (by kernel_rfl) (by kernel_rfl) (by kernel_rfl) (fun _ _ _ h => h) (Or.inl ⟨by rfl, ?hfa0⟩) (by assumption) ?rfa0
              case hfa0 => (intro w0 hSw; (try dsimp only at hSw); go_simp; try (with_reducible rfl))
              simp only [Act.put, List.setIfInBounds_toArray, List.set_cons_zero, List.set_cons_succ]
              refine wpAnyH_take (i := 1) (oi := { dst := some 140, op := Op.unOp UnOp.not 4 (Operand.tmp 139), type := 4, pos := "plain.go:193", after := #[{ on := 0, ground := Ground.data }], guard := none }) (v := ?vfa1) rfl (by kernel_rfl) (by kernel_rfl) (by kernel_rfl) (fun _ _ _ h => h) (Or.inl ⟨by rfl, ?hfa1⟩) (by assumption) ?rfa1
              case hfa1 => (intro w0 hSw; (try dsimp only at hSw); go_simp; try (with_reducible rfl))
              simp only [Act.put, List.setIfInBounds_toArray, List.set_cons_zero, List.set_cons_succ]
              refine wpAnyH_take (i := 2) (oi := { dst := some 141, op := Op.move (Operand.tmp 140), type := 4, pos := "plain.go:193", after := #[{ on := 1, ground := Ground.data }], guard := none }) (v := ?vfa2) rfl (by kernel_rfl) (by kernel_rfl) (by kernel_rfl) (fun _ _ _ h => h) (Or.inl ⟨by rfl, ?hfa2⟩) (by assumption) ?rfa2
              case hfa2 => (intro w0 hSw; (try dsimp only at hSw); go_simp; try (with_reducible rfl))
              simp only [Act.put, List.setIfInBounds_toArray, List.set_cons_zero, List.set_cons_succ]
              refine wpAnyH_take (i := 3) (oi := { dst := some 142, op := Op.move (Operand.tmp 20), type := 32, pos := "plain.go:193", after := #[{ on := 2, ground := Ground.guard }], guard := some (2, false) }) rfl (by kernel_rfl) (by kernel_rfl) (by kernel_rfl) (fun _ _ _ h => h) (Or.inr ⟨by rfl, rfl⟩) (by assumption) ?_
              simp only [Act.put, List.setIfInBounds_toArray, List.set_cons_zero, List.set_cons_succ]
              refine wpAnyH_take (i := 4) (oi := { dst := some 143, op := Op.call { callee := Callee.builtin Builtin.len, args := #[Operand.tmp 142], argTypes := #[32] }, type := 3, pos := "plain.go:193", after := #[{ on := 3, ground := Ground.data }, { on := 2, ground := Ground.guard }], guard := some (2, false) }) rfl (by kernel_rfl) (by kernel_rfl) (by kernel_rfl) (fun _ _ _ h => h) (Or.inr ⟨by rfl, rfl⟩) (by assumption) ?_
              simp only [Act.put, List.setIfInBounds_toArray, List.set_cons_zero, List.set_cons_succ]
              refine wpAnyH_take (i := 5) (oi := { dst := some 144, op := Op.binOp BinOp.eql 3 (Operand.tmp 143) (Operand.const (Value.int IntKind.i64 1)) 3, type := 4, pos := "plain.go:193", after := #[{ on := 4, ground := Ground.data }, { on := 2, ground := Ground.guard }], guard := some (2, false) }) rfl (by kernel_rfl) (by kernel_rfl) (by kernel_rfl) (fun _ _ _ h => h) (Or.inr ⟨by rfl, rfl⟩) (by assumption) ?_
              simp only [Act.put, List.setIfInBounds_toArray, List.set_cons_zero, List.set_cons_succ]
              refine wpAnyH_take (i := 6) (oi := { dst := some 145, op := Op.move (Operand.tmp 144), type := 4, pos := "plain.go:193", after := #[{ on := 5, ground := Ground.data }, { on := 2, ground := Ground.chain }, { on := 2, ground := Ground.guard }], guard := some (2, false) }) rfl (by kernel_rfl) (by kernel_rfl) (by kernel_rfl) (fun _ _ _ h => h) (Or.inr ⟨by rfl, rfl⟩) (by assumption) ?_
              simp only [Act.put, List.setIfInBounds_toArray, List.set_cons_zero, List.set_cons_succ]
              refine wpAnyH_take (i := 7) (oi := { dst := some 146, op := Op.move (Operand.tmp 20), type := 32, pos := "plain.go:193", after := #[{ on := 6, ground := Ground.guard }], guard := some (6, true) }) rfl (by kernel_rfl) (by kernel_rfl) (by kernel_rfl) (fun _ _ _ h => h) (Or.inr ⟨by rfl, rfl⟩) (by assumption) ?_
              simp only [Act.put, List.setIfInBounds_toArray, List.set_cons_zero, List.set_cons_succ]
              refine wpAnyH_take (i := 8) (oi := { dst := some 147, op := Op.indexAddr 32 (Operand.tmp 146) (Operand.const (Value.int IntKind.i64 0)), type := 0, pos := "plain.go:193", after := #[{ on := 7, ground := Ground.data }, { on := 6, ground := Ground.guard }], guard := some (6, true) }) rfl (by kernel_rfl) (by kernel_rfl) (by kernel_rfl) (fun _ _ _ h => h) (Or.inr ⟨by rfl, rfl⟩) (by assumption) ?_
              simp only [Act.put, List.setIfInBounds_toArray, List.set_cons_zero, List.set_cons_succ]
              refine wpAnyH_take (i := 9) (oi := { dst := some 148, op := Op.fieldAddr 36 (Operand.tmp 147) 0, type := 0, pos := "plain.go:193", after := #[{ on := 8, ground := Ground.data }, { on := 6, ground := Ground.guard }], guard := some (6, true) }) rfl (by kernel_rfl) (by kernel_rfl) (by kernel_rfl) (fun _ _ _ h => h) (Or.inr ⟨by rfl, rfl⟩) (by assumption) ?_
              simp only [Act.put, List.setIfInBounds_toArray, List.set_cons_zero, List.set_cons_succ]
              refine wpAnyH_take (i := 10) (oi := { dst := some 149, op := Op.load 3 (Operand.tmp 148), type := 3, pos := "plain.go:193", after := #[{ on := 9, ground := Ground.data }, { on := 6, ground := Ground.guard }], guard := some (6, true) }) rfl (by kernel_rfl) (by kernel_rfl) (by kernel_rfl) (fun _ _ _ h => h) (Or.inr ⟨by rfl, rfl⟩) (by assumption) ?_
              simp only [Act.put, List.setIfInBounds_toArray, List.set_cons_zero, List.set_cons_succ]
              refine wpAnyH_take (i := 11) (oi := { dst := some 150, op := Op.binOp BinOp.eql 3 (Operand.tmp 149) (Operand.const (Value.int IntKind.i64 0)) 3, type := 4, pos := "plain.go:193", after := #[{ on := 10, ground := Ground.data }, { on := 6, ground := Ground.guard }], guard := some (6, true) }) rfl (by kernel_rfl) (by kernel_rfl) (by kernel_rfl) (fun _ _ _ h => h) (Or.inr ⟨by rfl, rfl⟩) (by assumption) ?_
              simp only [Act.put, List.setIfInBounds_toArray, List.set_cons_zero, List.set_cons_succ]
              refine wpAnyH_take (i := 12) (oi := { dst := some 151, op := Op.pick (Operand.tmp 145) (Operand.tmp 150) (Operand.const (Value.bool false)), type := 4, pos := "plain.go:193", after := #[{ on := 6, ground := Ground.data }, { on := 11, ground := Ground.data }, { on := 2, ground := Ground.guard }], guard := some (2, false) }) rfl (by kernel_rfl) (by kernel_rfl) (by kernel_rfl) (fun _ _ _ h => h) (Or.inr ⟨by rfl, rfl⟩) (by assumption) ?_
              simp only [Act.put, List.setIfInBounds_toArray, List.set_cons_zero, List.set_cons_succ]
              refine wpAnyH_take (i := 13) (oi := { dst := some 152, op := Op.move (Operand.tmp 151), type := 4, pos := "plain.go:193", after := #[{ on := 12, ground := Ground.data }, { on := 6, ground := Ground.chain }, { on := 2, ground := Ground.guard }], guard := some (2, false) }) rfl (by kernel_rfl) (by kernel_rfl) (by kernel_rfl) (fun _ _ _ h => h) (Or.inr ⟨by rfl, rfl⟩) (by assumption) ?_
              simp only [Act.put, List.setIfInBounds_toArray, List.set_cons_zero, List.set_cons_succ]
              refine wpAnyH_take (i := 14) (oi := { dst := some 153, op := Op.move (Operand.tmp 18), type := 32, pos := "plain.go:193", after := #[{ on := 13, ground := Ground.guard }], guard := some (13, true) }) rfl (by kernel_rfl) (by kernel_rfl) (by kernel_rfl) (fun _ _ _ h => h) (Or.inr ⟨by rfl, rfl⟩) (by assumption) ?_
              simp only [Act.put, List.setIfInBounds_toArray, List.set_cons_zero, List.set_cons_succ]
              refine wpAnyH_take (i := 15) (oi := { dst := some 154, op := Op.indexAddr 32 (Operand.tmp 153) (Operand.const (Value.int IntKind.i64 0)), type := 0, pos := "plain.go:193", after := #[{ on := 14, ground := Ground.data }, { on := 13, ground := Ground.guard }], guard := some (13, true) }) rfl (by kernel_rfl) (by kernel_rfl) (by kernel_rfl) (fun _ _ _ h => h) (Or.inr ⟨by rfl, rfl⟩) (by assumption) ?_
              simp only [Act.put, List.setIfInBounds_toArray, List.set_cons_zero, List.set_cons_succ]
              refine wpAnyH_take (i := 16) (oi := { dst := some 155, op := Op.fieldAddr 36 (Operand.tmp 154) 2, type := 0, pos := "plain.go:193", after := #[{ on := 15, ground := Ground.data }, { on := 13, ground := Ground.guard }], guard := some (13, true) }) rfl (by kernel_rfl) (by kernel_rfl) (by kernel_rfl) (fun _ _ _ h => h) (Or.inr ⟨by rfl, rfl⟩) (by assumption) ?_
              simp only [Act.put, List.setIfInBounds_toArray, List.set_cons_zero, List.set_cons_succ]
              refine wpAnyH_take (i := 17) (oi := { dst := some 156, op := Op.load 9 (Operand.tmp 155), type := 9, pos := "plain.go:193", after := #[{ on := 16, ground := Ground.data }, { on := 13, ground := Ground.guard }], guard := some (13, true) }) rfl (by kernel_rfl) (by kernel_rfl) (by kernel_rfl) (fun _ _ _ h => h) (Or.inr ⟨by rfl, rfl⟩) (by assumption) ?_
              simp only [Act.put, List.setIfInBounds_toArray, List.set_cons_zero, List.set_cons_succ]
              refine wpAnyH_take (i := 18) (oi := { dst := some 157, op := Op.move (Operand.tmp 0), type := 3, pos := "plain.go:193", after := #[{ on := 13, ground := Ground.guard }], guard := some (13, true) }) rfl (by kernel_rfl) (by kernel_rfl) (by kernel_rfl) (fun _ _ _ h => h) (Or.inr ⟨by rfl, rfl⟩) (by assumption) ?_
              simp only [Act.put, List.setIfInBounds_toArray, List.set_cons_zero, List.set_cons_succ]
              refine wpAnyH_take (i := 19) (oi := { dst := some 158, op := Op.move (Operand.tmp 3), type := 3, pos := "plain.go:193", after := #[{ on := 13, ground := Ground.guard }], guard := some (13, true) }) rfl (by kernel_rfl) (by kernel_rfl) (by kernel_rfl) (fun _ _ _ h => h) (Or.inr ⟨by rfl, rfl⟩) (by assumption) ?_
              simp only [Act.put, List.setIfInBounds_toArray, List.set_cons_zero, List.set_cons_succ]
              refine wpAnyH_take (i := 20) (oi := { dst := some 159, op := Op.call { callee := Callee.value (Operand.func 12), args := #[Operand.tmp 157, Operand.tmp 158], argTypes := #[3, 3] }, type := 9, pos := "plain.go:193", after := #[{ on := 18, ground := Ground.data }, { on := 19, ground := Ground.data }, { on := 13, ground := Ground.chain }, { on := 13, ground := Ground.guard }], guard := some (13, true) }) rfl (by kernel_rfl) (by kernel_rfl) (by kernel_rfl) (fun _ _ _ h => h) (Or.inr ⟨by rfl, rfl⟩) (by assumption) ?_
              simp only [Act.put, List.setIfInBounds_toArray, List.set_cons_zero, List.set_cons_succ]
              refine wpAnyH_take (i := 21) (oi := { dst := some 160, op := Op.binOp BinOp.eql 9 (Operand.tmp 156) (Operand.tmp 159) 9, type := 4, pos := "plain.go:193", after := #[{ on := 17, ground := Ground.data }, { on := 20, ground := Ground.data }, { on := 13, ground := Ground.guard }], guard := some (13, true) }) rfl (by kernel_rfl) (by kernel_rfl) (by kernel_rfl) (fun _ _ _ h => h) (Or.inr ⟨by rfl, rfl⟩) (by assumption) ?_
              simp only [Act.put, List.setIfInBounds_toArray, List.set_cons_zero, List.set_cons_succ]
              refine wpAnyH_take (i := 22) (oi := { dst := some 161, op := Op.pick (Operand.tmp 152) (Operand.tmp 160) (Operand.const (Value.bool false)), type := 4, pos := "plain.go:193", after := #[{ on := 13, ground := Ground.data }, { on := 21, ground := Ground.data }, { on := 2, ground := Ground.guard }], guard := some (2, false) }) rfl (by kernel_rfl) (by kernel_rfl) (by kernel_rfl) (fun _ _ _ h => h) (Or.inr ⟨by rfl, rfl⟩) (by assumption) ?_
              simp only [Act.put, List.setIfInBounds_toArray, List.set_cons_zero, List.set_cons_succ]
              refine wpAnyH_take (i := 23) (oi := { dst := some 162, op := Op.pick (Operand.tmp 141) (Operand.const (Value.bool true)) (Operand.tmp 161), type := 4, pos := "plain.go:193", after := #[{ on := 2, ground := Ground.data }, { on := 22, ground := Ground.data }], guard := none }) (v := ?vfa23) rfl (by kernel_rfl) (by kernel_rfl) (by kernel_rfl) (fun _ _ _ h => h) (Or.inl ⟨by rfl, ?hfa23⟩) (by assumption) ?rfa23
              case hfa23 => (intro w0 hSw; (try dsimp only at hSw); go_simp; try (with_reducible rfl))
              simp only [Act.put, List.setIfInBounds_toArray, List.set_cons_zero, List.set_cons_succ]
              refine wpAnyH_take (i := 24) (oi := { dst := some 8, op := Op.assign (Operand.tmp 162), type := 4, pos := "plain.go:193", after := #[{ on := 23, ground := Ground.data }, { on := 20, ground := Ground.chain }, { on := 0, ground := Ground.phase }, { on := 1, ground := Ground.phase }, { on := 2, ground := Ground.phase }, { on := 3, ground := Ground.phase }, { on := 4, ground := Ground.phase }, { on := 5, ground := Ground.phase }, { on := 6, ground := Ground.phase }, { on := 7, ground := Ground.phase }, { on := 8, ground := Ground.phase }, { on := 9, ground := Ground.phase }, { on := 10, ground := Ground.phase }, { on := 11, ground := Ground.phase }, { on := 12, ground := Ground.phase }, { on := 13, ground := Ground.phase }, { on := 14, ground := Ground.phase }, { on := 15, ground := Ground.phase }, { on := 16, ground := Ground.phase }, { on := 17, ground := Ground.phase }, { on := 18, ground := Ground.phase }, { on := 19, ground := Ground.phase }, { on := 20, ground := Ground.phase }, { on := 21, ground := Ground.phase }, { on := 22, ground := Ground.phase }, { on := 23, ground := Ground.phase }], guard := none }) (v := ?vfa24) rfl (by kernel_rfl) (by kernel_rfl) (by kernel_rfl) (fun _ _ _ h => h) (Or.inl ⟨by rfl, ?hfa24⟩) (by assumption) ?rfa24
              case hfa24 => (intro w0 hSw; (try dsimp only at hSw); go_simp; try (with_reducible rfl))
              simp only [Act.put, List.setIfInBounds_toArray, List.set_cons_zero, List.set_cons_succ]
              refine wpAnyH_done (by kernel_rfl) ?_ _
              go_wp2_with fail
              go_ret
              exact ⟨rfl, HZ.out.be.drew⟩
            | true =>
              have hLp : 0 < L := by
                have h1 := HT.out.2.2
                have h2 := List.length_pos_of_mem (hth2 rfl)
                omega
              obtain ⟨g6, rfl, c60⟩ := hA2 (hth2 rfl)
              obtain ⟨rfl, g8, rfl, c80⟩ := hN8 (hth2 rfl)
              clear hth2 hN8 hA2
              generalize (bitC n q).1 = sq at HBq c60
              go_wp2_with (first
                | (go_at_call 18; refine (len_any _ HZ.out.tr).mono ?_; rintro e' w' ⟨rfl, he'⟩; subst he')
                | go_in)
              refine wp_region_held_drew (S := fun w' => w'.cell? ⟨g6, 2, none⟩ = some (.string sq) ∧ w'.cell? ⟨g8, 0, none⟩ = some (.int .i64 0)) (by kernel_rfl) ?_ (fun hHeld => ?_)
              · exact ⟨c60, c80⟩
              refine wpAnyH_take (i := 0) (oi := { dst := some 139, op := Op.move (Operand.tmp 17), type := 4, pos := "plain.go:193", after := #[], guard := none }) (v := ?vta0) rfl (by kernel_rfl) (by kernel_rfl) (by kernel_rfl) (fun _ _ _ h => h) (Or.inl ⟨by rfl, ?hta0⟩) (by assumption) ?rta0
              case hta0 => (intro w0 hSw; (try dsimp only at hSw); go_simp; try (with_reducible rfl))
              simp only [Act.put, List.setIfInBounds_toArray, List.set_cons_zero, List.set_cons_succ]
              refine wpAnyH_take (i := 1) (oi := { dst := some 140, op := Op.unOp UnOp.not 4 (Operand.tmp 139), type := 4, pos := "plain.go:193", after := #[{ on := 0, ground := Ground.data }], guard := none }) (v := ?vta1) rfl (by kernel_rfl) (by kernel_rfl) (by kernel_rfl) (fun _ _ _ h => h) (Or.inl ⟨by rfl, ?hta1⟩) (by assumption) ?rta1
              case hta1 => (intro w0 hSw; (try dsimp only at hSw); go_simp; try (with_reducible rfl))
              simp only [Act.put, List.setIfInBounds_toArray, List.set_cons_zero, List.set_cons_succ]
              refine wpAnyH_take (i := 2) (oi := { dst := some 141, op := Op.move (Operand.tmp 140), type := 4, pos := "plain.go:193", after := #[{ on := 1, ground := Ground.data }], guard := none }) (v := ?vta2) rfl (by kernel_rfl) (by kernel_rfl) (by kernel_rfl) (fun _ _ _ h => h) (Or.inl ⟨by rfl, ?hta2⟩) (by assumption) ?rta2
              case hta2 => (intro w0 hSw; (try dsimp only at hSw); go_simp; try (with_reducible rfl))
              simp only [Act.put, List.setIfInBounds_toArray, List.set_cons_zero, List.set_cons_succ]
              refine wpAnyH_take (i := 3) (oi := { dst := some 142, op := Op.move (Operand.tmp 20), type := 32, pos := "plain.go:193", after := #[{ on := 2, ground := Ground.guard }], guard := some (2, false) }) (v := ?vta3) rfl (by kernel_rfl) (by kernel_rfl) (by kernel_rfl) (fun _ _ _ h => h) (Or.inl ⟨by rfl, ?hta3⟩) (by assumption) ?rta3
              case hta3 => (intro w0 hSw; (try dsimp only at hSw); go_simp; try (with_reducible rfl))
              simp only [Act.put, List.setIfInBounds_toArray, List.set_cons_zero, List.set_cons_succ]
              refine wpAnyH_take (i := 4) (oi := { dst := some 143, op := Op.call { callee := Callee.builtin Builtin.len, args := #[Operand.tmp 142], argTypes := #[32] }, type := 3, pos := "plain.go:193", after := #[{ on := 3, ground := Ground.data }, { on := 2, ground := Ground.guard }], guard := some (2, false) }) (v := ?vta4) rfl (by kernel_rfl) (by kernel_rfl) (by kernel_rfl) (fun _ _ _ h => h) (Or.inl ⟨by rfl, ?hta4⟩) (by assumption) ?rta4
              case hta4 => (intro w0 hSw; (try dsimp only at hSw); go_simp; try (with_reducible rfl))
              simp only [Act.put, List.setIfInBounds_toArray, List.set_cons_zero, List.set_cons_succ]
              refine wpAnyH_take (i := 5) (oi := { dst := some 144, op := Op.binOp BinOp.eql 3 (Operand.tmp 143) (Operand.const (Value.int IntKind.i64 1)) 3, type := 4, pos := "plain.go:193", after := #[{ on := 4, ground := Ground.data }, { on := 2, ground := Ground.guard }], guard := some (2, false) }) (v := ?vta5) rfl (by kernel_rfl) (by kernel_rfl) (by kernel_rfl) (fun _ _ _ h => h) (Or.inl ⟨by rfl, ?hta5⟩) (by assumption) ?rta5
              case hta5 => (intro w0 hSw; (try dsimp only at hSw); go_simp; try (with_reducible rfl))
              simp only [Act.put, List.setIfInBounds_toArray, List.set_cons_zero, List.set_cons_succ]
              refine wpAnyH_take (i := 6) (oi := { dst := some 145, op := Op.move (Operand.tmp 144), type := 4, pos := "plain.go:193", after := #[{ on := 5, ground := Ground.data }, { on := 2, ground := Ground.chain }, { on := 2, ground := Ground.guard }], guard := some (2, false) }) (v := ?vta6) rfl (by kernel_rfl) (by kernel_rfl) (by kernel_rfl) (fun _ _ _ h => h) (Or.inl ⟨by rfl, ?hta6⟩) (by assumption) ?rta6
              case hta6 => (intro w0 hSw; (try dsimp only at hSw); go_simp; try (with_reducible rfl))
              simp only [Act.put, List.setIfInBounds_toArray, List.set_cons_zero, List.set_cons_succ]
              refine wpAnyH_take (i := 7) (oi := { dst := some 146, op := Op.move (Operand.tmp 20), type := 32, pos := "plain.go:193", after := #[{ on := 6, ground := Ground.guard }], guard := some (6, true) }) (v := ?vta7) rfl (by kernel_rfl) (by kernel_rfl) (by kernel_rfl) (fun _ _ _ h => h) (Or.inl ⟨by rfl, ?hta7⟩) (by assumption) ?rta7
              case hta7 => (intro w0 hSw; (try dsimp only at hSw); go_simp; try (with_reducible rfl))
              simp only [Act.put, List.setIfInBounds_toArray, List.set_cons_zero, List.set_cons_succ]
              refine wpAnyH_take (i := 8) (oi := { dst := some 147, op := Op.indexAddr 32 (Operand.tmp 146) (Operand.const (Value.int IntKind.i64 0)), type := 0, pos := "plain.go:193", after := #[{ on := 7, ground := Ground.data }, { on := 6, ground := Ground.guard }], guard := some (6, true) }) (v := ?vta8) rfl (by kernel_rfl) (by kernel_rfl) (by kernel_rfl) (fun _ _ _ h => h) (Or.inl ⟨by rfl, ?hta8⟩) (by assumption) ?rta8
              case hta8 => (intro w0 hSw; (try dsimp only at hSw); go_simp; try (with_reducible rfl))
              simp only [Act.put, List.setIfInBounds_toArray, List.set_cons_zero, List.set_cons_succ]
              refine wpAnyH_take (i := 9) (oi := { dst := some 148, op := Op.fieldAddr 36 (Operand.tmp 147) 0, type := 0, pos := "plain.go:193", after := #[{ on := 8, ground := Ground.data }, { on := 6, ground := Ground.guard }], guard := some (6, true) }) (v := ?vta9) rfl (by kernel_rfl) (by kernel_rfl) (by kernel_rfl) (fun _ _ _ h => h) (Or.inl ⟨by rfl, ?hta9⟩) (by assumption) ?rta9
              case hta9 => (intro w0 hSw; (try dsimp only at hSw); go_simp; try (with_reducible rfl))
              simp only [Act.put, List.setIfInBounds_toArray, List.set_cons_zero, List.set_cons_succ]
              refine wpAnyH_take (i := 10) (oi := { dst := some 149, op := Op.load 3 (Operand.tmp 148), type := 3, pos := "plain.go:193", after := #[{ on := 9, ground := Ground.data }, { on := 6, ground := Ground.guard }], guard := some (6, true) }) (v := ?vta10) rfl (by kernel_rfl) (by kernel_rfl) (by kernel_rfl) (fun _ _ _ h => h) (Or.inl ⟨by rfl, ?hta10⟩) (by assumption) ?rta10
              case hta10 => (intro w0 hSw; (try dsimp only at hSw); go_simp; try (with_reducible rfl))
              simp only [Act.put, List.setIfInBounds_toArray, List.set_cons_zero, List.set_cons_succ]
              refine wpAnyH_take (i := 11) (oi := { dst := some 150, op := Op.binOp BinOp.eql 3 (Operand.tmp 149) (Operand.const (Value.int IntKind.i64 0)) 3, type := 4, pos := "plain.go:193", after := #[{ on := 10, ground := Ground.data }, { on := 6, ground := Ground.guard }], guard := some (6, true) }) (v := ?vta11) rfl (by kernel_rfl) (by kernel_rfl) (by kernel_rfl) (fun _ _ _ h => h) (Or.inl ⟨by rfl, ?hta11⟩) (by assumption) ?rta11
              case hta11 => (intro w0 hSw; (try dsimp only at hSw); go_simp; try (with_reducible rfl))
              simp only [Act.put, List.setIfInBounds_toArray, List.set_cons_zero, List.set_cons_succ]
              refine wpAnyH_take (i := 12) (oi := { dst := some 151, op := Op.pick (Operand.tmp 145) (Operand.tmp 150) (Operand.const (Value.bool false)), type := 4, pos := "plain.go:193", after := #[{ on := 6, ground := Ground.data }, { on := 11, ground := Ground.data }, { on := 2, ground := Ground.guard }], guard := some (2, false) }) (v := ?vta12) rfl (by kernel_rfl) (by kernel_rfl) (by kernel_rfl) (fun _ _ _ h => h) (Or.inl ⟨by rfl, ?hta12⟩) (by assumption) ?rta12
              case hta12 => (intro w0 hSw; (try dsimp only at hSw); go_simp; try (with_reducible rfl))
              simp only [Act.put, List.setIfInBounds_toArray, List.set_cons_zero, List.set_cons_succ]
              refine wpAnyH_take (i := 13) (oi := { dst := some 152, op := Op.move (Operand.tmp 151), type := 4, pos := "plain.go:193", after := #[{ on := 12, ground := Ground.data }, { on := 6, ground := Ground.chain }, { on := 2, ground := Ground.guard }], guard := some (2, false) }) (v := ?vta13) rfl (by kernel_rfl) (by kernel_rfl) (by kernel_rfl) (fun _ _ _ h => h) (Or.inl ⟨by rfl, ?hta13⟩) (by assumption) ?rta13
              case hta13 => (intro w0 hSw; (try dsimp only at hSw); go_simp; try (with_reducible rfl))
              simp only [Act.put, List.setIfInBounds_toArray, List.set_cons_zero, List.set_cons_succ]
              refine wpAnyH_take (i := 14) (oi := { dst := some 153, op := Op.move (Operand.tmp 18), type := 32, pos := "plain.go:193", after := #[{ on := 13, ground := Ground.guard }], guard := some (13, true) }) (v := ?vta14) rfl (by kernel_rfl) (by kernel_rfl) (by kernel_rfl) (fun _ _ _ h => h) (Or.inl ⟨by rfl, ?hta14⟩) (by assumption) ?rta14
              case hta14 => (intro w0 hSw; (try dsimp only at hSw); go_simp; try (with_reducible rfl))
              simp only [Act.put, List.setIfInBounds_toArray, List.set_cons_zero, List.set_cons_succ]
              refine wpAnyH_take (i := 15) (oi := { dst := some 154, op := Op.indexAddr 32 (Operand.tmp 153) (Operand.const (Value.int IntKind.i64 0)), type := 0, pos := "plain.go:193", after := #[{ on := 14, ground := Ground.data }, { on := 13, ground := Ground.guard }], guard := some (13, true) }) (v := ?vta15) rfl (by kernel_rfl) (by kernel_rfl) (by kernel_rfl) (fun _ _ _ h => h) (Or.inl ⟨by rfl, ?hta15⟩) (by assumption) ?rta15
              case hta15 => (intro w0 hSw; (try dsimp only at hSw); go_simp; try (with_reducible rfl))
              simp only [Act.put, List.setIfInBounds_toArray, List.set_cons_zero, List.set_cons_succ]
              refine wpAnyH_take (i := 16) (oi := { dst := some 155, op := Op.fieldAddr 36 (Operand.tmp 154) 2, type := 0, pos := "plain.go:193", after := #[{ on := 15, ground := Ground.data }, { on := 13, ground := Ground.guard }], guard := some (13, true) }) (v := ?vta16) rfl (by kernel_rfl) (by kernel_rfl) (by kernel_rfl) (fun _ _ _ h => h) (Or.inl ⟨by rfl, ?hta16⟩) (by assumption) ?rta16
              case hta16 => (intro w0 hSw; (try dsimp only at hSw); go_simp; try (with_reducible rfl))
              simp only [Act.put, List.setIfInBounds_toArray, List.set_cons_zero, List.set_cons_succ]
              refine wpAnyH_take (i := 17) (oi := { dst := some 156, op := Op.load 9 (Operand.tmp 155), type := 9, pos := "plain.go:193", after := #[{ on := 16, ground := Ground.data }, { on := 13, ground := Ground.guard }], guard := some (13, true) }) (v := ?vta17) rfl (by kernel_rfl) (by kernel_rfl) (by kernel_rfl) (fun _ _ _ h => h) (Or.inl ⟨by rfl, ?hta17⟩) (by assumption) ?rta17
              case hta17 => (intro w0 hSw; (try dsimp only at hSw); go_simp; try (with_reducible rfl))
              simp only [Act.put, List.setIfInBounds_toArray, List.set_cons_zero, List.set_cons_succ]
              refine wpAnyH_take (i := 18) (oi := { dst := some 157, op := Op.move (Operand.tmp 0), type := 3, pos := "plain.go:193", after := #[{ on := 13, ground := Ground.guard }], guard := some (13, true) }) (v := ?vta18) rfl (by kernel_rfl) (by kernel_rfl) (by kernel_rfl) (fun _ _ _ h => h) (Or.inl ⟨by rfl, ?hta18⟩) (by assumption) ?rta18
              case hta18 => (intro w0 hSw; (try dsimp only at hSw); go_simp; try (with_reducible rfl))
              simp only [Act.put, List.setIfInBounds_toArray, List.set_cons_zero, List.set_cons_succ]
              refine wpAnyH_take (i := 19) (oi := { dst := some 158, op := Op.move (Operand.tmp 3), type := 3, pos := "plain.go:193", after := #[{ on := 13, ground := Ground.guard }], guard := some (13, true) }) (v := ?vta19) rfl (by kernel_rfl) (by kernel_rfl) (by kernel_rfl) (fun _ _ _ h => h) (Or.inl ⟨by rfl, ?hta19⟩) (by assumption) ?rta19
              case hta19 => (intro w0 hSw; (try dsimp only at hSw); go_simp; try (with_reducible rfl))
              simp only [Act.put, List.setIfInBounds_toArray, List.set_cons_zero, List.set_cons_succ]
              refine wpAnyH_ready (rs := [20]) (by kernel_rfl) (by simp) ?_
              refine AllReadyH.cons rfl (fun K hK => ?_) AllReadyH.nil
              go_simp
              go_wp2_with (go_at_call 12; refine (HBq.out _).mono ?_; rintro e' w9 ⟨rfl, b9⟩; have hE := chain HE.out b9 (Nat.le_refl _); clear HE; have HE := Hid.mk hE)
              refine hK.out _ _ ?_ (fun hHeld => ?_)
              · exact ⟨cell_lat hE c60, cell_lat hE c80⟩
              clear hK K
              refine wpAnyH_take (i := 21) (oi := { dst := some 160, op := Op.binOp BinOp.eql 9 (Operand.tmp 156) (Operand.tmp 159) 9, type := 4, pos := "plain.go:193", after := #[{ on := 17, ground := Ground.data }, { on := 20, ground := Ground.data }, { on := 13, ground := Ground.guard }], guard := some (13, true) }) (v := ?vta21) rfl (by kernel_rfl) (by kernel_rfl) (by kernel_rfl) (fun _ _ _ h => h) (Or.inl ⟨by rfl, ?hta21⟩) (by assumption) ?rta21
              case hta21 => (intro w0 hSw; (try dsimp only at hSw); go_simp; try (with_reducible rfl))
              simp only [Act.put, List.setIfInBounds_toArray, List.set_cons_zero, List.set_cons_succ]
              refine wpAnyH_take (i := 22) (oi := { dst := some 161, op := Op.pick (Operand.tmp 152) (Operand.tmp 160) (Operand.const (Value.bool false)), type := 4, pos := "plain.go:193", after := #[{ on := 13, ground := Ground.data }, { on := 21, ground := Ground.data }, { on := 2, ground := Ground.guard }], guard := some (2, false) }) (v := ?vta22) rfl (by kernel_rfl) (by kernel_rfl) (by kernel_rfl) (fun _ _ _ h => h) (Or.inl ⟨by rfl, ?hta22⟩) (by assumption) ?rta22
              case hta22 => (intro w0 hSw; (try dsimp only at hSw); go_simp; try (with_reducible rfl))
              simp only [Act.put, List.setIfInBounds_toArray, List.set_cons_zero, List.set_cons_succ]
              refine wpAnyH_take (i := 23) (oi := { dst := some 162, op := Op.pick (Operand.tmp 141) (Operand.const (Value.bool true)) (Operand.tmp 161), type := 4, pos := "plain.go:193", after := #[{ on := 2, ground := Ground.data }, { on := 22, ground := Ground.data }], guard := none }) (v := ?vta23) rfl (by kernel_rfl) (by kernel_rfl) (by kernel_rfl) (fun _ _ _ h => h) (Or.inl ⟨by rfl, ?hta23⟩) (by assumption) ?rta23
              case hta23 => (intro w0 hSw; (try dsimp only at hSw); go_simp; try (with_reducible rfl))
              simp only [Act.put, List.setIfInBounds_toArray, List.set_cons_zero, List.set_cons_succ]
              refine wpAnyH_take (i := 24) (oi := { dst := some 8, op := Op.assign (Operand.tmp 162), type := 4, pos := "plain.go:193", after := #[{ on := 23, ground := Ground.data }, { on := 20, ground := Ground.chain }, { on := 0, ground := Ground.phase }, { on := 1, ground := Ground.phase }, { on := 2, ground := Ground.phase }, { on := 3, ground := Ground.phase }, { on := 4, ground := Ground.phase }, { on := 5, ground := Ground.phase }, { on := 6, ground := Ground.phase }, { on := 7, ground := Ground.phase }, { on := 8, ground := Ground.phase }, { on := 9, ground := Ground.phase }, { on := 10, ground := Ground.phase }, { on := 11, ground := Ground.phase }, { on := 12, ground := Ground.phase }, { on := 13, ground := Ground.phase }, { on := 14, ground := Ground.phase }, { on := 15, ground := Ground.phase }, { on := 16, ground := Ground.phase }, { on := 17, ground := Ground.phase }, { on := 18, ground := Ground.phase }, { on := 19, ground := Ground.phase }, { on := 20, ground := Ground.phase }, { on := 21, ground := Ground.phase }, { on := 22, ground := Ground.phase }, { on := 23, ground := Ground.phase }], guard := none }) (v := ?vta24) rfl (by kernel_rfl) (by kernel_rfl) (by kernel_rfl) (fun _ _ _ h => h) (Or.inl ⟨by rfl, ?hta24⟩) (by assumption) ?rta24
              case hta24 => (intro w0 hSw; (try dsimp only at hSw); go_simp; try (with_reducible rfl))
              simp only [Act.put, List.setIfInBounds_toArray, List.set_cons_zero, List.set_cons_succ]
              refine wpAnyH_done (by kernel_rfl) ?_ _
              go_wp2_with fail
              go_ret
              exact ⟨rfl, chain HZ.out.be HE.out (Nat.le_refl _)⟩
          · obtain ⟨q, hq0⟩ : ∃ q : Nat, q = 0 := ⟨0, rfl⟩
            have hqm : q < w8 := by omega
            have hqw : q < w8 := by omega
            by_cases hq3 : Q < 0
            · have q1 : decide (Q < 0) = true := by simpa using hq3
              have hqz : ((q : Nat) : Int) = 0 := by rw [hq0]; rfl
              have HQZ := Hid.mk hqz
              clear hq hq0 hqz hq3
              have HBq := Hid.mk (show ∀ w, Calls Tryd.prog 12 #[.int .i64 w8, .int .i64 0] w fun r w' => r = .returned (.string (bitC n q).1) ∧ Below w.heap.size w w' from fun w => by have h := HBt.out q hqw w; rwa [HQZ.out] at h)
              go_wp2_with fail
              refine (HBq.out wr).mono ?_
              rintro e w3 ⟨rfl, b3⟩
              have o3 := HT.out.1.below b3
              go_wp2_with fail
              refine (has_any (bitC n q).1 w3 o3.tr (HW.out w3 o3.be) (by have := o3.tr.lt (.inl rfl); omega)).mono ?_
              rintro e w4 ⟨b4, there, rfl, hth⟩
              have hth2 : there = true → bitC n q ∈ lives T := fun h => by
                obtain ⟨c, hc, e⟩ := hth.1 h
                rwa [show c = bitC n q from Subtype.ext e] at hc
              have o4 := o3.below b4
              clear o3 b3 b4 hth
              go_wp2_with fail
              refine (HBq.out w4).mono ?_
              rintro e w5 ⟨rfl, b5⟩
              have o5 := o4.below b5
              have hT40 : T.length < 1099511627776 := by have := HT.out.2.1.le; omega
              clear o4 b5
              go_wp2_with fail
              refine (within_any (bitC n q).1 2 w5 o5.tr (HW.out w5 o5.be) htp hT40).mono ?_
              rintro e w6 hwO
              obtain ⟨a6, c6, x6, rfl, o6, hA⟩ := with_bit o5 HT.out.2.1 (by omega) hqm hwO
              clear hwO o5
              go_wp2_with fail
              refine (HBq.out w6).mono ?_
              rintro e w7 ⟨rfl, b7⟩
              have o7 := o6.below b7
              go_wp2_with fail
              refine (nearest_any (bitC n q).1 1 w7 o7.tr (HW.out w7 o7.be) htp hT40).mono ?_
              rintro e wz hnO
              obtain ⟨a8, k8, c8, x8, rfl, oz, hst, hN8⟩ := near_bit o7 hnO
              have hA2 : bitC n q ∈ lives T → ∃ g, a6 = some ⟨g, 0, none⟩ ∧ wz.cell? ⟨g, 2, none⟩ = some (.string (bitC n q).1) := fun h => by
                obtain ⟨g, h1, h2, h3⟩ := hA h
                have h4 := cell_lat b7 h3
                exact ⟨g, h1, cell_sty hst (fun e => by
                  rcases e with e | e
                  · exact h2 e
                  · have := World.block_lt_of_cell? w7 _ h4; simp at this; omega) h4⟩
              have hlive : (x8.live : Int) = L := by rw [HT.out.2.2, oz.tr.live]
              have hll2 : (((lives T).length : Nat) : Int) = L := HT.out.2.2.symm
              have HZ := Hid.mk oz
              clear hnO o6 o7 b7 hA hst oz
              obtain ⟨tl, htl⟩ : ∃ tl, tl = (lives T).length := ⟨_, rfl⟩
              rw [← htl] at hll2 ⊢
              clear htl
              have hE := (Below.refl wz.heap.size wz).drew
              have HE := Hid.mk hE
              clear hE
              cases there with
              | false =>
                clear hth2 hN8 hA2
                go_wp2_with (first
                  | (go_at_call 18; refine (len_any _ HZ.out.tr).mono ?_; rintro e' w' ⟨rfl, he'⟩; subst he')
                  | go_in)
                refine wp_region_held_drew (S := fun _ => True) (by kernel_rfl) ?_ (fun hHeld => ?_)
                · trivial
                refine wpAnyH_take (i := 0) (oi := { dst := some 139, op := Op.move (Operand.tmp 17), type := 4, pos := "plain.go:193", after := #[], guard := none }) (v := ?vfb0) rfl (by kernel_rfl) (by kernel_rfl) (by kernel_rfl) (fun _ _ _ h => h) (Or.inl ⟨by rfl, ?hfb0⟩) (by assumption) ?rfb0
                case hfb0 => (intro w0 hSw; (try dsimp only at hSw); go_simp; try (with_reducible rfl))
                simp only [Act.put, List.setIfInBounds_toArray, List.set_cons_zero, List.set_cons_succ]
                refine wpAnyH_take (i := 1) (oi := { dst := some 140, op := Op.unOp UnOp.not 4 (Operand.tmp 139), type := 4, pos := "plain.go:193", after := #[{ on := 0, ground := Ground.data }], guard := none }) (v := ?vfb1) rfl (by kernel_rfl) (by kernel_rfl) (by kernel_rfl) (fun _ _ _ h => h) (Or.inl ⟨by rfl, ?hfb1⟩) (by assumption) ?rfb1
                case hfb1 => (intro w0 hSw; (try dsimp only at hSw); go_simp; try (with_reducible rfl))
                simp only [Act.put, List.setIfInBounds_toArray, List.set_cons_zero, List.set_cons_succ]
                refine wpAnyH_take (i := 2) (oi := { dst := some 141, op := Op.move (Operand.tmp 140), type := 4, pos := "plain.go:193", after := #[{ on := 1, ground := Ground.data }], guard := none }) (v := ?vfb2) rfl (by kernel_rfl) (by kernel_rfl) (by kernel_rfl) (fun _ _ _ h => h) (Or.inl ⟨by rfl, ?hfb2⟩) (by assumption) ?rfb2
                case hfb2 => (intro w0 hSw; (try dsimp only at hSw); go_simp; try (with_reducible rfl))
                simp only [Act.put, List.setIfInBounds_toArray, List.set_cons_zero, List.set_cons_succ]
                refine wpAnyH_take (i := 3) (oi := { dst := some 142, op := Op.move (Operand.tmp 20), type := 32, pos := "plain.go:193", after := #[{ on := 2, ground := Ground.guard }], guard := some (2, false) }) rfl (by kernel_rfl) (by kernel_rfl) (by kernel_rfl) (fun _ _ _ h => h) (Or.inr ⟨by rfl, rfl⟩) (by assumption) ?_
                simp only [Act.put, List.setIfInBounds_toArray, List.set_cons_zero, List.set_cons_succ]
                refine wpAnyH_take (i := 4) (oi := { dst := some 143, op := Op.call { callee := Callee.builtin Builtin.len, args := #[Operand.tmp 142], argTypes := #[32] }, type := 3, pos := "plain.go:193", after := #[{ on := 3, ground := Ground.data }, { on := 2, ground := Ground.guard }], guard := some (2, false) }) rfl (by kernel_rfl) (by kernel_rfl) (by kernel_rfl) (fun _ _ _ h => h) (Or.inr ⟨by rfl, rfl⟩) (by assumption) ?_
                simp only [Act.put, List.setIfInBounds_toArray, List.set_cons_zero, List.set_cons_succ]
                refine wpAnyH_take (i := 5) (oi := { dst := some 144, op := Op.binOp BinOp.eql 3 (Operand.tmp 143) (Operand.const (Value.int IntKind.i64 1)) 3, type := 4, pos := "plain.go:193", after := #[{ on := 4, ground := Ground.data }, { on := 2, ground := Ground.guard }], guard := some (2, false) }) rfl (by kernel_rfl) (by kernel_rfl) (by kernel_rfl) (fun _ _ _ h => h) (Or.inr ⟨by rfl, rfl⟩) (by assumption) ?_
                simp only [Act.put, List.setIfInBounds_toArray, List.set_cons_zero, List.set_cons_succ]
                refine wpAnyH_take (i := 6) (oi := { dst := some 145, op := Op.move (Operand.tmp 144), type := 4, pos := "plain.go:193", after := #[{ on := 5, ground := Ground.data }, { on := 2, ground := Ground.chain }, { on := 2, ground := Ground.guard }], guard := some (2, false) }) rfl (by kernel_rfl) (by kernel_rfl) (by kernel_rfl) (fun _ _ _ h => h) (Or.inr ⟨by rfl, rfl⟩) (by assumption) ?_
                simp only [Act.put, List.setIfInBounds_toArray, List.set_cons_zero, List.set_cons_succ]
                refine wpAnyH_take (i := 7) (oi := { dst := some 146, op := Op.move (Operand.tmp 20), type := 32, pos := "plain.go:193", after := #[{ on := 6, ground := Ground.guard }], guard := some (6, true) }) rfl (by kernel_rfl) (by kernel_rfl) (by kernel_rfl) (fun _ _ _ h => h) (Or.inr ⟨by rfl, rfl⟩) (by assumption) ?_
                simp only [Act.put, List.setIfInBounds_toArray, List.set_cons_zero, List.set_cons_succ]
                refine wpAnyH_take (i := 8) (oi := { dst := some 147, op := Op.indexAddr 32 (Operand.tmp 146) (Operand.const (Value.int IntKind.i64 0)), type := 0, pos := "plain.go:193", after := #[{ on := 7, ground := Ground.data }, { on := 6, ground := Ground.guard }], guard := some (6, true) }) rfl (by kernel_rfl) (by kernel_rfl) (by kernel_rfl) (fun _ _ _ h => h) (Or.inr ⟨by rfl, rfl⟩) (by assumption) ?_
                simp only [Act.put, List.setIfInBounds_toArray, List.set_cons_zero, List.set_cons_succ]
                refine wpAnyH_take (i := 9) (oi := { dst := some 148, op := Op.fieldAddr 36 (Operand.tmp 147) 0, type := 0, pos := "plain.go:193", after := #[{ on := 8, ground := Ground.data }, { on := 6, ground := Ground.guard }], guard := some (6, true) }) rfl (by kernel_rfl) (by kernel_rfl) (by kernel_rfl) (fun _ _ _ h => h) (Or.inr ⟨by rfl, rfl⟩) (by assumption) ?_
                simp only [Act.put, List.setIfInBounds_toArray, List.set_cons_zero, List.set_cons_succ]
                refine wpAnyH_take (i := 10) (oi := { dst := some 149, op := Op.load 3 (Operand.tmp 148), type := 3, pos := "plain.go:193", after := #[{ on := 9, ground := Ground.data }, { on := 6, ground := Ground.guard }], guard := some (6, true) }) rfl (by kernel_rfl) (by kernel_rfl) (by kernel_rfl) (fun _ _ _ h => h) (Or.inr ⟨by rfl, rfl⟩) (by assumption) ?_
                simp only [Act.put, List.setIfInBounds_toArray, List.set_cons_zero, List.set_cons_succ]
                refine wpAnyH_take (i := 11) (oi := { dst := some 150, op := Op.binOp BinOp.eql 3 (Operand.tmp 149) (Operand.const (Value.int IntKind.i64 0)) 3, type := 4, pos := "plain.go:193", after := #[{ on := 10, ground := Ground.data }, { on := 6, ground := Ground.guard }], guard := some (6, true) }) rfl (by kernel_rfl) (by kernel_rfl) (by kernel_rfl) (fun _ _ _ h => h) (Or.inr ⟨by rfl, rfl⟩) (by assumption) ?_
                simp only [Act.put, List.setIfInBounds_toArray, List.set_cons_zero, List.set_cons_succ]
                refine wpAnyH_take (i := 12) (oi := { dst := some 151, op := Op.pick (Operand.tmp 145) (Operand.tmp 150) (Operand.const (Value.bool false)), type := 4, pos := "plain.go:193", after := #[{ on := 6, ground := Ground.data }, { on := 11, ground := Ground.data }, { on := 2, ground := Ground.guard }], guard := some (2, false) }) rfl (by kernel_rfl) (by kernel_rfl) (by kernel_rfl) (fun _ _ _ h => h) (Or.inr ⟨by rfl, rfl⟩) (by assumption) ?_
                simp only [Act.put, List.setIfInBounds_toArray, List.set_cons_zero, List.set_cons_succ]
                refine wpAnyH_take (i := 13) (oi := { dst := some 152, op := Op.move (Operand.tmp 151), type := 4, pos := "plain.go:193", after := #[{ on := 12, ground := Ground.data }, { on := 6, ground := Ground.chain }, { on := 2, ground := Ground.guard }], guard := some (2, false) }) rfl (by kernel_rfl) (by kernel_rfl) (by kernel_rfl) (fun _ _ _ h => h) (Or.inr ⟨by rfl, rfl⟩) (by assumption) ?_
                simp only [Act.put, List.setIfInBounds_toArray, List.set_cons_zero, List.set_cons_succ]
                refine wpAnyH_take (i := 14) (oi := { dst := some 153, op := Op.move (Operand.tmp 18), type := 32, pos := "plain.go:193", after := #[{ on := 13, ground := Ground.guard }], guard := some (13, true) }) rfl (by kernel_rfl) (by kernel_rfl) (by kernel_rfl) (fun _ _ _ h => h) (Or.inr ⟨by rfl, rfl⟩) (by assumption) ?_
                simp only [Act.put, List.setIfInBounds_toArray, List.set_cons_zero, List.set_cons_succ]
                refine wpAnyH_take (i := 15) (oi := { dst := some 154, op := Op.indexAddr 32 (Operand.tmp 153) (Operand.const (Value.int IntKind.i64 0)), type := 0, pos := "plain.go:193", after := #[{ on := 14, ground := Ground.data }, { on := 13, ground := Ground.guard }], guard := some (13, true) }) rfl (by kernel_rfl) (by kernel_rfl) (by kernel_rfl) (fun _ _ _ h => h) (Or.inr ⟨by rfl, rfl⟩) (by assumption) ?_
                simp only [Act.put, List.setIfInBounds_toArray, List.set_cons_zero, List.set_cons_succ]
                refine wpAnyH_take (i := 16) (oi := { dst := some 155, op := Op.fieldAddr 36 (Operand.tmp 154) 2, type := 0, pos := "plain.go:193", after := #[{ on := 15, ground := Ground.data }, { on := 13, ground := Ground.guard }], guard := some (13, true) }) rfl (by kernel_rfl) (by kernel_rfl) (by kernel_rfl) (fun _ _ _ h => h) (Or.inr ⟨by rfl, rfl⟩) (by assumption) ?_
                simp only [Act.put, List.setIfInBounds_toArray, List.set_cons_zero, List.set_cons_succ]
                refine wpAnyH_take (i := 17) (oi := { dst := some 156, op := Op.load 9 (Operand.tmp 155), type := 9, pos := "plain.go:193", after := #[{ on := 16, ground := Ground.data }, { on := 13, ground := Ground.guard }], guard := some (13, true) }) rfl (by kernel_rfl) (by kernel_rfl) (by kernel_rfl) (fun _ _ _ h => h) (Or.inr ⟨by rfl, rfl⟩) (by assumption) ?_
                simp only [Act.put, List.setIfInBounds_toArray, List.set_cons_zero, List.set_cons_succ]
                refine wpAnyH_take (i := 18) (oi := { dst := some 157, op := Op.move (Operand.tmp 0), type := 3, pos := "plain.go:193", after := #[{ on := 13, ground := Ground.guard }], guard := some (13, true) }) rfl (by kernel_rfl) (by kernel_rfl) (by kernel_rfl) (fun _ _ _ h => h) (Or.inr ⟨by rfl, rfl⟩) (by assumption) ?_
                simp only [Act.put, List.setIfInBounds_toArray, List.set_cons_zero, List.set_cons_succ]
                refine wpAnyH_take (i := 19) (oi := { dst := some 158, op := Op.move (Operand.tmp 3), type := 3, pos := "plain.go:193", after := #[{ on := 13, ground := Ground.guard }], guard := some (13, true) }) rfl (by kernel_rfl) (by kernel_rfl) (by kernel_rfl) (fun _ _ _ h => h) (Or.inr ⟨by rfl, rfl⟩) (by assumption) ?_
                simp only [Act.put, List.setIfInBounds_toArray, List.set_cons_zero, List.set_cons_succ]
                refine wpAnyH_take (i := 20) (oi := { dst := some 159, op := Op.call { callee := Callee.value (Operand.func 12), args := #[Operand.tmp 157, Operand.tmp 158], argTypes := #[3, 3] }, type := 9, pos := "plain.go:193", after := #[{ on := 18, ground := Ground.data }, { on := 19, ground := Ground.data }, { on := 13, ground := Ground.chain }, { on := 13, ground := Ground.guard }], guard := some (13, true) }) rfl (by kernel_rfl) (by kernel_rfl) (by kernel_rfl) (fun _ _ _ h => h) (Or.inr ⟨by rfl, rfl⟩) (by assumption) ?_
                simp only [Act.put, List.setIfInBounds_toArray, List.set_cons_zero, List.set_cons_succ]
                refine wpAnyH_take (i := 21) (oi := { dst := some 160, op := Op.binOp BinOp.eql 9 (Operand.tmp 156) (Operand.tmp 159) 9, type := 4, pos := "plain.go:193", after := #[{ on := 17, ground := Ground.data }, { on := 20, ground := Ground.data }, { on := 13, ground := Ground.guard }], guard := some (13, true) }) rfl (by kernel_rfl) (by kernel_rfl) (by kernel_rfl) (fun _ _ _ h => h) (Or.inr ⟨by rfl, rfl⟩) (by assumption) ?_
                simp only [Act.put, List.setIfInBounds_toArray, List.set_cons_zero, List.set_cons_succ]
                refine wpAnyH_take (i := 22) (oi := { dst := some 161, op := Op.pick (Operand.tmp 152) (Operand.tmp 160) (Operand.const (Value.bool false)), type := 4, pos := "plain.go:193", after := #[{ on := 13, ground := Ground.data }, { on := 21, ground := Ground.data }, { on := 2, ground := Ground.guard }], guard := some (2, false) }) rfl (by kernel_rfl) (by kernel_rfl) (by kernel_rfl) (fun _ _ _ h => h) (Or.inr ⟨by rfl, rfl⟩) (by assumption) ?_
                simp only [Act.put, List.setIfInBounds_toArray, List.set_cons_zero, List.set_cons_succ]
                refine wpAnyH_take (i := 23) (oi := { dst := some 162, op := Op.pick (Operand.tmp 141) (Operand.const (Value.bool true)) (Operand.tmp 161), type := 4, pos := "plain.go:193", after := #[{ on := 2, ground := Ground.data }, { on := 22, ground := Ground.data }], guard := none }) (v := ?vfb23) rfl (by kernel_rfl) (by kernel_rfl) (by kernel_rfl) (fun _ _ _ h => h) (Or.inl ⟨by rfl, ?hfb23⟩) (by assumption) ?rfb23
                case hfb23 => (intro w0 hSw; (try dsimp only at hSw); go_simp; try (with_reducible rfl))
                simp only [Act.put, List.setIfInBounds_toArray, List.set_cons_zero, List.set_cons_succ]
                refine wpAnyH_take (i := 24) (oi := { dst := some 8, op := Op.assign (Operand.tmp 162), type := 4, pos := "plain.go:193", after := #[{ on := 23, ground := Ground.data }, { on := 20, ground := Ground.chain }, { on := 0, ground := Ground.phase }, { on := 1, ground := Ground.phase }, { on := 2, ground := Ground.phase }, { on := 3, ground := Ground.phase }, { on := 4, ground := Ground.phase }, { on := 5, ground := Ground.phase }, { on := 6, ground := Ground.phase }, { on := 7, ground := Ground.phase }, { on := 8, ground := Ground.phase }, { on := 9, ground := Ground.phase }, { on := 10, ground := Ground.phase }, { on := 11, ground := Ground.phase }, { on := 12, ground := Ground.phase }, { on := 13, ground := Ground.phase }, { on := 14, ground := Ground.phase }, { on := 15, ground := Ground.phase }, { on := 16, ground := Ground.phase }, { on := 17, ground := Ground.phase }, { on := 18, ground := Ground.phase }, { on := 19, ground := Ground.phase }, { on := 20, ground := Ground.phase }, { on := 21, ground := Ground.phase }, { on := 22, ground := Ground.phase }, { on := 23, ground := Ground.phase }], guard := none }) (v := ?vfb24) rfl (by kernel_rfl) (by kernel_rfl) (by kernel_rfl) (fun _ _ _ h => h) (Or.inl ⟨by rfl, ?hfb24⟩) (by assumption) ?rfb24
                case hfb24 => (intro w0 hSw; (try dsimp only at hSw); go_simp; try (with_reducible rfl))
                simp only [Act.put, List.setIfInBounds_toArray, List.set_cons_zero, List.set_cons_succ]
                refine wpAnyH_done (by kernel_rfl) ?_ _
                go_wp2_with fail
                go_ret
                exact ⟨rfl, HZ.out.be.drew⟩
              | true =>
                have hLp : 0 < L := by
                  have h1 := HT.out.2.2
                  have h2 := List.length_pos_of_mem (hth2 rfl)
                  omega
                obtain ⟨g6, rfl, c60⟩ := hA2 (hth2 rfl)
                obtain ⟨rfl, g8, rfl, c80⟩ := hN8 (hth2 rfl)
                clear hth2 hN8 hA2
                generalize (bitC n q).1 = sq at HBq c60
                go_wp2_with (first
                  | (go_at_call 18; refine (len_any _ HZ.out.tr).mono ?_; rintro e' w' ⟨rfl, he'⟩; subst he')
                  | go_in)
                refine wp_region_held_drew (S := fun w' => w'.cell? ⟨g6, 2, none⟩ = some (.string sq) ∧ w'.cell? ⟨g8, 0, none⟩ = some (.int .i64 0)) (by kernel_rfl) ?_ (fun hHeld => ?_)
                · exact ⟨c60, c80⟩
                refine wpAnyH_take (i := 0) (oi := { dst := some 139, op := Op.move (Operand.tmp 17), type := 4, pos := "plain.go:193", after := #[], guard := none }) (v := ?vtb0) rfl (by kernel_rfl) (by kernel_rfl) (by kernel_rfl) (fun _ _ _ h => h) (Or.inl ⟨by rfl, ?htb0⟩) (by assumption) ?rtb0
                case htb0 => (intro w0 hSw; (try dsimp only at hSw); go_simp; try (with_reducible rfl))
                simp only [Act.put, List.setIfInBounds_toArray, List.set_cons_zero, List.set_cons_succ]
                refine wpAnyH_take (i := 1) (oi := { dst := some 140, op := Op.unOp UnOp.not 4 (Operand.tmp 139), type := 4, pos := "plain.go:193", after := #[{ on := 0, ground := Ground.data }], guard := none }) (v := ?vtb1) rfl (by kernel_rfl) (by kernel_rfl) (by kernel_rfl) (fun _ _ _ h => h) (Or.inl ⟨by rfl, ?htb1⟩) (by assumption) ?rtb1
                case htb1 => (intro w0 hSw; (try dsimp only at hSw); go_simp; try (with_reducible rfl))
                simp only [Act.put, List.setIfInBounds_toArray, List.set_cons_zero, List.set_cons_succ]
                refine wpAnyH_take (i := 2) (oi := { dst := some 141, op := Op.move (Operand.tmp 140), type := 4, pos := "plain.go:193", after := #[{ on := 1, ground := Ground.data }], guard := none }) (v := ?vtb2) rfl (by kernel_rfl) (by kernel_rfl) (by kernel_rfl) (fun _ _ _ h => h) (Or.inl ⟨by rfl, ?htb2⟩) (by assumption) ?rtb2
                case htb2 => (intro w0 hSw; (try dsimp only at hSw); go_simp; try (with_reducible rfl))
                simp only [Act.put, List.setIfInBounds_toArray, List.set_cons_zero, List.set_cons_succ]
                refine wpAnyH_take (i := 3) (oi := { dst := some 142, op := Op.move (Operand.tmp 20), type := 32, pos := "plain.go:193", after := #[{ on := 2, ground := Ground.guard }], guard := some (2, false) }) (v := ?vtb3) rfl (by kernel_rfl) (by kernel_rfl) (by kernel_rfl) (fun _ _ _ h => h) (Or.inl ⟨by rfl, ?htb3⟩) (by assumption) ?rtb3
                case htb3 => (intro w0 hSw; (try dsimp only at hSw); go_simp; try (with_reducible rfl))
                simp only [Act.put, List.setIfInBounds_toArray, List.set_cons_zero, List.set_cons_succ]
                refine wpAnyH_take (i := 4) (oi := { dst := some 143, op := Op.call { callee := Callee.builtin Builtin.len, args := #[Operand.tmp 142], argTypes := #[32] }, type := 3, pos := "plain.go:193", after := #[{ on := 3, ground := Ground.data }, { on := 2, ground := Ground.guard }], guard := some (2, false) }) (v := ?vtb4) rfl (by kernel_rfl) (by kernel_rfl) (by kernel_rfl) (fun _ _ _ h => h) (Or.inl ⟨by rfl, ?htb4⟩) (by assumption) ?rtb4
                case htb4 => (intro w0 hSw; (try dsimp only at hSw); go_simp; try (with_reducible rfl))
                simp only [Act.put, List.setIfInBounds_toArray, List.set_cons_zero, List.set_cons_succ]
                refine wpAnyH_take (i := 5) (oi := { dst := some 144, op := Op.binOp BinOp.eql 3 (Operand.tmp 143) (Operand.const (Value.int IntKind.i64 1)) 3, type := 4, pos := "plain.go:193", after := #[{ on := 4, ground := Ground.data }, { on := 2, ground := Ground.guard }], guard := some (2, false) }) (v := ?vtb5) rfl (by kernel_rfl) (by kernel_rfl) (by kernel_rfl) (fun _ _ _ h => h) (Or.inl ⟨by rfl, ?htb5⟩) (by assumption) ?rtb5
                case htb5 => (intro w0 hSw; (try dsimp only at hSw); go_simp; try (with_reducible rfl))
                simp only [Act.put, List.setIfInBounds_toArray, List.set_cons_zero, List.set_cons_succ]
                refine wpAnyH_take (i := 6) (oi := { dst := some 145, op := Op.move (Operand.tmp 144), type := 4, pos := "plain.go:193", after := #[{ on := 5, ground := Ground.data }, { on := 2, ground := Ground.chain }, { on := 2, ground := Ground.guard }], guard := some (2, false) }) (v := ?vtb6) rfl (by kernel_rfl) (by kernel_rfl) (by kernel_rfl) (fun _ _ _ h => h) (Or.inl ⟨by rfl, ?htb6⟩) (by assumption) ?rtb6
                case htb6 => (intro w0 hSw; (try dsimp only at hSw); go_simp; try (with_reducible rfl))
                simp only [Act.put, List.setIfInBounds_toArray, List.set_cons_zero, List.set_cons_succ]
                refine wpAnyH_take (i := 7) (oi := { dst := some 146, op := Op.move (Operand.tmp 20), type := 32, pos := "plain.go:193", after := #[{ on := 6, ground := Ground.guard }], guard := some (6, true) }) (v := ?vtb7) rfl (by kernel_rfl) (by kernel_rfl) (by kernel_rfl) (fun _ _ _ h => h) (Or.inl ⟨by rfl, ?htb7⟩) (by assumption) ?rtb7
                case htb7 => (intro w0 hSw; (try dsimp only at hSw); go_simp; try (with_reducible rfl))
                simp only [Act.put, List.setIfInBounds_toArray, List.set_cons_zero, List.set_cons_succ]
                refine wpAnyH_take (i := 8) (oi := { dst := some 147, op := Op.indexAddr 32 (Operand.tmp 146) (Operand.const (Value.int IntKind.i64 0)), type := 0, pos := "plain.go:193", after := #[{ on := 7, ground := Ground.data }, { on := 6, ground := Ground.guard }], guard := some (6, true) }) (v := ?vtb8) rfl (by kernel_rfl) (by kernel_rfl) (by kernel_rfl) (fun _ _ _ h => h) (Or.inl ⟨by rfl, ?htb8⟩) (by assumption) ?rtb8
                case htb8 => (intro w0 hSw; (try dsimp only at hSw); go_simp; try (with_reducible rfl))
                simp only [Act.put, List.setIfInBounds_toArray, List.set_cons_zero, List.set_cons_succ]
                refine wpAnyH_take (i := 9) (oi := { dst := some 148, op := Op.fieldAddr 36 (Operand.tmp 147) 0, type := 0, pos := "plain.go:193", after := #[{ on := 8, ground := Ground.data }, { on := 6, ground := Ground.guard }], guard := some (6, true) }) (v := ?vtb9) rfl (by kernel_rfl) (by kernel_rfl) (by kernel_rfl) (fun _ _ _ h => h) (Or.inl ⟨by rfl, ?htb9⟩) (by assumption) ?rtb9
                case htb9 => (intro w0 hSw; (try dsimp only at hSw); go_simp; try (with_reducible rfl))
                simp only [Act.put, List.setIfInBounds_toArray, List.set_cons_zero, List.set_cons_succ]
                refine wpAnyH_take (i := 10) (oi := { dst := some 149, op := Op.load 3 (Operand.tmp 148), type := 3, pos := "plain.go:193", after := #[{ on := 9, ground := Ground.data }, { on := 6, ground := Ground.guard }], guard := some (6, true) }) (v := ?vtb10) rfl (by kernel_rfl) (by kernel_rfl) (by kernel_rfl) (fun _ _ _ h => h) (Or.inl ⟨by rfl, ?htb10⟩) (by assumption) ?rtb10
                case htb10 => (intro w0 hSw; (try dsimp only at hSw); go_simp; try (with_reducible rfl))
                simp only [Act.put, List.setIfInBounds_toArray, List.set_cons_zero, List.set_cons_succ]
                refine wpAnyH_take (i := 11) (oi := { dst := some 150, op := Op.binOp BinOp.eql 3 (Operand.tmp 149) (Operand.const (Value.int IntKind.i64 0)) 3, type := 4, pos := "plain.go:193", after := #[{ on := 10, ground := Ground.data }, { on := 6, ground := Ground.guard }], guard := some (6, true) }) (v := ?vtb11) rfl (by kernel_rfl) (by kernel_rfl) (by kernel_rfl) (fun _ _ _ h => h) (Or.inl ⟨by rfl, ?htb11⟩) (by assumption) ?rtb11
                case htb11 => (intro w0 hSw; (try dsimp only at hSw); go_simp; try (with_reducible rfl))
                simp only [Act.put, List.setIfInBounds_toArray, List.set_cons_zero, List.set_cons_succ]
                refine wpAnyH_take (i := 12) (oi := { dst := some 151, op := Op.pick (Operand.tmp 145) (Operand.tmp 150) (Operand.const (Value.bool false)), type := 4, pos := "plain.go:193", after := #[{ on := 6, ground := Ground.data }, { on := 11, ground := Ground.data }, { on := 2, ground := Ground.guard }], guard := some (2, false) }) (v := ?vtb12) rfl (by kernel_rfl) (by kernel_rfl) (by kernel_rfl) (fun _ _ _ h => h) (Or.inl ⟨by rfl, ?htb12⟩) (by assumption) ?rtb12
                case htb12 => (intro w0 hSw; (try dsimp only at hSw); go_simp; try (with_reducible rfl))
                simp only [Act.put, List.setIfInBounds_toArray, List.set_cons_zero, List.set_cons_succ]
                refine wpAnyH_take (i := 13) (oi := { dst := some 152, op := Op.move (Operand.tmp 151), type := 4, pos := "plain.go:193", after := #[{ on := 12, ground := Ground.data }, { on := 6, ground := Ground.chain }, { on := 2, ground := Ground.guard }], guard := some (2, false) }) (v := ?vtb13) rfl (by kernel_rfl) (by kernel_rfl) (by kernel_rfl) (fun _ _ _ h => h) (Or.inl ⟨by rfl, ?htb13⟩) (by assumption) ?rtb13
                case htb13 => (intro w0 hSw; (try dsimp only at hSw); go_simp; try (with_reducible rfl))
                simp only [Act.put, List.setIfInBounds_toArray, List.set_cons_zero, List.set_cons_succ]
                refine wpAnyH_take (i := 14) (oi := { dst := some 153, op := Op.move (Operand.tmp 18), type := 32, pos := "plain.go:193", after := #[{ on := 13, ground := Ground.guard }], guard := some (13, true) }) (v := ?vtb14) rfl (by kernel_rfl) (by kernel_rfl) (by kernel_rfl) (fun _ _ _ h => h) (Or.inl ⟨by rfl, ?htb14⟩) (by assumption) ?rtb14
                case htb14 => (intro w0 hSw; (try dsimp only at hSw); go_simp; try (with_reducible rfl))
                simp only [Act.put, List.setIfInBounds_toArray, List.set_cons_zero, List.set_cons_succ]
                refine wpAnyH_take (i := 15) (oi := { dst := some 154, op := Op.indexAddr 32 (Operand.tmp 153) (Operand.const (Value.int IntKind.i64 0)), type := 0, pos := "plain.go:193", after := #[{ on := 14, ground := Ground.data }, { on := 13, ground := Ground.guard }], guard := some (13, true) }) (v := ?vtb15) rfl (by kernel_rfl) (by kernel_rfl) (by kernel_rfl) (fun _ _ _ h => h) (Or.inl ⟨by rfl, ?htb15⟩) (by assumption) ?rtb15
                case htb15 => (intro w0 hSw; (try dsimp only at hSw); go_simp; try (with_reducible rfl))
                simp only [Act.put, List.setIfInBounds_toArray, List.set_cons_zero, List.set_cons_succ]
                refine wpAnyH_take (i := 16) (oi := { dst := some 155, op := Op.fieldAddr 36 (Operand.tmp 154) 2, type := 0, pos := "plain.go:193", after := #[{ on := 15, ground := Ground.data }, { on := 13, ground := Ground.guard }], guard := some (13, true) }) (v := ?vtb16) rfl (by kernel_rfl) (by kernel_rfl) (by kernel_rfl) (fun _ _ _ h => h) (Or.inl ⟨by rfl, ?htb16⟩) (by assumption) ?rtb16
                case htb16 => (intro w0 hSw; (try dsimp only at hSw); go_simp; try (with_reducible rfl))
                simp only [Act.put, List.setIfInBounds_toArray, List.set_cons_zero, List.set_cons_succ]
                refine wpAnyH_take (i := 17) (oi := { dst := some 156, op := Op.load 9 (Operand.tmp 155), type := 9, pos := "plain.go:193", after := #[{ on := 16, ground := Ground.data }, { on := 13, ground := Ground.guard }], guard := some (13, true) }) (v := ?vtb17) rfl (by kernel_rfl) (by kernel_rfl) (by kernel_rfl) (fun _ _ _ h => h) (Or.inl ⟨by rfl, ?htb17⟩) (by assumption) ?rtb17
                case htb17 => (intro w0 hSw; (try dsimp only at hSw); go_simp; try (with_reducible rfl))
                simp only [Act.put, List.setIfInBounds_toArray, List.set_cons_zero, List.set_cons_succ]
                refine wpAnyH_take (i := 18) (oi := { dst := some 157, op := Op.move (Operand.tmp 0), type := 3, pos := "plain.go:193", after := #[{ on := 13, ground := Ground.guard }], guard := some (13, true) }) (v := ?vtb18) rfl (by kernel_rfl) (by kernel_rfl) (by kernel_rfl) (fun _ _ _ h => h) (Or.inl ⟨by rfl, ?htb18⟩) (by assumption) ?rtb18
                case htb18 => (intro w0 hSw; (try dsimp only at hSw); go_simp; try (with_reducible rfl))
                simp only [Act.put, List.setIfInBounds_toArray, List.set_cons_zero, List.set_cons_succ]
                refine wpAnyH_take (i := 19) (oi := { dst := some 158, op := Op.move (Operand.tmp 3), type := 3, pos := "plain.go:193", after := #[{ on := 13, ground := Ground.guard }], guard := some (13, true) }) (v := ?vtb19) rfl (by kernel_rfl) (by kernel_rfl) (by kernel_rfl) (fun _ _ _ h => h) (Or.inl ⟨by rfl, ?htb19⟩) (by assumption) ?rtb19
                case htb19 => (intro w0 hSw; (try dsimp only at hSw); go_simp; try (with_reducible rfl))
                simp only [Act.put, List.setIfInBounds_toArray, List.set_cons_zero, List.set_cons_succ]
                refine wpAnyH_ready (rs := [20]) (by kernel_rfl) (by simp) ?_
                refine AllReadyH.cons rfl (fun K hK => ?_) AllReadyH.nil
                go_simp
                go_wp2_with (go_at_call 12; refine (HBq.out _).mono ?_; rintro e' w9 ⟨rfl, b9⟩; have hE := chain HE.out b9 (Nat.le_refl _); clear HE; have HE := Hid.mk hE)
                refine hK.out _ _ ?_ (fun hHeld => ?_)
                · exact ⟨cell_lat hE c60, cell_lat hE c80⟩
                clear hK K
                refine wpAnyH_take (i := 21) (oi := { dst := some 160, op := Op.binOp BinOp.eql 9 (Operand.tmp 156) (Operand.tmp 159) 9, type := 4, pos := "plain.go:193", after := #[{ on := 17, ground := Ground.data }, { on := 20, ground := Ground.data }, { on := 13, ground := Ground.guard }], guard := some (13, true) }) (v := ?vtb21) rfl (by kernel_rfl) (by kernel_rfl) (by kernel_rfl) (fun _ _ _ h => h) (Or.inl ⟨by rfl, ?htb21⟩) (by assumption) ?rtb21
                case htb21 => (intro w0 hSw; (try dsimp only at hSw); go_simp; try (with_reducible rfl))
                simp only [Act.put, List.setIfInBounds_toArray, List.set_cons_zero, List.set_cons_succ]
                refine wpAnyH_take (i := 22) (oi := { dst := some 161, op := Op.pick (Operand.tmp 152) (Operand.tmp 160) (Operand.const (Value.bool false)), type := 4, pos := "plain.go:193", after := #[{ on := 13, ground := Ground.data }, { on := 21, ground := Ground.data }, { on := 2, ground := Ground.guard }], guard := some (2, false) }) (v := ?vtb22) rfl (by kernel_rfl) (by kernel_rfl) (by kernel_rfl) (fun _ _ _ h => h) (Or.inl ⟨by rfl, ?htb22⟩) (by assumption) ?rtb22
                case htb22 => (intro w0 hSw; (try dsimp only at hSw); go_simp; try (with_reducible rfl))
                simp only [Act.put, List.setIfInBounds_toArray, List.set_cons_zero, List.set_cons_succ]
                refine wpAnyH_take (i := 23) (oi := { dst := some 162, op := Op.pick (Operand.tmp 141) (Operand.const (Value.bool true)) (Operand.tmp 161), type := 4, pos := "plain.go:193", after := #[{ on := 2, ground := Ground.data }, { on := 22, ground := Ground.data }], guard := none }) (v := ?vtb23) rfl (by kernel_rfl) (by kernel_rfl) (by kernel_rfl) (fun _ _ _ h => h) (Or.inl ⟨by rfl, ?htb23⟩) (by assumption) ?rtb23
                case htb23 => (intro w0 hSw; (try dsimp only at hSw); go_simp; try (with_reducible rfl))
                simp only [Act.put, List.setIfInBounds_toArray, List.set_cons_zero, List.set_cons_succ]
                refine wpAnyH_take (i := 24) (oi := { dst := some 8, op := Op.assign (Operand.tmp 162), type := 4, pos := "plain.go:193", after := #[{ on := 23, ground := Ground.data }, { on := 20, ground := Ground.chain }, { on := 0, ground := Ground.phase }, { on := 1, ground := Ground.phase }, { on := 2, ground := Ground.phase }, { on := 3, ground := Ground.phase }, { on := 4, ground := Ground.phase }, { on := 5, ground := Ground.phase }, { on := 6, ground := Ground.phase }, { on := 7, ground := Ground.phase }, { on := 8, ground := Ground.phase }, { on := 9, ground := Ground.phase }, { on := 10, ground := Ground.phase }, { on := 11, ground := Ground.phase }, { on := 12, ground := Ground.phase }, { on := 13, ground := Ground.phase }, { on := 14, ground := Ground.phase }, { on := 15, ground := Ground.phase }, { on := 16, ground := Ground.phase }, { on := 17, ground := Ground.phase }, { on := 18, ground := Ground.phase }, { on := 19, ground := Ground.phase }, { on := 20, ground := Ground.phase }, { on := 21, ground := Ground.phase }, { on := 22, ground := Ground.phase }, { on := 23, ground := Ground.phase }], guard := none }) (v := ?vtb24) rfl (by kernel_rfl) (by kernel_rfl) (by kernel_rfl) (fun _ _ _ h => h) (Or.inl ⟨by rfl, ?htb24⟩) (by assumption) ?rtb24
                case htb24 => (intro w0 hSw; (try dsimp only at hSw); go_simp; try (with_reducible rfl))
                simp only [Act.put, List.setIfInBounds_toArray, List.set_cons_zero, List.set_cons_succ]
                refine wpAnyH_done (by kernel_rfl) ?_ _
                go_wp2_with fail
                go_ret
                exact ⟨rfl, chain HZ.out.be HE.out (Nat.le_refl _)⟩
            · have q1 : decide (Q < 0) = false := by simpa using hq3
              have q2 : decide ((w8 : Int) ≤ Q) = true := by simp; omega
              have hqz : ((q : Nat) : Int) = 0 := by rw [hq0]; rfl
              have HQZ := Hid.mk hqz
              clear hq hq0 hqz hq3
              have HBq := Hid.mk (show ∀ w, Calls Tryd.prog 12 #[.int .i64 w8, .int .i64 0] w fun r w' => r = .returned (.string (bitC n q).1) ∧ Below w.heap.size w w' from fun w => by have h := HBt.out q hqw w; rwa [HQZ.out] at h)
              go_wp2_with fail
              refine (HBq.out wr).mono ?_
              rintro e w3 ⟨rfl, b3⟩
              have o3 := HT.out.1.below b3
              go_wp2_with fail
              refine (has_any (bitC n q).1 w3 o3.tr (HW.out w3 o3.be) (by have := o3.tr.lt (.inl rfl); omega)).mono ?_
              rintro e w4 ⟨b4, there, rfl, hth⟩
              have hth2 : there = true → bitC n q ∈ lives T := fun h => by
                obtain ⟨c, hc, e⟩ := hth.1 h
                rwa [show c = bitC n q from Subtype.ext e] at hc
              have o4 := o3.below b4
              clear o3 b3 b4 hth
              go_wp2_with fail
              refine (HBq.out w4).mono ?_
              rintro e w5 ⟨rfl, b5⟩
              have o5 := o4.below b5
              have hT40 : T.length < 1099511627776 := by have := HT.out.2.1.le; omega
              clear o4 b5
              go_wp2_with fail
              refine (within_any (bitC n q).1 2 w5 o5.tr (HW.out w5 o5.be) htp hT40).mono ?_
              rintro e w6 hwO
              obtain ⟨a6, c6, x6, rfl, o6, hA⟩ := with_bit o5 HT.out.2.1 (by omega) hqm hwO
              clear hwO o5
              go_wp2_with fail
              refine (HBq.out w6).mono ?_
              rintro e w7 ⟨rfl, b7⟩
              have o7 := o6.below b7
              go_wp2_with fail
              refine (nearest_any (bitC n q).1 1 w7 o7.tr (HW.out w7 o7.be) htp hT40).mono ?_
              rintro e wz hnO
              obtain ⟨a8, k8, c8, x8, rfl, oz, hst, hN8⟩ := near_bit o7 hnO
              have hA2 : bitC n q ∈ lives T → ∃ g, a6 = some ⟨g, 0, none⟩ ∧ wz.cell? ⟨g, 2, none⟩ = some (.string (bitC n q).1) := fun h => by
                obtain ⟨g, h1, h2, h3⟩ := hA h
                have h4 := cell_lat b7 h3
                exact ⟨g, h1, cell_sty hst (fun e => by
                  rcases e with e | e
                  · exact h2 e
                  · have := World.block_lt_of_cell? w7 _ h4; simp at this; omega) h4⟩
              have hlive : (x8.live : Int) = L := by rw [HT.out.2.2, oz.tr.live]
              have hll2 : (((lives T).length : Nat) : Int) = L := HT.out.2.2.symm
              have HZ := Hid.mk oz
              clear hnO o6 o7 b7 hA hst oz
              obtain ⟨tl, htl⟩ : ∃ tl, tl = (lives T).length := ⟨_, rfl⟩
              rw [← htl] at hll2 ⊢
              clear htl
              have hE := (Below.refl wz.heap.size wz).drew
              have HE := Hid.mk hE
              clear hE
              cases there with
              | false =>
                clear hth2 hN8 hA2
                go_wp2_with (first
                  | (go_at_call 18; refine (len_any _ HZ.out.tr).mono ?_; rintro e' w' ⟨rfl, he'⟩; subst he')
                  | go_in)
                refine wp_region_held_drew (S := fun _ => True) (by kernel_rfl) ?_ (fun hHeld => ?_)
                · trivial
                refine wpAnyH_take (i := 0) (oi := { dst := some 139, op := Op.move (Operand.tmp 17), type := 4, pos := "plain.go:193", after := #[], guard := none }) (v := ?vfc0) rfl (by kernel_rfl) (by kernel_rfl) (by kernel_rfl) (fun _ _ _ h => h) (Or.inl ⟨by rfl, ?hfc0⟩) (by assumption) ?rfc0
                case hfc0 => (intro w0 hSw; (try dsimp only at hSw); go_simp; try (with_reducible rfl))
                simp only [Act.put, List.setIfInBounds_toArray, List.set_cons_zero, List.set_cons_succ]
                refine wpAnyH_take (i := 1) (oi := { dst := some 140, op := Op.unOp UnOp.not 4 (Operand.tmp 139), type := 4, pos := "plain.go:193", after := #[{ on := 0, ground := Ground.data }], guard := none }) (v := ?vfc1) rfl (by kernel_rfl) (by kernel_rfl) (by kernel_rfl) (fun _ _ _ h => h) (Or.inl ⟨by rfl, ?hfc1⟩) (by assumption) ?rfc1
                case hfc1 => (intro w0 hSw; (try dsimp only at hSw); go_simp; try (with_reducible rfl))
                simp only [Act.put, List.setIfInBounds_toArray, List.set_cons_zero, List.set_cons_succ]
                refine wpAnyH_take (i := 2) (oi := { dst := some 141, op := Op.move (Operand.tmp 140), type := 4, pos := "plain.go:193", after := #[{ on := 1, ground := Ground.data }], guard := none }) (v := ?vfc2) rfl (by kernel_rfl) (by kernel_rfl) (by kernel_rfl) (fun _ _ _ h => h) (Or.inl ⟨by rfl, ?hfc2⟩) (by assumption) ?rfc2
                case hfc2 => (intro w0 hSw; (try dsimp only at hSw); go_simp; try (with_reducible rfl))
                simp only [Act.put, List.setIfInBounds_toArray, List.set_cons_zero, List.set_cons_succ]
                refine wpAnyH_take (i := 3) (oi := { dst := some 142, op := Op.move (Operand.tmp 20), type := 32, pos := "plain.go:193", after := #[{ on := 2, ground := Ground.guard }], guard := some (2, false) }) rfl (by kernel_rfl) (by kernel_rfl) (by kernel_rfl) (fun _ _ _ h => h) (Or.inr ⟨by rfl, rfl⟩) (by assumption) ?_
                simp only [Act.put, List.setIfInBounds_toArray, List.set_cons_zero, List.set_cons_succ]
                refine wpAnyH_take (i := 4) (oi := { dst := some 143, op := Op.call { callee := Callee.builtin Builtin.len, args := #[Operand.tmp 142], argTypes := #[32] }, type := 3, pos := "plain.go:193", after := #[{ on := 3, ground := Ground.data }, { on := 2, ground := Ground.guard }], guard := some (2, false) }) rfl (by kernel_rfl) (by kernel_rfl) (by kernel_rfl) (fun _ _ _ h => h) (Or.inr ⟨by rfl, rfl⟩) (by assumption) ?_
                simp only [Act.put, List.setIfInBounds_toArray, List.set_cons_zero, List.set_cons_succ]
                refine wpAnyH_take (i := 5) (oi := { dst := some 144, op := Op.binOp BinOp.eql 3 (Operand.tmp 143) (Operand.const (Value.int IntKind.i64 1)) 3, type := 4, pos := "plain.go:193", after := #[{ on := 4, ground := Ground.data }, { on := 2, ground := Ground.guard }], guard := some (2, false) }) rfl (by kernel_rfl) (by kernel_rfl) (by kernel_rfl) (fun _ _ _ h => h) (Or.inr ⟨by rfl, rfl⟩) (by assumption) ?_
                simp only [Act.put, List.setIfInBounds_toArray, List.set_cons_zero, List.set_cons_succ]
                refine wpAnyH_take (i := 6) (oi := { dst := some 145, op := Op.move (Operand.tmp 144), type := 4, pos := "plain.go:193", after := #[{ on := 5, ground := Ground.data }, { on := 2, ground := Ground.chain }, { on := 2, ground := Ground.guard }], guard := some (2, false) }) rfl (by kernel_rfl) (by kernel_rfl) (by kernel_rfl) (fun _ _ _ h => h) (Or.inr ⟨by rfl, rfl⟩) (by assumption) ?_
                simp only [Act.put, List.setIfInBounds_toArray, List.set_cons_zero, List.set_cons_succ]
                refine wpAnyH_take (i := 7) (oi := { dst := some 146, op := Op.move (Operand.tmp 20), type := 32, pos := "plain.go:193", after := #[{ on := 6, ground := Ground.guard }], guard := some (6, true) }) rfl (by kernel_rfl) (by kernel_rfl) (by kernel_rfl) (fun _ _ _ h => h) (Or.inr ⟨by rfl, rfl⟩) (by assumption) ?_
                simp only [Act.put, List.setIfInBounds_toArray, List.set_cons_zero, List.set_cons_succ]
                refine wpAnyH_take (i := 8) (oi := { dst := some 147, op := Op.indexAddr 32 (Operand.tmp 146) (Operand.const (Value.int IntKind.i64 0)), type := 0, pos := "plain.go:193", after := #[{ on := 7, ground := Ground.data }, { on := 6, ground := Ground.guard }], guard := some (6, true) }) rfl (by kernel_rfl) (by kernel_rfl) (by kernel_rfl) (fun _ _ _ h => h) (Or.inr ⟨by rfl, rfl⟩) (by assumption) ?_
                simp only [Act.put, List.setIfInBounds_toArray, List.set_cons_zero, List.set_cons_succ]
                refine wpAnyH_take (i := 9) (oi := { dst := some 148, op := Op.fieldAddr 36 (Operand.tmp 147) 0, type := 0, pos := "plain.go:193", after := #[{ on := 8, ground := Ground.data }, { on := 6, ground := Ground.guard }], guard := some (6, true) }) rfl (by kernel_rfl) (by kernel_rfl) (by kernel_rfl) (fun _ _ _ h => h) (Or.inr ⟨by rfl, rfl⟩) (by assumption) ?_
                simp only [Act.put, List.setIfInBounds_toArray, List.set_cons_zero, List.set_cons_succ]
                refine wpAnyH_take (i := 10) (oi := { dst := some 149, op := Op.load 3 (Operand.tmp 148), type := 3, pos := "plain.go:193", after := #[{ on := 9, ground := Ground.data }, { on := 6, ground := Ground.guard }], guard := some (6, true) }) rfl (by kernel_rfl) (by kernel_rfl) (by kernel_rfl) (fun _ _ _ h => h) (Or.inr ⟨by rfl, rfl⟩) (by assumption) ?_
                simp only [Act.put, List.setIfInBounds_toArray, List.set_cons_zero, List.set_cons_succ]
                refine wpAnyH_take (i := 11) (oi := { dst := some 150, op := Op.binOp BinOp.eql 3 (Operand.tmp 149) (Operand.const (Value.int IntKind.i64 0)) 3, type := 4, pos := "plain.go:193", after := #[{ on := 10, ground := Ground.data }, { on := 6, ground := Ground.guard }], guard := some (6, true) }) rfl (by kernel_rfl) (by kernel_rfl) (by kernel_rfl) (fun _ _ _ h => h) (Or.inr ⟨by rfl, rfl⟩) (by assumption) ?_
                simp only [Act.put, List.setIfInBounds_toArray, List.set_cons_zero, List.set_cons_succ]
                refine wpAnyH_take (i := 12) (oi := { dst := some 151, op := Op.pick (Operand.tmp 145) (Operand.tmp 150) (Operand.const (Value.bool false)), type := 4, pos := "plain.go:193", after := #[{ on := 6, ground := Ground.data }, { on := 11, ground := Ground.data }, { on := 2, ground := Ground.guard }], guard := some (2, false) }) rfl (by kernel_rfl) (by kernel_rfl) (by kernel_rfl) (fun _ _ _ h => h) (Or.inr ⟨by rfl, rfl⟩) (by assumption) ?_
                simp only [Act.put, List.setIfInBounds_toArray, List.set_cons_zero, List.set_cons_succ]
                refine wpAnyH_take (i := 13) (oi := { dst := some 152, op := Op.move (Operand.tmp 151), type := 4, pos := "plain.go:193", after := #[{ on := 12, ground := Ground.data }, { on := 6, ground := Ground.chain }, { on := 2, ground := Ground.guard }], guard := some (2, false) }) rfl (by kernel_rfl) (by kernel_rfl) (by kernel_rfl) (fun _ _ _ h => h) (Or.inr ⟨by rfl, rfl⟩) (by assumption) ?_
                simp only [Act.put, List.setIfInBounds_toArray, List.set_cons_zero, List.set_cons_succ]
                refine wpAnyH_take (i := 14) (oi := { dst := some 153, op := Op.move (Operand.tmp 18), type := 32, pos := "plain.go:193", after := #[{ on := 13, ground := Ground.guard }], guard := some (13, true) }) rfl (by kernel_rfl) (by kernel_rfl) (by kernel_rfl) (fun _ _ _ h => h) (Or.inr ⟨by rfl, rfl⟩) (by assumption) ?_
                simp only [Act.put, List.setIfInBounds_toArray, List.set_cons_zero, List.set_cons_succ]
                refine wpAnyH_take (i := 15) (oi := { dst := some 154, op := Op.indexAddr 32 (Operand.tmp 153) (Operand.const (Value.int IntKind.i64 0)), type := 0, pos := "plain.go:193", after := #[{ on := 14, ground := Ground.data }, { on := 13, ground := Ground.guard }], guard := some (13, true) }) rfl (by kernel_rfl) (by kernel_rfl) (by kernel_rfl) (fun _ _ _ h => h) (Or.inr ⟨by rfl, rfl⟩) (by assumption) ?_
                simp only [Act.put, List.setIfInBounds_toArray, List.set_cons_zero, List.set_cons_succ]
                refine wpAnyH_take (i := 16) (oi := { dst := some 155, op := Op.fieldAddr 36 (Operand.tmp 154) 2, type := 0, pos := "plain.go:193", after := #[{ on := 15, ground := Ground.data }, { on := 13, ground := Ground.guard }], guard := some (13, true) }) rfl (by kernel_rfl) (by kernel_rfl) (by kernel_rfl) (fun _ _ _ h => h) (Or.inr ⟨by rfl, rfl⟩) (by assumption) ?_
                simp only [Act.put, List.setIfInBounds_toArray, List.set_cons_zero, List.set_cons_succ]
                refine wpAnyH_take (i := 17) (oi := { dst := some 156, op := Op.load 9 (Operand.tmp 155), type := 9, pos := "plain.go:193", after := #[{ on := 16, ground := Ground.data }, { on := 13, ground := Ground.guard }], guard := some (13, true) }) rfl (by kernel_rfl) (by kernel_rfl) (by kernel_rfl) (fun _ _ _ h => h) (Or.inr ⟨by rfl, rfl⟩) (by assumption) ?_
                simp only [Act.put, List.setIfInBounds_toArray, List.set_cons_zero, List.set_cons_succ]
                refine wpAnyH_take (i := 18) (oi := { dst := some 157, op := Op.move (Operand.tmp 0), type := 3, pos := "plain.go:193", after := #[{ on := 13, ground := Ground.guard }], guard := some (13, true) }) rfl (by kernel_rfl) (by kernel_rfl) (by kernel_rfl) (fun _ _ _ h => h) (Or.inr ⟨by rfl, rfl⟩) (by assumption) ?_
                simp only [Act.put, List.setIfInBounds_toArray, List.set_cons_zero, List.set_cons_succ]
                refine wpAnyH_take (i := 19) (oi := { dst := some 158, op := Op.move (Operand.tmp 3), type := 3, pos := "plain.go:193", after := #[{ on := 13, ground := Ground.guard }], guard := some (13, true) }) rfl (by kernel_rfl) (by kernel_rfl) (by kernel_rfl) (fun _ _ _ h => h) (Or.inr ⟨by rfl, rfl⟩) (by assumption) ?_
                simp only [Act.put, List.setIfInBounds_toArray, List.set_cons_zero, List.set_cons_succ]
                refine wpAnyH_take (i := 20) (oi := { dst := some 159, op := Op.call { callee := Callee.value (Operand.func 12), args := #[Operand.tmp 157, Operand.tmp 158], argTypes := #[3, 3] }, type := 9, pos := "plain.go:193", after := #[{ on := 18, ground := Ground.data }, { on := 19, ground := Ground.data }, { on := 13, ground := Ground.chain }, { on := 13, ground := Ground.guard }], guard := some (13, true) }) rfl (by kernel_rfl) (by kernel_rfl) (by kernel_rfl) (fun _ _ _ h => h) (Or.inr ⟨by rfl, rfl⟩) (by assumption) ?_
                simp only [Act.put, List.setIfInBounds_toArray, List.set_cons_zero, List.set_cons_succ]
                refine wpAnyH_take (i := 21) (oi := { dst := some 160, op := Op.binOp BinOp.eql 9 (Operand.tmp 156) (Operand.tmp 159) 9, type := 4, pos := "plain.go:193", after := #[{ on := 17, ground := Ground.data }, { on := 20, ground := Ground.data }, { on := 13, ground := Ground.guard }], guard := some (13, true) }) rfl (by kernel_rfl) (by kernel_rfl) (by kernel_rfl) (fun _ _ _ h => h) (Or.inr ⟨by rfl, rfl⟩) (by assumption) ?_
                simp only [Act.put, List.setIfInBounds_toArray, List.set_cons_zero, List.set_cons_succ]
                refine wpAnyH_take (i := 22) (oi := { dst := some 161, op := Op.pick (Operand.tmp 152) (Operand.tmp 160) (Operand.const (Value.bool false)), type := 4, pos := "plain.go:193", after := #[{ on := 13, ground := Ground.data }, { on := 21, ground := Ground.data }, { on := 2, ground := Ground.guard }], guard := some (2, false) }) rfl (by kernel_rfl) (by kernel_rfl) (by kernel_rfl) (fun _ _ _ h => h) (Or.inr ⟨by rfl, rfl⟩) (by assumption) ?_
                simp only [Act.put, List.setIfInBounds_toArray, List.set_cons_zero, List.set_cons_succ]
                refine wpAnyH_take (i := 23) (oi := { dst := some 162, op := Op.pick (Operand.tmp 141) (Operand.const (Value.bool true)) (Operand.tmp 161), type := 4, pos := "plain.go:193", after := #[{ on := 2, ground := Ground.data }, { on := 22, ground := Ground.data }], guard := none }) (v := ?vfc23) rfl (by kernel_rfl) (by kernel_rfl) (by kernel_rfl) (fun _ _ _ h => h) (Or.inl ⟨by rfl, ?hfc23⟩) (by assumption) ?rfc23
                case hfc23 => (intro w0 hSw; (try dsimp only at hSw); go_simp; try (with_reducible rfl))
                simp only [Act.put, List.setIfInBounds_toArray, List.set_cons_zero, List.set_cons_succ]
                refine wpAnyH_take (i := 24) (oi := { dst := some 8, op := Op.assign (Operand.tmp 162), type := 4, pos := "plain.go:193", after := #[{ on := 23, ground := Ground.data }, { on := 20, ground := Ground.chain }, { on := 0, ground := Ground.phase }, { on := 1, ground := Ground.phase }, { on := 2, ground := Ground.phase }, { on := 3, ground := Ground.phase }, { on := 4, ground := Ground.phase }, { on := 5, ground := Ground.phase }, { on := 6, ground := Ground.phase }, { on := 7, ground := Ground.phase }, { on := 8, ground := Ground.phase }, { on := 9, ground := Ground.phase }, { on := 10, ground := Ground.phase }, { on := 11, ground := Ground.phase }, { on := 12, ground := Ground.phase }, { on := 13, ground := Ground.phase }, { on := 14, ground := Ground.phase }, { on := 15, ground := Ground.phase }, { on := 16, ground := Ground.phase }, { on := 17, ground := Ground.phase }, { on := 18, ground := Ground.phase }, { on := 19, ground := Ground.phase }, { on := 20, ground := Ground.phase }, { on := 21, ground := Ground.phase }, { on := 22, ground := Ground.phase }, { on := 23, ground := Ground.phase }], guard := none }) (v := ?vfc24) rfl (by kernel_rfl) (by kernel_rfl) (by kernel_rfl) (fun _ _ _ h => h) (Or.inl ⟨by rfl, ?hfc24⟩) (by assumption) ?rfc24
                case hfc24 => (intro w0 hSw; (try dsimp only at hSw); go_simp; try (with_reducible rfl))
                simp only [Act.put, List.setIfInBounds_toArray, List.set_cons_zero, List.set_cons_succ]
                refine wpAnyH_done (by kernel_rfl) ?_ _
                go_wp2_with fail
                go_ret
                exact ⟨rfl, HZ.out.be.drew⟩
              | true =>
                have hLp : 0 < L := by
                  have h1 := HT.out.2.2
                  have h2 := List.length_pos_of_mem (hth2 rfl)
                  omega
                obtain ⟨g6, rfl, c60⟩ := hA2 (hth2 rfl)
                obtain ⟨rfl, g8, rfl, c80⟩ := hN8 (hth2 rfl)
                clear hth2 hN8 hA2
                generalize (bitC n q).1 = sq at HBq c60
                go_wp2_with (first
                  | (go_at_call 18; refine (len_any _ HZ.out.tr).mono ?_; rintro e' w' ⟨rfl, he'⟩; subst he')
                  | go_in)
                refine wp_region_held_drew (S := fun w' => w'.cell? ⟨g6, 2, none⟩ = some (.string sq) ∧ w'.cell? ⟨g8, 0, none⟩ = some (.int .i64 0)) (by kernel_rfl) ?_ (fun hHeld => ?_)
                · exact ⟨c60, c80⟩
                refine wpAnyH_take (i := 0) (oi := { dst := some 139, op := Op.move (Operand.tmp 17), type := 4, pos := "plain.go:193", after := #[], guard := none }) (v := ?vtc0) rfl (by kernel_rfl) (by kernel_rfl) (by kernel_rfl) (fun _ _ _ h => h) (Or.inl ⟨by rfl, ?htc0⟩) (by assumption) ?rtc0
                case htc0 => (intro w0 hSw; (try dsimp only at hSw); go_simp; try (with_reducible rfl))
                simp only [Act.put, List.setIfInBounds_toArray, List.set_cons_zero, List.set_cons_succ]
                refine wpAnyH_take (i := 1) (oi := { dst := some 140, op := Op.unOp UnOp.not 4 (Operand.tmp 139), type := 4, pos := "plain.go:193", after := #[{ on := 0, ground := Ground.data }], guard := none }) (v := ?vtc1) rfl (by kernel_rfl) (by kernel_rfl) (by kernel_rfl) (fun _ _ _ h => h) (Or.inl ⟨by rfl, ?htc1⟩) (by assumption) ?rtc1
                case htc1 => (intro w0 hSw; (try dsimp only at hSw); go_simp; try (with_reducible rfl))
                simp only [Act.put, List.setIfInBounds_toArray, List.set_cons_zero, List.set_cons_succ]
                refine wpAnyH_take (i := 2) (oi := { dst := some 141, op := Op.move (Operand.tmp 140), type := 4, pos := "plain.go:193", after := #[{ on := 1, ground := Ground.data }], guard := none }) (v := ?vtc2) rfl (by kernel_rfl) (by kernel_rfl) (by kernel_rfl) (fun _ _ _ h => h) (Or.inl ⟨by rfl, ?htc2⟩) (by assumption) ?rtc2
                case htc2 => (intro w0 hSw; (try dsimp only at hSw); go_simp; try (with_reducible rfl))
                simp only [Act.put, List.setIfInBounds_toArray, List.set_cons_zero, List.set_cons_succ]
                refine wpAnyH_take (i := 3) (oi := { dst := some 142, op := Op.move (Operand.tmp 20), type := 32, pos := "plain.go:193", after := #[{ on := 2, ground := Ground.guard }], guard := some (2, false) }) (v := ?vtc3) rfl (by kernel_rfl) (by kernel_rfl) (by kernel_rfl) (fun _ _ _ h => h) (Or.inl ⟨by rfl, ?htc3⟩) (by assumption) ?rtc3
                case htc3 => (intro w0 hSw; (try dsimp only at hSw); go_simp; try (with_reducible rfl))
                simp only [Act.put, List.setIfInBounds_toArray, List.set_cons_zero, List.set_cons_succ]
                refine wpAnyH_take (i := 4) (oi := { dst := some 143, op := Op.call { callee := Callee.builtin Builtin.len, args := #[Operand.tmp 142], argTypes := #[32] }, type := 3, pos := "plain.go:193", after := #[{ on := 3, ground := Ground.data }, { on := 2, ground := Ground.guard }], guard := some (2, false) }) (v := ?vtc4) rfl (by kernel_rfl) (by kernel_rfl) (by kernel_rfl) (fun _ _ _ h => h) (Or.inl ⟨by rfl, ?htc4⟩) (by assumption) ?rtc4
                case htc4 => (intro w0 hSw; (try dsimp only at hSw); go_simp; try (with_reducible rfl))
                simp only [Act.put, List.setIfInBounds_toArray, List.set_cons_zero, List.set_cons_succ]
                refine wpAnyH_take (i := 5) (oi := { dst := some 144, op := Op.binOp BinOp.eql 3 (Operand.tmp 143) (Operand.const (Value.int IntKind.i64 1)) 3, type := 4, pos := "plain.go:193", after := #[{ on := 4, ground := Ground.data }, { on := 2, ground := Ground.guard }], guard := some (2, false) }) (v := ?vtc5) rfl (by kernel_rfl) (by kernel_rfl) (by kernel_rfl) (fun _ _ _ h => h) (Or.inl ⟨by rfl, ?htc5⟩) (by assumption) ?rtc5
                case htc5 => (intro w0 hSw; (try dsimp only at hSw); go_simp; try (with_reducible rfl))
                simp only [Act.put, List.setIfInBounds_toArray, List.set_cons_zero, List.set_cons_succ]
                refine wpAnyH_take (i := 6) (oi := { dst := some 145, op := Op.move (Operand.tmp 144), type := 4, pos := "plain.go:193", after := #[{ on := 5, ground := Ground.data }, { on := 2, ground := Ground.chain }, { on := 2, ground := Ground.guard }], guard := some (2, false) }) (v := ?vtc6) rfl (by kernel_rfl) (by kernel_rfl) (by kernel_rfl) (fun _ _ _ h => h) (Or.inl ⟨by rfl, ?htc6⟩) (by assumption) ?rtc6
                case htc6 => (intro w0 hSw; (try dsimp only at hSw); go_simp; try (with_reducible rfl))
                simp only [Act.put, List.setIfInBounds_toArray, List.set_cons_zero, List.set_cons_succ]
                refine wpAnyH_take (i := 7) (oi := { dst := some 146, op := Op.move (Operand.tmp 20), type := 32, pos := "plain.go:193", after := #[{ on := 6, ground := Ground.guard }], guard := some (6, true) }) (v := ?vtc7) rfl (by kernel_rfl) (by kernel_rfl) (by kernel_rfl) (fun _ _ _ h => h) (Or.inl ⟨by rfl, ?htc7⟩) (by assumption) ?rtc7
                case htc7 => (intro w0 hSw; (try dsimp only at hSw); go_simp; try (with_reducible rfl))
                simp only [Act.put, List.setIfInBounds_toArray, List.set_cons_zero, List.set_cons_succ]
                refine wpAnyH_take (i := 8) (oi := { dst := some 147, op := Op.indexAddr 32 (Operand.tmp 146) (Operand.const (Value.int IntKind.i64 0)), type := 0, pos := "plain.go:193", after := #[{ on := 7, ground := Ground.data }, { on := 6, ground := Ground.guard }], guard := some (6, true) }) (v := ?vtc8) rfl (by kernel_rfl) (by kernel_rfl) (by kernel_rfl) (fun _ _ _ h => h) (Or.inl ⟨by rfl, ?htc8⟩) (by assumption) ?rtc8
                case htc8 => (intro w0 hSw; (try dsimp only at hSw); go_simp; try (with_reducible rfl))
                simp only [Act.put, List.setIfInBounds_toArray, List.set_cons_zero, List.set_cons_succ]
                refine wpAnyH_take (i := 9) (oi := { dst := some 148, op := Op.fieldAddr 36 (Operand.tmp 147) 0, type := 0, pos := "plain.go:193", after := #[{ on := 8, ground := Ground.data }, { on := 6, ground := Ground.guard }], guard := some (6, true) }) (v := ?vtc9) rfl (by kernel_rfl) (by kernel_rfl) (by kernel_rfl) (fun _ _ _ h => h) (Or.inl ⟨by rfl, ?htc9⟩) (by assumption) ?rtc9
                case htc9 => (intro w0 hSw; (try dsimp only at hSw); go_simp; try (with_reducible rfl))
                simp only [Act.put, List.setIfInBounds_toArray, List.set_cons_zero, List.set_cons_succ]
                refine wpAnyH_take (i := 10) (oi := { dst := some 149, op := Op.load 3 (Operand.tmp 148), type := 3, pos := "plain.go:193", after := #[{ on := 9, ground := Ground.data }, { on := 6, ground := Ground.guard }], guard := some (6, true) }) (v := ?vtc10) rfl (by kernel_rfl) (by kernel_rfl) (by kernel_rfl) (fun _ _ _ h => h) (Or.inl ⟨by rfl, ?htc10⟩) (by assumption) ?rtc10
                case htc10 => (intro w0 hSw; (try dsimp only at hSw); go_simp; try (with_reducible rfl))
                simp only [Act.put, List.setIfInBounds_toArray, List.set_cons_zero, List.set_cons_succ]
                refine wpAnyH_take (i := 11) (oi := { dst := some 150, op := Op.binOp BinOp.eql 3 (Operand.tmp 149) (Operand.const (Value.int IntKind.i64 0)) 3, type := 4, pos := "plain.go:193", after := #[{ on := 10, ground := Ground.data }, { on := 6, ground := Ground.guard }], guard := some (6, true) }) (v := ?vtc11) rfl (by kernel_rfl) (by kernel_rfl) (by kernel_rfl) (fun _ _ _ h => h) (Or.inl ⟨by rfl, ?htc11⟩) (by assumption) ?rtc11
                case htc11 => (intro w0 hSw; (try dsimp only at hSw); go_simp; try (with_reducible rfl))
                simp only [Act.put, List.setIfInBounds_toArray, List.set_cons_zero, List.set_cons_succ]
                refine wpAnyH_take (i := 12) (oi := { dst := some 151, op := Op.pick (Operand.tmp 145) (Operand.tmp 150) (Operand.const (Value.bool false)), type := 4, pos := "plain.go:193", after := #[{ on := 6, ground := Ground.data }, { on := 11, ground := Ground.data }, { on := 2, ground := Ground.guard }], guard := some (2, false) }) (v := ?vtc12) rfl (by kernel_rfl) (by kernel_rfl) (by kernel_rfl) (fun _ _ _ h => h) (Or.inl ⟨by rfl, ?htc12⟩) (by assumption) ?rtc12
                case htc12 => (intro w0 hSw; (try dsimp only at hSw); go_simp; try (with_reducible rfl))
                simp only [Act.put, List.setIfInBounds_toArray, List.set_cons_zero, List.set_cons_succ]
                refine wpAnyH_take (i := 13) (oi := { dst := some 152, op := Op.move (Operand.tmp 151), type := 4, pos := "plain.go:193", after := #[{ on := 12, ground := Ground.data }, { on := 6, ground := Ground.chain }, { on := 2, ground := Ground.guard }], guard := some (2, false) }) (v := ?vtc13) rfl (by kernel_rfl) (by kernel_rfl) (by kernel_rfl) (fun _ _ _ h => h) (Or.inl ⟨by rfl, ?htc13⟩) (by assumption) ?rtc13
                case htc13 => (intro w0 hSw; (try dsimp only at hSw); go_simp; try (with_reducible rfl))
                simp only [Act.put, List.setIfInBounds_toArray, List.set_cons_zero, List.set_cons_succ]
                refine wpAnyH_take (i := 14) (oi := { dst := some 153, op := Op.move (Operand.tmp 18), type := 32, pos := "plain.go:193", after := #[{ on := 13, ground := Ground.guard }], guard := some (13, true) }) (v := ?vtc14) rfl (by kernel_rfl) (by kernel_rfl) (by kernel_rfl) (fun _ _ _ h => h) (Or.inl ⟨by rfl, ?htc14⟩) (by assumption) ?rtc14
                case htc14 => (intro w0 hSw; (try dsimp only at hSw); go_simp; try (with_reducible rfl))
                simp only [Act.put, List.setIfInBounds_toArray, List.set_cons_zero, List.set_cons_succ]
                refine wpAnyH_take (i := 15) (oi := { dst := some 154, op := Op.indexAddr 32 (Operand.tmp 153) (Operand.const (Value.int IntKind.i64 0)), type := 0, pos := "plain.go:193", after := #[{ on := 14, ground := Ground.data }, { on := 13, ground := Ground.guard }], guard := some (13, true) }) (v := ?vtc15) rfl (by kernel_rfl) (by kernel_rfl) (by kernel_rfl) (fun _ _ _ h => h) (Or.inl ⟨by rfl, ?htc15⟩) (by assumption) ?rtc15
                case htc15 => (intro w0 hSw; (try dsimp only at hSw); go_simp; try (with_reducible rfl))
                simp only [Act.put, List.setIfInBounds_toArray, List.set_cons_zero, List.set_cons_succ]
                refine wpAnyH_take (i := 16) (oi := { dst := some 155, op := Op.fieldAddr 36 (Operand.tmp 154) 2, type := 0, pos := "plain.go:193", after := #[{ on := 15, ground := Ground.data }, { on := 13, ground := Ground.guard }], guard := some (13, true) }) (v := ?vtc16) rfl (by kernel_rfl) (by kernel_rfl) (by kernel_rfl) (fun _ _ _ h => h) (Or.inl ⟨by rfl, ?htc16⟩) (by assumption) ?rtc16
                case htc16 => (intro w0 hSw; (try dsimp only at hSw); go_simp; try (with_reducible rfl))
                simp only [Act.put, List.setIfInBounds_toArray, List.set_cons_zero, List.set_cons_succ]
                refine wpAnyH_take (i := 17) (oi := { dst := some 156, op := Op.load 9 (Operand.tmp 155), type := 9, pos := "plain.go:193", after := #[{ on := 16, ground := Ground.data }, { on := 13, ground := Ground.guard }], guard := some (13, true) }) (v := ?vtc17) rfl (by kernel_rfl) (by kernel_rfl) (by kernel_rfl) (fun _ _ _ h => h) (Or.inl ⟨by rfl, ?htc17⟩) (by assumption) ?rtc17
                case htc17 => (intro w0 hSw; (try dsimp only at hSw); go_simp; try (with_reducible rfl))
                simp only [Act.put, List.setIfInBounds_toArray, List.set_cons_zero, List.set_cons_succ]
                refine wpAnyH_take (i := 18) (oi := { dst := some 157, op := Op.move (Operand.tmp 0), type := 3, pos := "plain.go:193", after := #[{ on := 13, ground := Ground.guard }], guard := some (13, true) }) (v := ?vtc18) rfl (by kernel_rfl) (by kernel_rfl) (by kernel_rfl) (fun _ _ _ h => h) (Or.inl ⟨by rfl, ?htc18⟩) (by assumption) ?rtc18
                case htc18 => (intro w0 hSw; (try dsimp only at hSw); go_simp; try (with_reducible rfl))
                simp only [Act.put, List.setIfInBounds_toArray, List.set_cons_zero, List.set_cons_succ]
                refine wpAnyH_take (i := 19) (oi := { dst := some 158, op := Op.move (Operand.tmp 3), type := 3, pos := "plain.go:193", after := #[{ on := 13, ground := Ground.guard }], guard := some (13, true) }) (v := ?vtc19) rfl (by kernel_rfl) (by kernel_rfl) (by kernel_rfl) (fun _ _ _ h => h) (Or.inl ⟨by rfl, ?htc19⟩) (by assumption) ?rtc19
                case htc19 => (intro w0 hSw; (try dsimp only at hSw); go_simp; try (with_reducible rfl))
                simp only [Act.put, List.setIfInBounds_toArray, List.set_cons_zero, List.set_cons_succ]
                refine wpAnyH_ready (rs := [20]) (by kernel_rfl) (by simp) ?_
                refine AllReadyH.cons rfl (fun K hK => ?_) AllReadyH.nil
                go_simp
                go_wp2_with (go_at_call 12; refine (HBq.out _).mono ?_; rintro e' w9 ⟨rfl, b9⟩; have hE := chain HE.out b9 (Nat.le_refl _); clear HE; have HE := Hid.mk hE)
                refine hK.out _ _ ?_ (fun hHeld => ?_)
                · exact ⟨cell_lat hE c60, cell_lat hE c80⟩
                clear hK K
                refine wpAnyH_take (i := 21) (oi := { dst := some 160, op := Op.binOp BinOp.eql 9 (Operand.tmp 156) (Operand.tmp 159) 9, type := 4, pos := "plain.go:193", after := #[{ on := 17, ground := Ground.data }, { on := 20, ground := Ground.data }, { on := 13, ground := Ground.guard }], guard := some (13, true) }) (v := ?vtc21) rfl (by kernel_rfl) (by kernel_rfl) (by kernel_rfl) (fun _ _ _ h => h) (Or.inl ⟨by rfl, ?htc21⟩) (by assumption) ?rtc21
                case htc21 => (intro w0 hSw; (try dsimp only at hSw); go_simp; try (with_reducible rfl))
                simp only [Act.put, List.setIfInBounds_toArray, List.set_cons_zero, List.set_cons_succ]
                refine wpAnyH_take (i := 22) (oi := { dst := some 161, op := Op.pick (Operand.tmp 152) (Operand.tmp 160) (Operand.const (Value.bool false)), type := 4, pos := "plain.go:193", after := #[{ on := 13, ground := Ground.data }, { on := 21, ground := Ground.data }, { on := 2, ground := Ground.guard }], guard := some (2, false) }) (v := ?vtc22) rfl (by kernel_rfl) (by kernel_rfl) (by kernel_rfl) (fun _ _ _ h => h) (Or.inl ⟨by rfl, ?htc22⟩) (by assumption) ?rtc22
                case htc22 => (intro w0 hSw; (try dsimp only at hSw); go_simp; try (with_reducible rfl))
                simp only [Act.put, List.setIfInBounds_toArray, List.set_cons_zero, List.set_cons_succ]
                refine wpAnyH_take (i := 23) (oi := { dst := some 162, op := Op.pick (Operand.tmp 141) (Operand.const (Value.bool true)) (Operand.tmp 161), type := 4, pos := "plain.go:193", after := #[{ on := 2, ground := Ground.data }, { on := 22, ground := Ground.data }], guard := none }) (v := ?vtc23) rfl (by kernel_rfl) (by kernel_rfl) (by kernel_rfl) (fun _ _ _ h => h) (Or.inl ⟨by rfl, ?htc23⟩) (by assumption) ?rtc23
                case htc23 => (intro w0 hSw; (try dsimp only at hSw); go_simp; try (with_reducible rfl))
                simp only [Act.put, List.setIfInBounds_toArray, List.set_cons_zero, List.set_cons_succ]
                refine wpAnyH_take (i := 24) (oi := { dst := some 8, op := Op.assign (Operand.tmp 162), type := 4, pos := "plain.go:193", after := #[{ on := 23, ground := Ground.data }, { on := 20, ground := Ground.chain }, { on := 0, ground := Ground.phase }, { on := 1, ground := Ground.phase }, { on := 2, ground := Ground.phase }, { on := 3, ground := Ground.phase }, { on := 4, ground := Ground.phase }, { on := 5, ground := Ground.phase }, { on := 6, ground := Ground.phase }, { on := 7, ground := Ground.phase }, { on := 8, ground := Ground.phase }, { on := 9, ground := Ground.phase }, { on := 10, ground := Ground.phase }, { on := 11, ground := Ground.phase }, { on := 12, ground := Ground.phase }, { on := 13, ground := Ground.phase }, { on := 14, ground := Ground.phase }, { on := 15, ground := Ground.phase }, { on := 16, ground := Ground.phase }, { on := 17, ground := Ground.phase }, { on := 18, ground := Ground.phase }, { on := 19, ground := Ground.phase }, { on := 20, ground := Ground.phase }, { on := 21, ground := Ground.phase }, { on := 22, ground := Ground.phase }, { on := 23, ground := Ground.phase }], guard := none }) (v := ?vtc24) rfl (by kernel_rfl) (by kernel_rfl) (by kernel_rfl) (fun _ _ _ h => h) (Or.inl ⟨by rfl, ?htc24⟩) (by assumption) ?rtc24
                case htc24 => (intro w0 hSw; (try dsimp only at hSw); go_simp; try (with_reducible rfl))
                simp only [Act.put, List.setIfInBounds_toArray, List.set_cons_zero, List.set_cons_succ]
                refine wpAnyH_done (by kernel_rfl) ?_ _
                go_wp2_with fail
                go_ret
                exact ⟨rfl, chain HZ.out.be HE.out (Nat.le_refl _)⟩
end Go.Proofs.YtnnbcdfpbdmgdaaDoor
set_option linter.unusedVariables false
set_option linter.unusedSimpArgs false
namespace Go.Proofs.YtnnbcdfpbdmgdaaDoor
open Go.ChangeShapes Go.WideShapes Go.ChangeAt Go.WideMaps Go.WideElems Go.RowKit Go.Deep Go.Proofs.BitMath Go.Proofs.TreeMath
set_option maxHeartbeats 4000000 in
set_option maxRecDepth 100000 in
theorem law_chain (wd N : Int) (l : List Int) (la : Option Addr) (lc : Nat) (Q : Int) (W : World) (ht : Tab W) (hl : IAt W la l) (hll : l.length < 4611686018427387904) : Calls Tryd.prog 3 #[.int .i64 wd, .int .i64 N, .slice la l.length lc, .int .i64 Q] W fun r w' => r = .returned (.bool true) ∧ Below W.heap.size W w' := by
  by_cases hw : isW wd = true
  · obtain ⟨w8, rfl⟩ : ∃ w8 : Nat, wd = w8 := ⟨wd.toNat, by have := isW_bd hw; omega⟩
    by_cases h1 : N < 1
    · exact law_chainO w8 N l la lc Q W ht hl hll hw h1
    · by_cases h2 : (w8 : Int) < N
      · exact law_chainP w8 N l la lc Q W ht hl hll hw h1 h2
      · exact law_chainI w8 N.toNat l la lc Q W ht hl hll hw N (by omega) (by omega) (by omega)
  · have hw' : isW wd = false := by simpa using hw
    have HB := Hid.mk (begun_any W ht)
    have hnew := fun W => new_no wd W hw'
    obtain ⟨ln, hln⟩ : ∃ ln, ln = l.length := ⟨_, rfl⟩
    rw [← hln]
    clear hw hw' hl hll ht hln
    go_enter Tryd.func3, Tryd.ntmps3
    go_wp2_with fail
    refine HB.out.mono ?_
    rintro e w1 ⟨rfl, b1⟩
    go_wp2_with (go_at_call 10; refine (hnew _).mono ?_; rintro e w' ⟨rfl, rfl⟩)
    go_ret
    exact ⟨rfl, b1⟩
theorem own : ownKnob Tryd.prog.godebug = none := by kernel_rfl
theorem gTab : Tryd.prog.globalNamed "kindred/bits.halfOnes" = some 0 := by kernel_rfl
theorem tTab : (Tryd.prog.globals[0]?).map (·.type) = some 113 := by kernel_rfl
theorem cells3 : Tryd.prog.cellsOf 3 = 1 := by kernel_rfl
theorem cTab : Tryd.prog.cellsOf 113 = 16 := by kernel_rfl
theorem laidOut : laidOutB Tryd.prog = true := by kernel_rfl
theorem add_plain (b off j : Nat) : (⟨b, off, none⟩ : Addr).add j = ⟨b, off + j, none⟩ := by unfold Addr.add; split <;> simp_all
/-- What the rows list. -/
abbrev lst : List (String × DataW Unit) := [("kindred/bits.halfOnes", Rows.laid_kindred_bits_halfOnes)]
theorem door_met (os : Os) (args : Array Value) : laidMetH Tryd.prog lst ((World.doorLaid Tryd.prog 400 os).forCall (fun _ _ => 0) ⟨#[], args, []⟩).memory :=
  laidMetH_of_parts3 (fuel := 8) (laidMet_of_run' 8 (by kernel_rfl) (by kernel_rfl)) (by kernel_rfl) (by kernel_rfl)
/-- The table, out of the condition. -/
theorem tab_of {W : World} (h : laidMetH Tryd.prog lst W) : Tab W := by
  rw [MakeChecks.laidMetH_plain _ _ _ (by kernel_rfl)] at h
  have hT := Lib.tabIs_of_head (k := .i64) (zs := [0, 1, 1, 2, 1, 2, 2, 3, 1, 2, 2, 3, 2, 3, 3, 4]) (rest := []) gTab tTab Tryd.underlying113 Tryd.underlying3 cells3 cTab h
  exact fun i hi => hT.cell gTab i hi
theorem open_ints2 {H : Type} {enc : TypeId × Value → H} {W : World} {base : Nat} {spare : Nat → Bool} {held : Bool} {fuel : Nat} {a0 : Option Addr} {len cap : Nat} {d : DataW H} {ps : List MemPlace}
    (h : DataW.trod enc Tryd.prog W base spare held fuel 22 [.slice a0 len cap] = some (d, ps)) (hsz : ∀ n ∈ d.weights Tryd.prog 22, n ≤ reachBytes) :
    ∃ l : List Int, l.length = len ∧ IAt W a0 l ∧ l.length < 4611686018427387904 := by
  rcases open_ints Tryd.underlying22 Tryd.underlying3 cells3 h with ⟨hcs, hx⟩ | ⟨a, len', cap', zs, hcs, _, hl, hm, hz, hx, hcell, hwz⟩
  · simp at hcs
    obtain ⟨rfl, rfl, rfl⟩ := hcs
    exact ⟨[], rfl, fun j q hq => by simp at hq, by simp⟩
  · simp at hcs
    obtain ⟨rfl, rfl, rfl⟩ := hcs
    have hlz : len ≤ zs.length := by rw [hz]; split <;> omega
    simp only [Prod.mk.injEq] at hx
    have hb : Tryd.prog.bytesOf 3 = 8 := by kernel_rfl
    have hlen : len < 4611686018427387904 := by
      have hw := hsz (((lits .i64 (zs.take len) : List (DataW H)).length + (lits .i64 (zs.drop len) : List (DataW H)).length) * Tryd.prog.bytesOf 3) (by
        rw [hx.1]
        unfold DataW.weights
        rw [Tryd.underlying22]
        exact List.mem_cons_self)
      rw [hb] at hw
      have h1 : (lits .i64 (zs.take len) : List (DataW H)).length = len := by simp [lits]; omega
      rw [h1] at hw
      have : reachBytes = 140737488351232 := by decide
      omega
    refine ⟨zs.take len, by simp; omega, fun j q hq => ?_, by simp; omega⟩
    obtain ⟨hj, hjq⟩ := List.getElem?_eq_some_iff.1 hq
    have hj' : j < zs.length := by rw [List.length_take] at hj; omega
    obtain ⟨b, off, spot⟩ := a
    have hspot : spot = none := by simpa [Addr.add] using World.cell?_spot (hcell 0 (by omega))
    subst hspot
    refine ⟨b, off, rfl, ?_⟩
    have := hcell j hj'
    rw [add_plain, List.getD_eq_getElem?_getD, List.getElem?_eq_getElem hj'] at this
    rw [List.getElem_take] at hjq
    rw [← hjq]
    simpa using this
end Go.Proofs.YtnnbcdfpbdmgdaaDoor
set_option linter.unusedVariables false
set_option linter.unusedSimpArgs false
namespace Go.Proofs.YtnnbcdfpbdmgdaaDoor
open Go.ChangeMaps (open_string shut_string)
open Go.ChangeShapes Go.WideShapes Go.ChangeAt Go.WideMaps Go.WideElems Go.RowKit
set_option maxRecDepth 100000 in
theorem chain_lifted (os : Os) (started : os.Started) (H : Type) (enc : TypeId × Value → H) :
    ReturnsInHanded {} Tryd.checked os 3 .any (fun w args => (Rows.treeChainSpec.pre enc Tryd.prog Tryd.f3 [] false w args ∧ laidMetH Tryd.prog lst w) ∧ sizedMet enc Tryd.prog Tryd.f3 (OpenSpec.ofChange Rows.treeChainSpec) false w args)
      (Rows.treeChainSpec.post enc Tryd.prog Tryd.f3 false true false false) := by
  refine returnsInHanded_of_change_and (C := Tryd.checked) (X := fun w _ => laidMetH Tryd.prog lst w) (fun _ _ _ hh h => h.of_heap hh) own started (by kernel_rfl) Tryd.func3
    (ChangeSpec.witness_shaped (enc := enc) (C := Tryd.checked) (os := os) (X := fun w _ => laidMetH Tryd.prog lst w) false (World.doorLaid Tryd.prog 400 os) #[.int .i64 0, .int .i64 0, .slice none 0 0, .int .i64 0] 8 rfl (World.shaped_of_RefB (by kernel_rfl) (by kernel_rfl)) (by kernel_rfl) (by kernel_rfl) (by kernel_rfl) (door_met os _)) ?_
  intro W base args ds gs before hval0 hW _ hsz0 hL _
  have hsz : (DataW.weightsEach Tryd.prog (Tryd.f3.params.toList ++ Rows.treeChainSpec.plain.varTypes Tryd.prog) (ds ++ gs)).all (· ≤ reachBytes) = true := hsz0
  clear hsz0
  have hval : ∀ (j : Nat) t v, Tryd.f3.params[j]? = some t → args[j]? = some v → Value.okWide Tryd.prog W .any base t v := hval0
  have hW' := hW
  obtain ⟨p, q, hA0, hV, rfl, hfz, hnd⟩ := hW
  have hA : DataW.TrodAll enc Tryd.prog W 0 (fun _ => true) true Tryd.f3.params.toList args.toList ds p := hA0
  rw [Tryd.params3] at hA hval hsz
  obtain ⟨v0, v1, v2, v3, d0, d1, d2, d3, p0, p1, p2, p3, rfl, rfl, rfl, h0, h1, h2, h3⟩ := trodAll_four hA
  obtain ⟨rfl, rfl⟩ := trodVars_none hV
  obtain ⟨x, rfl, rfl, rfl, wx⟩ := open_int Tryd.underlying3 (hval 0 3 v0 rfl rfl) h0
  obtain ⟨k, rfl, rfl, rfl, wk⟩ := open_int Tryd.underlying3 (hval 1 3 v1 rfl rfl) h1
  obtain ⟨a2, len2, cap2, rfl⟩ := okWide_slice Tryd.underlying22 (hval 2 22 v2 rfl rfl)
  have h2k := h2
  obtain ⟨fuel2, hf2⟩ := h2
  have hs2 : ∀ n ∈ d2.weights Tryd.prog 22, n ≤ reachBytes := fun n hn => by simpa using List.all_eq_true.1 hsz n (DataW.weights_mem_each (j := 2) (t := 22) rfl rfl n hn)
  obtain ⟨l, hl2, hL2, hB2⟩ := open_ints2 (by simpa [Value.cells] using hf2) hs2
  subst hl2
  obtain ⟨q, rfl, rfl, rfl, wq⟩ := open_int Tryd.underlying3 (hval 3 3 v3 rfl rfl) h3
  clear hA0 hval0
  simp only [List.append_nil, List.nil_append] at hW'
  have hlt2 : ∀ x ∈ p2, x.block < W.heap.size := fun x hx => hW'.lt x (by simp [hx])
  have ht := tab_of hL
  have e1 : Rows.treeChainSpec.fn H ([.lit (.int .i64 x), .lit (.int .i64 k), d2, .lit (.int .i64 q)] ++ []) = { results := [.lit (.bool true)], args := [.lit (.int .i64 x), .lit (.int .i64 k), d2, .lit (.int .i64 q)] } := by simp [Rows.treeChainSpec]
  have fin : ∀ (e : Ending) (W' : World), (e = .returned (.bool true) ∧ Below W.heap.size W W') → ∃ v, e = .returned v ∧ Rows.treeChainSpec.post enc Tryd.prog Tryd.f3 false true false false W #[.int .i64 x, .int .i64 k, .slice a2 l.length cap2, .int .i64 q] v W' := by
    rintro e W' ⟨rfl, hbl⟩
    refine ⟨_, rfl, _, _, _, [], p2, [], hW', ?_, ?_, ?_, hbl.frame _, fun h => by cases h⟩
    · rw [e1]; exact trodAll_mk1 (shut_bool Tryd.underlying4 true)
    · rw [e1]; have h5 := trodAll_mk4 (shut_int Tryd.underlying3 wx) (shut_int Tryd.underlying3 wk) (Below.trod laidOut (by kernel_rfl) (of_decide_eq_true (by kernel_rfl)) h2k hbl hlt2) (shut_int Tryd.underlying3 wq); (try simp only [List.append_nil, List.nil_append] at h5); exact h5
    · rw [e1]; rfl
  exact (law_chain x k l a2 cap2 q W ht hL2 hB2).mono fin

theorem chain_row : Rows.TreeChainSaid :=
  OpenClaim.holds_of_wide 3 Tryd.f3 rfl rfl rfl rfl rfl rfl rfl ⟨rfl, rfl, rfl, rfl, rfl⟩ rfl rfl rfl rfl rfl (by kernel_rfl) Tryd.func3 (by kernel_rfl)
    (of_decide_eq_true (by kernel_rfl)) (by unfold Func.isWrapper; rw [if_neg (of_decide_eq_false (by kernel_rfl))]; exact ⟨rfl, rfl⟩)
    (fun os started H enc _ => chain_lifted os started H enc)
theorem chain_holds : Rows.TreeChainCardSaid :=
  Claim7.holds_tied_plain_at .later [] [.data] true (true, "1c06a3f4aa6f2fa0d0ea7b839d5cc7a81c25a4d3e6dea185c45f809f390dd72b") false
    chain_row (fun _ h => by cases h) (by kernel_rfl) (fun _ h => by cases h) treeChain_row_tie rfl ⟨rfl, rfl⟩ (by kernel_rfl) rfl
    (fun f fn hf hfn => by
      obtain rfl : f = 3 := Option.some.inj ((show Tryd.prog.funcNamed "kindred/kindredlaw12.TreeChain" = some 3 by kernel_rfl).symm.trans hf) |>.symm
      obtain rfl : fn = Tryd.f3 := (Option.some.inj (Tryd.func3.symm.trans hfn)).symm
      exact ⟨by kernel_rfl, fun j t ht => by
        rw [Tryd.params3] at ht
        have hm : t ∈ [3, 3, 22, 3] := by simpa using Array.mem_of_getElem? ht
        have hall : ([3, 3, 22, 3].all fun u => !Tryd.prog.wantsStandIn u) = true := by kernel_rfl
        exact (show Tryd.prog.wantsStandIn t = false by simpa using List.all_eq_true.1 hall t hm)⟩)
    (by kernel_rfl)
#print axioms chain_holds
end Go.Proofs.YtnnbcdfpbdmgdaaDoor
