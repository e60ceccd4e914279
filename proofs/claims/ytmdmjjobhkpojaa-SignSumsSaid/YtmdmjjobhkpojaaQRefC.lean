/-
  DERIVED. sign: the document's own Code, for every signer and vector.
-/
import Derived.Test.YtmdmjjobhkpojaaQRefS
import Derived.Test.YtmdmjjobhkpojaaQRefCM
set_option linter.unusedVariables false
set_option linter.unusedSimpArgs false
namespace Go.Proofs.Ytmdmjjobhkpojaa
open Go.RowKit Go.Shelf Go.Proofs.BitMath Go.Proofs.FloatMath
def byE : El UInt8 := ⟨5, 70, 0, 1, 1, .int .u8 0, fun x => [BV x]⟩
theorem byOk : byE.Ok Try.prog := ⟨fun x => rfl, fun x u hu => by simp [byE, BV] at hu; subst hu; rfl, by decide, rfl, by decide, by kernel_rfl, Try.underlying70⟩
theorem by_flat (l : List UInt8) : l.flatMap byE.f = l.map BV := by
  induction l with
  | nil => rfl
  | cons x l ih => rw [List.flatMap_cons, ih]; rfl
set_option maxRecDepth 100000 in
set_option maxHeartbeats 8000000 in
theorem rcode_any (b wd dm : Nat) (sd : Int) (la : Option Addr) (c : Nat) (v : List Zp) (w : World) (hs : SgAt w b wd dm sd) (hd : 0 < dm) (hd2 : dm ≤ 1024) (hw : 64 ≤ wd) (hw2 : wd ≤ 1024) (hw3 : wd % 8 = 0) (hv : zE.At w la v) :
    Calls Try.prog 19 #[Pt b, .slice la v.length c] w fun e w' => e = .returned (.tuple #[.string (cdB wd dm sd v), .int .i64 (ckE dm v)]) ∧ Below w.heap.size w w' := by
  have kS := rsums_any b wd dm sd la c v w hs hd hd2 (by omega) hw2 hv
  by_cases hk : ckE dm v = 0
  · obtain ⟨n, en⟩ : ∃ n, wd / 8 = n := ⟨_, rfl⟩
    obtain ⟨m, em⟩ : ∃ m, wd / 2 = m := ⟨_, rfl⟩
    have eI : (wd : Int) / 8 = (n : Int) := by omega
    have hmn : m = 4 * n := by omega
    have hn : n ≤ 128 := by omega
    have hn0 : 0 < n := by omega
    have hSl : (sumsL wd sd v).length = m := by rw [sumsL_len, em]
    have ES : Hid (cdB wd dm sd v = ⟨(codeL (sumsL wd sd v) n).toArray⟩) := by show _ = _; unfold cdB; rw [if_pos hk, en]
    obtain ⟨S, eS⟩ : ∃ S, sumsL wd sd v = S := ⟨_, rfl⟩
    rw [eS] at hSl kS ES
    have HSl := Hid.mk hSl
    have HM := Hid.mk hmn
    have HK := Hid.mk hk
    have HS := Hid.mk hs
    clear hd hd2 hw hw2 hw3 hv en em eS hSl hmn hs
    go_enter Try.func19, Try.ntmps19
    go_wp2_with fail
    refine kS _ (fun h => absurd HK.out h) (fun _ o w1 hG => ?_)
    clear kS hk
    obtain ⟨g, cap, rfl, -, -⟩ := El.cells zOk hG.row 0 (by rw [HSl.out, HM.out]; omega)
    rw [HSl.out]
    have hr := hG.row
    rw [HSl.out] at hr
    have s0 := (HS.out.below hG.bel).c0
    have gl : g < w1.heap.size := row_lt hr rfl
    have hB1 := hG.bel
    have HR := Hid.mk hr
    have HB1 := Hid.mk hB1
    obtain ⟨w2, hmk, hrow, hb2, hs2⟩ := El.make byOk w1 0 rfl n (by omega)
    have HMK := Hid.mk hmk
    have hri : RowIs w2 w1.heap.size 5 ((lyT S n 0).map BV) := by
      have h9 : w2.ownsRow 0 5 1 (.slice (some ⟨w1.heap.size, 0, none⟩) n n) n ((List.replicate n 0).map BV) := by
        have := hrow
        unfold El.Row at this
        rw [by_flat, List.length_replicate] at this
        exact this
      rw [lyT_zero]
      exact rowIs_own h9
    have H0 : Hid (RowIs w2 w1.heap.size 5 ((lyT S n 0).map BV) ∧ zE.Row w2 (.slice (some ⟨g, 0, none⟩) m cap) S ∧ Below w.heap.size w w2) := ⟨hri, hr.below hb2, hB1.trans (hb2.mono hB1.size)⟩
    have hGs : w.heap.size ≤ w1.heap.size := hB1.size
    clear hmk hrow hb2 hs2 hri hr hB1 hG
    go_wp2_with (at_make; refine wpList_make_run _ rfl _ _ _ rfl _ _ HMK.out ?_; clear HMK)
    obtain ⟨G, eG⟩ : ∃ G, w1.heap.size = G := ⟨_, rfl⟩
    rw [eG] at H0 hGs gl
    simp only [eG]
    clear eG s0
    go_loopw [9, 10] (fun f _ wr => ∃ (j : Nat), j ≤ m ∧ f = .int .i64 j ∧ RowIs wr G 5 ((lyT S n j).map BV) ∧ zE.Row wr (.slice (some ⟨g, 0, none⟩) m cap) S ∧ Below w.heap.size w wr) (fun f _ _ => m - (intOf f).toNat)
    case atStart => exact ⟨0, Nat.zero_le _, rfl, H0.out.1, H0.out.2.1, H0.out.2.2⟩
    case round =>
      obtain ⟨j, hj, rfl, hrow, hS, hB⟩ := hrel
      clear H0
      by_cases hlt : j < m
      · have hlt' : (j : Int) < (m : Int) := by omega
        have hm := HM.out
        obtain ⟨c0, c1, -⟩ := z_row hS j (by rw [HSl.out]; exact hlt)
        have hgd : S.getD j (0, 0) = S[j]'(by rw [HSl.out]; exact hlt) := getD_at _
        obtain ⟨p, ep⟩ : ∃ p, S[j]'(by rw [HSl.out]; exact hlt) = p := ⟨_, rfl⟩
        rw [ep] at c0 c1 hgd
        obtain ⟨q, eq⟩ : ∃ q, j / 4 = q := ⟨_, rfl⟩
        have hq : q < n := by omega
        have hq' : (q : Int) < (n : Int) := by omega
        have hwq : IntKind.i64.wrap (q : Int) = (q : Int) := i64_sg _ (by omega) (by omega)
        have hj5 : j < 512 := by omega
        have v1 : IntKind.i64.wrap (2 * (j : Int)) = 2 * (j : Int) := i64_sg _ (by omega) (by omega)
        have v2 : IntKind.i64.wrap (2 * (j : Int) + 1) = 2 * (j : Int) + 1 := i64_sg _ (by omega) (by omega)
        have d1 : (2 * (j : Int)) / 8 = (q : Int) := by omega
        have d2 : (2 * (j : Int) + 1) / 8 = (q : Int) := by omega
        have hXl := lyN_lt S j q
        have hst := lyT_step S n j (by omega)
        have hat := lyT_at S n j q hq
        rw [eq] at hst
        have y0 : wr.cell? ⟨G, q, none⟩ = some (.int .u8 (lyN S j q : Nat)) := by rw [hrow.cell]; exact hat
        have f0 := hrow.frozen q
        have lG := hrow.lt
        have HW := Hid.mk hrow
        have HZ := Hid.mk hS
        have HB := Hid.mk hB
        have HST := Hid.mk hst
        have hfin : ∀ (V : Nat), V = lyN S (j + 1) q → (∃ j_1, j_1 ≤ m ∧ Value.int .i64 ((j : Int) + 1) = Value.int .i64 (j_1 : Nat) ∧ RowIs (wr.setCell ⟨G, q, none⟩ (.int .u8 (V : Nat))) G 5 ((lyT S n j_1).map BV) ∧ zE.Row (wr.setCell ⟨G, q, none⟩ (.int .u8 (V : Nat))) (.slice (some ⟨g, 0, none⟩) m cap) S ∧ Below w.heap.size w (wr.setCell ⟨G, q, none⟩ (.int .u8 (V : Nat)))) := by
          intro V hV
          refine ⟨j + 1, hlt, by simp, ?_, ?_, ?_⟩
          · have := HW.out.set q (.int .u8 (V : Nat))
            rw [hV, HST.out] at this
            rw [hV]
            exact this
          · exact row_kept (F := fun k => k = G) HZ.out (Stay.setCell (F := fun k => k = G) (p := ⟨G, q, none⟩) (Stay.refl _ _) (fun _ => rfl) _) (fun k hk e => by cases hk; exact absurd e (Nat.ne_of_lt gl))
          · exact HB.out.setCell (p := ⟨G, q, none⟩) hGs _
        have hfin2 : ∀ (U V : Nat), V = lyN S (j + 1) q → (∃ j_1, j_1 ≤ m ∧ Value.int .i64 ((j : Int) + 1) = Value.int .i64 (j_1 : Nat) ∧ RowIs ((wr.setCell ⟨G, q, none⟩ (.int .u8 (U : Nat))).setCell ⟨G, q, none⟩ (.int .u8 (V : Nat))) G 5 ((lyT S n j_1).map BV) ∧ zE.Row ((wr.setCell ⟨G, q, none⟩ (.int .u8 (U : Nat))).setCell ⟨G, q, none⟩ (.int .u8 (V : Nat))) (.slice (some ⟨g, 0, none⟩) m cap) S ∧ Below w.heap.size w ((wr.setCell ⟨G, q, none⟩ (.int .u8 (U : Nat))).setCell ⟨G, q, none⟩ (.int .u8 (V : Nat)))) := by
          intro U V hV
          refine ⟨j + 1, hlt, by simp, ?_, ?_, ?_⟩
          · have := (HW.out.set q (.int .u8 (U : Nat))).set q (.int .u8 (V : Nat))
            rw [List.set_set, hV, HST.out] at this
            rw [hV]
            exact this
          · exact row_kept (F := fun k => k = G) HZ.out (Stay.setCell (F := fun k => k = G) (p := ⟨G, q, none⟩) (Stay.setCell (F := fun k => k = G) (p := ⟨G, q, none⟩) (Stay.refl _ _) (fun _ => rfl) _) (fun _ => rfl) _) (fun k hk e => by cases hk; exact absurd e (Nat.ne_of_lt gl))
          · exact (HB.out.setCell (p := ⟨G, q, none⟩) hGs _).setCell (p := ⟨G, q, none⟩) hGs _
        have hfin0 : lyN S (j + 1) q = lyN S j q → (∃ j_1, j_1 ≤ m ∧ Value.int .i64 ((j : Int) + 1) = Value.int .i64 (j_1 : Nat) ∧ RowIs wr G 5 ((lyT S n j_1).map BV) ∧ zE.Row wr (.slice (some ⟨g, 0, none⟩) m cap) S ∧ Below w.heap.size w wr) := by
          intro hV
          refine ⟨j + 1, hlt, by simp, ?_, HZ.out, HB.out⟩
          have h1 := HW.out
          have h2 : ((lyT S n j).map BV).set q (.int .u8 (lyN S j q : Nat)) = (lyT S n j).map BV := by
            apply List.ext_getElem?
            intro i
            by_cases e : i = q
            · subst e; rw [List.getElem?_set_self (by simp [lyT_len]; exact hq), hat]
            · rw [List.getElem?_set_ne (by omega)]
          rw [← HST.out, hV, h2]; exact h1
        have HFIN := Hid.mk hfin
        have HFIN0 := Hid.mk hfin0
        have HFIN2 := Hid.mk hfin2
        have ht : j % 4 = 0 ∨ j % 4 = 1 ∨ j % 4 = 2 ∨ j % 4 = 3 := by omega
        have hst2 := fun t h => lyN_step S j t h
        rw [eq, hgd] at hst2
        generalize lyN S j q = X at *
        generalize lyN S (j + 1) q = Y at *
        clear hrow hS hB hat hst ep hgd eq hm hfin hfin0 hfin2 HST
        rcases ht with ht | ht | ht | ht
        · have hx := hst2 0 ht
          have m1 : (2 * (j : Int)) % 8 = 0 := by omega
          have m2 : (2 * (j : Int) + 1) % 8 = 1 := by omega
          obtain ⟨hxa, hxb⟩ := hx
          generalize pbN S q 0 = B at *
          clear hst2 ht
          by_cases p1 : 0 < p.1
          · by_cases p2 : 0 < p.2
            · have hYo : Y = X + 192 := by rw [hxa, hxb]; simp only [sgN, if_pos p1, if_pos p2]; omega
              have o1 := or128 X hXl (by rw [hxa]; omega)
              have hXm : X % 256 = 0 := by rw [hxa]; omega
              have o2 := or64 (X + 128) (by omega) (by omega)
              obtain ⟨X1, eX1⟩ : ∃ X1 : Nat, X + 128 = X1 := ⟨_, rfl⟩
              rw [eX1] at o1 o2
              obtain ⟨X2, eX2⟩ : ∃ X2 : Nat, X1 + 64 = X2 := ⟨_, rfl⟩
              rw [eX2] at o2
              have hY : Y = X2 := by omega
              clear eX1 eX2
              have HY := Hid.mk hY
              clear hY hxa hxb hXm hYo
              go_wp2
              go_roundw
              case rel => exact HFIN2.out _ _ HY.out.symm
              case measure => simp [intOf]; omega
            · have hY : Y = X + 128 := by rw [hxa, hxb]; simp only [sgN, if_pos p1, if_neg p2]; omega
              have o1 := or128 X hXl (by rw [hxa]; omega)
              have hXm : X % 256 = 0 := by rw [hxa]; omega
              have HY := Hid.mk hY
              clear hY hxa hxb hXm
              go_wp2
              go_roundw
              case rel => exact HFIN.out _ HY.out.symm
              case measure => simp [intOf]; omega
          · by_cases p2 : 0 < p.2
            · have hY : Y = X + 64 := by rw [hxa, hxb]; simp only [sgN, if_neg p1, if_pos p2]; omega
              have hXm : X % 256 = 0 := by rw [hxa]; omega
              have o2 := or64 (X) (by omega) (by omega)
              have HY := Hid.mk hY
              clear hY hxa hxb hXm
              go_wp2
              go_roundw
              case rel => exact HFIN.out _ HY.out.symm
              case measure => simp [intOf]; omega
            · have hY : Y = X + 0 := by rw [hxa, hxb]; simp only [sgN, if_neg p1, if_neg p2]; omega
              have hXm : X % 256 = 0 := by rw [hxa]; omega
              have HY := Hid.mk hY
              clear hY hxa hxb hXm
              go_wp2
              go_roundw
              case rel => exact HFIN0.out HY.out
              case measure => simp [intOf]; omega
        · have hx := hst2 1 ht
          have m1 : (2 * (j : Int)) % 8 = 2 := by omega
          have m2 : (2 * (j : Int) + 1) % 8 = 3 := by omega
          obtain ⟨hxa, hxb⟩ := hx
          generalize pbN S q 1 = B at *
          clear hst2 ht
          by_cases p1 : 0 < p.1
          · by_cases p2 : 0 < p.2
            · have hYo : Y = X + 48 := by rw [hxa, hxb]; simp only [sgN, if_pos p1, if_pos p2]; omega
              have o1 := or32 X hXl (by rw [hxa]; omega)
              have hXm : X % 64 = 0 := by rw [hxa]; omega
              have o2 := or16 (X + 32) (by omega) (by omega)
              obtain ⟨X1, eX1⟩ : ∃ X1 : Nat, X + 32 = X1 := ⟨_, rfl⟩
              rw [eX1] at o1 o2
              obtain ⟨X2, eX2⟩ : ∃ X2 : Nat, X1 + 16 = X2 := ⟨_, rfl⟩
              rw [eX2] at o2
              have hY : Y = X2 := by omega
              clear eX1 eX2
              have HY := Hid.mk hY
              clear hY hxa hxb hXm hYo
              go_wp2
              go_roundw
              case rel => exact HFIN2.out _ _ HY.out.symm
              case measure => simp [intOf]; omega
            · have hY : Y = X + 32 := by rw [hxa, hxb]; simp only [sgN, if_pos p1, if_neg p2]; omega
              have o1 := or32 X hXl (by rw [hxa]; omega)
              have hXm : X % 64 = 0 := by rw [hxa]; omega
              have HY := Hid.mk hY
              clear hY hxa hxb hXm
              go_wp2
              go_roundw
              case rel => exact HFIN.out _ HY.out.symm
              case measure => simp [intOf]; omega
          · by_cases p2 : 0 < p.2
            · have hY : Y = X + 16 := by rw [hxa, hxb]; simp only [sgN, if_neg p1, if_pos p2]; omega
              have hXm : X % 64 = 0 := by rw [hxa]; omega
              have o2 := or16 (X) (by omega) (by omega)
              have HY := Hid.mk hY
              clear hY hxa hxb hXm
              go_wp2
              go_roundw
              case rel => exact HFIN.out _ HY.out.symm
              case measure => simp [intOf]; omega
            · have hY : Y = X + 0 := by rw [hxa, hxb]; simp only [sgN, if_neg p1, if_neg p2]; omega
              have hXm : X % 64 = 0 := by rw [hxa]; omega
              have HY := Hid.mk hY
              clear hY hxa hxb hXm
              go_wp2
              go_roundw
              case rel => exact HFIN0.out HY.out
              case measure => simp [intOf]; omega
        · have hx := hst2 2 ht
          have m1 : (2 * (j : Int)) % 8 = 4 := by omega
          have m2 : (2 * (j : Int) + 1) % 8 = 5 := by omega
          obtain ⟨hxa, hxb⟩ := hx
          generalize pbN S q 2 = B at *
          clear hst2 ht
          by_cases p1 : 0 < p.1
          · by_cases p2 : 0 < p.2
            · have hYo : Y = X + 12 := by rw [hxa, hxb]; simp only [sgN, if_pos p1, if_pos p2]; omega
              have o1 := or8 X hXl (by rw [hxa]; omega)
              have hXm : X % 16 = 0 := by rw [hxa]; omega
              have o2 := or4 (X + 8) (by omega) (by omega)
              obtain ⟨X1, eX1⟩ : ∃ X1 : Nat, X + 8 = X1 := ⟨_, rfl⟩
              rw [eX1] at o1 o2
              obtain ⟨X2, eX2⟩ : ∃ X2 : Nat, X1 + 4 = X2 := ⟨_, rfl⟩
              rw [eX2] at o2
              have hY : Y = X2 := by omega
              clear eX1 eX2
              have HY := Hid.mk hY
              clear hY hxa hxb hXm hYo
              go_wp2
              go_roundw
              case rel => exact HFIN2.out _ _ HY.out.symm
              case measure => simp [intOf]; omega
            · have hY : Y = X + 8 := by rw [hxa, hxb]; simp only [sgN, if_pos p1, if_neg p2]; omega
              have o1 := or8 X hXl (by rw [hxa]; omega)
              have hXm : X % 16 = 0 := by rw [hxa]; omega
              have HY := Hid.mk hY
              clear hY hxa hxb hXm
              go_wp2
              go_roundw
              case rel => exact HFIN.out _ HY.out.symm
              case measure => simp [intOf]; omega
          · by_cases p2 : 0 < p.2
            · have hY : Y = X + 4 := by rw [hxa, hxb]; simp only [sgN, if_neg p1, if_pos p2]; omega
              have hXm : X % 16 = 0 := by rw [hxa]; omega
              have o2 := or4 (X) (by omega) (by omega)
              have HY := Hid.mk hY
              clear hY hxa hxb hXm
              go_wp2
              go_roundw
              case rel => exact HFIN.out _ HY.out.symm
              case measure => simp [intOf]; omega
            · have hY : Y = X + 0 := by rw [hxa, hxb]; simp only [sgN, if_neg p1, if_neg p2]; omega
              have hXm : X % 16 = 0 := by rw [hxa]; omega
              have HY := Hid.mk hY
              clear hY hxa hxb hXm
              go_wp2
              go_roundw
              case rel => exact HFIN0.out HY.out
              case measure => simp [intOf]; omega
        · have hx := hst2 3 ht
          have m1 : (2 * (j : Int)) % 8 = 6 := by omega
          have m2 : (2 * (j : Int) + 1) % 8 = 7 := by omega
          obtain ⟨hxa, hxb⟩ := hx
          generalize pbN S q 3 = B at *
          clear hst2 ht
          by_cases p1 : 0 < p.1
          · by_cases p2 : 0 < p.2
            · have hYo : Y = X + 3 := by rw [hxa, hxb]; simp only [sgN, if_pos p1, if_pos p2]; omega
              have o1 := or2 X hXl (by rw [hxa]; omega)
              have hXm : X % 4 = 0 := by rw [hxa]; omega
              have o2 := or1 (X + 2) (by omega) (by omega)
              obtain ⟨X1, eX1⟩ : ∃ X1 : Nat, X + 2 = X1 := ⟨_, rfl⟩
              rw [eX1] at o1 o2
              obtain ⟨X2, eX2⟩ : ∃ X2 : Nat, X1 + 1 = X2 := ⟨_, rfl⟩
              rw [eX2] at o2
              have hY : Y = X2 := by omega
              clear eX1 eX2
              have HY := Hid.mk hY
              clear hY hxa hxb hXm hYo
              go_wp2
              go_roundw
              case rel => exact HFIN2.out _ _ HY.out.symm
              case measure => simp [intOf]; omega
            · have hY : Y = X + 2 := by rw [hxa, hxb]; simp only [sgN, if_pos p1, if_neg p2]; omega
              have o1 := or2 X hXl (by rw [hxa]; omega)
              have hXm : X % 4 = 0 := by rw [hxa]; omega
              have HY := Hid.mk hY
              clear hY hxa hxb hXm
              go_wp2
              go_roundw
              case rel => exact HFIN.out _ HY.out.symm
              case measure => simp [intOf]; omega
          · by_cases p2 : 0 < p.2
            · have hY : Y = X + 1 := by rw [hxa, hxb]; simp only [sgN, if_neg p1, if_pos p2]; omega
              have hXm : X % 4 = 0 := by rw [hxa]; omega
              have o2 := or1 (X) (by omega) (by omega)
              have HY := Hid.mk hY
              clear hY hxa hxb hXm
              go_wp2
              go_roundw
              case rel => exact HFIN.out _ HY.out.symm
              case measure => simp [intOf]; omega
            · have hY : Y = X + 0 := by rw [hxa, hxb]; simp only [sgN, if_neg p1, if_neg p2]; omega
              have hXm : X % 4 = 0 := by rw [hxa]; omega
              have HY := Hid.mk hY
              clear hY hxa hxb hXm
              go_wp2
              go_roundw
              case rel => exact HFIN0.out HY.out
              case measure => simp [intOf]; omega
      · have e : j = m := by omega
        have hlt' : ¬ (j : Int) < (m : Int) := by omega
        have HW : Hid (RowIs wr G 5 ((codeL S n).map BV)) := by
          rw [e, HM.out, lyT_end] at hrow
          exact hrow
        have hc : (convert 70 9 (.slice (some ⟨G, 0, none⟩) n n)).run Try.prog wr = .ok (.string ⟨(codeL S n).toArray⟩) wr := by
          have hcl : (codeL S n).length = n := byT_len _ _ _
          have := run_convert_bytes_back (P := Try.prog) wr 70 9 5 ⟨G, 0, none⟩ n (codeL S n) Try.underlying70 Try.underlying5 Try.underlying9 (fun k hk => by
            have e1 : (⟨G, 0, none⟩ : Addr).add k = ⟨G, k, none⟩ := by unfold Addr.add; split <;> simp_all
            rw [e1, HW.out.cell, List.getElem?_map, List.getElem?_eq_getElem hk]; rfl)
          rw [hcl] at this
          exact this
        have HB := Hid.mk hB
        clear e hrow hS hB
        go_wp2
        go_ret2
        first | rw [HK.out, ES.out] | rw [ES.out]
        exact ⟨rfl, HB.out⟩
  · have HK := Hid.mk hk
    have k1 : ((ckE dm v) != 0) = true := by simpa using hk
    have ES : Hid (cdB wd dm sd v = ⟨#[]⟩) := by show _ = _; unfold cdB; rw [if_neg hk]
    clear hs hd hd2 hw hw2 hw3 hv
    go_enter Try.func19, Try.ntmps19
    go_wp2_with fail
    refine kS _ (fun _ w1 hB => ?_) (fun h => absurd h HK.out)
    clear kS hk
    go_wp2
    go_ret2
    rw [ES.out]
    exact ⟨rfl, hB⟩
end Go.Proofs.Ytmdmjjobhkpojaa
