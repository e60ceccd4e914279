/-
  DERIVED. SealTorn's walk.
-/
import Derived.Test.YtgjfdmnlengbfabDoorSTm
import Derived.Test.YtgjfdmnlengbfabDoorSBy
import Derived.Deep.RegionWith
namespace Go.Proofs.YtgjfdmnlengbfabDoor
open Go.RowKit Go.Proofs.SealMath
/-- A list of frames that came in: kinds and payloads. -/
def LArr (W : World) (a0 : Option Addr) (B n : Nat) (F : Nat → Int × ByteArray) : Prop := ∀ i, i < n → ∃ b off, a0 = some ⟨b, off, none⟩ ∧ b < B ∧ W.cell? ⟨b, off + i * 3, none⟩ = some (.int .i64 (F i).1) ∧ W.cell? ⟨b, off + i * 3 + 1, none⟩ = some (.string (F i).2)
theorem LArr.below {W W' : World} {a0 : Option Addr} {B n : Nat} {F : Nat → Int × ByteArray} (h : LArr W a0 B n F) (hb : Below B W W') : LArr W' a0 B n F := fun i hi => by
  obtain ⟨b, off, e, hlt, h1, h2⟩ := h i hi
  exact ⟨b, off, e, hlt, (hb.cell (p := ⟨b, off + i * 3, none⟩) hlt).trans h1, (hb.cell (p := ⟨b, off + i * 3 + 1, none⟩) hlt).trans h2⟩
/-- A list of frames of the call's own, nil or not, by its cells. -/
theorem own_uni {W : World} {base m : Nat} {v : Value} {G : List Fr} (h : W.ownsRow base 28 3 v m (frC G)) : ∃ A cap, v = .slice A m cap ∧ ∀ (j : Nat) (f : Fr), G[j]? = some f → ∃ g, A = some ⟨g, 0, none⟩ ∧ g < W.heap.size ∧ W.cell? ⟨g, j * 3, none⟩ = some (.int .i64 f.1) ∧ W.cell? ⟨g, j * 3 + 1, none⟩ = some (.string ⟨f.2.1.toArray⟩) := by
  have hl := h.1
  rw [frC_len] at hl
  rcases h.2 with ⟨rfl, h0⟩ | ⟨g, cap, cur, rfl, hb, hc, _⟩
  · refine ⟨none, 0, by rw [h0], fun j f hj => ?_⟩
    have := (List.getElem?_eq_some_iff.1 hj).1
    omega
  · refine ⟨some ⟨g, 0, none⟩, cap, rfl, fun j f hj => ⟨g, rfl, (Array.getElem?_eq_some_iff.1 hc).1, ?_, ?_⟩⟩
    · have hlt := (List.getElem?_eq_some_iff.1 hj).1
      rw [h.cellAt (j * 3) (by omega), show j * 3 = 3 * j + 0 by omega, frC_at G j 0 f hj (by omega)]; rfl
    · have hlt := (List.getElem?_eq_some_iff.1 hj).1
      rw [h.cellAt (j * 3 + 1) (by omega), show j * 3 + 1 = 3 * j + 1 by omega, frC_at G j 1 f hj (by omega)]; rfl
set_option maxRecDepth 100000 in
set_option maxHeartbeats 8000000 in
theorem law_torn (a0 : Option Addr) (n cap : Nat) (F : Nat → Int × ByteArray) (kd : Int) (q : ByteArray) (c la : Int) (w : World) (ht : Tab w) (hg : 0 < w.heap.size) (hn : n * 32 ≤ 140737488351232) (hA : LArr w a0 w.heap.size n F) :
    Calls Tryd.prog 3 #[.slice a0 n cap, .int .i64 kd, .string q, .int .i64 c, .int .i64 la] w fun e w' => e = .returned (.bool true) ∧ Below w.heap.size w w' := by
  go_enter Tryd.func3, Tryd.ntmps3
  go_wp2_with fail
  refine (lbegun_any w ht hg).mono ?_
  rintro e w1 ⟨rfl, b1⟩
  go_wp2
  go_loopw [12, 13, 14] (fun s u v wr => ∃ (i : Nat) (B : ByteArray), v = .int .i64 i ∧ i ≤ n ∧ s = .string B ∧ B.data.toList = gB (gL F i) ∧ u = .int .i64 (gL F i).length ∧ Below w.heap.size w wr) (fun _ _ v _ => n - (intOf v).toNat)
  case atStart => exact ⟨0, ⟨#[]⟩, rfl, Nat.zero_le _, rfl, rfl, rfl, b1⟩
  case round =>
    obtain ⟨i, B, rfl, hi, rfl, hB, rfl, hb⟩ := hrel
    have HB : Hid (B.data.toList = gB (gL F i)) := hB
    have hBs : B.size ≤ 65550 * n := by
      rw [ba_size, hB]
      exact Nat.le_trans (gB_bound _ (gL_ok F i)) (Nat.mul_le_mul_left _ (Nat.le_trans (gL_le F i) hi))
    clear hB
    by_cases hlt : i < n
    · obtain ⟨bb, off, rfl, hbb, hc0, hc1⟩ := hA.below hb i hlt
      obtain ⟨S, hS⟩ : ∃ S : ByteArray, S = ⟨(frT (F i).1 (F i).2).toArray⟩ := ⟨_, rfl⟩
      have hSl : S.data.toList = frT (F i).1 (F i).2 := by rw [hS]
      have hfr : ∀ W, Below w.heap.size w W → Calls Tryd.prog 8 #[.int .i64 (F i).1, .string (F i).2] W (fun e w' => e = .returned (.tuple #[.string S, .int .i64 (frE (F i).1 (F i).2)]) ∧ Below W.heap.size W w') := fun W hW => by
        rw [hS]; exact frame_any (F i).1 (F i).2 W (ht.below hW hg) (Nat.lt_of_lt_of_le hg hW.size)
      clear hS
      by_cases hE : frE (F i).1 (F i).2 = 0
      · rw [hE] at hfr
        have hgl := gL_yes F i hE
        obtain ⟨u, hu, hu1, hu2, hu3, hTu⟩ := frT_ok _ _ hE
        have hSs : S.size ≤ 65550 := by rw [ba_size, hSl, hTu, frL_len]; omega
        have HG : Hid ((B ++ S).data.toList = gB (gL F (i + 1)) ∧ (gL F (i + 1)).length = (gL F i).length + 1) := by
          refine ⟨?_, by rw [hgl, List.length_append]; rfl⟩
          rw [hgl, gB_snoc, ByteArray.data_append, Array.toList_append, HB.out, hSl, hTu, hu]; rfl
        have hll := gL_le F i
        clear hE hgl hTu hSl hu
        generalize (gL F i).length = m at *
        go_wp2
        go_region_with (go_at_call 8; refine (hfr _ hb.drew).mono ?_; rintro e w2 ⟨rfl, b2⟩)
        all_goals
          have hb2 := chain hb.drew b2 (Nat.le_refl _)
          clear hfr
          go_wp2
          refine ⟨⟨i + 1, B ++ S, rfl, hlt, rfl, HG.out.1, ?_, hb2⟩, by simp only [intOf]; omega⟩
          rw [HG.out.2]; rfl
      · have hgl := gL_no F i hE
        have hEI : ∃ x : Int, x = frE (F i).1 (F i).2 ∧ x ≠ 0 := ⟨_, rfl, hE⟩
        obtain ⟨x, hx, hx0⟩ := hEI
        rw [← hx] at hfr
        clear hx hE hSl
        go_wp2
        go_region_with (go_at_call 8; refine (hfr _ hb.drew).mono ?_; rintro e w2 ⟨rfl, b2⟩)
        all_goals
          have hb2 := chain hb.drew b2 (Nat.le_refl _)
          clear hfr
          go_wp2
          refine ⟨⟨i + 1, B, rfl, hlt, rfl, by rw [hgl]; exact HB.out, by rw [hgl], hb2⟩, by simp only [intOf]; omega⟩
    · have e : i = n := by omega
      subst e
      clear hi hlt
      have hm : (gL F i).length ≤ i := gL_le F i
      obtain ⟨S, hS⟩ : ∃ S : ByteArray, S = ⟨(frT kd q).toArray⟩ := ⟨_, rfl⟩
      have hSl : S.data.toList = frT kd q := by rw [hS]
      have hfr := frame_any kd q wr (ht.below hb hg) (Nat.lt_of_lt_of_le hg hb.size)
      rw [← hS] at hfr
      clear hS
      by_cases hE : frE kd q = 0
      · rw [hE] at hfr
        obtain ⟨u, rfl, hu1, hu2, hu3, hTu⟩ := frT_ok kd q hE
        have hSs : S.size = q.data.toList.length + 14 := by rw [ba_size, hSl, hTu, frL_len]
        rw [hTu] at hSl
        clear hE hTu
        by_cases hc0 : 0 ≤ c
        · obtain ⟨cn, rfl⟩ : ∃ cn : Nat, c = cn := ⟨c.toNat, by omega⟩
          clear hc0
          by_cases hc1 : cn < S.size
          · have HSl : Hid (S.data.toList = frL u q.data.toList) := hSl
            have HSs : Hid (S.size = q.data.toList.length + 14) := hSs
            have hSb : S.size ≤ 65550 := by omega
            clear hSl hSs
            go_wp2_with fail
            refine hfr.mono ?_
            rintro e w2 ⟨rfl, b2⟩
            have hb2 := chain hb b2 (Nat.le_refl _)
            clear hfr
            have hcv := Lib.run_convert_string_bytes w2 9 29 5 (S.extract 0 cn) Tryd.underlying9 Tryd.underlying29 Tryd.underlying5
            have hes : (S.extract 0 cn).size = cn := by rw [ByteArray.size_extract]; omega
            have hBA := ba_bytes w2 (S.extract 0 cn)
            have hbl := below_bytes w2 (S.extract 0 cn)
            rw [hes] at hBA hcv
            generalize grownCap w2 cn 0 5 = cp at hcv
            generalize Lib.bytesWorld w2 5 (S.extract 0 cn) = W at *
            have hb3 := chain hb2 hbl (Nat.le_refl _)
            have HE : Hid ((S.extract 0 cn).data.toList = (frL u q.data.toList).take cn) := by
              show _ = _
              rw [ByteArray.data_extract, Array.toList_extract, List.extract_eq_take_drop, HSl.out]; rfl
            have HU : Hid (q.data.toList.length ≤ 65536) := hu3
            clear hu3
            by_cases hcz : cn = 0
            · subst hcz
              have hs0 : ¬ S.size ≤ 0 := by omega
              have hx0 : S.extract 0 0 = ByteArray.empty := by simp
              rw [hx0] at hcv
              have hs1 : ¬ S.size = 0 := by omega
              obtain ⟨T, hT⟩ : ∃ T : List UInt8, T = [] := ⟨_, rfl⟩
              have hcv2 := hBA.conv T cp (by rw [hT]; exact Nat.le_refl _) (fun k hk => by rw [hT] at hk; simp at hk)
              have hTl : T.length = 0 := by rw [hT]; rfl
              have hTs : ∀ z, z + 1 < 0 → T[z]? = (frL u q.data.toList)[z]? := fun z hz => by omega
              rw [hTl] at hcv2
              clear hT hBA
              obtain ⟨Z, hZ⟩ : ∃ Z : ByteArray, Z = ⟨T.toArray⟩ := ⟨_, rfl⟩
              have hZl : Z.data.toList = T := by rw [hZ]
              rw [← hZ] at hcv2
              have hZs : Z.size = 0 := by rw [ba_size, hZl, hTl]
              have hXl : (B ++ Z).data.toList = [] ++ gB (gL F i) ++ T := by rw [ByteArray.data_append, Array.toList_append, HB.out, hZl, List.nil_append]
              have hno : (psA (B ++ Z) (0 + (gB (gL F i)).length)).2.2.2 ≠ 0 := torn_no (B ++ Z) _ u q.data.toList ([] ++ gB (gL F i)) T 0 hXl (by rw [List.nil_append, Nat.zero_add]) HU.out (by have := HSs.out; omega) hTl hTs
              have hfs := frs_goods (B ++ Z) T (gL F i) 0 ((B ++ Z).size + 1) [] (gL_ok F i) hXl rfl hno (by
                have h1 := gB_len_ge (gL F i)
                have h2 : (B ++ Z).size = (gB (gL F i)).length + T.length := by rw [ba_size, hXl]; simp
                omega)
              have hfc := frames_any (B ++ Z) W (ht.below hb3 hg) (Nat.lt_of_lt_of_le hg (hb3).size) (by rw [ByteArray.size_append]; omega) _ hfs.symm (by rw [gAt_len]; omega)
              have hBe : ((0 + (gB (gL F i)).length : Nat) : Int) = (B.size : Int) := by rw [ba_size, HB.out]; omega
              dsimp only at hfc
              rw [hBe, gAt_len] at hfc
              have HFR : Hid (∀ (j : Nat) (g : Gd), (gL F i)[j]? = some g → ∃ q', (gAt 0 (gL F i))[j]? = some (g.1, g.2, q')) := fun j g hj => gAt_at (gL F i) 0 j g hj
              obtain ⟨G, hG⟩ : ∃ G, G = gAt 0 (gL F i) := ⟨_, rfl⟩
              rw [← hG] at hfc HFR
              clear hG hBe hfs hno hXl hZ hZl hTl hTs
              have hml : ∃ m, m = (gL F i).length := ⟨_, rfl⟩
              obtain ⟨m, hmE⟩ := hml
              rw [← hmE] at hfc hm ⊢
              have HME : Hid (m = (gL F i).length) := hmE
              clear hmE
              go_wp2_with fail
              refine hfc.mono ?_
              rintro e w5 ⟨⟨v, rfl, hown⟩, b5⟩
              have hb5 := chain (hb3) b5 (Nat.le_refl _)
              clear hfc hcv2
              obtain ⟨A, cap2, rfl, hgc⟩ := own_uni hown
              clear hown b5
              have hA5 := hA.below hb5
              have hn5 : i < 4611686018427387904 := by omega
              go_wp2
              go_loopw [22, 23] (fun x y ws => ∃ j : Nat, y = .int .i64 j ∧ j ≤ i ∧ x = .int .i64 (gL F j).length ∧ Below w5.heap.size w5 ws) (fun _ y _ => i - (intOf y).toNat)
              case atStart => exact ⟨0, rfl, Nat.zero_le _, rfl, Below.refl _ _⟩
              case round =>
                obtain ⟨j, rfl, hj, rfl, hbs⟩ := hrel
                have hbw := chain hb5 hbs (Nat.le_refl _)
                by_cases hjl : j < i
                · obtain ⟨bb, off, rfl, hbb, hc0, hc1'⟩ := hA.below hbw j hjl
                  obtain ⟨S2, hS2⟩ : ∃ S : ByteArray, S = ⟨(frT (F j).1 (F j).2).toArray⟩ := ⟨_, rfl⟩
                  have hfr : ∀ W, Below w.heap.size w W → Calls Tryd.prog 8 #[.int .i64 (F j).1, .string (F j).2] W (fun e w' => e = .returned (.tuple #[.string S2, .int .i64 (frE (F j).1 (F j).2)]) ∧ Below W.heap.size W w') := fun W hW => by
                    rw [hS2]; exact frame_any (F j).1 (F j).2 W (ht.below hW hg) (Nat.lt_of_lt_of_le hg hW.size)
                  clear hS2
                  by_cases hE : frE (F j).1 (F j).2 = 0
                  · rw [hE] at hfr
                    have hgl := gL_yes F j hE
                    have hgi := gL_at F j i hjl hE
                    obtain ⟨u', hu', _⟩ := frT_ok _ _ hE
                    have hkm : (gL F j).length < m := by rw [HME.out]; exact (List.getElem?_eq_some_iff.1 hgi).1
                    obtain ⟨q', hq'⟩ := HFR.out _ _ hgi
                    obtain ⟨g, rfl, hgs, hg0, hg1⟩ := hgc _ _ hq'
                    have ek : (((F j).1.toNat : Nat) : Int) = (F j).1 := by rw [hu']; rfl
                    dsimp only at hg0 hg1
                    rw [ek] at hg0
                    have hg1' : w5.cell? ⟨g, (gL F j).length * 3 + 1, none⟩ = some (.string (F j).2) := hg1
                    have HGL : Hid (((gL F (j + 1)).length : Nat) = (gL F j).length + 1) := by show _ = _; rw [hgl, List.length_append]; rfl
                    clear hE hgl hgi hq' hg1 ek hu' hgc
                    generalize (gL F j).length = k at *
                    go_wp2
                    go_region_with (go_at_call 8; refine (hfr _ hbw.drew).mono ?_; rintro e w6 ⟨rfl, b6⟩)
                    all_goals
                      have hbs6 := chain hbs.drew b6 (Nat.le_refl _)
                      have hbw6 := chain hbw.drew b6 (Nat.le_refl _)
                      obtain ⟨bb2, off2, hz2, hbb2, hd0, hd1⟩ := hA.below hbw6 j hjl
                      cases hz2
                      have hh0 := (hbs6.cell (p := ⟨g, k * 3, none⟩) hgs).trans hg0
                      have hh1 := (hbs6.cell (p := ⟨g, k * 3 + 1, none⟩) hgs).trans hg1'
                      have k1 : (k : Int) < (m : Int) := by omega
                      have j1 : (j : Int) < (i : Int) := by omega
                      clear hfr hc0 hc1' hg0 hg1'
                      have k0 : 0 ≤ (k : Int) := by omega
                      have j0 : 0 ≤ (j : Int) := by omega
                      go_wp2
                      go_quiet (fail)
                      go_wp2
                      refine ⟨⟨j + 1, rfl, hjl, ?_, hbs6.trans (Drew.below ⟨_, rfl⟩ _)⟩, by simp only [intOf]; omega⟩
                      rw [HGL.out]; rfl
                  · have hgl := gL_no F j hE
                    have hEI : ∃ x : Int, x = frE (F j).1 (F j).2 ∧ x ≠ 0 := ⟨_, rfl, hE⟩
                    obtain ⟨x, hx, hx0⟩ := hEI
                    rw [← hx] at hfr
                    clear hx hE
                    go_wp2
                    go_region_with (go_at_call 8; refine (hfr _ hbw.drew).mono ?_; rintro e w6 ⟨rfl, b6⟩)
                    all_goals
                      have hbs6 := chain hbs.drew b6 (Nat.le_refl _)
                      clear hfr
                      go_wp2
                      refine ⟨⟨j + 1, rfl, hjl, by rw [hgl], hbs6⟩, by simp only [intOf]; omega⟩
                · go_wp2
                  go_ret
                  exact ⟨rfl, hbw⟩
            · have hcp : 0 < cn := by omega
              obtain ⟨y, hy, hyl⟩ : ∃ y : Nat, IntKind.u8.wrap la = (y : Int) ∧ y < 256 := ⟨(IntKind.u8.wrap la).toNat, by rw [IntKind.wrap_u8]; omega, by rw [IntKind.wrap_u8]; omega⟩
              have e8 : (UInt8.ofNat y).toNat = y := by rw [u8n]; omega
              obtain ⟨T, hT⟩ : ∃ T : List UInt8, T = ((frL u q.data.toList).take cn).set (cn - 1) (UInt8.ofNat y) := ⟨_, rfl⟩
              have hTl : T.length = cn := by rw [hT, List.length_set, ← HE.out, ← ba_size, hes]
              have hTs : ∀ z, z + 1 < cn → T[z]? = (frL u q.data.toList)[z]? := fun z hz => by
                rw [hT, List.getElem?_set_ne (by omega), List.getElem?_take_of_lt (by omega)]
              obtain ⟨hcc, hfz⟩ := hBA (cn - 1) (by omega)
              have hBA2 : BA (W.setCell ⟨w2.heap.size, cn - 1, none⟩ (.int .u8 y)) w2.heap.size cn (lb T) :=
                (hBA.set (cn - 1) y).ext fun k _ => by
                  rw [hT, lb_set _ _ k _ (by rw [← HE.out, ← ba_size, hes]; omega), e8, HE.out]
              have hcv2 := hBA2.conv T cp (by omega) (fun k hk => lb_at T k hk)
              rw [hTl] at hcv2
              have hb4 : Below w.heap.size w (W.setCell ⟨w2.heap.size, cn - 1, none⟩ (.int .u8 y)) := hb3.setCell (p := ⟨w2.heap.size, cn - 1, none⟩) hb2.size _
              have hci : ((cn : Int) - 1) = ((cn - 1 : Nat) : Int) := by omega
              clear hT hBA2 hBA e8
              obtain ⟨Z, hZ⟩ : ∃ Z : ByteArray, Z = ⟨T.toArray⟩ := ⟨_, rfl⟩
              have hZl : Z.data.toList = T := by rw [hZ]
              rw [← hZ] at hcv2
              have hZs : Z.size = cn := by rw [ba_size, hZl, hTl]
              have hXl : (B ++ Z).data.toList = [] ++ gB (gL F i) ++ T := by rw [ByteArray.data_append, Array.toList_append, HB.out, hZl, List.nil_append]
              have hno : (psA (B ++ Z) (0 + (gB (gL F i)).length)).2.2.2 ≠ 0 := torn_no (B ++ Z) _ u q.data.toList ([] ++ gB (gL F i)) T cn hXl (by rw [List.nil_append, Nat.zero_add]) HU.out (by have := HSs.out; omega) hTl hTs
              have hfs := frs_goods (B ++ Z) T (gL F i) 0 ((B ++ Z).size + 1) [] (gL_ok F i) hXl rfl hno (by
                have h1 := gB_len_ge (gL F i)
                have h2 : (B ++ Z).size = (gB (gL F i)).length + T.length := by rw [ba_size, hXl]; simp
                omega)
              have hfc := frames_any (B ++ Z) (W.setCell ⟨w2.heap.size, cn - 1, none⟩ (.int .u8 y)) (ht.below hb4 hg) (Nat.lt_of_lt_of_le hg (hb4).size) (by rw [ByteArray.size_append]; omega) _ hfs.symm (by rw [gAt_len]; omega)
              have hBe : ((0 + (gB (gL F i)).length : Nat) : Int) = (B.size : Int) := by rw [ba_size, HB.out]; omega
              dsimp only at hfc
              rw [hBe, gAt_len] at hfc
              have HFR : Hid (∀ (j : Nat) (g : Gd), (gL F i)[j]? = some g → ∃ q', (gAt 0 (gL F i))[j]? = some (g.1, g.2, q')) := fun j g hj => gAt_at (gL F i) 0 j g hj
              obtain ⟨G, hG⟩ : ∃ G, G = gAt 0 (gL F i) := ⟨_, rfl⟩
              rw [← hG] at hfc HFR
              clear hG hBe hfs hno hXl hZ hZl hTl hTs
              have hml : ∃ m, m = (gL F i).length := ⟨_, rfl⟩
              obtain ⟨m, hmE⟩ := hml
              rw [← hmE] at hfc hm ⊢
              have HME : Hid (m = (gL F i).length) := hmE
              clear hmE
              go_wp2_with fail
              refine hfc.mono ?_
              rintro e w5 ⟨⟨v, rfl, hown⟩, b5⟩
              have hb5 := chain (hb4) b5 (Nat.le_refl _)
              clear hfc hcv2
              obtain ⟨A, cap2, rfl, hgc⟩ := own_uni hown
              clear hown b5
              have hA5 := hA.below hb5
              have hn5 : i < 4611686018427387904 := by omega
              go_wp2
              go_loopw [22, 23] (fun x y ws => ∃ j : Nat, y = .int .i64 j ∧ j ≤ i ∧ x = .int .i64 (gL F j).length ∧ Below w5.heap.size w5 ws) (fun _ y _ => i - (intOf y).toNat)
              case atStart => exact ⟨0, rfl, Nat.zero_le _, rfl, Below.refl _ _⟩
              case round =>
                obtain ⟨j, rfl, hj, rfl, hbs⟩ := hrel
                have hbw := chain hb5 hbs (Nat.le_refl _)
                by_cases hjl : j < i
                · obtain ⟨bb, off, rfl, hbb, hc0, hc1'⟩ := hA.below hbw j hjl
                  obtain ⟨S2, hS2⟩ : ∃ S : ByteArray, S = ⟨(frT (F j).1 (F j).2).toArray⟩ := ⟨_, rfl⟩
                  have hfr : ∀ W, Below w.heap.size w W → Calls Tryd.prog 8 #[.int .i64 (F j).1, .string (F j).2] W (fun e w' => e = .returned (.tuple #[.string S2, .int .i64 (frE (F j).1 (F j).2)]) ∧ Below W.heap.size W w') := fun W hW => by
                    rw [hS2]; exact frame_any (F j).1 (F j).2 W (ht.below hW hg) (Nat.lt_of_lt_of_le hg hW.size)
                  clear hS2
                  by_cases hE : frE (F j).1 (F j).2 = 0
                  · rw [hE] at hfr
                    have hgl := gL_yes F j hE
                    have hgi := gL_at F j i hjl hE
                    obtain ⟨u', hu', _⟩ := frT_ok _ _ hE
                    have hkm : (gL F j).length < m := by rw [HME.out]; exact (List.getElem?_eq_some_iff.1 hgi).1
                    obtain ⟨q', hq'⟩ := HFR.out _ _ hgi
                    obtain ⟨g, rfl, hgs, hg0, hg1⟩ := hgc _ _ hq'
                    have ek : (((F j).1.toNat : Nat) : Int) = (F j).1 := by rw [hu']; rfl
                    dsimp only at hg0 hg1
                    rw [ek] at hg0
                    have hg1' : w5.cell? ⟨g, (gL F j).length * 3 + 1, none⟩ = some (.string (F j).2) := hg1
                    have HGL : Hid (((gL F (j + 1)).length : Nat) = (gL F j).length + 1) := by show _ = _; rw [hgl, List.length_append]; rfl
                    clear hE hgl hgi hq' hg1 ek hu' hgc
                    generalize (gL F j).length = k at *
                    go_wp2
                    go_region_with (go_at_call 8; refine (hfr _ hbw.drew).mono ?_; rintro e w6 ⟨rfl, b6⟩)
                    all_goals
                      have hbs6 := chain hbs.drew b6 (Nat.le_refl _)
                      have hbw6 := chain hbw.drew b6 (Nat.le_refl _)
                      obtain ⟨bb2, off2, hz2, hbb2, hd0, hd1⟩ := hA.below hbw6 j hjl
                      cases hz2
                      have hh0 := (hbs6.cell (p := ⟨g, k * 3, none⟩) hgs).trans hg0
                      have hh1 := (hbs6.cell (p := ⟨g, k * 3 + 1, none⟩) hgs).trans hg1'
                      have k1 : (k : Int) < (m : Int) := by omega
                      have j1 : (j : Int) < (i : Int) := by omega
                      clear hfr hc0 hc1' hg0 hg1'
                      have k0 : 0 ≤ (k : Int) := by omega
                      have j0 : 0 ≤ (j : Int) := by omega
                      go_wp2
                      go_quiet (fail)
                      go_wp2
                      refine ⟨⟨j + 1, rfl, hjl, ?_, hbs6.trans (Drew.below ⟨_, rfl⟩ _)⟩, by simp only [intOf]; omega⟩
                      rw [HGL.out]; rfl
                  · have hgl := gL_no F j hE
                    have hEI : ∃ x : Int, x = frE (F j).1 (F j).2 ∧ x ≠ 0 := ⟨_, rfl, hE⟩
                    obtain ⟨x, hx, hx0⟩ := hEI
                    rw [← hx] at hfr
                    clear hx hE
                    go_wp2
                    go_region_with (go_at_call 8; refine (hfr _ hbw.drew).mono ?_; rintro e w6 ⟨rfl, b6⟩)
                    all_goals
                      have hbs6 := chain hbs.drew b6 (Nat.le_refl _)
                      clear hfr
                      go_wp2
                      refine ⟨⟨j + 1, rfl, hjl, by rw [hgl], hbs6⟩, by simp only [intOf]; omega⟩
                · go_wp2
                  go_ret
                  exact ⟨rfl, hbw⟩
          · have h14 : ((S.size : Int) != 1) = true := by simp; omega
            clear hSs hSl
            go_wp2_with fail
            refine hfr.mono ?_
            rintro e w2 ⟨rfl, b2⟩
            have hb2 := chain hb b2 (Nat.le_refl _)
            clear hfr
            go_wp2
            go_ret
            exact ⟨rfl, hb2⟩
        · have h14 : ((S.size : Int) != 1) = true := by simp; omega
          clear hSs hSl
          go_wp2_with fail
          refine hfr.mono ?_
          rintro e w2 ⟨rfl, b2⟩
          have hb2 := chain hb b2 (Nat.le_refl _)
          clear hfr
          go_wp2
          go_ret
          exact ⟨rfl, hb2⟩
      · rw [frT_no kd q hE] at hSl
        have hSs : S.size = 0 := by rw [ba_size, hSl]; rfl
        have hEI : ∃ x : Int, x = frE kd q ∧ x ≠ 0 := ⟨_, rfl, hE⟩
        obtain ⟨x, hx, hx0⟩ := hEI
        rw [← hx] at hfr
        clear hx hE hSl
        go_wp2_with fail
        refine hfr.mono ?_
        rintro e w2 ⟨rfl, b2⟩
        have hb2 := chain hb b2 (Nat.le_refl _)
        clear hfr
        go_wp2
        go_ret
        exact ⟨rfl, hb2⟩
end Go.Proofs.YtgjfdmnlengbfabDoor
