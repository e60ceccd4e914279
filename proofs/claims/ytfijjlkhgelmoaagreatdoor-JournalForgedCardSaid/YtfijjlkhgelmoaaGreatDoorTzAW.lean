/-
  DERIVED. JFor4, as one text.
-/
import Derived.Test.YtfijjlkhgelmoaaGreatDoorTzAV
set_option linter.unusedVariables false
set_option linter.unusedSimpArgs false
namespace Go.Proofs.YtfijjlkhgelmoaaGreatDoor
open Go.RowKit Go.Proofs.SealMath Go.Proofs.DiskMath
theorem uAt {W : World} {a : Option Addr} {X : List Uq} (h : EU.At W a X) (i : Nat) (hi : i < X.length) : ∃ g off, a = some ⟨g, off, none⟩ ∧ W.cell? ⟨g, off + i * 4, none⟩ = some (.int .i64 X[i].1) ∧ W.cell? ⟨g, off + i * 4 + 1, none⟩ = some (.int .i64 X[i].2.1) ∧ W.cell? ⟨g, off + i * 4 + 2, none⟩ = some (.int .i64 X[i].2.2.1) ∧ W.cell? ⟨g, off + i * 4 + 3, none⟩ = some (.string X[i].2.2.2) := by
  obtain ⟨g, off, e, hr⟩ := h.at' (fun e => by rw [e] at hi; simp at hi)
  have hc := fun j (hj : j < 4) => Rw.flat_at EU.f 4 (fun _ => rfl) X i j hi hj
  have h0 := hr (i * 4) _ (by have := hc 0 (by omega); simpa using this)
  have h1 := hr (i * 4 + 1) _ (by have := hc 1 (by omega); simpa using this)
  have h2 := hr (i * 4 + 2) _ (by have := hc 2 (by omega); simpa using this)
  have h3 := hr (i * 4 + 3) _ (by have := hc 3 (by omega); simpa using this)
  exact ⟨g, off, e, h0, by rw [Nat.add_assoc]; exact h1, by rw [Nat.add_assoc]; exact h2, by rw [Nat.add_assoc]; exact h3⟩
set_option maxHeartbeats 16000000 in
set_option maxRecDepth 100000 in
theorem law_forged (la : Option Addr) (lc : Nat) (In : List Uq) (at' how : Int) (more : ByteArray) (w : World) (ht : Tb w) (hin : EU.At w la In) (hl : In.length ≤ 3518437208780) (hb : ∀ e ∈ In, I64 e.2.1 ∧ I64 e.2.2.1 ∧ e.2.2.2.size ≤ 140737488351232) (ha : I64 at') (hh : I64 how) (hm : more.size ≤ 140737488351232) :
    Calls Tryz.prog 3 #[.slice la In.length lc, .int .i64 at', .int .i64 how, .string more] w fun e w' => e = .returned (.bool true) ∧ Below w.heap.size w w' := by
  obtain ⟨N, hN⟩ : ∃ N, N = In.length := ⟨_, rfl⟩
  rw [← hN] at hl ⊢
  have HI := Hid.mk (And.intro hin (And.intro hb hN))
  have HT := Hid.mk ht
  have HM := Hid.mk hm
  have hpk := fun (n : Nat) (V : World) (h1 : 1 ≤ n) (h2 : n ≤ 100) => pick_any at' n V h1 (by omega) ha
  have hpk6 := fun (V : World) => pick_any how 6 V (by omega) (by omega) hh
  have HP6 := Hid.mk hpk6
  clear hin hb hN ht hm ha hh hpk6
  have h1 := new_one w
  go_enter Tryz.func3, Tryz.ntmps3
  go_wp2_with fail
  refine h1.mono ?_
  clear h1
  rintro r w1 ⟨p, mb, rfl, hdk, hf, b1⟩
  have h2 := create_one hdk hf b1
  clear hdk hf b1
  go_wp2_with fail
  refine h2.mono ?_
  clear h2
  rintro r w2 ⟨rfl, e, c, hJ⟩
  have HJ := Hid.mk hJ
  clear hJ
  go_wp2_with fail
  refine (num_any 0 w2).mono ?_
  rintro r w3 ⟨rfl, rfl⟩
  obtain ⟨M, hM⟩ : ∃ M : Nat, min (N : Int) 60 + 1 = (M : Int) := ⟨(min (N : Int) 60 + 1).toNat, by omega⟩
  have hk := hpk M w3 (by omega) (by omega)
  clear hpk
  obtain ⟨K, hK⟩ : ∃ K : Nat, at' % (M : Int) = K := ⟨(at' % (M : Int)).toNat, by have := Int.emod_nonneg at' (show (M : Int) ≠ 0 by omega); omega⟩
  have hK1 : K < M := by have := Int.emod_lt_of_pos at' (show (0 : Int) < M by omega); omega
  have hKN : K ≤ N := by omega
  have hK60 : K ≤ 60 := by omega
  rw [hK, ← hM] at hk
  clear hM hK hK1
  go_wp2_with fail
  refine hk.mono ?_
  clear hk
  rintro r w4 ⟨rfl, rfl⟩
  have HJ0 := Hid.mk (show ∃ e c, JD w w4 p mb e c (flU (fL In 0)) (.slice none 0 0) ((fL In 0).map upQ) from ⟨e, c, HJ.out⟩)
  clear HJ e c
  go_wp2
  go_loopw [10, 12] (fun ul ui wr => ∃ (i : Nat) (a : Option Addr) (cp : Nat), ul = .slice a i cp ∧ ui = .int .i64 i ∧ i ≤ K ∧ Hid (∃ e c, JD w wr p mb e c (flU (fL In i)) (.slice a i cp) ((fL In i).map upQ))) (fun _ u _ => K - (intOf u).toNat)
  case atStart => exact ⟨0, none, 0, rfl, rfl, Nat.zero_le _, HJ0⟩
  case round =>
    clear HJ0
    obtain ⟨i, a, cp, rfl, rfl, hi, HM⟩ := hrel
    by_cases hlt : i < K
    · have i1 : (i : Int) < (K : Int) := by omega
      have i2 : (0 : Int) ≤ (i : Int) := by omega
      have i3 : (i : Int) < (N : Int) := by omega
      obtain ⟨e, c, hJ⟩ := HM.out
      have hiN : i < In.length := by rw [← HI.out.2.2]; omega
      obtain ⟨g, off, rfl, x0, x1, x2, x3⟩ := uAt (Rw.El.At.below HI.out.1 hJ.bl) i hiN
      have hbi := HI.out.2.1 In[i] (List.getElem_mem hiN)
      have hg := fun (V : World) => goes_any In[i].1 In[i].2.1 In[i].2.2.1 In[i].2.2.2 (i + 1) V (by omega) hbi.1 hbi.2.1
      have hgu := go_good In[i].2.1 In[i].2.2.1 In[i].2.2.2 (i + 1) (by omega)
      have hsn := fL_succ In i hiN
      obtain ⟨U, hU⟩ : ∃ U, U = goU In[i].2.1 In[i].2.2.1 In[i].2.2.2 (i + 1) := ⟨_, rfl⟩
      rw [← hU] at hg hgu hsn
      have hwr := wr_good hgu
      have hfr := (frU_len hgu).2
      generalize In[i] = z at x0 x1 x2 x3 hg hU hbi
      obtain ⟨z0, z1, z2, z3⟩ := z
      dsimp only at x0 x1 x2 x3 hg hU hbi
      clear hU hbi
      have hlen : (flU (fL In i)).length ≤ 42 * i := by have := flU_le (fL_good In i (by omega)).g; rw [fL_len] at this; exact this
      have HJ := Hid.mk (And.intro hJ (And.intro hsn hlen))
      have HU := Hid.mk (And.intro hgu (And.intro hwr hfr))
      obtain ⟨us, uk, ui, uc⟩ := U
      dsimp only [upV, uC] at hg
      rw [show ((i + 1 : Nat) : Int) = (i : Int) + 1 from by omega] at hg
      clear HM hJ hsn hlen hgu hwr hfr hiN
      go_wp2_with fail
      refine (hg wr).mono ?_
      clear hg x0 x1 x2 x3
      rintro r v1 ⟨rfl, b1⟩
      obtain ⟨V, hV⟩ : ∃ V, V = v1.alloc (.cells #[.int .i64 us, .int .i64 uk, .int .i64 ui, .string ⟨uc.toArray⟩] 30) := ⟨_, rfl⟩
      have bV : Below wr.heap.size wr V := hV ▸ b1.alloc b1.size _
      have hbx : V.heap[v1.heap.size]? = some (.cells #[.int .i64 us, .int .i64 uk, .int .i64 ui, .string ⟨uc.toArray⟩] 30 (0, 0)) := hV ▸ heap_alloc_last v1 _
      have hJV := HJ.out.1.below bV
      have hw := write_any us uk ui ⟨uc.toArray⟩ V (HT.out.at hJV.bl).1
      rw [HU.out.2.1.1, HU.out.2.1.2] at hw
      obtain ⟨T, hT⟩ : ∃ T : ByteArray, T = ⟨(frU ⟨us, uk, ui, uc⟩).toArray⟩ := ⟨_, rfl⟩
      rw [← hT] at hw
      have hTl : T.data.toList = frU ⟨us, uk, ui, uc⟩ := by rw [hT]
      have hTs : T.size ≤ 42 := by rw [ba_len, hTl]; exact HU.out.2.2
      have HTl := Hid.mk (And.intro hTl hTs)
      clear hT hTl hTs
      have HB := Hid.mk (And.intro hJV (And.intro hbx b1.size))
      have HV := Hid.mk hV
      clear bV hbx hJV hV b1
      go_wp2_with fail
      rw [← HV.out]
      refine hw.mono ?_
      clear hw
      rintro r v2 ⟨rfl, b2⟩
      have hJ2 := HB.out.1.below b2
      have hbx2 := (b2.block v1.heap.size (Array.getElem?_eq_some_iff.1 HB.out.2.1).1).trans HB.out.2.1
      go_wp2_with fail
      refine (num_any 0 v2).mono ?_
      rintro r v2' ⟨rfl, rfl⟩
      have hap := append_one T hJ2 (by have h1 := HJ.out.2.2; have h2 := HTl.out.2; omega)
      have HB2 := Hid.mk (And.intro hJ2 hbx2)
      clear hJ2 hbx2 b2
      go_wp2_with fail
      refine hap.mono ?_
      clear hap
      rintro r v3 ⟨rfl, st3, e3, c3, hJ3⟩
      have hbx3 : v3.heap[v1.heap.size]? = some (.cells #[.int .i64 us, .int .i64 uk, .int .i64 ui, .string ⟨uc.toArray⟩] 30 (0, 0)) := (st3.block v1.heap.size (Array.getElem?_eq_some_iff.1 HB2.out.2).1 (fun hf => by have h1 := HJ.out.1.dk.lt hf; have h2 := HB.out.2.2; omega)).trans HB2.out.2
      have y0 : v3.cell? ⟨v1.heap.size, 0, none⟩ = some (.int .i64 us) := by rw [cell_of_row _ _ 0 _ _ (0, 0) hbx3]; rfl
      have y1 : v3.cell? ⟨v1.heap.size, 1, none⟩ = some (.int .i64 uk) := by rw [cell_of_row _ _ 1 _ _ (0, 0) hbx3]; rfl
      have y2 : v3.cell? ⟨v1.heap.size, 2, none⟩ = some (.int .i64 ui) := by rw [cell_of_row _ _ 2 _ _ (0, 0) hbx3]; rfl
      have y3 : v3.cell? ⟨v1.heap.size, 3, none⟩ = some (.string ⟨uc.toArray⟩) := by rw [cell_of_row _ _ 3 _ _ (0, 0) hbx3]; rfl
      go_wp2_with fail
      refine (num_any 0 v3).mono ?_
      rintro r v3' ⟨rfl, rfl⟩
      obtain ⟨v', W5, hap, hr5, st5, ho5⟩ := Rw.El.app1 okEU v3' ((fL In i).map upQ) (.slice a i cp) hJ3.wr (upQ ⟨us, uk, ui, uc⟩) (by show (_ + 1) * 40 ≤ _; rw [List.length_map, fL_len]; omega) (by rw [List.length_map, fL_len]; omega)
      obtain ⟨a5, cp5, e5, -⟩ := hr5.form
      rw [List.length_append, List.length_map, fL_len, List.length_singleton] at e5
      subst e5
      have hJ5 := hJ3.list hr5 st5 ho5
      have HN : Hid (∃ e c, JD w W5 p mb e c (flU (fL In (i + 1))) (.slice a5 (i + 1) cp5) ((fL In (i + 1)).map upQ)) := ⟨e3, c3, by
        rw [HJ.out.2.1, flU_snoc, List.map_append, List.map_singleton, ← HTl.out.1]
        exact hJ5⟩
      dsimp only [EU, upQ] at hap
      clear hr5 st5 ho5 hJ5 hJ3 st3 hbx3
      go_wp2_with (at_builtin; refine Rw.wpList_append_eq rfl _ _ _ _ rfl _ _ _ _ rfl rfl hap ?_; clear hap)
      try go_wp2
      exact ⟨⟨i + 1, a5, cp5, rfl, rfl, hlt, HN⟩, by simp only [intOf]; omega⟩
    · have i1 : ¬ (i : Int) < (K : Int) := by omega
      obtain rfl : i = K := by omega
      clear hlt i1
      obtain ⟨e, c, hJ⟩ := HM.out
      obtain ⟨L, hL⟩ : ∃ L, L = fL In i := ⟨_, rfl⟩
      have hG := fL_good In i (by omega)
      have hLl := fL_len In i
      rw [← hL] at hJ hG hLl
      have hZle := flU_le hG.g
      have HG := Hid.mk (And.intro hG (And.intro hLl hZle))
      clear HM hL hG hZle HI
      have h1 := size_one hJ
      obtain ⟨Z, hZ⟩ : ∃ Z, Z = (flU L).length := ⟨_, rfl⟩
      rw [← hZ] at h1
      have h2 := look_good HG.out.1 hJ HT.out
      unfold LkG at h2
      rw [← hZ, hLl] at h2
      have HZ := Hid.mk hZ
      have HJ := Hid.mk hJ
      clear hJ hLl hZ
      go_wp2_with fail
      refine h1.mono ?_
      clear h1
      rintro r s1 ⟨rfl, rfl⟩
      go_wp2_with fail
      refine h2.mono ?_
      clear h2
      rintro r s2 ⟨a2, cp2, rfl, k1, -, b2⟩
      have hs := same_any _ _ (L.map upQ) s2 k1 (Rw.El.Row.below HJ.out.wr b2) (by rw [List.length_map]; have := HG.out.2.1; omega)
      clear k1
      go_wp2_with fail
      refine (num_any 0 s2).mono ?_
      rintro r s2' ⟨rfl, rfl⟩
      go_wp2_with fail
      refine hs.mono ?_
      clear hs
      rintro r s3 ⟨rfl, d3⟩
      have HJ3 := Hid.mk (HJ.out.below (chain b2 (d3.below _) (Nat.le_refl _)))
      clear HJ b2 d3
      have hpv := putvar_x (i + 1) s3 (by omega)
      rw [show ((i + 1 : Nat) : Int) = (i : Int) + 1 from by omega] at hpv
      go_wp2_with fail
      refine hpv.mono ?_
      clear hpv
      rintro r s4 ⟨A, rfl, hAs, HA, b4⟩
      have HJ4 := Hid.mk (HJ3.out.below b4)
      clear HJ3 b4
      have h6 := HP6.out s4
      rw [show ((6 : Nat) : Int) = 6 from rfl] at h6
      obtain ⟨q, hq⟩ : ∃ q : Nat, how % 6 = q := ⟨(how % 6).toNat, by omega⟩
      have hq6 : q < 6 := by omega
      rw [hq] at h6
      clear hq HP6
      go_wp2_with fail
      refine h6.mono ?_
      clear h6
      rintro r s5 ⟨rfl, rfl⟩
      rcases (show q = 0 ∨ q = 1 ∨ q = 2 ∨ q = 3 ∨ q = 4 ∨ q = 5 by omega) with rfl | rfl | rfl | rfl | rfl | rfl
      · have HJn := HJ4
        clear HJ4
        have hv := putvar_x (5) s5 (by omega)
        rw [show ((5 : Nat) : Int) = 5 from rfl] at hv
        go_wp2_with fail
        refine hv.mono ?_
        clear hv
        rintro r s6 ⟨Bq, rfl, Bqs, HBq, bb⟩
        have HJx := Hid.mk (HJn.out.below bb)
        clear HJn bb
        have HJn := HJx
        clear HJx
        have hJb := HJn.out.bl
        have htb := (HT.out.at hJb).1
        have hf := frame_ok 3 (A ++ Bq) s6 htb htb.pos (by omega) (by omega) (by rw [ByteArray.size_append]; omega)
        rw [show ((3 : Nat) : Int) = 3 from rfl] at hf
        clear hJb htb
        go_wp2_with fail
        refine hf.mono ?_
        clear hf
        rintro r s9 ⟨rfl, bb⟩
        have hbad := bad_0 HA.out HBq.out
        generalize (⟨(frL 3 (A ++ Bq).data.toList).toArray⟩ : ByteArray) = T at hbad ⊢
        have HJx := Hid.mk (HJn.out.below bb)
        clear HJn bb
        have HJn := HJx
        clear HJx
        obtain ⟨kb, qb, hk1, hk2, hqb, hTd, hun⟩ := hbad
        have HBad := Hid.mk (And.intro hk1 (And.intro hk2 (And.intro hqb hun)))
        have hTs : T.size ≤ 74 := by rw [ba_len, hTd, frL_len]; omega
        clear hk1 hk2 hqb hun
        go_wp2_with fail
        obtain ⟨Y, hY⟩ : ∃ Y, Y = more.extract 0 (min (more.size : Int) 1000).toNat := ⟨_, rfl⟩
        rw [← hY]
        have hYs : Y.size ≤ 1000 := by
          rw [hY, ba_len, ext_sub0, List.length_take]
          omega
        clear hY
        have hap := append_one (T ++ Y) HJn.out (by
          rw [ByteArray.size_append]
          have h1 := HG.out.2.2
          have h2 := HG.out.2.1
          omega)
        have hD : flU L ++ (T ++ Y).data.toList = flU L ++ frL kb qb ++ Y.data.toList := by rw [← hTd]; simp
        rw [hD] at hap
        clear hD hTd hTs hYs
        refine hap.mono ?_
        clear hap
        rintro r t1 ⟨rfl, -, e1, c1, hJ⟩
        have hw := writes_one hJ
        have HJ1 := Hid.mk hJ
        clear hJ HJn
        go_wp2_with fail
        refine hw.mono ?_
        clear hw
        rintro r t2 ⟨rfl, rfl⟩
        have hi1 := fun (V : World) (h : JD w V p mb e1 c1 (flU L ++ frL kb qb ++ Y.data.toList) (.slice a i cp) (L.map upQ)) => image_one h
        obtain ⟨I, hI⟩ : ∃ I : ByteArray, I = ⟨(Dk.imgL ([e1].map Dk.fl)).toArray⟩ := ⟨_, rfl⟩
        rw [← hI] at hi1
        clear hI
        go_wp2_with fail
        refine (hi1 _ HJ1.out).mono ?_
        rintro r t3 ⟨rfl, b3⟩
        have hl := look_bad HG.out.1 (HJ1.out.below b3) HT.out kb qb Y.data.toList HBad.out.1 HBad.out.2.1 (by have := HBad.out.2.2.1; omega) rfl (by rw [HG.out.2.1]; exact HBad.out.2.2.2)
        have HJ2 := Hid.mk (HJ1.out.below b3)
        clear HJ1 b3
        unfold LkN at hl
        go_wp2_with fail
        refine hl.mono ?_
        clear hl
        rintro r t4 ⟨a4, cp4, rfl, b4⟩
        have ho := open_bad HG.out.1 (HJ2.out.below b4) HT.out kb qb Y.data.toList HBad.out.1 HBad.out.2.1 (by have := HBad.out.2.2.1; omega) rfl (by rw [HG.out.2.1]; exact HBad.out.2.2.2)
        have HJ3 := Hid.mk (HJ2.out.below b4)
        clear HJ2 b4
        go_wp2_with fail
        refine ho.mono ?_
        clear ho
        rintro r t5 ⟨rfl, b5⟩
        have hJ := HJ3.out.below b5
        clear HJ3 b5
        have hw := writes_one hJ
        have hi2 := hi1 _ hJ
        clear hi1
        have HJ4 := Hid.mk hJ
        clear hJ
        go_wp2_with fail
        refine (num_any 0 t5).mono ?_
        rintro r t6 ⟨rfl, rfl⟩
        go_wp2_with fail
        refine (num_any 80 t6).mono ?_
        rintro r t7 ⟨rfl, rfl⟩
        go_wp2_with fail
        refine (num_any 80 t7).mono ?_
        rintro r t8 ⟨rfl, rfl⟩
        go_wp2_with fail
        refine hw.mono ?_
        clear hw
        rintro r t9 ⟨rfl, rfl⟩
        go_wp2_with fail
        refine hi2.mono ?_
        clear hi2
        rintro r u1 ⟨rfl, bu⟩
        have HJ5 := Hid.mk (HJ4.out.below bu)
        clear HJ4 bu
        have hc := cut_one Z HJ5.out (by rw [HZ.out, List.append_assoc, List.length_append]; omega)
        have hD : (flU L ++ frL kb qb ++ Y.data.toList).take Z = flU L := by rw [HZ.out, List.append_assoc, List.take_left]
        rw [hD] at hc
        clear hD
        go_wp2_with fail
        refine hc.mono ?_
        clear hc
        rintro r u2 ⟨rfl, e2, c2, hJ⟩
        have ho := open_good HG.out.1 (by have := HG.out.2.1; omega) hJ HT.out
        unfold OpG at ho
        rw [HG.out.2.1] at ho
        have HJ6 := Hid.mk hJ
        clear hJ HJ5
        go_wp2_with fail
        refine ho.mono ?_
        clear ho
        rintro r u3 ⟨j, a6, cp6, rfl, k6, b6⟩
        have hJ7 := HJ6.out.below b6
        have hs := same_any _ _ (L.map upQ) u3 k6 hJ7.wr (by rw [List.length_map]; have := HG.out.2.1; omega)
        have HB7 := Hid.mk hJ7.bl
        clear hJ7 HJ6 k6 b6
        go_wp2_with fail
        refine (num_any 0 u3).mono ?_
        rintro r u4 ⟨rfl, rfl⟩
        go_wp2_with fail
        refine hs.mono ?_
        clear hs
        rintro r u5 ⟨rfl, d5⟩
        have HB8 := Hid.mk (HB7.out.trans ((d5.below _).mono HB7.out.size))
        clear d5 HB7
        go_wp2
        go_ret
        exact ⟨rfl, HB8.out⟩
      · have HJn := HJ4
        clear HJ4
        have hv := putvar_x (i + 2) s5 (by omega)
        rw [show ((i + 2 : Nat) : Int) = (i : Int) + 2 from by omega] at hv
        go_wp2_with fail
        refine hv.mono ?_
        clear hv
        rintro r s6 ⟨Aq, rfl, Aqs, HAq, bb⟩
        have HJx := Hid.mk (HJn.out.below bb)
        clear HJn bb
        have HJn := HJx
        clear HJx
        have hv := putvar_x (5) s6 (by omega)
        rw [show ((5 : Nat) : Int) = 5 from rfl] at hv
        go_wp2_with fail
        refine hv.mono ?_
        clear hv
        rintro r s7 ⟨Bq, rfl, Bqs, HBq, bb⟩
        have HJx := Hid.mk (HJn.out.below bb)
        clear HJn bb
        have HJn := HJx
        clear HJx
        have hJb := HJn.out.bl
        have htb := (HT.out.at hJb).1
        have hf := frame_ok 2 (Aq ++ Bq) s7 htb htb.pos (by omega) (by omega) (by rw [ByteArray.size_append]; omega)
        rw [show ((2 : Nat) : Int) = 2 from rfl] at hf
        clear hJb htb
        go_wp2_with fail
        refine hf.mono ?_
        clear hf
        rintro r s9 ⟨rfl, bb⟩
        have hbad := bad_1 (by omega) HAq.out HBq.out
        generalize (⟨(frL 2 (Aq ++ Bq).data.toList).toArray⟩ : ByteArray) = T at hbad ⊢
        have HJx := Hid.mk (HJn.out.below bb)
        clear HJn bb
        have HJn := HJx
        clear HJx
        obtain ⟨kb, qb, hk1, hk2, hqb, hTd, hun⟩ := hbad
        have HBad := Hid.mk (And.intro hk1 (And.intro hk2 (And.intro hqb hun)))
        have hTs : T.size ≤ 74 := by rw [ba_len, hTd, frL_len]; omega
        clear hk1 hk2 hqb hun
        go_wp2_with fail
        obtain ⟨Y, hY⟩ : ∃ Y, Y = more.extract 0 (min (more.size : Int) 1000).toNat := ⟨_, rfl⟩
        rw [← hY]
        have hYs : Y.size ≤ 1000 := by
          rw [hY, ba_len, ext_sub0, List.length_take]
          omega
        clear hY
        have hap := append_one (T ++ Y) HJn.out (by
          rw [ByteArray.size_append]
          have h1 := HG.out.2.2
          have h2 := HG.out.2.1
          omega)
        have hD : flU L ++ (T ++ Y).data.toList = flU L ++ frL kb qb ++ Y.data.toList := by rw [← hTd]; simp
        rw [hD] at hap
        clear hD hTd hTs hYs
        refine hap.mono ?_
        clear hap
        rintro r t1 ⟨rfl, -, e1, c1, hJ⟩
        have hw := writes_one hJ
        have HJ1 := Hid.mk hJ
        clear hJ HJn
        go_wp2_with fail
        refine hw.mono ?_
        clear hw
        rintro r t2 ⟨rfl, rfl⟩
        have hi1 := fun (V : World) (h : JD w V p mb e1 c1 (flU L ++ frL kb qb ++ Y.data.toList) (.slice a i cp) (L.map upQ)) => image_one h
        obtain ⟨I, hI⟩ : ∃ I : ByteArray, I = ⟨(Dk.imgL ([e1].map Dk.fl)).toArray⟩ := ⟨_, rfl⟩
        rw [← hI] at hi1
        clear hI
        go_wp2_with fail
        refine (hi1 _ HJ1.out).mono ?_
        rintro r t3 ⟨rfl, b3⟩
        have hl := look_bad HG.out.1 (HJ1.out.below b3) HT.out kb qb Y.data.toList HBad.out.1 HBad.out.2.1 (by have := HBad.out.2.2.1; omega) rfl (by rw [HG.out.2.1]; exact HBad.out.2.2.2)
        have HJ2 := Hid.mk (HJ1.out.below b3)
        clear HJ1 b3
        unfold LkN at hl
        go_wp2_with fail
        refine hl.mono ?_
        clear hl
        rintro r t4 ⟨a4, cp4, rfl, b4⟩
        have ho := open_bad HG.out.1 (HJ2.out.below b4) HT.out kb qb Y.data.toList HBad.out.1 HBad.out.2.1 (by have := HBad.out.2.2.1; omega) rfl (by rw [HG.out.2.1]; exact HBad.out.2.2.2)
        have HJ3 := Hid.mk (HJ2.out.below b4)
        clear HJ2 b4
        go_wp2_with fail
        refine ho.mono ?_
        clear ho
        rintro r t5 ⟨rfl, b5⟩
        have hJ := HJ3.out.below b5
        clear HJ3 b5
        have hw := writes_one hJ
        have hi2 := hi1 _ hJ
        clear hi1
        have HJ4 := Hid.mk hJ
        clear hJ
        go_wp2_with fail
        refine (num_any 0 t5).mono ?_
        rintro r t6 ⟨rfl, rfl⟩
        go_wp2_with fail
        refine (num_any 80 t6).mono ?_
        rintro r t7 ⟨rfl, rfl⟩
        go_wp2_with fail
        refine (num_any 80 t7).mono ?_
        rintro r t8 ⟨rfl, rfl⟩
        go_wp2_with fail
        refine hw.mono ?_
        clear hw
        rintro r t9 ⟨rfl, rfl⟩
        go_wp2_with fail
        refine hi2.mono ?_
        clear hi2
        rintro r u1 ⟨rfl, bu⟩
        have HJ5 := Hid.mk (HJ4.out.below bu)
        clear HJ4 bu
        have hc := cut_one Z HJ5.out (by rw [HZ.out, List.append_assoc, List.length_append]; omega)
        have hD : (flU L ++ frL kb qb ++ Y.data.toList).take Z = flU L := by rw [HZ.out, List.append_assoc, List.take_left]
        rw [hD] at hc
        clear hD
        go_wp2_with fail
        refine hc.mono ?_
        clear hc
        rintro r u2 ⟨rfl, e2, c2, hJ⟩
        have ho := open_good HG.out.1 (by have := HG.out.2.1; omega) hJ HT.out
        unfold OpG at ho
        rw [HG.out.2.1] at ho
        have HJ6 := Hid.mk hJ
        clear hJ HJ5
        go_wp2_with fail
        refine ho.mono ?_
        clear ho
        rintro r u3 ⟨j, a6, cp6, rfl, k6, b6⟩
        have hJ7 := HJ6.out.below b6
        have hs := same_any _ _ (L.map upQ) u3 k6 hJ7.wr (by rw [List.length_map]; have := HG.out.2.1; omega)
        have HB7 := Hid.mk hJ7.bl
        clear hJ7 HJ6 k6 b6
        go_wp2_with fail
        refine (num_any 0 u3).mono ?_
        rintro r u4 ⟨rfl, rfl⟩
        go_wp2_with fail
        refine hs.mono ?_
        clear hs
        rintro r u5 ⟨rfl, d5⟩
        have HB8 := Hid.mk (HB7.out.trans ((d5.below _).mono HB7.out.size))
        clear d5 HB7
        go_wp2
        go_ret
        exact ⟨rfl, HB8.out⟩
      · have HJn := HJ4
        clear HJ4
        have hv := putvar_x (5) s5 (by omega)
        rw [show ((5 : Nat) : Int) = 5 from rfl] at hv
        go_wp2_with fail
        refine hv.mono ?_
        clear hv
        rintro r s6 ⟨Bq, rfl, Bqs, HBq, bb⟩
        have HJx := Hid.mk (HJn.out.below bb)
        clear HJn bb
        have HJn := HJx
        clear HJx
        have hJb := HJn.out.bl
        have htb := (HT.out.at hJb).1
        have hf := frame_ok 1 (A ++ Bq ++ ⟨#[49, 50, 51, 52, 53, 54, 55]⟩) s6 htb htb.pos (by omega) (by omega) (by rw [ByteArray.size_append, ByteArray.size_append]; show A.size + Bq.size + 7 ≤ _; omega)
        rw [show ((1 : Nat) : Int) = 1 from rfl] at hf
        clear hJb htb
        go_wp2_with fail
        refine hf.mono ?_
        clear hf
        rintro r s9 ⟨rfl, bb⟩
        have hbad := bad_2 (by omega) HA.out HBq.out
        generalize (⟨(frL 1 (A ++ Bq ++ ⟨#[49, 50, 51, 52, 53, 54, 55]⟩).data.toList).toArray⟩ : ByteArray) = T at hbad ⊢
        have HJx := Hid.mk (HJn.out.below bb)
        clear HJn bb
        have HJn := HJx
        clear HJx
        obtain ⟨kb, qb, hk1, hk2, hqb, hTd, hun⟩ := hbad
        have HBad := Hid.mk (And.intro hk1 (And.intro hk2 (And.intro hqb hun)))
        have hTs : T.size ≤ 74 := by rw [ba_len, hTd, frL_len]; omega
        clear hk1 hk2 hqb hun
        go_wp2_with fail
        obtain ⟨Y, hY⟩ : ∃ Y, Y = more.extract 0 (min (more.size : Int) 1000).toNat := ⟨_, rfl⟩
        rw [← hY]
        have hYs : Y.size ≤ 1000 := by
          rw [hY, ba_len, ext_sub0, List.length_take]
          omega
        clear hY
        have hap := append_one (T ++ Y) HJn.out (by
          rw [ByteArray.size_append]
          have h1 := HG.out.2.2
          have h2 := HG.out.2.1
          omega)
        have hD : flU L ++ (T ++ Y).data.toList = flU L ++ frL kb qb ++ Y.data.toList := by rw [← hTd]; simp
        rw [hD] at hap
        clear hD hTd hTs hYs
        refine hap.mono ?_
        clear hap
        rintro r t1 ⟨rfl, -, e1, c1, hJ⟩
        have hw := writes_one hJ
        have HJ1 := Hid.mk hJ
        clear hJ HJn
        go_wp2_with fail
        refine hw.mono ?_
        clear hw
        rintro r t2 ⟨rfl, rfl⟩
        have hi1 := fun (V : World) (h : JD w V p mb e1 c1 (flU L ++ frL kb qb ++ Y.data.toList) (.slice a i cp) (L.map upQ)) => image_one h
        obtain ⟨I, hI⟩ : ∃ I : ByteArray, I = ⟨(Dk.imgL ([e1].map Dk.fl)).toArray⟩ := ⟨_, rfl⟩
        rw [← hI] at hi1
        clear hI
        go_wp2_with fail
        refine (hi1 _ HJ1.out).mono ?_
        rintro r t3 ⟨rfl, b3⟩
        have hl := look_bad HG.out.1 (HJ1.out.below b3) HT.out kb qb Y.data.toList HBad.out.1 HBad.out.2.1 (by have := HBad.out.2.2.1; omega) rfl (by rw [HG.out.2.1]; exact HBad.out.2.2.2)
        have HJ2 := Hid.mk (HJ1.out.below b3)
        clear HJ1 b3
        unfold LkN at hl
        go_wp2_with fail
        refine hl.mono ?_
        clear hl
        rintro r t4 ⟨a4, cp4, rfl, b4⟩
        have ho := open_bad HG.out.1 (HJ2.out.below b4) HT.out kb qb Y.data.toList HBad.out.1 HBad.out.2.1 (by have := HBad.out.2.2.1; omega) rfl (by rw [HG.out.2.1]; exact HBad.out.2.2.2)
        have HJ3 := Hid.mk (HJ2.out.below b4)
        clear HJ2 b4
        go_wp2_with fail
        refine ho.mono ?_
        clear ho
        rintro r t5 ⟨rfl, b5⟩
        have hJ := HJ3.out.below b5
        clear HJ3 b5
        have hw := writes_one hJ
        have hi2 := hi1 _ hJ
        clear hi1
        have HJ4 := Hid.mk hJ
        clear hJ
        go_wp2_with fail
        refine (num_any 0 t5).mono ?_
        rintro r t6 ⟨rfl, rfl⟩
        go_wp2_with fail
        refine (num_any 80 t6).mono ?_
        rintro r t7 ⟨rfl, rfl⟩
        go_wp2_with fail
        refine (num_any 80 t7).mono ?_
        rintro r t8 ⟨rfl, rfl⟩
        go_wp2_with fail
        refine hw.mono ?_
        clear hw
        rintro r t9 ⟨rfl, rfl⟩
        go_wp2_with fail
        refine hi2.mono ?_
        clear hi2
        rintro r u1 ⟨rfl, bu⟩
        have HJ5 := Hid.mk (HJ4.out.below bu)
        clear HJ4 bu
        have hc := cut_one Z HJ5.out (by rw [HZ.out, List.append_assoc, List.length_append]; omega)
        have hD : (flU L ++ frL kb qb ++ Y.data.toList).take Z = flU L := by rw [HZ.out, List.append_assoc, List.take_left]
        rw [hD] at hc
        clear hD
        go_wp2_with fail
        refine hc.mono ?_
        clear hc
        rintro r u2 ⟨rfl, e2, c2, hJ⟩
        have ho := open_good HG.out.1 (by have := HG.out.2.1; omega) hJ HT.out
        unfold OpG at ho
        rw [HG.out.2.1] at ho
        have HJ6 := Hid.mk hJ
        clear hJ HJ5
        go_wp2_with fail
        refine ho.mono ?_
        clear ho
        rintro r u3 ⟨j, a6, cp6, rfl, k6, b6⟩
        have hJ7 := HJ6.out.below b6
        have hs := same_any _ _ (L.map upQ) u3 k6 hJ7.wr (by rw [List.length_map]; have := HG.out.2.1; omega)
        have HB7 := Hid.mk hJ7.bl
        clear hJ7 HJ6 k6 b6
        go_wp2_with fail
        refine (num_any 0 u3).mono ?_
        rintro r u4 ⟨rfl, rfl⟩
        go_wp2_with fail
        refine hs.mono ?_
        clear hs
        rintro r u5 ⟨rfl, d5⟩
        have HB8 := Hid.mk (HB7.out.trans ((d5.below _).mono HB7.out.size))
        clear d5 HB7
        go_wp2
        go_ret
        exact ⟨rfl, HB8.out⟩
      · have HJn := HJ4
        clear HJ4
        have hv := putvar_x (5) s5 (by omega)
        rw [show ((5 : Nat) : Int) = 5 from rfl] at hv
        go_wp2_with fail
        refine hv.mono ?_
        clear hv
        rintro r s6 ⟨Bq, rfl, Bqs, HBq, bb⟩
        have HJx := Hid.mk (HJn.out.below bb)
        clear HJn bb
        have HJn := HJx
        clear HJx
        have hJb := HJn.out.bl
        have htb := (HT.out.at hJb).1
        have hf := frame_ok 2 (A ++ Bq ++ ⟨#[120]⟩) s6 htb htb.pos (by omega) (by omega) (by rw [ByteArray.size_append, ByteArray.size_append]; show A.size + Bq.size + 1 ≤ _; omega)
        rw [show ((2 : Nat) : Int) = 2 from rfl] at hf
        clear hJb htb
        go_wp2_with fail
        refine hf.mono ?_
        clear hf
        rintro r s9 ⟨rfl, bb⟩
        have hbad := bad_3 (by omega) HA.out HBq.out
        generalize (⟨(frL 2 (A ++ Bq ++ ⟨#[120]⟩).data.toList).toArray⟩ : ByteArray) = T at hbad ⊢
        have HJx := Hid.mk (HJn.out.below bb)
        clear HJn bb
        have HJn := HJx
        clear HJx
        obtain ⟨kb, qb, hk1, hk2, hqb, hTd, hun⟩ := hbad
        have HBad := Hid.mk (And.intro hk1 (And.intro hk2 (And.intro hqb hun)))
        have hTs : T.size ≤ 74 := by rw [ba_len, hTd, frL_len]; omega
        clear hk1 hk2 hqb hun
        go_wp2_with fail
        obtain ⟨Y, hY⟩ : ∃ Y, Y = more.extract 0 (min (more.size : Int) 1000).toNat := ⟨_, rfl⟩
        rw [← hY]
        have hYs : Y.size ≤ 1000 := by
          rw [hY, ba_len, ext_sub0, List.length_take]
          omega
        clear hY
        have hap := append_one (T ++ Y) HJn.out (by
          rw [ByteArray.size_append]
          have h1 := HG.out.2.2
          have h2 := HG.out.2.1
          omega)
        have hD : flU L ++ (T ++ Y).data.toList = flU L ++ frL kb qb ++ Y.data.toList := by rw [← hTd]; simp
        rw [hD] at hap
        clear hD hTd hTs hYs
        refine hap.mono ?_
        clear hap
        rintro r t1 ⟨rfl, -, e1, c1, hJ⟩
        have hw := writes_one hJ
        have HJ1 := Hid.mk hJ
        clear hJ HJn
        go_wp2_with fail
        refine hw.mono ?_
        clear hw
        rintro r t2 ⟨rfl, rfl⟩
        have hi1 := fun (V : World) (h : JD w V p mb e1 c1 (flU L ++ frL kb qb ++ Y.data.toList) (.slice a i cp) (L.map upQ)) => image_one h
        obtain ⟨I, hI⟩ : ∃ I : ByteArray, I = ⟨(Dk.imgL ([e1].map Dk.fl)).toArray⟩ := ⟨_, rfl⟩
        rw [← hI] at hi1
        clear hI
        go_wp2_with fail
        refine (hi1 _ HJ1.out).mono ?_
        rintro r t3 ⟨rfl, b3⟩
        have hl := look_bad HG.out.1 (HJ1.out.below b3) HT.out kb qb Y.data.toList HBad.out.1 HBad.out.2.1 (by have := HBad.out.2.2.1; omega) rfl (by rw [HG.out.2.1]; exact HBad.out.2.2.2)
        have HJ2 := Hid.mk (HJ1.out.below b3)
        clear HJ1 b3
        unfold LkN at hl
        go_wp2_with fail
        refine hl.mono ?_
        clear hl
        rintro r t4 ⟨a4, cp4, rfl, b4⟩
        have ho := open_bad HG.out.1 (HJ2.out.below b4) HT.out kb qb Y.data.toList HBad.out.1 HBad.out.2.1 (by have := HBad.out.2.2.1; omega) rfl (by rw [HG.out.2.1]; exact HBad.out.2.2.2)
        have HJ3 := Hid.mk (HJ2.out.below b4)
        clear HJ2 b4
        go_wp2_with fail
        refine ho.mono ?_
        clear ho
        rintro r t5 ⟨rfl, b5⟩
        have hJ := HJ3.out.below b5
        clear HJ3 b5
        have hw := writes_one hJ
        have hi2 := hi1 _ hJ
        clear hi1
        have HJ4 := Hid.mk hJ
        clear hJ
        go_wp2_with fail
        refine (num_any 0 t5).mono ?_
        rintro r t6 ⟨rfl, rfl⟩
        go_wp2_with fail
        refine (num_any 80 t6).mono ?_
        rintro r t7 ⟨rfl, rfl⟩
        go_wp2_with fail
        refine (num_any 80 t7).mono ?_
        rintro r t8 ⟨rfl, rfl⟩
        go_wp2_with fail
        refine hw.mono ?_
        clear hw
        rintro r t9 ⟨rfl, rfl⟩
        go_wp2_with fail
        refine hi2.mono ?_
        clear hi2
        rintro r u1 ⟨rfl, bu⟩
        have HJ5 := Hid.mk (HJ4.out.below bu)
        clear HJ4 bu
        have hc := cut_one Z HJ5.out (by rw [HZ.out, List.append_assoc, List.length_append]; omega)
        have hD : (flU L ++ frL kb qb ++ Y.data.toList).take Z = flU L := by rw [HZ.out, List.append_assoc, List.take_left]
        rw [hD] at hc
        clear hD
        go_wp2_with fail
        refine hc.mono ?_
        clear hc
        rintro r u2 ⟨rfl, e2, c2, hJ⟩
        have ho := open_good HG.out.1 (by have := HG.out.2.1; omega) hJ HT.out
        unfold OpG at ho
        rw [HG.out.2.1] at ho
        have HJ6 := Hid.mk hJ
        clear hJ HJ5
        go_wp2_with fail
        refine ho.mono ?_
        clear ho
        rintro r u3 ⟨j, a6, cp6, rfl, k6, b6⟩
        have hJ7 := HJ6.out.below b6
        have hs := same_any _ _ (L.map upQ) u3 k6 hJ7.wr (by rw [List.length_map]; have := HG.out.2.1; omega)
        have HB7 := Hid.mk hJ7.bl
        clear hJ7 HJ6 k6 b6
        go_wp2_with fail
        refine (num_any 0 u3).mono ?_
        rintro r u4 ⟨rfl, rfl⟩
        go_wp2_with fail
        refine hs.mono ?_
        clear hs
        rintro r u5 ⟨rfl, d5⟩
        have HB8 := Hid.mk (HB7.out.trans ((d5.below _).mono HB7.out.size))
        clear d5 HB7
        go_wp2
        go_ret
        exact ⟨rfl, HB8.out⟩
      · have HJn := HJ4
        clear HJ4
        have hv := putvar_x (281474976710657) s5 (by omega)
        rw [show ((281474976710657 : Nat) : Int) = 281474976710657 from rfl] at hv
        go_wp2_with fail
        refine hv.mono ?_
        clear hv
        rintro r s6 ⟨Bq, rfl, Bqs, HBq, bb⟩
        have HJx := Hid.mk (HJn.out.below bb)
        clear HJn bb
        have HJn := HJx
        clear HJx
        have hJb := HJn.out.bl
        have htb := (HT.out.at hJb).1
        have hf := frame_ok 2 (A ++ Bq) s6 htb htb.pos (by omega) (by omega) (by rw [ByteArray.size_append]; omega)
        rw [show ((2 : Nat) : Int) = 2 from rfl] at hf
        clear hJb htb
        go_wp2_with fail
        refine hf.mono ?_
        clear hf
        rintro r s9 ⟨rfl, bb⟩
        have hbad := bad_4 (by omega) HA.out HBq.out
        generalize (⟨(frL 2 (A ++ Bq).data.toList).toArray⟩ : ByteArray) = T at hbad ⊢
        have HJx := Hid.mk (HJn.out.below bb)
        clear HJn bb
        have HJn := HJx
        clear HJx
        obtain ⟨kb, qb, hk1, hk2, hqb, hTd, hun⟩ := hbad
        have HBad := Hid.mk (And.intro hk1 (And.intro hk2 (And.intro hqb hun)))
        have hTs : T.size ≤ 74 := by rw [ba_len, hTd, frL_len]; omega
        clear hk1 hk2 hqb hun
        go_wp2_with fail
        obtain ⟨Y, hY⟩ : ∃ Y, Y = more.extract 0 (min (more.size : Int) 1000).toNat := ⟨_, rfl⟩
        rw [← hY]
        have hYs : Y.size ≤ 1000 := by
          rw [hY, ba_len, ext_sub0, List.length_take]
          omega
        clear hY
        have hap := append_one (T ++ Y) HJn.out (by
          rw [ByteArray.size_append]
          have h1 := HG.out.2.2
          have h2 := HG.out.2.1
          omega)
        have hD : flU L ++ (T ++ Y).data.toList = flU L ++ frL kb qb ++ Y.data.toList := by rw [← hTd]; simp
        rw [hD] at hap
        clear hD hTd hTs hYs
        refine hap.mono ?_
        clear hap
        rintro r t1 ⟨rfl, -, e1, c1, hJ⟩
        have hw := writes_one hJ
        have HJ1 := Hid.mk hJ
        clear hJ HJn
        go_wp2_with fail
        refine hw.mono ?_
        clear hw
        rintro r t2 ⟨rfl, rfl⟩
        have hi1 := fun (V : World) (h : JD w V p mb e1 c1 (flU L ++ frL kb qb ++ Y.data.toList) (.slice a i cp) (L.map upQ)) => image_one h
        obtain ⟨I, hI⟩ : ∃ I : ByteArray, I = ⟨(Dk.imgL ([e1].map Dk.fl)).toArray⟩ := ⟨_, rfl⟩
        rw [← hI] at hi1
        clear hI
        go_wp2_with fail
        refine (hi1 _ HJ1.out).mono ?_
        rintro r t3 ⟨rfl, b3⟩
        have hl := look_bad HG.out.1 (HJ1.out.below b3) HT.out kb qb Y.data.toList HBad.out.1 HBad.out.2.1 (by have := HBad.out.2.2.1; omega) rfl (by rw [HG.out.2.1]; exact HBad.out.2.2.2)
        have HJ2 := Hid.mk (HJ1.out.below b3)
        clear HJ1 b3
        unfold LkN at hl
        go_wp2_with fail
        refine hl.mono ?_
        clear hl
        rintro r t4 ⟨a4, cp4, rfl, b4⟩
        have ho := open_bad HG.out.1 (HJ2.out.below b4) HT.out kb qb Y.data.toList HBad.out.1 HBad.out.2.1 (by have := HBad.out.2.2.1; omega) rfl (by rw [HG.out.2.1]; exact HBad.out.2.2.2)
        have HJ3 := Hid.mk (HJ2.out.below b4)
        clear HJ2 b4
        go_wp2_with fail
        refine ho.mono ?_
        clear ho
        rintro r t5 ⟨rfl, b5⟩
        have hJ := HJ3.out.below b5
        clear HJ3 b5
        have hw := writes_one hJ
        have hi2 := hi1 _ hJ
        clear hi1
        have HJ4 := Hid.mk hJ
        clear hJ
        go_wp2_with fail
        refine (num_any 0 t5).mono ?_
        rintro r t6 ⟨rfl, rfl⟩
        go_wp2_with fail
        refine (num_any 80 t6).mono ?_
        rintro r t7 ⟨rfl, rfl⟩
        go_wp2_with fail
        refine (num_any 80 t7).mono ?_
        rintro r t8 ⟨rfl, rfl⟩
        go_wp2_with fail
        refine hw.mono ?_
        clear hw
        rintro r t9 ⟨rfl, rfl⟩
        go_wp2_with fail
        refine hi2.mono ?_
        clear hi2
        rintro r u1 ⟨rfl, bu⟩
        have HJ5 := Hid.mk (HJ4.out.below bu)
        clear HJ4 bu
        have hc := cut_one Z HJ5.out (by rw [HZ.out, List.append_assoc, List.length_append]; omega)
        have hD : (flU L ++ frL kb qb ++ Y.data.toList).take Z = flU L := by rw [HZ.out, List.append_assoc, List.take_left]
        rw [hD] at hc
        clear hD
        go_wp2_with fail
        refine hc.mono ?_
        clear hc
        rintro r u2 ⟨rfl, e2, c2, hJ⟩
        have ho := open_good HG.out.1 (by have := HG.out.2.1; omega) hJ HT.out
        unfold OpG at ho
        rw [HG.out.2.1] at ho
        have HJ6 := Hid.mk hJ
        clear hJ HJ5
        go_wp2_with fail
        refine ho.mono ?_
        clear ho
        rintro r u3 ⟨j, a6, cp6, rfl, k6, b6⟩
        have hJ7 := HJ6.out.below b6
        have hs := same_any _ _ (L.map upQ) u3 k6 hJ7.wr (by rw [List.length_map]; have := HG.out.2.1; omega)
        have HB7 := Hid.mk hJ7.bl
        clear hJ7 HJ6 k6 b6
        go_wp2_with fail
        refine (num_any 0 u3).mono ?_
        rintro r u4 ⟨rfl, rfl⟩
        go_wp2_with fail
        refine hs.mono ?_
        clear hs
        rintro r u5 ⟨rfl, d5⟩
        have HB8 := Hid.mk (HB7.out.trans ((d5.below _).mono HB7.out.size))
        clear d5 HB7
        go_wp2
        go_ret
        exact ⟨rfl, HB8.out⟩
      · have HJn := HJ4
        clear HJ4
        have hJb := HJn.out.bl
        have htb := (HT.out.at hJb).1
        have hf := frame_ok 2 (A) s5 htb htb.pos (by omega) (by omega) (by skip; omega)
        rw [show ((2 : Nat) : Int) = 2 from rfl] at hf
        clear hJb htb
        go_wp2_with fail
        refine hf.mono ?_
        clear hf
        rintro r s9 ⟨rfl, bb⟩
        have hbad := bad_5 (by omega) HA.out
        generalize (⟨(frL 2 (A).data.toList).toArray⟩ : ByteArray) = T at hbad ⊢
        have HJx := Hid.mk (HJn.out.below bb)
        clear HJn bb
        have HJn := HJx
        clear HJx
        obtain ⟨kb, qb, hk1, hk2, hqb, hTd, hun⟩ := hbad
        have HBad := Hid.mk (And.intro hk1 (And.intro hk2 (And.intro hqb hun)))
        have hTs : T.size ≤ 74 := by rw [ba_len, hTd, frL_len]; omega
        clear hk1 hk2 hqb hun
        go_wp2_with fail
        obtain ⟨Y, hY⟩ : ∃ Y, Y = more.extract 0 (min (more.size : Int) 1000).toNat := ⟨_, rfl⟩
        rw [← hY]
        have hYs : Y.size ≤ 1000 := by
          rw [hY, ba_len, ext_sub0, List.length_take]
          omega
        clear hY
        have hap := append_one (T ++ Y) HJn.out (by
          rw [ByteArray.size_append]
          have h1 := HG.out.2.2
          have h2 := HG.out.2.1
          omega)
        have hD : flU L ++ (T ++ Y).data.toList = flU L ++ frL kb qb ++ Y.data.toList := by rw [← hTd]; simp
        rw [hD] at hap
        clear hD hTd hTs hYs
        refine hap.mono ?_
        clear hap
        rintro r t1 ⟨rfl, -, e1, c1, hJ⟩
        have hw := writes_one hJ
        have HJ1 := Hid.mk hJ
        clear hJ HJn
        go_wp2_with fail
        refine hw.mono ?_
        clear hw
        rintro r t2 ⟨rfl, rfl⟩
        have hi1 := fun (V : World) (h : JD w V p mb e1 c1 (flU L ++ frL kb qb ++ Y.data.toList) (.slice a i cp) (L.map upQ)) => image_one h
        obtain ⟨I, hI⟩ : ∃ I : ByteArray, I = ⟨(Dk.imgL ([e1].map Dk.fl)).toArray⟩ := ⟨_, rfl⟩
        rw [← hI] at hi1
        clear hI
        go_wp2_with fail
        refine (hi1 _ HJ1.out).mono ?_
        rintro r t3 ⟨rfl, b3⟩
        have hl := look_bad HG.out.1 (HJ1.out.below b3) HT.out kb qb Y.data.toList HBad.out.1 HBad.out.2.1 (by have := HBad.out.2.2.1; omega) rfl (by rw [HG.out.2.1]; exact HBad.out.2.2.2)
        have HJ2 := Hid.mk (HJ1.out.below b3)
        clear HJ1 b3
        unfold LkN at hl
        go_wp2_with fail
        refine hl.mono ?_
        clear hl
        rintro r t4 ⟨a4, cp4, rfl, b4⟩
        have ho := open_bad HG.out.1 (HJ2.out.below b4) HT.out kb qb Y.data.toList HBad.out.1 HBad.out.2.1 (by have := HBad.out.2.2.1; omega) rfl (by rw [HG.out.2.1]; exact HBad.out.2.2.2)
        have HJ3 := Hid.mk (HJ2.out.below b4)
        clear HJ2 b4
        go_wp2_with fail
        refine ho.mono ?_
        clear ho
        rintro r t5 ⟨rfl, b5⟩
        have hJ := HJ3.out.below b5
        clear HJ3 b5
        have hw := writes_one hJ
        have hi2 := hi1 _ hJ
        clear hi1
        have HJ4 := Hid.mk hJ
        clear hJ
        go_wp2_with fail
        refine (num_any 0 t5).mono ?_
        rintro r t6 ⟨rfl, rfl⟩
        go_wp2_with fail
        refine (num_any 80 t6).mono ?_
        rintro r t7 ⟨rfl, rfl⟩
        go_wp2_with fail
        refine (num_any 80 t7).mono ?_
        rintro r t8 ⟨rfl, rfl⟩
        go_wp2_with fail
        refine hw.mono ?_
        clear hw
        rintro r t9 ⟨rfl, rfl⟩
        go_wp2_with fail
        refine hi2.mono ?_
        clear hi2
        rintro r u1 ⟨rfl, bu⟩
        have HJ5 := Hid.mk (HJ4.out.below bu)
        clear HJ4 bu
        have hc := cut_one Z HJ5.out (by rw [HZ.out, List.append_assoc, List.length_append]; omega)
        have hD : (flU L ++ frL kb qb ++ Y.data.toList).take Z = flU L := by rw [HZ.out, List.append_assoc, List.take_left]
        rw [hD] at hc
        clear hD
        go_wp2_with fail
        refine hc.mono ?_
        clear hc
        rintro r u2 ⟨rfl, e2, c2, hJ⟩
        have ho := open_good HG.out.1 (by have := HG.out.2.1; omega) hJ HT.out
        unfold OpG at ho
        rw [HG.out.2.1] at ho
        have HJ6 := Hid.mk hJ
        clear hJ HJ5
        go_wp2_with fail
        refine ho.mono ?_
        clear ho
        rintro r u3 ⟨j, a6, cp6, rfl, k6, b6⟩
        have hJ7 := HJ6.out.below b6
        have hs := same_any _ _ (L.map upQ) u3 k6 hJ7.wr (by rw [List.length_map]; have := HG.out.2.1; omega)
        have HB7 := Hid.mk hJ7.bl
        clear hJ7 HJ6 k6 b6
        go_wp2_with fail
        refine (num_any 0 u3).mono ?_
        rintro r u4 ⟨rfl, rfl⟩
        go_wp2_with fail
        refine hs.mono ?_
        clear hs
        rintro r u5 ⟨rfl, d5⟩
        have HB8 := Hid.mk (HB7.out.trans ((d5.below _).mono HB7.out.size))
        clear d5 HB7
        go_wp2
        go_ret
        exact ⟨rfl, HB8.out⟩
end Go.Proofs.YtfijjlkhgelmoaaGreatDoor
