/-
  DERIVED. BitsMetric: its walk, its row, its card.
-/
import Derived.Test.YtajnhpmokhmmeaaDoorFit
namespace Go.Proofs.YtajnhpmokhmmeaaDoor
open Go.ChangeShapes Go.WideShapes Go.ChangeAt Go.WideMaps Go.WideElems Go.RowKit Go.Proofs.BitMath
open Go.ChangeMaps (open_string shut_string)
theorem tab_pos {W : World} (h : Tab W) : 0 < W.heap.size := World.block_lt_of_cell? W ⟨0, 0, none⟩ (h 0 (by omega))
theorem dist_zero (a B : ByteArray) (h : a.data.toList.length = B.data.toList.length) : (((wt (xorL a.data.toList B.data.toList) : Nat) : Int) == 0) = (a.toList == B.toList) := by
  by_cases e : a = B
  · subst e; rw [xorL_self]; simp
  · have h1 : ¬ wt (xorL a.data.toList B.data.toList) = 0 := fun hz => e (by
      have := xorL_zero _ _ h hz
      cases a; cases B; simpa using this)
    have h2 : (((wt (xorL a.data.toList B.data.toList) : Nat) : Int) == 0) = false := by rw [beq_eq_false_iff_ne]; omega
    have h3 : (a.toList == B.toList) = false := by
      rw [beq_eq_false_iff_ne]; intro h4
      apply e
      have h5 : a.data.toList = B.data.toList := by simpa [ByteArray.toList_eq] using h4
      cases a; cases B; simpa using h5
    rw [h2, h3]
set_option maxHeartbeats 1000000 in
theorem metric_any (a b c : ByteArray) (w : World) (sa : a.size ≤ 140737488351232) (sb : b.size ≤ 140737488351232) (sc : c.size ≤ 140737488351232) (ht : Tab w) (h0 : 0 < w.heap.size) :
    Calls Tryd.prog 3 #[.string a, .string b, .string c] w fun e w' => e = .returned (.bool true) ∧ Below w.heap.size w w' := by
  go_enter Tryd.func3, Tryd.ntmps3
  go_wp2_with fail
  refine (fit_any b a.size _ sb sa).mono ?_
  rintro e w1 ⟨⟨B, hB, rfl⟩, b1⟩
  have HB : Hid (B.size = a.size) := hB
  clear hB
  have t1 := ht.below b1 h0
  go_wp2_with fail
  refine (fit_any c a.size _ sc sa).mono ?_
  rintro e w2 ⟨⟨C, hC, rfl⟩, b2⟩
  have HC : Hid (C.size = a.size) := hC
  clear hC
  have b2' := chain b1 b2 (Nat.le_refl _)
  have t2 := ht.below b2' h0
  clear b1 b2 t1
  go_wp2_with fail
  refine (distance_yes a B _ sa HB.out.symm t2).mono ?_
  rintro e w3 ⟨rfl, d3⟩
  have b3 := b2'.trans (d3.below _)
  have t3 := t2.later d3
  clear b2' t2 d3
  go_wp2_with fail
  refine (distance_yes B a _ (by rw [HB.out]; exact sa) HB.out t3).mono ?_
  rintro e w4 ⟨rfl, d4⟩
  have b4 := b3.trans (d4.below _)
  have t4 := t3.later d4
  clear b3 t3 d4
  go_wp2_with fail
  refine (distance_yes a C _ sa HC.out.symm t4).mono ?_
  rintro e w5 ⟨rfl, d5⟩
  have b5 := b4.trans (d5.below _)
  have t5 := t4.later d5
  clear b4 t4 d5
  go_wp2_with fail
  refine (distance_yes C B _ (by rw [HC.out]; exact sa) (HC.out.trans HB.out.symm) t5).mono ?_
  rintro e w6 ⟨rfl, d6⟩
  have b6 := b5.trans (d6.below _)
  have t6 := t5.later d6
  clear b5 t5 d6
  go_wp2_with fail
  refine (xor_yes a B _ sa HB.out.symm).mono ?_
  rintro e w7 ⟨rfl, b7⟩
  have b7' := chain b6 b7 (Nat.le_refl _)
  clear b6 b7 t6
  have HL : Hid (a.data.toList.length = B.data.toList.length) := by show a.size = B.size; exact HB.out.symm
  have HCL : Hid (a.data.toList.length = C.data.toList.length) := by show a.size = C.size; exact HC.out.symm
  have HX : Hid ((ByteArray.mk (xorL a.data.toList B.data.toList).toArray).size = a.size) := by
    show (xorL a.data.toList B.data.toList).toArray.size = a.size
    rw [List.size_toArray, xorL_length _ _ HL.out]; rfl
  go_wp2_with fail
  refine (xor_yes a _ _ sa HX.out.symm).mono ?_
  rintro e w8 ⟨rfl, b8⟩
  have b8' := chain b7' b8 (Nat.le_refl _)
  have t8 := ht.below b8' h0
  clear b7' b8
  have hback : xorL a.data.toList (xorL a.data.toList B.data.toList) = B.data.toList := xorL_back _ _ HL.out
  have Hcm : Hid (xorL B.data.toList a.data.toList = xorL a.data.toList B.data.toList) := xorL_comm _ _
  have HD : Hid (a.size ≠ (a ++ (⟨#[120]⟩ : ByteArray)).size) := by show ¬ _ = _; rw [ByteArray.size_append]; show ¬ a.size = a.size + 1; omega
  go_wp2_with fail
  refine (distance_no a _ _ HD.out).mono ?_
  rintro e w9 ⟨rfl, d9⟩
  have b9 := b8'.trans (d9.below _)
  have t9 := t8.later d9
  clear b8' t8 d9
  have hcm := Hcm.out
  have l1 := wt_le (xorL a.data.toList B.data.toList)
  have l2 := wt_le (xorL a.data.toList C.data.toList)
  have l3 := wt_le (xorL C.data.toList B.data.toList)
  rw [xorL_length _ _ HL.out] at l1
  rw [xorL_length _ _ HCL.out] at l2
  rw [xorL_length _ _ (HCL.out.symm.trans HL.out), ← HCL.out] at l3
  change _ ≤ 8 * a.size at l1 l2 l3
  have tri := xorL_tri _ _ _ HL.out HCL.out
  have heq := dist_zero a B HL.out
  have trI : ((wt (xorL a.data.toList B.data.toList) : Nat) : Int) ≤ ((wt (xorL a.data.toList C.data.toList) : Nat) : Int) + ((wt (xorL C.data.toList B.data.toList) : Nat) : Int) := by omega
  go_wp2_with fail
  refine (weight_any _ _ (by rw [HX.out]; exact sa) t9).mono ?_
  rintro e w10 ⟨rfl, d10⟩
  have b10 := b9.trans (d10.below _)
  clear b9 t9 d10
  go_wp2
  go_ret
  exact ⟨ret_bool (decide_eq_true (by omega)), b10⟩
set_option maxRecDepth 100000 in
theorem metric_lifted (os : Os) (started : os.Started) (H : Type) (enc : TypeId × Value → H) :
    ReturnsInHanded {} Tryd.checked os 3 .any (fun w args => (Rows.bitsMetricSpec.pre enc Tryd.prog Tryd.f3 [] false w args ∧ laidMetH Tryd.prog lst w) ∧ sizedMet enc Tryd.prog Tryd.f3 (OpenSpec.ofChange Rows.bitsMetricSpec) false w args)
      (Rows.bitsMetricSpec.post enc Tryd.prog Tryd.f3 false true false false) := by
  refine returnsInHanded_of_change_and (C := Tryd.checked) (X := fun w _ => laidMetH Tryd.prog lst w) (fun _ _ _ hh h => h.of_heap hh) own started (by kernel_rfl) Tryd.func3
    (ChangeSpec.witness_shaped (enc := enc) (C := Tryd.checked) (os := os) (X := fun w _ => laidMetH Tryd.prog lst w) false (World.doorLaid Tryd.prog 400 os) #[.string ⟨#[]⟩, .string ⟨#[]⟩, .string ⟨#[]⟩] 8 rfl (World.shaped_of_RefB (by kernel_rfl) (by kernel_rfl)) (by kernel_rfl) (by kernel_rfl) (by kernel_rfl) (door_met os _)) ?_
  intro W base args ds gs before hval0 hW _ hsz0 hL _
  have hsz : (DataW.weightsEach Tryd.prog (Tryd.f3.params.toList ++ Rows.bitsMetricSpec.plain.varTypes Tryd.prog) (ds ++ gs)).all (· ≤ reachBytes) = true := hsz0
  clear hsz0
  have hval : ∀ (j : Nat) t v, Tryd.f3.params[j]? = some t → args[j]? = some v → Value.okWide Tryd.prog W .any base t v := hval0
  have hW' := hW
  obtain ⟨p, q, hA0, hV, rfl, hfz, hnd⟩ := hW
  have hA : DataW.TrodAll enc Tryd.prog W 0 (fun _ => true) true Tryd.f3.params.toList args.toList ds p := hA0
  rw [Tryd.params3] at hA hval hsz
  obtain ⟨v0, v1, v2, d0, d1, d2, p0, p1, p2, rfl, rfl, rfl, h0, h1, h2⟩ := trodAll_three hA
  obtain ⟨rfl, rfl⟩ := trodVars_none hV
  obtain ⟨a, rfl, rfl, rfl, ha⟩ := open_string Tryd.underlying9 (hval 0 9 v0 rfl rfl) h0
  have sa : a.size ≤ 140737488351232 := by
    have := sized_string hsz (j := 0) (t := 9) rfl rfl
    simpa [reachBytes] using this
  obtain ⟨b, rfl, rfl, rfl, hb⟩ := open_string Tryd.underlying9 (hval 1 9 v1 rfl rfl) h1
  have sb : b.size ≤ 140737488351232 := by
    have := sized_string hsz (j := 1) (t := 9) rfl rfl
    simpa [reachBytes] using this
  obtain ⟨c, rfl, rfl, rfl, hc⟩ := open_string Tryd.underlying9 (hval 2 9 v2 rfl rfl) h2
  have sc : c.size ≤ 140737488351232 := by
    have := sized_string hsz (j := 2) (t := 9) rfl rfl
    simpa [reachBytes] using this
  clear hA0 hval0
  have ht := tab_of hL
  have hg0 := tab_pos ht
  have e1 : Rows.bitsMetricSpec.fn H ([.lit (.string a.data.toList), .lit (.string b.data.toList), .lit (.string c.data.toList)] ++ []) = { results := [.lit (.bool true)], args := [.lit (.string a.data.toList), .lit (.string b.data.toList), .lit (.string c.data.toList)] } := by simp [Rows.bitsMetricSpec]
  have fin : ∀ (e : Ending) (W' : World), (e = .returned (.bool true) ∧ Below W.heap.size W W') → ∃ v, e = .returned v ∧ Rows.bitsMetricSpec.post enc Tryd.prog Tryd.f3 false true false false W #[.string a, .string b, .string c] v W' := by
    rintro e W' ⟨rfl, hbl⟩
    refine ⟨_, rfl, _, _, _, [], [], [], hW', ?_, ?_, ?_, hbl.frame _, fun h => by cases h⟩
    · rw [e1]; exact trodAll_mk1 (shut_bool Tryd.underlying4 true)
    · rw [e1]; exact trodAll_mk3 (shut_string Tryd.underlying9 ha) (shut_string Tryd.underlying9 hb) (shut_string Tryd.underlying9 hc)
    · rw [e1]; rfl
  exact (metric_any a b c W sa sb sc ht hg0).mono fin

theorem metric_row : Rows.BitsMetricSaid :=
  OpenClaim.holds_of_wide 3 Tryd.f3 rfl rfl rfl rfl rfl rfl rfl ⟨rfl, rfl, rfl, rfl, rfl⟩ rfl rfl rfl rfl rfl (by kernel_rfl) Tryd.func3 (by kernel_rfl)
    (of_decide_eq_true (by kernel_rfl)) (by unfold Func.isWrapper; rw [if_neg (of_decide_eq_false (by kernel_rfl))]; exact ⟨rfl, rfl⟩)
    (fun os started H enc _ => metric_lifted os started H enc)
theorem metric_holds : Rows.BitsMetricCardSaid :=
  Claim7.holds_tied_plain_at .later [] [.data] true (true, "e7fb342335faa707e2be3290443ebabe01fb627e80f58c80bf544d2789b4f8a9") false
    metric_row (fun _ h => by cases h) (by kernel_rfl) (fun _ h => by cases h) bitsMetric_row_tie rfl ⟨rfl, rfl⟩ (by kernel_rfl) rfl
    (fun f fn hf hfn => by
      obtain rfl : f = 3 := Option.some.inj ((show Tryd.prog.funcNamed "kindred/kindredlaw1.BitsMetric" = some 3 by kernel_rfl).symm.trans hf) |>.symm
      obtain rfl : fn = Tryd.f3 := (Option.some.inj (Tryd.func3.symm.trans hfn)).symm
      exact ⟨by kernel_rfl, fun j t ht => by
        rw [Tryd.params3] at ht
        have hm : t ∈ [9, 9, 9] := by simpa using Array.mem_of_getElem? ht
        have hall : ([9, 9, 9].all fun u => !Tryd.prog.wantsStandIn u) = true := by kernel_rfl
        exact (show Tryd.prog.wantsStandIn t = false by simpa using List.all_eq_true.1 hall t hm)⟩)
    (by kernel_rfl)
#print axioms metric_holds
end Go.Proofs.YtajnhpmokhmmeaaDoor
