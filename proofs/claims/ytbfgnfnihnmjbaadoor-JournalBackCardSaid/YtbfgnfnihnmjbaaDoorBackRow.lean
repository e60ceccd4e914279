/-
  DERIVED. JournalBack: its row, its card.
-/
import Derived.Test.YtbfgnfnihnmjbaaDoorSTable
import Derived.Test.YtbfgnfnihnmjbaaDoorJLaw3
import Derived.Lib.SmallJoins
import Derived.ChangeMaps5
namespace Go.Proofs.YtbfgnfnihnmjbaaDoor
open Go.ChangeMaps (open_string shut_string)
open Go.ChangeShapes Go.WideShapes Go.ChangeAt Go.WideMaps Go.WideElems Go.RowKit Go.Proofs.SealMath
set_option maxRecDepth 100000 in
theorem back_lifted (os : Os) (started : os.Started) (H : Type) (enc : TypeId × Value → H) :
    ReturnsInHanded {} Tryd.checked os 3 .any (fun w args => (Rows.journalBackSpec.pre enc Tryd.prog Tryd.f3 [] false w args ∧ laidMetH Tryd.prog lst w) ∧ sizedMet enc Tryd.prog Tryd.f3 (OpenSpec.ofChange Rows.journalBackSpec) false w args)
      (Rows.journalBackSpec.post enc Tryd.prog Tryd.f3 false true false false) := by
  refine returnsInHanded_of_change_and (C := Tryd.checked) (X := fun w _ => laidMetH Tryd.prog lst w) (fun _ _ _ hh h => h.of_heap hh) own started (by kernel_rfl) Tryd.func3
    (ChangeSpec.witness_shaped (enc := enc) (C := Tryd.checked) (os := os) (X := fun w _ => laidMetH Tryd.prog lst w) false (World.doorLaid Tryd.prog 4000 os) #[.agg #[.int .i64 0, .int .i64 0, .int .i64 0, .string ⟨#[]⟩], .int .i64 0, .string ⟨#[]⟩, .int .i64 0] 8 rfl (World.shaped_of_RefB (by kernel_rfl) (by kernel_rfl)) (by kernel_rfl) (by kernel_rfl) (by kernel_rfl) (door_met os _)) ?_
  intro W base args ds gs before hval0 hW _ hsz0 hL _
  have hsz : (DataW.weightsEach Tryd.prog (Tryd.f3.params.toList ++ Rows.journalBackSpec.plain.varTypes Tryd.prog) (ds ++ gs)).all (· ≤ reachBytes) = true := hsz0
  clear hsz0
  have hval : ∀ (j : Nat) t v, Tryd.f3.params[j]? = some t → args[j]? = some v → Value.okWide Tryd.prog W .any base t v := hval0
  have hW' := hW
  obtain ⟨p, q, hA0, hV, rfl, hfz, hnd⟩ := hW
  have hA : DataW.TrodAll enc Tryd.prog W 0 (fun _ => true) true Tryd.f3.params.toList args.toList ds p := hA0
  rw [Tryd.params3] at hA hval hsz
  obtain ⟨v0, v1, v2, v3, d0, d1, d2, d3, p0, p1, p2, p3, rfl, rfl, rfl, h0, h1, h2, h3⟩ := trodAll_four hA
  obtain ⟨rfl, rfl⟩ := trodVars_none hV
  obtain ⟨u0, u1, u2, u3, y0, y1, y2, y3, m0, rfl, rfl, rfl, hy0, hy1, hy2, hy3⟩ := Joins.open_agg4 Tryd.underlying23 (by kernel_rfl) (by kernel_rfl) (hval 0 23 v0 rfl rfl) h0
  obtain ⟨us, e0, rfl, wus⟩ := DataW.trod_int Tryd.underlying3 hy0
  obtain ⟨uk, e1, rfl, wuk⟩ := DataW.trod_int Tryd.underlying3 hy1
  obtain ⟨ui, e2, rfl, wui⟩ := DataW.trod_int Tryd.underlying3 hy2
  obtain ⟨uc, e3, rfl, huc⟩ := DataW.trod_string Tryd.underlying9 hy3
  simp at e0 e1 e2 e3
  subst e0 e1 e2 e3
  have suc : uc.size ≤ 140737488351232 := by
    have := of_decide_eq_true (List.all_eq_true.1 hsz uc.data.toList.length (DataW.weights_mem_each (j := 0) (t := 23) rfl rfl _ (by simp [DataW.weights, DataW.weightsEach, Tryd.underlying23])))
    have e9 : uc.size = uc.data.toList.length := by simp
    rw [e9]; exact this
  obtain ⟨q, rfl, rfl, rfl, wq⟩ := open_int Tryd.underlying3 (hval 1 3 v1 rfl rfl) h1
  obtain ⟨b, rfl, rfl, rfl, hb⟩ := open_string Tryd.underlying9 (hval 2 9 v2 rfl rfl) h2
  have sb : b.size ≤ 140737488351232 := by
    have := sized_string hsz (j := 2) (t := 9) rfl rfl
    simpa [reachBytes] using this
  obtain ⟨x, rfl, rfl, rfl, wx⟩ := open_int Tryd.underlying3 (hval 3 3 v3 rfl rfl) h3
  clear hA0 hval0
  have ht := tab_of hL
  have hg0 := tab_pos ht
  have e1 : Rows.journalBackSpec.fn H ([.agg [.lit (.int .i64 us), .lit (.int .i64 uk), .lit (.int .i64 ui), .lit (.string uc.data.toList)], .lit (.int .i64 q), .lit (.string b.data.toList), .lit (.int .i64 x)] ++ []) = { results := [.lit (.bool true)], args := [.agg [.lit (.int .i64 us), .lit (.int .i64 uk), .lit (.int .i64 ui), .lit (.string uc.data.toList)], .lit (.int .i64 q), .lit (.string b.data.toList), .lit (.int .i64 x)] } := by simp [Rows.journalBackSpec]
  have fin : ∀ (e : Ending) (W' : World), (e = .returned (.bool true) ∧ Below W.heap.size W W') → ∃ v, e = .returned v ∧ Rows.journalBackSpec.post enc Tryd.prog Tryd.f3 false true false false W #[.agg #[.int .i64 us, .int .i64 uk, .int .i64 ui, .string uc], .int .i64 q, .string b, .int .i64 x] v W' := by
    rintro e W' ⟨rfl, hbl⟩
    refine ⟨_, rfl, _, _, _, [], [], [], hW', ?_, ?_, ?_, hbl.frame _, fun h => by cases h⟩
    · rw [e1]; exact trodAll_mk1 (shut_bool Tryd.underlying4 true)
    · rw [e1]; exact trodAll_mk4 (Joins.shut_agg4 (y0 := (.lit (.int .i64 us), [])) (y1 := (.lit (.int .i64 uk), [])) (y2 := (.lit (.int .i64 ui), [])) (y3 := (.lit (.string uc.data.toList), [])) Tryd.underlying23 (by kernel_rfl) (by kernel_rfl) ⟨1, by simp [DataW.trod, Tryd.underlying3, wus]⟩ ⟨1, by simp [DataW.trod, Tryd.underlying3, wuk]⟩ ⟨1, by simp [DataW.trod, Tryd.underlying3, wui]⟩ ⟨1, by simp [DataW.trod, Tryd.underlying9, huc]⟩) (shut_int Tryd.underlying3 wq) (shut_string Tryd.underlying9 hb) (shut_int Tryd.underlying3 wx)
    · rw [e1]; rfl
  have g1 := bounds_i64 wuk
  have g2 := bounds_i64 wui
  have g3 := bounds_i64 wq
  exact (law_back us uk ui uc q b x W ht (by omega) (by omega) (by omega) (by omega) (by omega)).mono fin

theorem back_row : Rows.JournalBackSaid :=
  OpenClaim.holds_of_wide 3 Tryd.f3 rfl rfl rfl rfl rfl rfl rfl ⟨rfl, rfl, rfl, rfl, rfl⟩ rfl rfl rfl rfl rfl (by kernel_rfl) Tryd.func3 (by kernel_rfl)
    (of_decide_eq_true (by kernel_rfl)) (by unfold Func.isWrapper; rw [if_neg (of_decide_eq_false (by kernel_rfl))]; exact ⟨rfl, rfl⟩)
    (fun os started H enc _ => back_lifted os started H enc)
theorem back_holds : Rows.JournalBackCardSaid :=
  Claim7.holds_tied_plain_at .later [] [.called] true (true, "7730bab1e7b39aa7ed24c0e49ac1264b1020d3434bc33b5022f16399bcf9216e") false
    back_row (fun _ h => by cases h) (by kernel_rfl) (fun _ h => by cases h) journalBack_row_tie rfl ⟨rfl, rfl⟩ (by kernel_rfl) rfl
    (fun f fn hf hfn => by
      obtain rfl : f = 3 := Option.some.inj ((show Tryd.prog.funcNamed "kindred/kindredlaw5.JournalBack" = some 3 by kernel_rfl).symm.trans hf) |>.symm
      obtain rfl : fn = Tryd.f3 := (Option.some.inj (Tryd.func3.symm.trans hfn)).symm
      exact ⟨by kernel_rfl, fun j t ht => by
        rw [Tryd.params3] at ht
        have hm : t ∈ [23, 3, 9, 3] := by simpa using Array.mem_of_getElem? ht
        have hall : ([23, 3, 9, 3].all fun u => !Tryd.prog.wantsStandIn u) = true := by kernel_rfl
        exact (show Tryd.prog.wantsStandIn t = false by simpa using List.all_eq_true.1 hall t hm)⟩)
    (by kernel_rfl)
#print axioms back_holds
end Go.Proofs.YtbfgnfnihnmjbaaDoor
