/-
  DERIVED. JournalWrite: its row, its card.
-/
import Derived.Test.YtbfgnfnihnmjbaaDoorJTable
import Derived.Test.YtbfgnfnihnmjbaaDoorJLaw1
import Derived.Lib.SmallJoins
import Derived.ChangeMaps5
namespace Go.Proofs.YtbfgnfnihnmjbaaDoor
open Go.ChangeMaps (open_string shut_string)
open Go.ChangeShapes Go.WideShapes Go.ChangeAt Go.WideMaps Go.WideElems Go.RowKit Go.Proofs.SealMath
set_option maxRecDepth 100000 in
theorem write_lifted (os : Os) (started : os.Started) (H : Type) (enc : TypeId × Value → H) :
    ReturnsInHanded {} Tryd.checked os 6 .any (fun w args => (Rows.journalWriteSpec.pre enc Tryd.prog Tryd.f6 [] false w args ∧ laidMetH Tryd.prog lst w) ∧ sizedMet enc Tryd.prog Tryd.f6 (OpenSpec.ofChange Rows.journalWriteSpec) false w args)
      (Rows.journalWriteSpec.post enc Tryd.prog Tryd.f6 false true false false) := by
  refine returnsInHanded_of_change_and (C := Tryd.checked) (X := fun w _ => laidMetH Tryd.prog lst w) (fun _ _ _ hh h => h.of_heap hh) own started (by kernel_rfl) Tryd.func6
    (ChangeSpec.witness_shaped (enc := enc) (C := Tryd.checked) (os := os) (X := fun w _ => laidMetH Tryd.prog lst w) false (World.doorLaid Tryd.prog 4000 os) #[.int .i64 0, .agg #[.int .i64 0, .int .i64 0, .int .i64 0, .string ⟨#[]⟩]] 8 rfl (World.shaped_of_RefB (by kernel_rfl) (by kernel_rfl)) (by kernel_rfl) (by kernel_rfl) (by kernel_rfl) (door_met os _)) ?_
  intro W base args ds gs before hval0 hW _ hsz0 hL _
  have hsz : (DataW.weightsEach Tryd.prog (Tryd.f6.params.toList ++ Rows.journalWriteSpec.plain.varTypes Tryd.prog) (ds ++ gs)).all (· ≤ reachBytes) = true := hsz0
  clear hsz0
  have hval : ∀ (j : Nat) t v, Tryd.f6.params[j]? = some t → args[j]? = some v → Value.okWide Tryd.prog W .any base t v := hval0
  have hW' := hW
  obtain ⟨p, q, hA0, hV, rfl, hfz, hnd⟩ := hW
  have hA : DataW.TrodAll enc Tryd.prog W 0 (fun _ => true) true Tryd.f6.params.toList args.toList ds p := hA0
  rw [Tryd.params6] at hA hval hsz
  obtain ⟨v0, v1, d0, d1, p0, p1, rfl, rfl, rfl, h0, h1⟩ := trodAll_two hA
  obtain ⟨rfl, rfl⟩ := trodVars_none hV
  obtain ⟨n, rfl, rfl, rfl, wn⟩ := open_int Tryd.underlying3 (hval 0 3 v0 rfl rfl) h0
  obtain ⟨u0, u1, u2, u3, y0, y1, y2, y3, m0, rfl, rfl, rfl, hy0, hy1, hy2, hy3⟩ := Joins.open_agg4 Tryd.underlying23 (by kernel_rfl) (by kernel_rfl) (hval 1 23 v1 rfl rfl) h1
  obtain ⟨us, e0, rfl, wus⟩ := DataW.trod_int Tryd.underlying3 hy0
  obtain ⟨uk, e1, rfl, wuk⟩ := DataW.trod_int Tryd.underlying3 hy1
  obtain ⟨ui, e2, rfl, wui⟩ := DataW.trod_int Tryd.underlying3 hy2
  obtain ⟨uc, e3, rfl, huc⟩ := DataW.trod_string Tryd.underlying9 hy3
  simp at e0 e1 e2 e3
  subst e0 e1 e2 e3
  clear hA0 hval0
  have ht := tab_of hL
  have hg0 := tab_pos ht
  have e1 : Rows.journalWriteSpec.fn H ([.lit (.int .i64 n), .agg [.lit (.int .i64 us), .lit (.int .i64 uk), .lit (.int .i64 ui), .lit (.string uc.data.toList)]] ++ []) = { results := [.lit (.bool true)], args := [.lit (.int .i64 n), .agg [.lit (.int .i64 us), .lit (.int .i64 uk), .lit (.int .i64 ui), .lit (.string uc.data.toList)]] } := by simp [Rows.journalWriteSpec]
  have fin : ∀ (e : Ending) (W' : World), (e = .returned (.bool true) ∧ Below W.heap.size W W') → ∃ v, e = .returned v ∧ Rows.journalWriteSpec.post enc Tryd.prog Tryd.f6 false true false false W #[.int .i64 n, .agg #[.int .i64 us, .int .i64 uk, .int .i64 ui, .string uc]] v W' := by
    rintro e W' ⟨rfl, hbl⟩
    refine ⟨_, rfl, _, _, _, [], [], [], hW', ?_, ?_, ?_, hbl.frame _, fun h => by cases h⟩
    · rw [e1]; exact trodAll_mk1 (shut_bool Tryd.underlying4 true)
    · rw [e1]; exact trodAll_mk2 (shut_int Tryd.underlying3 wn) (Joins.shut_agg4 (y0 := (.lit (.int .i64 us), [])) (y1 := (.lit (.int .i64 uk), [])) (y2 := (.lit (.int .i64 ui), [])) (y3 := (.lit (.string uc.data.toList), [])) Tryd.underlying23 (by kernel_rfl) (by kernel_rfl) ⟨1, by simp [DataW.trod, Tryd.underlying3, wus]⟩ ⟨1, by simp [DataW.trod, Tryd.underlying3, wuk]⟩ ⟨1, by simp [DataW.trod, Tryd.underlying3, wui]⟩ ⟨1, by simp [DataW.trod, Tryd.underlying9, huc]⟩)
    · rw [e1]; rfl
  exact (law_write n us uk ui uc W ht (pow_of hL)).mono fin

theorem write_row : Rows.JournalWriteSaid :=
  OpenClaim.holds_of_wide 6 Tryd.f6 rfl rfl rfl rfl rfl rfl rfl ⟨rfl, rfl, rfl, rfl, rfl⟩ rfl rfl rfl rfl rfl (by kernel_rfl) Tryd.func6 (by kernel_rfl)
    (of_decide_eq_true (by kernel_rfl)) (by unfold Func.isWrapper; rw [if_neg (of_decide_eq_false (by kernel_rfl))]; exact ⟨rfl, rfl⟩)
    (fun os started H enc _ => write_lifted os started H enc)
theorem write_holds : Rows.JournalWriteCardSaid :=
  Claim7.holds_tied_plain_at .later [] [.data, .data, .data, .called] true (true, "7730bab1e7b39aa7ed24c0e49ac1264b1020d3434bc33b5022f16399bcf9216e") false
    write_row (fun _ h => by cases h) (by kernel_rfl) (fun _ h => by cases h) journalWrite_row_tie rfl ⟨rfl, rfl⟩ (by kernel_rfl) rfl
    (fun f fn hf hfn => by
      obtain rfl : f = 6 := Option.some.inj ((show Tryd.prog.funcNamed "kindred/kindredlaw5.JournalWrite" = some 6 by kernel_rfl).symm.trans hf) |>.symm
      obtain rfl : fn = Tryd.f6 := (Option.some.inj (Tryd.func6.symm.trans hfn)).symm
      exact ⟨by kernel_rfl, fun j t ht => by
        rw [Tryd.params6] at ht
        have hm : t ∈ [3, 23] := by simpa using Array.mem_of_getElem? ht
        have hall : ([3, 23].all fun u => !Tryd.prog.wantsStandIn u) = true := by kernel_rfl
        exact (show Tryd.prog.wantsStandIn t = false by simpa using List.all_eq_true.1 hall t hm)⟩)
    (by kernel_rfl)
#print axioms write_holds
end Go.Proofs.YtbfgnfnihnmjbaaDoor
