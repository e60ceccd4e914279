/-
  DERIVED. What is wrong with fields that are to be written; fields cleared.
-/
import Derived.Test.YtjdknijjkjmafaaWRd2
import Derived.Test.YtjdknijjkjmafaaWHand
import Derived.Test.YtjdknijjkjmafaaWFind
set_option linter.unusedVariables false
set_option linter.unusedSimpArgs false
namespace Go.Proofs.Ytjdknijjkjmafaa
open Go.RowKit
abbrev CkAt (w : World) (c : Nat) (lo bi : Bool) (x : Int) : Prop := HC w c #[.bool lo, .bool bi, .int .i64 x] 86
set_option maxHeartbeats 1000000 in
theorem cnumber_any (n : Int) (lo bi : Bool) (x : Int) (w : World) (c g o : Nat) (h : CkAt w c lo bi x) (hc : w.cell? ⟨g, o, none⟩ = some (.int .i64 n)) :
    Calls Try.prog 55 #[Pt c, Pc g o] w fun e w' => e = Un ∧ CkAt w' c (lo || decide (n < 0)) bi x ∧ Stay (· = c) w w' := by
  have c0 : w.cell? ⟨c, 0, none⟩ = some (.bool lo) := HC.cell h rfl
  have z0 := HC.free h 0
  have HF : ∀ y, Hid (CkAt (w.setCell ⟨c, 0, none⟩ (.bool y)) c y bi x ∧ Stay (· = c) w (w.setCell ⟨c, 0, none⟩ (.bool y))) := fun y => ⟨HC.set h 0 _, (Stay.refl (· = c) w).setCell (p := ⟨c, 0, none⟩) (fun _ => rfl) _⟩
  clear h
  cases lo
  · by_cases hn : n < 0
    · have HN := Hid.mk hn
      go_enter Try.func55, Try.ntmps55
      go_wp2
      first | go_end0 | refine bodyPost_ret (results_none rfl _ _ _) rfl ?_
      rw [decide_eq_true HN.out]
      exact ⟨rfl, (HF true).out⟩
    · have HN := Hid.mk hn
      go_enter Try.func55, Try.ntmps55
      go_wp2
      first | go_end0 | refine bodyPost_ret (results_none rfl _ _ _) rfl ?_
      rw [decide_eq_false (by have := HN.out; omega)]
      exact ⟨rfl, (HF false).out⟩
  · go_enter Try.func55, Try.ntmps55
    go_wp2
    first | go_end0 | refine bodyPost_ret (results_none rfl _ _ _) rfl ?_
    exact ⟨rfl, (HF true).out⟩
set_option maxHeartbeats 1000000 in
theorem ctext_any (t : ByteArray) (lo bi : Bool) (x : Int) (w : World) (c g o : Nat) (h : CkAt w c lo bi x) (hc : w.cell? ⟨g, o, none⟩ = some (.string t)) :
    Calls Try.prog 56 #[Pt c, Pc g o] w fun e w' => e = Un ∧ CkAt w' c lo (bi || decide (65536 < t.size)) x ∧ Stay (· = c) w w' := by
  have c0 : w.cell? ⟨c, 1, none⟩ = some (.bool bi) := HC.cell h rfl
  have z0 := HC.free h 1
  have HF : ∀ y, Hid (CkAt (w.setCell ⟨c, 1, none⟩ (.bool y)) c lo y x ∧ Stay (· = c) w (w.setCell ⟨c, 1, none⟩ (.bool y))) := fun y => ⟨HC.set h 1 _, (Stay.refl (· = c) w).setCell (p := ⟨c, 1, none⟩) (fun _ => rfl) _⟩
  clear h
  cases bi
  · by_cases hn : 65536 < t.size
    · have hn' : (65536 : Int) < (t.size : Int) := by omega
      have HN := Hid.mk hn
      clear hn
      go_enter Try.func56, Try.ntmps56
      go_wp2
      first | go_end0 | refine bodyPost_ret (results_none rfl _ _ _) rfl ?_
      rw [decide_eq_true HN.out]
      exact ⟨rfl, (HF true).out⟩
    · have hn' : ¬ (65536 : Int) < (t.size : Int) := by omega
      have HN := Hid.mk hn
      clear hn
      go_enter Try.func56, Try.ntmps56
      go_wp2
      first | go_end0 | refine bodyPost_ret (results_none rfl _ _ _) rfl ?_
      rw [decide_eq_false (by have := HN.out; omega)]
      exact ⟨rfl, (HF false).out⟩
  · go_enter Try.func56, Try.ntmps56
    go_wp2
    first | go_end0 | refine bodyPost_ret (results_none rfl _ _ _) rfl ?_
    exact ⟨rfl, (HF true).out⟩
/-- What a checker refuses. -/
def ckE (lo bi : Bool) (x : Int) : Int := if lo then 13 else if bi then 36 else x
set_option maxHeartbeats 1000000 in
theorem refusal_any (lo bi : Bool) (x : Int) (w : World) (c : Nat) (h : CkAt w c lo bi x) :
    Calls Try.prog 37 #[Pt c] w fun e w' => e = .returned (.int .i64 (ckE lo bi x)) ∧ w' = w := by
  have c0 : w.cell? ⟨c, 0, none⟩ = some (.bool lo) := HC.cell h rfl
  have c1 : w.cell? ⟨c, 1, none⟩ = some (.bool bi) := HC.cell h rfl
  have c2 : w.cell? ⟨c, 2, none⟩ = some (.int .i64 x) := HC.cell h rfl
  clear h
  cases lo <;> cases bi
  all_goals
    go_enter Try.func37, Try.ntmps37
    go_wp2
    go_ret
    exact ⟨rfl, rfl⟩
set_option maxHeartbeats 1000000 in
theorem clr1_any (w : World) (g o : Nat) (C : Array Value) (T : TypeId) (n : Int) (h : HC w g C T) (ho : C[o]? = some (.int .i64 n)) :
    Calls Try.prog 76 #[Pc g o] w fun e w' => e = Un ∧ HC w' g (C.setIfInBounds o (.int .i64 0)) T ∧ Stay (· = g) w w' := by
  have c0 := h.cell ho
  have z0 := h.free o
  have HF := Hid.mk (And.intro (HC.set h o (.int .i64 0)) ((Stay.refl (· = g) w).setCell (p := ⟨g, o, none⟩) (fun _ => rfl) (.int .i64 0)))
  clear h
  go_enter Try.func76, Try.ntmps76
  go_wp2
  first | go_end0 | refine bodyPost_ret (results_none rfl _ _ _) rfl ?_
  exact ⟨rfl, HF.out⟩
set_option maxHeartbeats 1000000 in
theorem clr2_any (w : World) (g o : Nat) (C : Array Value) (T : TypeId) (t : ByteArray) (h : HC w g C T) (ho : C[o]? = some (.string t)) :
    Calls Try.prog 77 #[Pc g o] w fun e w' => e = Un ∧ HC w' g (C.setIfInBounds o (.string ⟨#[]⟩)) T ∧ Stay (· = g) w w' := by
  have c0 := h.cell ho
  have z0 := h.free o
  have HF := Hid.mk (And.intro (HC.set h o (.string ⟨#[]⟩)) ((Stay.refl (· = g) w).setCell (p := ⟨g, o, none⟩) (fun _ => rfl) (.string ⟨#[]⟩)))
  clear h
  go_enter Try.func77, Try.ntmps77
  go_wp2
  first | go_end0 | refine bodyPost_ret (results_none rfl _ _ _) rfl ?_
  exact ⟨rfl, HF.out⟩
set_option maxHeartbeats 1000000 in
theorem clr3_any (w : World) (g o : Nat) (C : Array Value) (T : TypeId) (a : Option Addr) (l c : Nat) (h : HC w g C T) (ho : C[o]? = some (.slice a l c)) :
    Calls Try.prog 78 #[Pc g o] w fun e w' => e = Un ∧ HC w' g (C.setIfInBounds o (.slice none 0 0)) T ∧ Stay (· = g) w w' := by
  have c0 := h.cell ho
  have z0 := h.free o
  have HF := Hid.mk (And.intro (HC.set h o (.slice none 0 0)) ((Stay.refl (· = g) w).setCell (p := ⟨g, o, none⟩) (fun _ => rfl) (.slice none 0 0)))
  clear h
  go_enter Try.func78, Try.ntmps78
  go_wp2
  first | go_end0 | refine bodyPost_ret (results_none rfl _ _ _) rfl ?_
  exact ⟨rfl, HF.out⟩
end Go.Proofs.Ytjdknijjkjmafaa
