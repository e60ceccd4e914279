/-
  DERIVED. Numbers as texts: the program's decimal, the document's.
-/
import Derived.Test.YtibjneoiombbfaaDoorKMath
import Derived.Test.YtibjneoiombbfaaDoorShelf
import Derived.Test.YtibjneoiombbfaaDoorBStay
import Derived.Lib.AppendIntMem
import Derived.Lib.AtoiErrMem
set_option linter.unusedVariables false
set_option linter.unusedSimpArgs false
namespace Go.Proofs.YtibjneoiombbfaaDoor
open Go.RowKit
abbrev Pow (w : World) : Prop := Lib.TabIs Tryd.prog w "internal/strconv.uint64pow10" .u64 Lib.pow10Tab
theorem gPow : Tryd.prog.globalNamed "internal/strconv.uint64pow10" = some 1 := by kernel_rfl
theorem gSy : Tryd.prog.globalNamed "strconv.ErrSyntax" = some 2 := by kernel_rfl
theorem gRg : Tryd.prog.globalNamed "strconv.ErrRange" = some 3 := by kernel_rfl
/-- The library's variables, as they are laid. -/
structure Vs (w : World) : Prop where
  pow : Pow w
  sy : ∃ tp p, w.var? Tryd.prog "strconv.ErrSyntax" = some #[.iface tp p]
  rg : ∃ tp p, w.var? Tryd.prog "strconv.ErrRange" = some #[.iface tp p]
theorem var_lat {w w' : World} {nm : String} {g : Nat} (hg : Tryd.prog.globalNamed nm = some g) {x : Array Value} (h : w.var? Tryd.prog nm = some x) (hb : Below w.heap.size w w') : w'.var? Tryd.prog nm = some x := by
  unfold World.var? at h ⊢
  rw [hg] at h ⊢
  simp only [Option.bind_some] at h ⊢
  have hlt : g < w.heap.size := by
    rcases Nat.lt_or_ge g w.heap.size with h' | h'
    · exact h'
    · rw [Array.getElem?_eq_none h'] at h; cases h
  rw [hb.block g hlt]
  exact h
theorem Vs.lat {w w' : World} (h : Vs w) (hb : Below w.heap.size w w') : Vs w' := by
  obtain ⟨h1, ⟨tp, p, h2⟩, ⟨tq, q, h3⟩⟩ := h
  exact ⟨var_lat gPow h1 hb, ⟨tp, p, var_lat gSy h2 hb⟩, ⟨tq, q, var_lat gRg h3 hb⟩⟩
theorem atoi_ok (s : ByteArray) (w : World) (hlim : s.size ≤ 281474976710656) (v : Int) (h : Lib.atoiAll s.data.toList = .ok v) :
    Calls Tryd.prog 77 #[.string s] w fun e w' => e = .returned (.tuple #[.int .i64 v, .nilIface]) ∧ Below w.heap.size w w' := by
  refine (Tryd.strconv_Atoi_ok s (by omega) v h w).mono ?_
  rintro e w' ⟨rfl, hw⟩
  refine ⟨rfl, ?_⟩
  rcases hw with rfl | ⟨t, rfl⟩
  · exact Below.refl _ _
  · exact Lib.bytesWorld_below _ _ _
theorem atoi_bad (s : ByteArray) (w : World) (V : Vs w) (hlim : s.size ≤ 281474976710656) (h : ∀ v, Lib.atoiAll s.data.toList ≠ .ok v) :
    Calls Tryd.prog 77 #[.string s] w fun e w' => ∃ v N, e = .returned (.tuple #[.int .i64 v, .iface 149 (.pointer (some ⟨N, 0, none⟩))]) ∧ Below w.heap.size w w' := by
  cases h' : Lib.atoiAll s.data.toList with
  | ok v => exact absurd h' (h v)
  | «syntax» =>
    obtain ⟨tp, p, h2⟩ := V.sy
    refine (Tryd.strconv_Atoi_syntax_var s hlim h' tp p w h2).mono ?_
    rintro e w' ⟨N, rfl, -, -, hb⟩
    exact ⟨_, _, rfl, hb⟩
  | range =>
    obtain ⟨tp, p, h2⟩ := V.rg
    refine (Tryd.strconv_Atoi_range_var s hlim h' tp p w h2).mono ?_
    rintro e w' ⟨N, rfl, -, -, hb⟩
    exact ⟨_, _, rfl, hb⟩
theorem itoa_any (n : Int) (w : World) (V : Vs w) (h : -9223372036854775808 ≤ n ∧ n ≤ 9223372036854775807) :
    Calls Tryd.prog 22 #[.int .i64 n] w fun e w' => e = .returned (.string ⟨(Lib.itoa n).toArray⟩) ∧ Below w.heap.size w w' := by
  refine (Tryd.strconv_Itoa n (by omega) (by omega) w V.pow).mono ?_
  rintro e w' ⟨rfl, k, os, rfl⟩
  exact ⟨rfl, Lib.below_grow _ _ (Nat.le_refl _) _ _⟩
theorem within_any (n a b : Int) (w : World) : Calls Tryd.prog 42 #[.int .i64 n, .int .i64 a, .int .i64 b] w fun e w' => e = .returned (.bool (decide (a ≤ n ∧ n ≤ b))) ∧ w' = w := by
  by_cases h1 : a ≤ n
  · by_cases h2 : n ≤ b
    · rw [decide_eq_true (show a ≤ n ∧ n ≤ b from ⟨h1, h2⟩)]
      go_enter Tryd.func42, Tryd.ntmps42
      go_wp2
      go_ret
      exact ⟨rfl, rfl⟩
    · rw [decide_eq_false (show ¬ (a ≤ n ∧ n ≤ b) from fun h => h2 h.2)]
      go_enter Tryd.func42, Tryd.ntmps42
      go_wp2
      go_ret
      exact ⟨rfl, rfl⟩
  · rw [decide_eq_false (show ¬ (a ≤ n ∧ n ≤ b) from fun h => h1 h.1)]
    go_enter Tryd.func42, Tryd.ntmps42
    go_wp2
    go_ret
    exact ⟨rfl, rfl⟩
/-- What decimal answers: the number, if it is one. -/
def DcR (l : List UInt8) (lo hi : Int) (v : Int) (ok : Bool) : Prop := (ok = true ∧ dec l lo hi = some v) ∨ (ok = false ∧ dec l lo hi = none)
theorem str_eq (l : List UInt8) (s : ByteArray) : ((⟨l.toArray⟩ : ByteArray) = s) ↔ l = s.data.toList := by
  constructor
  · rintro rfl; rfl
  · rintro rfl; rfl
set_option maxHeartbeats 1000000 in
set_option maxRecDepth 100000 in
theorem decimal_any (s : ByteArray) (lo hi : Int) (w : World) (V : Vs w) (hlim : s.size ≤ 281474976710656) :
    Calls Tryd.prog 59 #[.string s, .int .i64 lo, .int .i64 hi] w fun e w' => ∃ v ok, e = .returned (.tuple #[.int .i64 v, .bool ok]) ∧ DcR s.data.toList lo hi v ok ∧ Below w.heap.size w w' := by
  by_cases hk : ∃ v, Lib.atoiAll s.data.toList = .ok v
  · obtain ⟨v, hv⟩ := hk
    have ca := atoi_ok s w hlim v hv
    have vb := Lib.atoiAll_bounds hv
    go_enter Tryd.func59, Tryd.ntmps59
    go_wp2_with first
      | (go_at_call 77; refine ca.mono ?_; rintro e w1 ⟨rfl, b1⟩; have V1 := V.lat b1; clear ca)
      | (go_at_call 22; refine (itoa_any v _ V1 vb).mono ?_; rintro e w2 ⟨rfl, b2⟩; have b3 := chain b1 b2 (Nat.le_refl _))
      | (go_at_call 42; refine (within_any _ _ _ _).mono ?_; rintro e w' ⟨rfl, rfl⟩)
    · go_ret2
      refine ⟨_, _, rfl, ?_, b3⟩
      rename_i h
      rw [ByteArray.toList_eq] at h
      unfold DcR dec
      rw [hv]
      by_cases hc : lo ≤ v ∧ v ≤ hi
      · left; simp [h, hc]
      · right; simp only [h, true_and, if_neg hc, and_true]; simpa using hc
    · go_ret2
      refine ⟨_, _, rfl, Or.inr ⟨rfl, ?_⟩, b3⟩
      rename_i h
      rw [ByteArray.toList_eq] at h
      unfold dec
      rw [hv]
      simp [h]
  · have ca := atoi_bad s w V hlim (fun v hv => hk ⟨v, hv⟩)
    go_enter Tryd.func59, Tryd.ntmps59
    go_wp2_with first
      | (go_at_call 77; refine ca.mono ?_; rintro e w1 ⟨v, N, rfl, b1⟩; clear ca)
    go_ret2
    refine ⟨_, _, rfl, Or.inr ⟨rfl, ?_⟩, b1⟩
    unfold dec
    cases h' : Lib.atoiAll s.data.toList with
    | ok v => exact absurd ⟨v, h'⟩ hk
    | «syntax» => rfl
    | range => rfl
end Go.Proofs.YtibjneoiombbfaaDoor
