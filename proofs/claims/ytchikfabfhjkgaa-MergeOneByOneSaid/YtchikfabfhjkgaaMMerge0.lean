/-
  DERIVED. Merge of no lists, and of too many.
-/
import Derived.Test.YtchikfabfhjkgaaMMerge
set_option linter.unusedVariables false
set_option linter.unusedSimpArgs false
namespace Go.Proofs.Ytchikfabfhjkgaa
open Go.RowKit
set_option maxRecDepth 100000 in
theorem merge_many (n : Nat) (la : Option Addr) (lc : Nat) (bottom : Bool) (w : World) (hn : 1024 < n) :
    Calls Try.prog 24 #[.slice la n lc, .bool bottom] w fun r w' => r = .returned (.tuple #[.slice none 0 0, .int .i64 43]) ∧ Below w.heap.size w w' := by
  have hgt : (1024 : Int) < (n : Int) := by omega
  go_enter Try.func24, Try.ntmps24
  go_wp2
  go_ret2
  exact ⟨rfl, Below.refl _ _⟩
set_option maxRecDepth 100000 in
theorem clone_none (w : World) : Calls Try.prog 37 #[.slice none 0 0] w fun r w' => r = .returned (.slice none 0 0) ∧ w' = w := by
  have hq : ∀ (w : World), (binOp .eql 37 (.slice none 0 0) (.slice none 0 0)).run Try.prog w = .ok (.bool true) w := fun w => Lib.run_eql_slice_nil w _ _ none 0 0 0 0 Try.underlying37
  go_enter Try.func37, Try.ntmps37
  go_wp2
  go_ret
  exact ⟨rfl, rfl⟩
set_option maxRecDepth 100000 in
theorem new_none (b : Bool) (w : World) :
    Calls Try.prog 17 #[.slice none 0 0, .bool b] w fun r w' => ∃ m, r = .returned (.pointer (some ⟨m, 0, none⟩)) ∧ Mb w' m (.slice none 0 0) (.slice none 0 0) (.bool b) (.int .i64 0) ∧ w.heap.size ≤ m ∧ Below w.heap.size w w' := by
  have hc := clone_none w
  have b3 : Below w.heap.size w (w.alloc (.cells #[.slice none 0 0, .slice none 0 0, .bool b, .int .i64 0] 81)) := (Below.refl _ w).alloc (Nat.le_refl _) _
  have fin := Hid.mk (And.intro (heap_alloc_last w (.cells #[.slice none 0 0, .slice none 0 0, .bool b, .int .i64 0] 81)) (And.intro (Nat.le_refl w.heap.size) b3))
  clear b3
  go_enter Try.func17, Try.ntmps17
  go_wp2_with fail
  refine hc.mono ?_
  clear hc
  rintro r w2 ⟨rfl, rfl⟩
  go_wp2
  go_ret
  exact ⟨_, rfl, fin.out⟩
theorem rest_none {w w3 : World} {m : Nat} {bottom : Bool} (hMb : Mb w3 m (.slice none 0 0) (.slice none 0 0) (.bool bottom) (.int .i64 0)) (hm : w.heap.size ≤ m) (hb : Below w.heap.size w w3) :
    Calls Try.prog 47 #[.pointer (some ⟨m, 0, none⟩)] w3 fun r w' => Below w.heap.size w w' ∧ MOut [] bottom w r w' := by
  have q3 : MQ w w.heap.size m [] (.slice none 0 0) (.bool bottom) (.int .i64 0) (.slice none 0 0) [] [] [] [] w3 := MQ.start hb hm hMb rfl (fun _ _ _ h => by simp at h) (fun _ _ _ h => by simp at h) (fun _ h => by simp at h) (Nat.zero_le _)
  have hf := (next_any q3 (Nat.zero_le _)).mono fun r W2 h => (⟨[], [], ⟨rfl, rfl⟩, h⟩ : ∃ ys rs, (ys = [] ∧ rs = []) ∧ NextO w w.heap.size m [] bottom ys rs w3 r W2)
  have hB : Bgn [] [] [] := ⟨⟨rfl, fun j l h => absurd h (Nat.not_lt_zero _), fun j _ => ⟨rfl, fun _ h => by simp at h⟩⟩, rfl, ⟨fun _ h => by simp at h, fun _ h => by simp at h⟩, List.nodup_nil, fun _ h => by simp at h⟩
  exact (rest_gen (N := 0) hm (by decide) hf (fun ys rs hq => by obtain ⟨rfl, rfl⟩ := hq; exact ⟨hB.csz, Nat.le_refl _, Nat.zero_le _⟩)).mono fun r W' ⟨h1, h2, ys, rs, out, ⟨e1, e2⟩, h4⟩ => by
    subst e1; subst e2
    refine ⟨h2, [], [], out, hB, ?_⟩
    rcases h4 with ⟨k1, v, k2, k3, k4⟩ | k
    · exact .inl ⟨k1, v, k2, k3, fun k hk => (k4 k hk).1⟩
    · exact .inr k
set_option maxRecDepth 100000 in
theorem merge_none (la : Option Addr) (lc : Nat) (bottom : Bool) (w : World) :
    Calls Try.prog 24 #[.slice la 0 lc, .bool bottom] w fun r w' => Below w.heap.size w w' ∧ MOut [] bottom w r w' := by
  have hn := new_none bottom w
  go_enter Try.func24, Try.ntmps24
  go_wp2
  go_loopw [17] (fun iv wr => iv = .int .i64 0 ∧ wr = w) (fun _ _ => 0)
  case atStart => exact ⟨rfl, rfl⟩
  case round =>
    obtain ⟨rfl, rfl⟩ := hrel
    go_wp2
    go_loopw [9, 29] (fun sv iv w2 => sv = .slice none 0 0 ∧ iv = .int .i64 0 ∧ w2 = wr) (fun _ _ _ => 0)
    case atStart => exact ⟨rfl, rfl, rfl⟩
    case round =>
      obtain ⟨rfl, rfl, rfl⟩ := hrel
      go_wp2_with fail
      refine hn.mono ?_
      clear hn
      rintro _ w3 ⟨m, rfl, f1, f2, f3⟩
      have hre := rest_none f1 f2 f3
      clear f1 f2 f3
      go_wp2_with fail
      refine hre.mono ?_
      clear hre
      rintro r w4 ⟨b4, ys, rs, out, hB, ⟨k1, v, rfl, k2, k3⟩ | ⟨k1, rfl⟩⟩
      · obtain ⟨xa, xc, rfl, -⟩ := slice_form k2
        have fin := Hid.mk (And.intro b4 (And.intro hB (And.intro k1 (And.intro k2 k3))))
        clear b4 hB k1 k2 k3
        go_wp2
        go_ret2
        exact ⟨fin.out.1, ys, rs, out, fin.out.2.1, .inl ⟨fin.out.2.2.1, _, rfl, fin.out.2.2.2.1, fin.out.2.2.2.2⟩⟩
      · have fin := Hid.mk (And.intro b4 (And.intro hB k1))
        clear b4 hB k1
        go_wp2
        go_ret2
        exact ⟨fin.out.1, ys, rs, out, fin.out.2.1, .inr ⟨fin.out.2.2, rfl⟩⟩
end Go.Proofs.Ytchikfabfhjkgaa
