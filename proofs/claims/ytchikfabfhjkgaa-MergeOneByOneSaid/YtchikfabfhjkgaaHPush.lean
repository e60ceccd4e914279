/-
  DERIVED. The library's heap: Push and Pop.
-/
import Derived.Test.YtchikfabfhjkgaaHHeap
set_option linter.unusedVariables false
set_option linter.unusedSimpArgs false
namespace Go.Proofs.Ytchikfabfhjkgaa
open Go.RowKit
/-- What the two own methods that make the list longer and shorter do. -/
structure HOps2 {α : Type} (rv : Value) (HR : List α → World → Prop) (Fr : World → World → Prop) (enc : α → Value) (Pr : α → List α → World → Prop) : Prop where
  push : ∀ xs W x, HR xs W → Pr x xs W → ∃ v, (method 254 103 rv "Push").run Try.prog W = .ok (104, v) W ∧ Calls Try.prog 104 #[v, enc x] W fun r W' => r = .returned (.tuple #[]) ∧ HR (xs ++ [x]) W' ∧ Fr W W'
  pop : ∀ xs W x, HR (xs ++ [x]) W → ∃ v, (method 254 103 rv "Pop").run Try.prog W = .ok (103, v) W ∧ Calls Try.prog 103 #[v] W fun r W' => r = .returned (enc x) ∧ HR xs W' ∧ Fr W W'
set_option maxRecDepth 10000 in
theorem wr_n {n : Nat} (h : n < 4611686018427387904) : IntKind.i64.wrap ((n : Int) + 1 - 1) = (n : Int) ∧ IntKind.i64.wrap (n : Int) = (n : Int) := by
  constructor <;> rw [IntKind.wrap_i64] <;> omega
set_option maxHeartbeats 2000000 in
set_option maxRecDepth 100000 in
theorem push_any {α : Type} {rv : Value} {lt : α → α → Bool} {HR : List α → World → Prop} {Fr : World → World → Prop} {enc : α → Value} {Pr : α → List α → World → Prop} (O : HOps rv lt HR Fr) (O2 : HOps2 rv HR Fr enc Pr) (xs : List α) (x : α) (w : World) (h : HR xs w) (hp : Pr x xs w) :
    Calls Try.prog 64 #[.iface 103 rv, enc x] w fun r w' => r = .returned (.tuple #[]) ∧ HR (upL lt (xs ++ [x]) xs.length) w' ∧ Fr w w' := by
  obtain ⟨v, hm, hc⟩ := O2.push xs w x h hp
  have hln := Hid.mk (fun W hW => O.len (xs ++ [x]) W hW)
  have hup := Hid.mk (fun W hW => up_any O (xs ++ [x]) xs.length W (by simp) hW)
  have hsm := Hid.mk (fun W hW => O.small (xs ++ [x]) W hW)
  obtain ⟨n, hn⟩ : ∃ n, n = xs.length := ⟨_, rfl⟩
  have hn1 : (((xs ++ [x]).length : Nat) : Int) = (n : Int) + 1 := by simp [hn]
  have HN := Hid.mk hn
  rw [hn1] at hln
  rw [← hn] at hup
  obtain ⟨L, hL⟩ : ∃ L, L = upL lt (xs ++ [x]) xs.length := ⟨_, rfl⟩
  rw [← hn] at hL
  rw [← hL] at hup
  rw [← hn, ← hL]
  have HO := Hid.mk O
  clear h hp O O2 hn1 hL
  generalize enc x = ex at *
  go_enter Try.func64, Try.ntmps64
  go_wp2_with fail
  refine hc.mono ?_
  clear hc hm
  rintro r w2 ⟨rfl, hR2, hF2⟩
  obtain ⟨v2, hm2, hc2⟩ := hln.out w2 hR2
  obtain ⟨hw1, hw2⟩ := wr_n (n := n) (by have := hsm.out w2 hR2; simp at this; omega)
  clear hln hn
  go_wp2_with fail
  refine hc2.mono ?_
  clear hc2 hm2
  rintro r w3 ⟨rfl, hR3, hF3⟩
  go_wp2_with fail
  refine (hup.out w3 hR3).mono ?_
  clear hup
  rintro r w4 ⟨rfl, hR4, hF4⟩
  go_wp2_with fail
  go_end0
  exact ⟨rfl, hR4, HO.out.trans hF2 (HO.out.trans hF3 hF4)⟩
set_option maxRecDepth 100000 in
theorem pop_any {α : Type} {rv : Value} {lt : α → α → Bool} {HR : List α → World → Prop} {Fr : World → World → Prop} {enc : α → Value} {Pr : α → List α → World → Prop} (O : HOps rv lt HR Fr) (O2 : HOps2 rv HR Fr enc Pr) (xs ys : List α) (x : α) (n : Nat) (w : World) (h : HR xs w) (hn : xs.length = n + 1) (hy : downL lt (swapL xs 0 n) 0 n = ys ++ [x]) :
    Calls Try.prog 60 #[.iface 103 rv] w fun r w' => r = .returned (enc x) ∧ HR ys w' ∧ Fr w w' := by
  obtain ⟨v, hm, hc⟩ := O.len xs w h
  have hsm := O.small xs w h
  obtain ⟨hw1, hw2⟩ := wr_n (n := n) (by omega)
  have hn1 : ((xs.length : Nat) : Int) = (n : Int) + 1 := by rw [hn]; simp
  rw [hn1] at hc
  have hsw := Hid.mk (fun W hW => O.swap xs W 0 n hW (by omega) (by omega))
  have hdn := Hid.mk (fun W hW => down_any O (swapL xs 0 n) n W (by rw [swapL_len]; omega) hW)
  rw [hy] at hdn
  have hpo := Hid.mk (fun W hW => O2.pop ys W x hW)
  have HO := Hid.mk O
  clear h O O2 hn1 hsm hy hn
  generalize enc x = ex at *
  go_enter Try.func60, Try.ntmps60
  go_wp2_with fail
  refine hc.mono ?_
  clear hc hm
  rintro r w2 ⟨rfl, hR2, hF2⟩
  obtain ⟨v2, hm2, hc2⟩ := hsw.out w2 hR2
  clear hsw
  go_wp2_with fail
  refine hc2.mono ?_
  clear hc2 hm2
  rintro r w3 ⟨rfl, hR3, hF3⟩
  go_wp2_with fail
  refine (hdn.out w3 hR3).mono ?_
  clear hdn
  rintro r w4 ⟨⟨b, rfl⟩, hR4, hF4⟩
  obtain ⟨v4, hm4, hc4⟩ := hpo.out w4 hR4
  go_wp2_with fail
  refine hc4.mono ?_
  clear hc4 hm4
  rintro r w5 ⟨rfl, hR5, hF5⟩
  go_wp2_with fail
  go_ret
  exact ⟨rfl, hR5, HO.out.trans hF2 (HO.out.trans hF3 (HO.out.trans hF4 hF5))⟩
end Go.Proofs.Ytchikfabfhjkgaa
