/-
  DERIVED. The library's heap over whatever keeps a list: up, down, Push, Pop, by what its five methods do.
-/
import Derived.Test.YtdgiigaeclnflaaDoorMBase
set_option linter.unusedVariables false
set_option linter.unusedSimpArgs false
namespace Go.Proofs.YtdgiigaeclnflaaDoor
open Go.RowKit
/-- Two places are exchanged. -/
def swapL {α : Type} (xs : List α) (i j : Nat) : List α := match xs[i]?, xs[j]? with
  | some a, some b => (xs.set i b).set j a
  | _, _ => xs
theorem swapL_len {α : Type} (xs : List α) (i j : Nat) : (swapL xs i j).length = xs.length := by unfold swapL; split <;> simp
theorem swapL_eq {α : Type} (xs : List α) (i j : Nat) (hi : i < xs.length) (hj : j < xs.length) : swapL xs i j = (xs.set i xs[j]).set j xs[i] := by
  unfold swapL; rw [List.getElem?_eq_getElem hi, List.getElem?_eq_getElem hj]
def ltAt {α : Type} (lt : α → α → Bool) (xs : List α) (i j : Nat) : Bool := match xs[i]?, xs[j]? with
  | some a, some b => lt a b
  | _, _ => false
theorem ltAt_eq {α : Type} (lt : α → α → Bool) (xs : List α) (i j : Nat) (hi : i < xs.length) (hj : j < xs.length) : ltAt lt xs i j = lt xs[i] xs[j] := by
  unfold ltAt; rw [List.getElem?_eq_getElem hi, List.getElem?_eq_getElem hj]
def upF {α : Type} (lt : α → α → Bool) : Nat → List α → Nat → List α
  | 0, xs, _ => xs
  | f + 1, xs, j => if j = 0 then xs else if ltAt lt xs j ((j - 1) / 2) = true then upF lt f (swapL xs ((j - 1) / 2) j) ((j - 1) / 2) else xs
theorem upF_zero {α : Type} (lt : α → α → Bool) : ∀ (f : Nat) (xs : List α), upF lt f xs 0 = xs
  | 0, xs => rfl
  | f + 1, xs => by rw [upF, if_pos rfl]
theorem upF_any {α : Type} (lt : α → α → Bool) : ∀ (f g : Nat) (xs : List α) (j : Nat), j ≤ f → j ≤ g → upF lt f xs j = upF lt g xs j
  | 0, g, xs, j, hf, hg => by
    have h0 : j = 0 := by omega
    subst h0
    rw [upF_zero, upF_zero]
  | f + 1, 0, xs, j, hf, hg => by
    have h0 : j = 0 := by omega
    subst h0
    rw [upF_zero, upF_zero]
  | f + 1, g + 1, xs, j, hf, hg => by
    rw [upF, upF]
    split
    · rfl
    · split
      · exact upF_any lt f g _ _ (by omega) (by omega)
      · rfl
/-- What up makes of a list. -/
def upL {α : Type} (lt : α → α → Bool) (xs : List α) (j : Nat) : List α := upF lt j xs j
theorem upL_eq {α : Type} (lt : α → α → Bool) (xs : List α) (j : Nat) : upL lt xs j = if h : j = 0 then xs else if ltAt lt xs j ((j - 1) / 2) = true then upL lt (swapL xs ((j - 1) / 2) j) ((j - 1) / 2) else xs := by
  unfold upL
  by_cases h : j = 0
  · subst h; rw [upF_zero, dif_pos rfl]
  · rw [dif_neg h, upF_any lt j (j - 1 + 1) xs j (Nat.le_refl _) (by omega), upF, if_neg h]
    split
    · exact upF_any lt _ _ _ _ (by omega) (Nat.le_refl _)
    · rfl
/-- The child that is looked at. -/
def kid {α : Type} (lt : α → α → Bool) (xs : List α) (i n : Nat) : Nat := if 2 * i + 2 < n ∧ ltAt lt xs (2 * i + 2) (2 * i + 1) = true then 2 * i + 2 else 2 * i + 1
theorem kid_gt {α : Type} (lt : α → α → Bool) (xs : List α) (i n : Nat) : i < kid lt xs i n := by unfold kid; split <;> omega
theorem kid_lt {α : Type} (lt : α → α → Bool) (xs : List α) (i n : Nat) (h : 2 * i + 1 < n) : kid lt xs i n < n := by unfold kid; split <;> omega
def downF {α : Type} (lt : α → α → Bool) (n : Nat) : Nat → List α → Nat → List α
  | 0, xs, _ => xs
  | f + 1, xs, i => if 2 * i + 1 < n then (if ltAt lt xs (kid lt xs i n) i = true then downF lt n f (swapL xs i (kid lt xs i n)) (kid lt xs i n) else xs) else xs
theorem downF_end {α : Type} (lt : α → α → Bool) (n : Nat) : ∀ (f : Nat) (xs : List α) (i : Nat), n ≤ i → downF lt n f xs i = xs
  | 0, xs, i, h => rfl
  | f + 1, xs, i, h => by rw [downF, if_neg (by omega)]
theorem downF_any {α : Type} (lt : α → α → Bool) (n : Nat) : ∀ (f g : Nat) (xs : List α) (i : Nat), n - i ≤ f → n - i ≤ g → downF lt n f xs i = downF lt n g xs i
  | 0, g, xs, i, hf, hg => by rw [downF_end lt n _ _ _ (by omega), downF_end lt n _ _ _ (by omega)]
  | f + 1, 0, xs, i, hf, hg => by rw [downF_end lt n _ _ _ (by omega), downF_end lt n _ _ _ (by omega)]
  | f + 1, g + 1, xs, i, hf, hg => by
    rw [downF, downF]
    split
    · rename_i h
      have h1 := kid_gt lt xs i n
      have h2 := kid_lt lt xs i n h
      split
      · exact downF_any lt n f g _ _ (by omega) (by omega)
      · rfl
    · rfl
/-- What down makes of a list. -/
def downL {α : Type} (lt : α → α → Bool) (xs : List α) (i n : Nat) : List α := downF lt n (n - i) xs i
theorem downL_eq {α : Type} (lt : α → α → Bool) (xs : List α) (i n : Nat) : downL lt xs i n = if h : 2 * i + 1 < n then (if ltAt lt xs (kid lt xs i n) i = true then downL lt (swapL xs i (kid lt xs i n)) (kid lt xs i n) n else xs) else xs := by
  unfold downL
  by_cases h : 2 * i + 1 < n
  · have h1 := kid_gt lt xs i n
    have h2 := kid_lt lt xs i n h
    rw [dif_pos h, downF_any lt n (n - i) (n - i - 1 + 1) xs i (Nat.le_refl _) (by omega), downF, if_pos h]
    split
    · exact downF_any lt n _ _ _ _ (by omega) (Nat.le_refl _)
    · rfl
  · rw [dif_neg h, downF_any lt n (n - i) (n - i + 1) xs i (Nat.le_refl _) (by omega), downF, if_neg h]
theorem upL_len {α : Type} (lt : α → α → Bool) (xs : List α) (j : Nat) : (upL lt xs j).length = xs.length := by
  induction j using Nat.strongRecOn generalizing xs with
  | ind j ih =>
    rw [upL_eq]
    split
    · rfl
    · split
      · rw [ih _ (by omega), swapL_len]
      · rfl
theorem downL_len {α : Type} (lt : α → α → Bool) (n : Nat) : ∀ (k : Nat) (xs : List α) (i : Nat), n - i ≤ k → (downL lt xs i n).length = xs.length
  | 0, xs, i, h => by rw [downL_eq, dif_neg (by omega)]
  | k + 1, xs, i, h => by
    rw [downL_eq]
    split
    · rename_i hh
      have h1 := kid_gt lt xs i n
      have h2 := kid_lt lt xs i n hh
      split
      · rw [downL_len lt n k _ _ (by omega), swapL_len]
      · rfl
    · rfl
/-- What the five methods do; T: the type behind the interface value; rv: what it holds; Fr: what stays. -/
structure HOps {α : Type} (rv : Value) (lt : α → α → Bool) (HR : List α → World → Prop) (Fr : World → World → Prop) : Prop where
  refl : ∀ W, Fr W W
  trans : ∀ {A B C : World}, Fr A B → Fr B C → Fr A C
  small : ∀ xs W, HR xs W → xs.length < 4611686018427387904
  less : ∀ xs W (i j : Nat), HR xs W → i < xs.length → j < xs.length → ∃ v, (method 277 58 rv "Less").run Tryd.prog W = .ok (112, v) W ∧ Calls Tryd.prog 112 #[v, .int .i64 i, .int .i64 j] W fun r W' => r = .returned (.bool (ltAt lt xs i j)) ∧ HR xs W' ∧ Fr W W'
  swap : ∀ xs W (i j : Nat), HR xs W → i < xs.length → j < xs.length → ∃ v, (method 277 58 rv "Swap").run Tryd.prog W = .ok (115, v) W ∧ Calls Tryd.prog 115 #[v, .int .i64 i, .int .i64 j] W fun r W' => r = .returned (.tuple #[]) ∧ HR (swapL xs i j) W' ∧ Fr W W'
  len : ∀ xs W, HR xs W → ∃ v, (method 277 58 rv "Len").run Tryd.prog W = .ok (32, v) W ∧ Calls Tryd.prog 32 #[v] W fun r W' => r = .returned (.int .i64 xs.length) ∧ HR xs W' ∧ Fr W W'
def RU {α : Type} (lt : α → α → Bool) (HR : List α → World → Prop) (Fr : World → World → Prop) (L : List α) (w : World) (jv : Value) (wr : World) : Prop := ∃ (j : Nat) (ys : List α), jv = .int .i64 j ∧ j < ys.length ∧ HR ys wr ∧ Fr w wr ∧ upL lt ys j = L
set_option maxRecDepth 10000 in
theorem up_num {j : Nat} (h : j < 4611686018427387904) (h0 : 0 < j) : IntKind.i64.wrap ((j : Int) - 1) = (j : Int) - 1 ∧ ((j : Int) - 1).tdiv 2 = (((j - 1) / 2 : Nat) : Int) ∧ IntKind.i64.wrap (((j - 1) / 2 : Nat) : Int) = (((j - 1) / 2 : Nat) : Int) ∧ ((((j - 1) / 2 : Nat) : Int) == (j : Int)) = false := by
  refine ⟨by rw [IntKind.wrap_i64]; omega, ?_, by rw [IntKind.wrap_i64]; omega, ?_⟩
  · have : ((j : Int) - 1) = ((j - 1 : Nat) : Int) := by omega
    rw [this]; rfl
  · apply beq_false_of_ne; omega
set_option maxRecDepth 100000 in
theorem up_any {α : Type} {rv : Value} {lt : α → α → Bool} {HR : List α → World → Prop} {Fr : World → World → Prop} (O : HOps rv lt HR Fr) (xs : List α) (j : Nat) (w : World) (hj : j < xs.length) (h : HR xs w) :
    Calls Tryd.prog 91 #[.iface 58 rv, .int .i64 j] w fun r w' => r = .returned (.tuple #[]) ∧ HR (upL lt xs j) w' ∧ Fr w w' := by
  obtain ⟨L, hL⟩ : ∃ L, L = upL lt xs j := ⟨_, rfl⟩
  rw [← hL]
  have HO := Hid.mk O
  have H0 : Hid _ := Hid.mk (And.intro h (And.intro hj hL.symm))
  clear O hL h hj
  go_enter Tryd.func91, Tryd.ntmps91
  go_wp2
  go_loopw [1] (fun jv wr => RU lt HR Fr L w jv wr) (fun jv _ => (intOf jv).toNat)
  case atStart => exact ⟨j, xs, rfl, H0.out.2.1, H0.out.1, HO.out.refl _, H0.out.2.2⟩
  case round =>
    obtain ⟨k, ys, rfl, hk, hR, hF, hu⟩ := hrel
    have hsm := HO.out.small ys wr hR
    have HR' := Hid.mk (And.intro hR (And.intro hF hu))
    clear hu hR hF
    by_cases h0 : k = 0
    · subst h0
      have hu := HR'.out.2.2
      rw [upL_eq, dif_pos rfl] at hu
      subst hu
      go_wp2
      go_end0
      exact ⟨rfl, HR'.out.1, HR'.out.2.1⟩
    · obtain ⟨e1, e2, e3, e4⟩ := up_num (Nat.lt_trans hk hsm) (Nat.pos_of_ne_zero h0)
      obtain ⟨i, hi⟩ : ∃ i, i = (k - 1) / 2 := ⟨_, rfl⟩
      have hil : i < ys.length := by omega
      have hik : i < k := by omega
      have hu := HR'.out.2.2
      rw [upL_eq, dif_neg h0, ← hi] at hu
      rw [← hi] at e2 e3 e4
      replace hu := Hid.mk hu
      obtain ⟨v, hm, hc⟩ := HO.out.less ys wr k i HR'.out.1 hk hil
      clear hi hsm h0
      by_cases hl : ltAt lt ys k i = true
      · rw [hl] at hc
        have hsw := fun W hW => HO.out.swap ys W i k hW hil hk
        replace hsw := Hid.mk hsw
        go_wp2_with first
          | (go_at_call 112; refine hc.mono ?_; clear hc hm; rintro r w2 ⟨rfl, hR2, hF2⟩; obtain ⟨v2, hm2, hc2⟩ := hsw.out w2 hR2; clear hsw)
          | (go_at_call 115; refine hc2.mono ?_; clear hc2 hm2; rintro r w3 ⟨rfl, hR3, hF3⟩)
        have hu2 := hu.out
        rw [if_pos hl] at hu2
        exact ⟨⟨i, swapL ys i k, rfl, by rw [swapL_len]; exact hil, hR3, HO.out.trans HR'.out.2.1 (HO.out.trans hF2 hF3), hu2⟩, by simp only [intOf]; omega⟩
      · have hl' : ltAt lt ys k i = false := by simpa using hl
        rw [hl'] at hc
        go_wp2_with (go_at_call 112; refine hc.mono ?_; clear hc hm; rintro r w2 ⟨rfl, hR2, hF2⟩)
        have hu2 := hu.out
        rw [if_neg hl] at hu2
        subst hu2
        go_end0
        exact ⟨rfl, hR2, HO.out.trans HR'.out.2.1 hF2⟩
def RD {α : Type} (lt : α → α → Bool) (HR : List α → World → Prop) (Fr : World → World → Prop) (L : List α) (n : Nat) (w : World) (iv : Value) (wr : World) : Prop := ∃ (i : Nat) (ys : List α), iv = .int .i64 i ∧ n ≤ ys.length ∧ (i = 0 ∨ i < n) ∧ HR ys wr ∧ Fr w wr ∧ downL lt ys i n = L
set_option maxRecDepth 10000 in
theorem down_num {i n : Nat} (h : n < 4611686018427387904) (h0 : i = 0 ∨ i < n) : IntKind.i64.wrap (2 * (i : Int)) = 2 * (i : Int) ∧ IntKind.i64.wrap (2 * (i : Int) + 1) = ((2 * i + 1 : Nat) : Int) ∧ IntKind.i64.wrap (((2 * i + 1 : Nat) : Int) + 1) = ((2 * i + 2 : Nat) : Int) := by
  refine ⟨by rw [IntKind.wrap_i64]; omega, by rw [IntKind.wrap_i64]; omega, by rw [IntKind.wrap_i64]; omega⟩
set_option maxHeartbeats 1000000 in
set_option maxRecDepth 100000 in
theorem down_any {α : Type} {rv : Value} {lt : α → α → Bool} {HR : List α → World → Prop} {Fr : World → World → Prop} (O : HOps rv lt HR Fr) (xs : List α) (n : Nat) (w : World) (hn : n ≤ xs.length) (h : HR xs w) :
    Calls Tryd.prog 89 #[.iface 58 rv, .int .i64 0, .int .i64 n] w fun r w' => (∃ b : Bool, r = .returned (.bool b)) ∧ HR (downL lt xs 0 n) w' ∧ Fr w w' := by
  obtain ⟨L, hL⟩ : ∃ L, L = downL lt xs 0 n := ⟨_, rfl⟩
  rw [← hL]
  have HO := Hid.mk O
  have H0 : Hid _ := Hid.mk (And.intro h (And.intro hn hL.symm))
  have hsm := Nat.lt_of_le_of_lt hn (O.small xs w h)
  replace hsm := Hid.mk hsm
  clear O hL h hn
  go_enter Tryd.func89, Tryd.ntmps89
  go_wp2
  go_loopw [7] (fun iv wr => RD lt HR Fr L n w iv wr) (fun iv _ => n - (intOf iv).toNat)
  case atStart => exact ⟨0, xs, rfl, H0.out.2.1, .inl rfl, H0.out.1, HO.out.refl _, H0.out.2.2⟩
  case round =>
    obtain ⟨i, ys, rfl, hn, h0, hR, hF, hu⟩ := hrel
    obtain ⟨e1, e2, e3⟩ := down_num hsm.out h0
    have HR' := Hid.mk (And.intro hR (And.intro hF hu))
    clear hu hR hF
    by_cases hj : 2 * i + 1 < n
    · have hjI : ((2 * i + 1 : Nat) : Int) < (n : Int) := by omega
      have hj0 : ¬ ((2 * i + 1 : Nat) : Int) < 0 := by omega
      have hi1 : i < ys.length := by omega
      have hj1 : 2 * i + 1 < ys.length := by omega
      have hu := HR'.out.2.2
      rw [downL_eq, dif_pos hj] at hu
      replace hu := Hid.mk hu
      have hkl := kid_lt lt ys i n hj
      have hkg := kid_gt lt ys i n
      obtain ⟨J, hJ⟩ : ∃ J, J = 2 * i + 1 := ⟨_, rfl⟩
      obtain ⟨J2, hJ2⟩ : ∃ J2, J2 = 2 * i + 2 := ⟨_, rfl⟩
      have hkd : kid lt ys i n = if J2 < n ∧ ltAt lt ys J2 J = true then J2 else J := by rw [hJ, hJ2]; rfl
      rw [← hJ] at e2 e3 hjI hj0 hj1 hj
      rw [← hJ2] at e3
      have e3' : IntKind.i64.wrap ((J : Int) + 1) = (J2 : Int) := e3
      obtain ⟨K, hK⟩ : ∃ K, K = kid lt ys i n := ⟨_, rfl⟩
      rw [← hK] at hu hkl hkg hkd
      have hKl : K < ys.length := by omega
      have HK := Hid.mk (And.intro hkd (And.intro hJ hJ2))
      clear hJ hJ2 hK hkd e3
      have hls := Hid.mk (fun W hW => HO.out.less ys W K i hW hKl hi1)
      have hsw := Hid.mk (fun W hW => HO.out.swap ys W i K hW hi1 hKl)
      have last : ∀ W (u : HR ys W) (f : Fr wr W), ltAt lt ys K i = false → HR L W ∧ Fr w W := fun W u f hf => by
        have := hu.out
        rw [hf, if_neg (by decide)] at this
        subst this
        exact ⟨u, HO.out.trans HR'.out.2.1 f⟩
      have next : ∀ W W' (u : HR (swapL ys i K) W') (f1 : Fr wr W) (f2 : Fr W W'), ltAt lt ys K i = true → RD lt HR Fr L n w (.int .i64 K) W' := fun W W' u f1 f2 ht => by
        have := hu.out
        rw [ht, if_pos rfl] at this
        exact ⟨K, swapL ys i K, rfl, by rw [swapL_len]; exact hn, .inr hkl, u, HO.out.trans HR'.out.2.1 (HO.out.trans f1 f2), this⟩
      replace last := Hid.mk last
      replace next := Hid.mk next
      have hmeas : n - K < n - i := by omega
      replace hmeas := Hid.mk hmeas
      by_cases h2 : J2 < n
      · have h2I : (J2 : Int) < (n : Int) := by omega
        have hJ2l : J2 < ys.length := by omega
        obtain ⟨v, hm, hc⟩ := HO.out.less ys wr J2 J HR'.out.1 hJ2l hj1
        by_cases hl : ltAt lt ys J2 J = true
        · have hKe : K = J2 := by have := HK.out.1; rw [if_pos ⟨h2, hl⟩] at this; exact this
          subst hKe
          rw [hl] at hc
          cases hq : ltAt lt ys K i with
          | true =>
            rw [hq] at hls
            go_wp2_with first
              | (go_at_call 112; refine hc.mono ?_; clear hc hm; rintro r w2 ⟨rfl, hR2, hF2⟩; obtain ⟨v2, hm2, hc2⟩ := hls.out w2 hR2; clear hls)
              | (go_at_call 112; refine hc2.mono ?_; clear hc2 hm2; rintro r w3 ⟨rfl, hR3, hF3⟩; obtain ⟨v3, hm3, hc3⟩ := hsw.out w3 hR3; clear hsw)
              | (go_at_call 115; refine hc3.mono ?_; clear hc3 hm3; rintro r w4 ⟨rfl, hR4, hF4⟩)
            exact ⟨next.out _ _ hR4 (HO.out.trans hF2 hF3) hF4 hq, by simp only [intOf]; exact hmeas.out⟩
          | false =>
            rw [hq] at hls
            go_wp2_with first
              | (go_at_call 112; refine hc.mono ?_; clear hc hm; rintro r w2 ⟨rfl, hR2, hF2⟩; obtain ⟨v2, hm2, hc2⟩ := hls.out w2 hR2; clear hls)
              | (go_at_call 112; refine hc2.mono ?_; clear hc2 hm2; rintro r w3 ⟨rfl, hR3, hF3⟩)
            go_ret
            exact ⟨⟨_, rfl⟩, last.out _ hR3 (HO.out.trans hF2 hF3) hq⟩
        · have hl' : ltAt lt ys J2 J = false := by simpa using hl
          have hKe : K = J := by have := HK.out.1; rw [if_neg (fun h => hl h.2)] at this; exact this
          subst hKe
          rw [hl'] at hc
          cases hq : ltAt lt ys K i with
          | true =>
            rw [hq] at hls
            go_wp2_with first
              | (go_at_call 112; refine hc.mono ?_; clear hc hm; rintro r w2 ⟨rfl, hR2, hF2⟩; obtain ⟨v2, hm2, hc2⟩ := hls.out w2 hR2; clear hls)
              | (go_at_call 112; refine hc2.mono ?_; clear hc2 hm2; rintro r w3 ⟨rfl, hR3, hF3⟩; obtain ⟨v3, hm3, hc3⟩ := hsw.out w3 hR3; clear hsw)
              | (go_at_call 115; refine hc3.mono ?_; clear hc3 hm3; rintro r w4 ⟨rfl, hR4, hF4⟩)
            exact ⟨next.out _ _ hR4 (HO.out.trans hF2 hF3) hF4 hq, by simp only [intOf]; exact hmeas.out⟩
          | false =>
            rw [hq] at hls
            go_wp2_with first
              | (go_at_call 112; refine hc.mono ?_; clear hc hm; rintro r w2 ⟨rfl, hR2, hF2⟩; obtain ⟨v2, hm2, hc2⟩ := hls.out w2 hR2; clear hls)
              | (go_at_call 112; refine hc2.mono ?_; clear hc2 hm2; rintro r w3 ⟨rfl, hR3, hF3⟩)
            go_ret
            exact ⟨⟨_, rfl⟩, last.out _ hR3 (HO.out.trans hF2 hF3) hq⟩
      · have h2I : (n : Int) ≤ (J2 : Int) := by omega
        have hKe : K = J := by have := HK.out.1; rw [if_neg (fun h => h2 h.1)] at this; exact this
        subst hKe
        obtain ⟨v, hm, hc⟩ := hls.out wr HR'.out.1
        clear hls
        cases hq : ltAt lt ys K i with
        | true =>
          rw [hq] at hc
          go_wp2_with first
            | (go_at_call 112; refine hc.mono ?_; clear hc hm; rintro r w3 ⟨rfl, hR3, hF3⟩; obtain ⟨v3, hm3, hc3⟩ := hsw.out w3 hR3; clear hsw)
            | (go_at_call 115; refine hc3.mono ?_; clear hc3 hm3; rintro r w4 ⟨rfl, hR4, hF4⟩)
          exact ⟨next.out _ _ hR4 hF3 hF4 hq, by simp only [intOf]; exact hmeas.out⟩
        | false =>
          rw [hq] at hc
          go_wp2_with (go_at_call 112; refine hc.mono ?_; clear hc hm; rintro r w3 ⟨rfl, hR3, hF3⟩)
          go_ret
          exact ⟨⟨_, rfl⟩, last.out _ hR3 hF3 hq⟩
    · have hu := HR'.out.2.2
      rw [downL_eq, dif_neg hj] at hu
      subst hu
      obtain ⟨J, hJ⟩ : ∃ J, J = 2 * i + 1 := ⟨_, rfl⟩
      rw [← hJ] at e2 hj
      have hjI : (n : Int) ≤ (J : Int) := by omega
      clear hJ e3
      go_wp2
      go_ret
      exact ⟨⟨_, rfl⟩, HR'.out.1, HR'.out.2.1⟩
end Go.Proofs.YtdgiigaeclnflaaDoor
