/-
  DERIVED. PlainLooks: its walk.
-/
import Derived.Test.YtekgppmhcbmpeaaDoorGLawN
set_option linter.unusedVariables false
set_option linter.unusedSimpArgs false
namespace Go.Proofs.YtekgppmhcbmpeaaDoor
open Go.RowKit Go.Proofs.BitMath
set_option maxHeartbeats 32000000 in
set_option maxRecDepth 100000 in
theorem law_looks (x k r : Int) (hk : I64 k) (hr : I64 r) (ps : List Pr) (hps : ∀ y ∈ ps, I64 y.i ∧ y.c.size ≤ 140737488351232) (q : ByteArray) (hq : q.size ≤ 140737488351232) (la : Option Addr) (ca : Nat) (w : World) (ha : PLAt w la ps) (hl : ps.length < 4611686018427387904) (ht : Tab w) :
    Calls Tryd.prog 4 #[.int .i64 x, .slice la ps.length ca, .string q, .int .i64 k, .int .i64 r] w fun e w' => e = .returned (.bool true) ∧ Below w.heap.size w w' := by
  have hbg := begun_any w ht
  have hwd := fun W => width_any x W
  obtain ⟨wd, hwe⟩ : ∃ wd, wd = wOf x := ⟨_, rfl⟩
  have hW : isW wd = true := by rw [hwe]; exact wOf_isW x
  have hb := isW_bd hW
  rw [← hwe] at hwd
  clear hwe
  obtain ⟨n, hn⟩ : ∃ n : Nat, wd / 8 = n := ⟨(wd / 8).toNat, by omega⟩
  obtain ⟨mm, hmm⟩ : ∃ mm : Nat, (mm : Int) = wd + 1 := ⟨(wd + 1).toNat, by omega⟩
  have hn1 : n ≤ 1024 := by omega
  have hf1 := fun W => fit_any q n wd W hq hn1 hn (by omega)
  have sq := fitC_size q n
  obtain ⟨q', hq'⟩ : ∃ q', q' = fitC q n := ⟨_, rfl⟩
  rw [← hq'] at sq hf1
  have hfl := fun W (h : PLAt W la ps) => filled_any wd n hW hn ps hps la ca W h hl
  obtain ⟨len, hlen⟩ : ∃ len, len = ps.length := ⟨_, rfl⟩
  rw [← hlen] at hfl ⊢
  obtain ⟨L, hL⟩ : ∃ L, L = flL n ps := ⟨_, rfl⟩
  rw [← hL] at hfl
  have HA := Hid.mk (And.intro ha (And.intro ht (And.intro hW (And.intro hn (And.intro sq (And.intro hmm hb))))))
  clear ha ht hq' hL hlen hps hl hq hW hb hn hn1 sq hmm
  go_enter Tryd.func4, Tryd.ntmps4
  go_wp2_with fail
  refine hbg.mono ?_
  clear hbg
  rintro e w1 ⟨rfl, b1⟩
  go_wp2_with fail
  refine (hwd _).mono ?_
  clear hwd
  rintro e w2 ⟨rfl, h2⟩
  subst h2
  go_wp2_with fail
  refine (hf1 _).mono ?_
  clear hf1
  rintro e w3 ⟨rfl, b3⟩
  have b14 : Below w.heap.size w w3 := b1.trans (b3.mono b1.size)
  have hfl4 := hfl w3 (HA.out.1.below b14)
  clear hfl
  go_wp2_with fail
  refine hfl4.mono ?_
  clear hfl4
  rintro e w5 ⟨m, mb, a0, c0, rfl, F5⟩
  have b15 : Below w.heap.size w w5 := b14.trans (F5.st.mono b14.size)
  have HK : Hid (Kept wd n L) := F5.kept HA.out.2.2.2.1
  have HM : Hid (MP w5 m mb wd L L.length ∧ Tab w5 ∧ Below w.heap.size w w5) := ⟨F5.mp, HA.out.2.1.lat b15, b15⟩
  have HZ : Hid (L.length ≤ 80) := F5.len
  obtain ⟨nl, hnl⟩ : ∃ nl, nl = L.length := ⟨_, rfl⟩
  rw [← hnl]
  have HN := Hid.mk hnl
  have HQ : Hid ((q'.size : Int) = wd / 8) := by have h1 := HA.out.2.2.2.2.1; have h2 := HA.out.2.2.2.1; show _ = _; omega
  clear F5 b1 b3 b14 b15 hnl
  have hb := HA.out.2.2.2.2.2.2
  have r1 := radius_any m mb wd L.length L q' wd w5 HM.out.1 HQ.out (by omega) HM.out.2.1 (by have := HZ.out; omega)
  rw [HK.out.all HA.out.2.2.2.2.1] at r1
  obtain ⟨X, hX⟩ : ∃ X, X = srtL (hitsOf q' L) := ⟨_, rfl⟩
  rw [← hX] at r1
  have HXl : Hid (X.length = nl) := by show _ = _; rw [hX, HK.out.len, HN.out]
  have HX := Hid.mk hX
  have HA' : Hid (q'.size = n ∧ (mm : Int) = wd + 1 ∧ 64 ≤ wd ∧ wd ≤ 1024 ∧ wd / 8 = n) := ⟨HA.out.2.2.2.2.1, HA.out.2.2.2.2.2.1, hb.1, hb.2, HA.out.2.2.2.1⟩
  clear hX
  by_cases hk0 : k < 0
  · have i0 : decide (k < 0) = true := decide_eq_true hk0
    by_cases hr0 : r < 0
    · have j0 : decide (r < 0) = true := decide_eq_true hr0
      as_aux_lemma =>
        have HI : Hid ((0 ≤ (3 : Int) ∧ (3 : Int) ≤ wd) ∧ (3 : Nat) ≤ 4096) := ⟨⟨by omega, by omega⟩, by omega⟩
        clear hk0 hr0 hb
        go_wp2_with fail
        rename_i K1 a1 K0 a0
        have HC := Hid.mk a1
        clear a1
        refine r1.mono ?_
        clear r1
        rintro e w6 ⟨v6, rfl, t6⟩
        obtain ⟨a6, c6, hv, hc6, l6⟩ := t6.lat
        subst hv
        have HG6 : Hid (Told w5 w6 (.slice a6 X.length c6) X ∧ LAt w6 a6 X) := ⟨t6, l6⟩
        rw [HXl.out] at hc6 ⊢
        clear t6 l6
        go_wp2_with fail
        exact HC.out _ _ (looks_A (kn := 3) (R := 3) HK HM HZ HN HQ HA' HI HX HG6 HXl hc6)

    · have j0 : decide (r < 0) = false := decide_eq_false hr0
      by_cases hr1 : wd < r
      · have j1 : decide (wd < r) = true := decide_eq_true hr1
        as_aux_lemma =>
          have HI : Hid ((0 ≤ (3 : Int) ∧ (3 : Int) ≤ wd) ∧ (3 : Nat) ≤ 4096) := ⟨⟨by omega, by omega⟩, by omega⟩
          clear hk0 hr0 hr1 hb
          go_wp2_with fail
          rename_i K1 a1 K0 a0
          have HC := Hid.mk a1
          clear a1
          refine r1.mono ?_
          clear r1
          rintro e w6 ⟨v6, rfl, t6⟩
          obtain ⟨a6, c6, hv, hc6, l6⟩ := t6.lat
          subst hv
          have HG6 : Hid (Told w5 w6 (.slice a6 X.length c6) X ∧ LAt w6 a6 X) := ⟨t6, l6⟩
          rw [HXl.out] at hc6 ⊢
          clear t6 l6
          go_wp2_with fail
          exact HC.out _ _ (looks_A (kn := 3) (R := 3) HK HM HZ HN HQ HA' HI HX HG6 HXl hc6)

      · have j1 : decide (wd < r) = false := decide_eq_false hr1
        as_aux_lemma =>
          have HI : Hid ((0 ≤ (r : Int) ∧ (r : Int) ≤ wd) ∧ (3 : Nat) ≤ 4096) := ⟨⟨by omega, by omega⟩, by omega⟩
          clear hk0 hr0 hr1 hb
          go_wp2_with fail
          rename_i K1 a1 K0 a0
          have HC := Hid.mk a1
          clear a1
          refine r1.mono ?_
          clear r1
          rintro e w6 ⟨v6, rfl, t6⟩
          obtain ⟨a6, c6, hv, hc6, l6⟩ := t6.lat
          subst hv
          have HG6 : Hid (Told w5 w6 (.slice a6 X.length c6) X ∧ LAt w6 a6 X) := ⟨t6, l6⟩
          rw [HXl.out] at hc6 ⊢
          clear t6 l6
          go_wp2_with fail
          exact HC.out _ _ (looks_A (kn := 3) (R := r) HK HM HZ HN HQ HA' HI HX HG6 HXl hc6)

  · have i0 : decide (k < 0) = false := decide_eq_false hk0
    by_cases hk1 : 4096 < k
    · have i1 : decide (4096 < k) = true := decide_eq_true hk1
      by_cases hr0 : r < 0
      · have j0 : decide (r < 0) = true := decide_eq_true hr0
        as_aux_lemma =>
          have HI : Hid ((0 ≤ (3 : Int) ∧ (3 : Int) ≤ wd) ∧ (3 : Nat) ≤ 4096) := ⟨⟨by omega, by omega⟩, by omega⟩
          clear hk0 hk1 hr0 hb
          go_wp2_with fail
          rename_i K1 a1 K0 a0
          have HC := Hid.mk a1
          clear a1
          refine r1.mono ?_
          clear r1
          rintro e w6 ⟨v6, rfl, t6⟩
          obtain ⟨a6, c6, hv, hc6, l6⟩ := t6.lat
          subst hv
          have HG6 : Hid (Told w5 w6 (.slice a6 X.length c6) X ∧ LAt w6 a6 X) := ⟨t6, l6⟩
          rw [HXl.out] at hc6 ⊢
          clear t6 l6
          go_wp2_with fail
          exact HC.out _ _ (looks_A (kn := 3) (R := 3) HK HM HZ HN HQ HA' HI HX HG6 HXl hc6)

      · have j0 : decide (r < 0) = false := decide_eq_false hr0
        by_cases hr1 : wd < r
        · have j1 : decide (wd < r) = true := decide_eq_true hr1
          as_aux_lemma =>
            have HI : Hid ((0 ≤ (3 : Int) ∧ (3 : Int) ≤ wd) ∧ (3 : Nat) ≤ 4096) := ⟨⟨by omega, by omega⟩, by omega⟩
            clear hk0 hk1 hr0 hr1 hb
            go_wp2_with fail
            rename_i K1 a1 K0 a0
            have HC := Hid.mk a1
            clear a1
            refine r1.mono ?_
            clear r1
            rintro e w6 ⟨v6, rfl, t6⟩
            obtain ⟨a6, c6, hv, hc6, l6⟩ := t6.lat
            subst hv
            have HG6 : Hid (Told w5 w6 (.slice a6 X.length c6) X ∧ LAt w6 a6 X) := ⟨t6, l6⟩
            rw [HXl.out] at hc6 ⊢
            clear t6 l6
            go_wp2_with fail
            exact HC.out _ _ (looks_A (kn := 3) (R := 3) HK HM HZ HN HQ HA' HI HX HG6 HXl hc6)

        · have j1 : decide (wd < r) = false := decide_eq_false hr1
          as_aux_lemma =>
            have HI : Hid ((0 ≤ (r : Int) ∧ (r : Int) ≤ wd) ∧ (3 : Nat) ≤ 4096) := ⟨⟨by omega, by omega⟩, by omega⟩
            clear hk0 hk1 hr0 hr1 hb
            go_wp2_with fail
            rename_i K1 a1 K0 a0
            have HC := Hid.mk a1
            clear a1
            refine r1.mono ?_
            clear r1
            rintro e w6 ⟨v6, rfl, t6⟩
            obtain ⟨a6, c6, hv, hc6, l6⟩ := t6.lat
            subst hv
            have HG6 : Hid (Told w5 w6 (.slice a6 X.length c6) X ∧ LAt w6 a6 X) := ⟨t6, l6⟩
            rw [HXl.out] at hc6 ⊢
            clear t6 l6
            go_wp2_with fail
            exact HC.out _ _ (looks_A (kn := 3) (R := r) HK HM HZ HN HQ HA' HI HX HG6 HXl hc6)

    · obtain ⟨kn, rfl⟩ : ∃ kn : Nat, k = (kn : Int) := ⟨k.toNat, by omega⟩
      have i0' : decide ((kn : Int) < 0) = false := i0
      have i1 : decide (4096 < (kn : Int)) = false := decide_eq_false hk1
      by_cases hr0 : r < 0
      · have j0 : decide (r < 0) = true := decide_eq_true hr0
        as_aux_lemma =>
          have HI : Hid ((0 ≤ (3 : Int) ∧ (3 : Int) ≤ wd) ∧ (kn : Nat) ≤ 4096) := ⟨⟨by omega, by omega⟩, by omega⟩
          clear hk0 hk1 hr0 hb
          go_wp2_with fail
          rename_i K1 a1 K0 a0
          have HC := Hid.mk a1
          clear a1
          refine r1.mono ?_
          clear r1
          rintro e w6 ⟨v6, rfl, t6⟩
          obtain ⟨a6, c6, hv, hc6, l6⟩ := t6.lat
          subst hv
          have HG6 : Hid (Told w5 w6 (.slice a6 X.length c6) X ∧ LAt w6 a6 X) := ⟨t6, l6⟩
          rw [HXl.out] at hc6 ⊢
          clear t6 l6
          go_wp2_with fail
          exact HC.out _ _ (looks_A (kn := kn) (R := 3) HK HM HZ HN HQ HA' HI HX HG6 HXl hc6)

      · have j0 : decide (r < 0) = false := decide_eq_false hr0
        by_cases hr1 : wd < r
        · have j1 : decide (wd < r) = true := decide_eq_true hr1
          as_aux_lemma =>
            have HI : Hid ((0 ≤ (3 : Int) ∧ (3 : Int) ≤ wd) ∧ (kn : Nat) ≤ 4096) := ⟨⟨by omega, by omega⟩, by omega⟩
            clear hk0 hk1 hr0 hr1 hb
            go_wp2_with fail
            rename_i K1 a1 K0 a0
            have HC := Hid.mk a1
            clear a1
            refine r1.mono ?_
            clear r1
            rintro e w6 ⟨v6, rfl, t6⟩
            obtain ⟨a6, c6, hv, hc6, l6⟩ := t6.lat
            subst hv
            have HG6 : Hid (Told w5 w6 (.slice a6 X.length c6) X ∧ LAt w6 a6 X) := ⟨t6, l6⟩
            rw [HXl.out] at hc6 ⊢
            clear t6 l6
            go_wp2_with fail
            exact HC.out _ _ (looks_A (kn := kn) (R := 3) HK HM HZ HN HQ HA' HI HX HG6 HXl hc6)

        · have j1 : decide (wd < r) = false := decide_eq_false hr1
          as_aux_lemma =>
            have HI : Hid ((0 ≤ (r : Int) ∧ (r : Int) ≤ wd) ∧ (kn : Nat) ≤ 4096) := ⟨⟨by omega, by omega⟩, by omega⟩
            clear hk0 hk1 hr0 hr1 hb
            go_wp2_with fail
            rename_i K1 a1 K0 a0
            have HC := Hid.mk a1
            clear a1
            refine r1.mono ?_
            clear r1
            rintro e w6 ⟨v6, rfl, t6⟩
            obtain ⟨a6, c6, hv, hc6, l6⟩ := t6.lat
            subst hv
            have HG6 : Hid (Told w5 w6 (.slice a6 X.length c6) X ∧ LAt w6 a6 X) := ⟨t6, l6⟩
            rw [HXl.out] at hc6 ⊢
            clear t6 l6
            go_wp2_with fail
            exact HC.out _ _ (looks_A (kn := kn) (R := r) HK HM HZ HN HQ HA' HI HX HG6 HXl hc6)

end Go.Proofs.YtekgppmhcbmpeaaDoor
