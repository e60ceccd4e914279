/-
  DERIVED. The laws' topped: the lists are right, and share nothing.
-/
import Derived.Test.YtnhihpekdimbbaaEBalled
set_option linter.unusedVariables false
set_option linter.unusedSimpArgs false
namespace Go.Proofs.Ytnhihpekdimbbaa
open Go.RowKit
set_option maxHeartbeats 4000000 in
set_option maxRecDepth 100000 in
theorem topped_any (t o u p kpt kpo k : Nat) (X Y Xa Ya : List Ht) (w : World) (hT : TT w t k kpt X) (hO : TT w o 3 kpo Y) (hU : RTp 73 w u k Xa) (hP : RTp 73 w p 3 Ya) (HXa : Hid (Xa.take k = X)) (HYa : Hid (Ya.take 3 = Y)) (hlA : Xa.length < LIM) (hlB : Ya.length < LIM) (hlX : X.length ≤ 4398046510976) (hlY : Y.length ≤ 4398046510976) :
    Calls Try.prog 27 #[Pk t, Pk o, Pk u, Pk p] w fun e w' => e = .returned (.bool true) ∧ Below w.heap.size w w' := by
  have hu := rtlist_any u k Xa w hU hlA
  rw [HXa.out] at hu
  have HX := Hid.mk (And.intro hT (And.intro hO (And.intro hU (And.intro hP (And.intro hlX hlY)))))
  clear hT hO hU hP hlX hlY
  go_enter Try.func27, Try.ntmps27
  go_wp2_with fail
  refine hu.mono ?_
  clear hu
  rintro e w1 ⟨vb, rfl, t1⟩
  have hp := rtlist_any p 3 Ya w1 (HX.out.2.2.2.1.below t1.2.2).1 hlB
  rw [HYa.out] at hp
  obtain ⟨ab, cb, e1, lb⟩ := HRow.lat t1.1
  subst e1
  have H1 := Hid.mk (And.intro t1 lb)
  clear t1 lb
  obtain ⟨nX, hnX⟩ : ∃ nX, nX = X.length := ⟨_, rfl⟩
  rw [← hnX]
  have HnX := Hid.mk hnX
  clear hnX
  go_wp2_with fail
  refine hp.mono ?_
  clear hp
  rintro e w2 ⟨vc, rfl, t2⟩
  obtain ⟨ac, cc, e2, lc⟩ := HRow.lat t2.1
  subst e2
  have b2 : Hid (Below w.heap.size w w2) := H1.out.1.2.2.trans (t2.2.2.mono H1.out.1.2.2.size)
  have HL : Hid (LAt w2 ab X ∧ LAt w2 ac Y ∧ X.length ≤ 4398046510976 ∧ Y.length ≤ 4398046510976) := ⟨H1.out.2.below t2.2.2, lc, HX.out.2.2.2.2.1, HX.out.2.2.2.2.2⟩
  obtain ⟨nY, hnY⟩ : ∃ nY, nY = Y.length := ⟨_, rfl⟩
  rw [← hnY]
  have HnY := Hid.mk hnY
  have HC : Hid (∀ W, Below w2.heap.size w2 W → TT W t k kpt X ∧ TT W o 3 kpo Y ∧ True) := fun W b => by
    have bw : Below w.heap.size w W := b2.out.trans (b.mono b2.out.size)
    exact ⟨(HX.out.1.below bw).1, (HX.out.2.1.below bw).1, trivial⟩
  clear hnY t2 lc H1
  go_wp2_with fail
  go_loopw [9, 12] (fun um ui wr => R5 w2 X Y um ui wr) (fun _ u _ => 5 - (intOf u).toNat)
  case atStart => exact ⟨0, none, 0, [], rfl, rfl, by omega, rfl, LS.nil _ _⟩
  case round =>
    obtain ⟨i, a, c, ss, rfl, rfl, hi, HP⟩ := hrel
    by_cases hlt : i < 5
    · have i1 : (i : Int) < 5 := by omega
      have hwi : IntKind.i64.wrap ((i : Int) + 1) = ((i + 1 : Nat) : Int) := by rw [IntKind.wrap_i64]; omega
      by_cases h2 : i = 2
      · have i3 : ((i : Int) == 2) = true := by rw [h2]; rfl
        have hZ : Zs X Y i = Y := by unfold Zs; rw [if_pos (.inl h2)]
        clear h2
        have T1 := tlist_any t k kpt X wr (HC.out wr HP.out.2.below).1
        go_wp2_with fail
        refine T1.mono ?_
        clear T1
        rintro e w5 ⟨v5, rfl, t5⟩
        have T2 := tlist_any o 3 kpo Y w5 (HC.out w5 (HP.out.2.below.trans (t5.2.2.mono HP.out.2.below.size))).2.1
        obtain ⟨a5, c5, e5, -⟩ := slice_form t5.1
        subst e5
        have b5 := Hid.mk t5.2.2
        clear t5
        go_wp2_with fail
        refine T2.mono ?_
        clear T2
        rintro e w6 ⟨v6, rfl, t6⟩
        obtain ⟨av, cv, e6, l6⟩ := HRow.lat t6.1
        subst e6
        have b6 : Below wr.heap.size wr w6 := b5.out.trans (t6.2.2.mono b5.out.size)
        have hlw : LAt w6 ac Y := (HL.out.2.1.below (HP.out.2.below)).below b6
        have hs9 := same_any Y av ac cv cc w6 l6 hlw (by have := HL.out.2.2.2; omega)
        have hnv := HnY.out
        have hv6 := Hid.mk t6.1
        have hn6 : Hid (∀ k, (Value.slice av Y.length cv).ownBlock = some k → wr.heap.size ≤ k) := fun k hk => Nat.le_trans b5.out.size (t6.2.1 k hk)
        rw [← hnv] at hs9 hv6 hn6 ⊢
        replace b6 := Hid.mk b6
        clear t6 l6 hlw hnv b5
        go_wp2_with fail
        refine hs9.mono ?_
        clear hs9
        rintro e W9 ⟨rfl, d9⟩
        have b9 : Below wr.heap.size wr W9 := b6.out.trans (d9.below _)
        have hv9 : HRow W9 (.slice av nY cv) Y := HRow.below hv6.out (d9.below _)
        have hvn := hn6.out
        clear b6 hv6 hn6 d9
        have hml := HP.out.1
        obtain ⟨a3, c3, W3, hap, m3, st3, hnew⟩ := more_app W9 ss a c (by have h9 := (HP.out.2.lat b9).row; rw [hml] at h9 ⊢; exact h9) (by omega) (.slice av nY cv) rfl
        rw [hml] at hap m3 st3 hnew
        have Q3 := HP.out.2.step b9 (by rw [hml, hZ]; exact hv9) hvn m3 st3 hnew
        have HN : Hid (R5 w2 X Y (.slice a3 (i + 1) c3) (.int .i64 ((i + 1 : Nat) : Int)) W3) := ⟨i + 1, a3, c3, _, rfl, rfl, by omega, by simp [hml], Q3⟩
        clear Q3 m3 st3 hnew hml hZ hv9 hvn b9 HP
        go_wp2_with (at_builtin; refine wpList_append_eq rfl _ _ _ _ rfl _ _ _ _ rfl rfl hap ?_; clear hap)
        exact ⟨HN.out, by simp only [intOf]; omega⟩
      · by_cases h3 : i = 3
        · have i3 : ((i : Int) == 2) = false := by simp; omega
          have i4 : ((i : Int) == 3) = true := by rw [h3]; rfl
          have hZ : Zs X Y i = Y := by unfold Zs; rw [if_pos (.inr h3)]
          clear h2 h3
          have T1 := tlist_any t k kpt X wr (HC.out wr HP.out.2.below).1
          go_wp2_with fail
          refine T1.mono ?_
          clear T1
          rintro e w5 ⟨v5, rfl, t5⟩
          have T2 := tlist_any o 3 kpo Y w5 (HC.out w5 (HP.out.2.below.trans (t5.2.2.mono HP.out.2.below.size))).2.1
          obtain ⟨a5, c5, e5, -⟩ := slice_form t5.1
          subst e5
          have b5 := Hid.mk t5.2.2
          clear t5
          go_wp2_with fail
          refine T2.mono ?_
          clear T2
          rintro e w6 ⟨v6, rfl, t6⟩
          obtain ⟨av, cv, e6, l6⟩ := HRow.lat t6.1
          subst e6
          have b6 : Below wr.heap.size wr w6 := b5.out.trans (t6.2.2.mono b5.out.size)
          have hlw : LAt w6 ac Y := (HL.out.2.1.below (HP.out.2.below)).below b6
          have hs9 := same_any Y av ac cv cc w6 l6 hlw (by have := HL.out.2.2.2; omega)
          have hnv := HnY.out
          have hv6 := Hid.mk t6.1
          have hn6 : Hid (∀ k, (Value.slice av Y.length cv).ownBlock = some k → wr.heap.size ≤ k) := fun k hk => Nat.le_trans b5.out.size (t6.2.1 k hk)
          rw [← hnv] at hs9 hv6 hn6 ⊢
          replace b6 := Hid.mk b6
          clear t6 l6 hlw hnv b5
          go_wp2_with fail
          refine hs9.mono ?_
          clear hs9
          rintro e W9 ⟨rfl, d9⟩
          have b9 : Below wr.heap.size wr W9 := b6.out.trans (d9.below _)
          have hv9 : HRow W9 (.slice av nY cv) Y := HRow.below hv6.out (d9.below _)
          have hvn := hn6.out
          clear b6 hv6 hn6 d9
          have hml := HP.out.1
          obtain ⟨a3, c3, W3, hap, m3, st3, hnew⟩ := more_app W9 ss a c (by have h9 := (HP.out.2.lat b9).row; rw [hml] at h9 ⊢; exact h9) (by omega) (.slice av nY cv) rfl
          rw [hml] at hap m3 st3 hnew
          have Q3 := HP.out.2.step b9 (by rw [hml, hZ]; exact hv9) hvn m3 st3 hnew
          have HN : Hid (R5 w2 X Y (.slice a3 (i + 1) c3) (.int .i64 ((i + 1 : Nat) : Int)) W3) := ⟨i + 1, a3, c3, _, rfl, rfl, by omega, by simp [hml], Q3⟩
          clear Q3 m3 st3 hnew hml hZ hv9 hvn b9 HP
          go_wp2_with (at_builtin; refine wpList_append_eq rfl _ _ _ _ rfl _ _ _ _ rfl rfl hap ?_; clear hap)
          exact ⟨HN.out, by simp only [intOf]; omega⟩
        · have i3 : ((i : Int) == 2) = false := by simp; omega
          have i4 : ((i : Int) == 3) = false := by simp; omega
          have hZ : Zs X Y i = X := by unfold Zs; rw [if_neg (by omega)]
          clear h2 h3
          have T1 := tlist_any t k kpt X wr (HC.out wr HP.out.2.below).1
          go_wp2_with fail
          refine T1.mono ?_
          clear T1
          rintro e w5 ⟨v5, rfl, t5⟩
          obtain ⟨av, cv, e5, l5⟩ := HRow.lat t5.1
          subst e5
          have hlw : LAt w5 ab X := (HL.out.1.below (HP.out.2.below)).below t5.2.2
          have hs9 := same_any X av ab cv cb w5 l5 hlw (by have := HL.out.2.2.1; omega)
          have hnv := HnX.out
          have hv6 := Hid.mk t5.1
          have hn6 : Hid (∀ k, (Value.slice av X.length cv).ownBlock = some k → wr.heap.size ≤ k) := fun k hk => t5.2.1 k hk
          rw [← hnv] at hs9 hv6 hn6 ⊢
          have b6 := Hid.mk t5.2.2
          clear t5 l5 hlw hnv
          go_wp2_with fail
          refine hs9.mono ?_
          clear hs9
          rintro e W9 ⟨rfl, d9⟩
          have b9 : Below wr.heap.size wr W9 := b6.out.trans (d9.below _)
          have hv9 : HRow W9 (.slice av nX cv) X := HRow.below hv6.out (d9.below _)
          have hvn := hn6.out
          clear b6 hv6 hn6 d9
          have hml := HP.out.1
          obtain ⟨a3, c3, W3, hap, m3, st3, hnew⟩ := more_app W9 ss a c (by have h9 := (HP.out.2.lat b9).row; rw [hml] at h9 ⊢; exact h9) (by omega) (.slice av nX cv) rfl
          rw [hml] at hap m3 st3 hnew
          have Q3 := HP.out.2.step b9 (by rw [hml, hZ]; exact hv9) hvn m3 st3 hnew
          have HN : Hid (R5 w2 X Y (.slice a3 (i + 1) c3) (.int .i64 ((i + 1 : Nat) : Int)) W3) := ⟨i + 1, a3, c3, _, rfl, rfl, by omega, by simp [hml], Q3⟩
          clear Q3 m3 st3 hnew hml hZ hv9 hvn b9 HP
          go_wp2_with (at_builtin; refine wpList_append_eq rfl _ _ _ _ rfl _ _ _ _ rfl rfl hap ?_; clear hap)
          exact ⟨HN.out, by simp only [intOf]; omega⟩
    · have i1 : ¬ (i : Int) < 5 := by omega
      obtain rfl : i = 5 := by omega
      have hml := HP.out.1
      obtain ⟨g, hg⟩ : ∃ g, a = some ⟨g, 0, none⟩ := by
        rcases HP.out.2.row.2 with ⟨e, e2⟩ | ⟨g, cap, cur, e, -⟩
        · omega
        · simp only [Value.slice.injEq] at e
          exact ⟨g, e.1⟩
      subst hg
      obtain ⟨a0, c0, x0, l0⟩ := HP.out.2.at' hml 0 (by omega)
      obtain ⟨a1, c1, x1, l1⟩ := HP.out.2.at' hml 1 (by omega)
      obtain ⟨a2, c2, x2, l2⟩ := HP.out.2.at' hml 2 (by omega)
      obtain ⟨a3, c3, x3, l3⟩ := HP.out.2.at' hml 3 (by omega)
      obtain ⟨a4, c4, x4, l4⟩ := HP.out.2.at' hml 4 (by omega)
      have z0 : Zs X Y 0 = X := rfl
      have z1 : Zs X Y 1 = X := rfl
      have z2 : Zs X Y 2 = Y := rfl
      have z3 : Zs X Y 3 = Y := rfl
      have z4 : Zs X Y 4 = X := rfl
      rw [z0] at x0 l0
      rw [z1] at x1 l1
      rw [z2] at x2 l2
      rw [z3] at x3 l3
      rw [z4] at x4 l4
      have hXl : X.length < 4611686018427387904 := by have := HL.out.2.2.1; omega
      have hYl : Y.length < 4611686018427387904 := by have := HL.out.2.2.2; omega
      have lbw : ∀ q, LAt (wr.drewN q) ab X := fun q => (HL.out.1.below HP.out.2.below).below (Drew.below ⟨q, rfl⟩ _)
      have lcw : ∀ q, LAt (wr.drewN q) ac Y := fun q => (HL.out.2.1.below HP.out.2.below).below (Drew.below ⟨q, rfl⟩ _)
      have s0 := fun q => same_any X a0 ab c0 cb (wr.drewN q) (l0.below (Drew.below ⟨q, rfl⟩ _)) (lbw q) hXl
      have s1 := fun q => same_any X a1 ab c1 cb (wr.drewN q) (l1.below (Drew.below ⟨q, rfl⟩ _)) (lbw q) hXl
      have s4 := fun q => same_any X a4 ab c4 cb (wr.drewN q) (l4.below (Drew.below ⟨q, rfl⟩ _)) (lbw q) hXl
      have s2 := fun q => same_any Y a2 ac c2 cc (wr.drewN q) (l2.below (Drew.below ⟨q, rfl⟩ _)) (lcw q) hYl
      have s3 := fun q => same_any Y a3 ac c3 cc (wr.drewN q) (l3.below (Drew.below ⟨q, rfl⟩ _)) (lcw q) hYl
      rw [← HnX.out] at s0 s1 s4 x0 x1 x4
      rw [← HnY.out] at s2 s3 x2 x3
      have HAP : Hid (∀ q, Calls Try.prog 38 #[.slice (some ⟨g, 0, none⟩) 5 c] (wr.drewN q) fun e w' => e = .returned (.bool true) ∧ Below w.heap.size w w') := fun q => by
        have Q := HP.out.2.lat (Drew.below ⟨q, rfl⟩ wr.heap.size)
        refine (apart_any _ ss ((List.range 5).map (fun j => (Zs X Y j).length)) (wr.drewN q) ⟨by rw [hml]; simp, Q.row, fun j s n hs hn => ?_, Q.apart⟩ (by omega) (fun n hn => ?_)).mono fun e w' ⟨he, hst⟩ => ⟨he, ?_⟩
        · obtain ⟨h1, h2⟩ := List.getElem?_eq_some_iff.1 hn
          have h2' : (Zs X Y j).length = n := by simpa using h2
          exact ⟨_, h2', Q.each j s hs⟩
        · obtain ⟨j, -, rfl⟩ := List.mem_map.1 hn
          unfold Zs
          split
          · exact HL.out.2.2.2
          · exact HL.out.2.2.1
        · have b3 : Below w.heap.size w (wr.drewN q) := b2.out.trans (Q.below.mono b2.out.size)
          exact b3.trans (hst.toBelow (fun k hk ⟨j, s, hs, hb⟩ => by have := Q.new j s k hs hb; have := b2.out.size; omega) b3.size)
      clear l0 l1 l2 l3 l4 lbw lcw z0 z1 z2 z3 z4 HP HL HC HX
      go_wp2_with fail
      refine (s0 0).mono ?_
      clear s0
      rintro e w5 ⟨rfl, q5, rfl⟩
      go_wp2_with fail
      refine (s1 _).mono ?_
      clear s1
      rintro e w6 ⟨rfl, q6, rfl⟩
      rw [World.drewN_drewN]
      go_wp2_with fail
      refine (s4 _).mono ?_
      clear s4
      rintro e w7 ⟨rfl, q7, rfl⟩
      rw [World.drewN_drewN]
      go_wp2_with fail
      refine (s2 _).mono ?_
      clear s2
      rintro e w8 ⟨rfl, q8, rfl⟩
      rw [World.drewN_drewN]
      go_wp2_with fail
      refine (s3 _).mono ?_
      clear s3
      rintro e w9 ⟨rfl, q9, rfl⟩
      rw [World.drewN_drewN]
      go_wp2_with fail
      refine (HAP.out _).mono ?_
      clear HAP
      rintro e w10 ⟨rfl, b10⟩
      go_wp2_with fail
      go_ret
      exact ⟨rfl, b10⟩
end Go.Proofs.Ytnhihpekdimbbaa
