/-
  DERIVED. BestBall: its walk.
-/
import Derived.Test.YtnhihpekdimbbaaELawD
set_option linter.unusedVariables false
set_option linter.unusedSimpArgs false
namespace Go.Proofs.Ytnhihpekdimbbaa
open Go.RowKit
theorem Four.start {w w1 w2 w3 w4 : World} {t kt o ko u p : Nat} {r : Int} (ht : BT w1 t r kt []) (ft : FreshK w w1 kt) (nt : w.heap.size ≤ t) (hu : RTp 69 w2 u r []) (fu : ∀ j, RFt w2 u j → w1.heap.size ≤ j) (bu : Below w1.heap.size w1 w2)
    (ho : BT w3 o 2 ko []) (fo : FreshK w2 w3 ko) (no : w2.heap.size ≤ o) (hp : RTp 69 w4 p 2 []) (fp : ∀ j, RFt w4 p j → w3.heap.size ≤ j) (bp : Below w3.heap.size w3 w4) : Four w w4 t kt o ko u p r [] [] [] [] := by
  have b14 : Below w1.heap.size w1 w4 := bu.trans ((fo.2.mono bu.size).trans (bp.mono (Nat.le_trans bu.size fo.2.size)))
  have b24 : Below w2.heap.size w2 w4 := fo.2.trans (bp.mono fo.2.size)
  obtain ⟨t1, t2⟩ := ht.gkeep (F := fun _ => False) (.below b14) (fun _ _ h => h)
  obtain ⟨u1, u2⟩ := hu.below b24
  obtain ⟨o1, o2⟩ := ho.gkeep (F := fun _ => False) (.below bp) (fun _ _ h => h)
  have gt : ∀ j, Gb w4 t kt j → w.heap.size ≤ j ∧ j < w1.heap.size := fun j hj => by
    have h1 := (t2 j).1 hj
    refine ⟨?_, ht.glt j h1⟩
    rcases h1 with e | e
    · rw [e]; exact nt
    · exact ft.1 j e
  have gu : ∀ j, RFt w4 u j → w1.heap.size ≤ j ∧ j < w2.heap.size := fun j hj => ⟨fu j ((u2 j).1 hj), hu.ftlt j ((u2 j).1 hj)⟩
  have go : ∀ j, Gb w4 o ko j → w2.heap.size ≤ j ∧ j < w3.heap.size := fun j hj => by
    have h1 := (o2 j).1 hj
    refine ⟨?_, ho.glt j h1⟩
    rcases h1 with e | e
    · rw [e]; exact no
    · exact fo.1 j e
  have s1 := ft.2.size
  have s2 := bu.size
  have s3 := fo.2.size
  exact ⟨t1, o1, u1, hp, fun j a b => by have := gt j a; have := go j b; omega, fun j a b => by have := gt j a; have := gu j b; omega, fun j a b => by have := gt j a; have := fp j b; omega, fun j a b => by have := go j a; have := gu j b; omega, fun j a b => by have := go j a; have := fp j b; omega, fun j a b => by have := gu j a; have := fp j b; omega,
    fun j a => (gt j a).1, fun j a => by have := gu; have := go j a; omega, fun j a => by have := gu j a; omega, fun j a => by have := fp j a; omega, ft.2.trans (b14.mono s1)⟩
def R4 (w : World) (t kt o ko u p : Nat) (r : Int) (L : List Ht) (ui : Value) (wr : World) : Prop := ∃ i : Nat, ui = .int .i64 i ∧ i ≤ L.length + 1 ∧ Hid (Four w wr t kt o ko u p r (srtL (inR r (L.take i))) (srtL (inR 2 (L.take i))) (srtL (inR r (L.take i))) (srtL (inR 2 (L.take i))))
theorem inR_lim (r : Int) (L : List Ht) (i : Nat) (h : L.length ≤ 4398046510976) : (srtL (inR r (L.take i))).length ≤ 4398046510976 := by
  have h1 := srtL_len (inR r (L.take i))
  have h2 := inR_len r (L.take i)
  have h3 : (L.take i).length ≤ L.length := by rw [List.length_take]; omega
  omega
set_option maxHeartbeats 8000000 in
set_option maxRecDepth 100000 in
theorem law_ball (r : Int) (hr : I64 r) (L : List Ht) (hL : ∀ x ∈ L, HtW x) (la : Option Addr) (ca : Nat) (w : World) (ha : LAt w la L) (hl : L.length ≤ 4398046510976) :
    Calls Try.prog 6 #[.int .i64 r, .slice la L.length ca] w fun e w' => e = .returned (.bool true) ∧ Below w.heap.size w w' := by
  obtain ⟨n, hn⟩ : ∃ n, n = L.length := ⟨_, rfl⟩
  have HA := Hid.mk (And.intro ha (And.intro hL (And.intro hn hl)))
  rw [← hn]
  have hnl : n ≤ 4398046510976 := by omega
  clear ha hL hn hl
  by_cases hbad : r < 0 ∨ 1024 < r
  · have h1 := newBall_bad r hbad w
    have h2 := rnewBall_bad r hbad w
    have h3 := newBall_any 2 (by decide) (by decide) w
    clear hbad
    go_enter Try.func6, Try.ntmps6
    go_wp2_with fail
    refine h1.mono ?_
    clear h1
    rintro e w1 ⟨rfl, rfl⟩
    go_wp2_with fail
    refine h2.mono ?_
    clear h2
    rintro e w2 ⟨rfl, rfl⟩
    go_wp2_with fail
    refine h3.mono ?_
    clear h3
    rintro e w3 ⟨o, ko, rfl, ho, fo, no⟩
    have h4 := rnewBall_any 2 (by decide) (by decide) w3
    have b3 := Hid.mk fo.2
    clear ho fo no
    go_wp2_with fail
    refine h4.mono ?_
    clear h4
    rintro e w4 ⟨p, rfl, hp, fp, bp⟩
    have HE := Hid.mk (b3.out.trans (bp.mono b3.out.size))
    clear hp fp bp b3
    go_wp2
    go_ret
    exact ⟨rfl, HE.out⟩
  · have h1 := newBall_any r (by omega) (by omega) w
    have hg : 0 ≤ r ∧ r ≤ 1024 := by omega
    have HG := Hid.mk hg
    clear hg hbad
    go_enter Try.func6, Try.ntmps6
    go_wp2_with fail
    refine h1.mono ?_
    clear h1
    rintro e w1 ⟨t, kt, rfl, ht, ft, nt⟩
    have h2 := rnewBall_any r HG.out.1 HG.out.2 w1
    go_wp2_with fail
    refine h2.mono ?_
    clear h2
    rintro e w2 ⟨u, rfl, hu, fu, bu⟩
    have h3 := newBall_any 2 (by decide) (by decide) w2
    go_wp2_with fail
    refine h3.mono ?_
    clear h3
    rintro e w3 ⟨o, ko, rfl, ho, fo, no⟩
    have h4 := rnewBall_any 2 (by decide) (by decide) w3
    go_wp2_with fail
    refine h4.mono ?_
    clear h4
    rintro e w4 ⟨p, rfl, hp, fp, bp⟩
    have F0 := Hid.mk (Four.start ht ft nt hu fu bu ho fo no hp fp bp)
    clear ht ft nt hu fu bu ho fo no hp fp bp
    go_wp2_with fail
    go_loopw [13] (fun ui wr => R4 w t kt o ko u p r L ui wr) (fun u _ => n + 1 - (intOf u).toNat)
    case atStart => exact ⟨0, rfl, by omega, F0.out⟩
    case round =>
      clear F0
      obtain ⟨i, rfl, hi, HF⟩ := hrel
      by_cases hle : i ≤ n
      · have i1 : (i : Int) ≤ (n : Int) := by omega
        have i2 : (0 : Int) ≤ (i : Int) := by omega
        obtain ⟨X, hX⟩ : ∃ X, X = srtL (inR r (L.take i)) := ⟨_, rfl⟩
        obtain ⟨Y, hY⟩ : ∃ Y, Y = srtL (inR 2 (L.take i)) := ⟨_, rfl⟩
        rw [← hX, ← hY] at HF
        have HXY := Hid.mk (And.intro hX (And.intro hY (And.intro (show X.length ≤ 4398046510976 by rw [hX]; exact inR_lim r L i HA.out.2.2.2) (show Y.length ≤ 4398046510976 by rw [hY]; exact inR_lim 2 L i HA.out.2.2.2))))
        clear hX hY
        have hbl := balled_any t o u p kt ko r X Y wr HF.out.tt HF.out.oo HF.out.uu HF.out.pp HXY.out.2.2.1 HXY.out.2.2.2
        have hwi : IntKind.i64.wrap ((i : Int) + 1) = ((i + 1 : Nat) : Int) := by rw [IntKind.wrap_i64]; omega
        go_wp2_with fail
        refine hbl.mono ?_
        clear hbl
        rintro e w5 ⟨rfl, b5⟩
        have F5 := Hid.mk (HF.out.more b5)
        clear HF b5
        by_cases hlt : i < n
        · have i3 : (i : Int) < (n : Int) := by omega
          have i4 : i < n := hlt
          have hiL : i < L.length := by have := HA.out.2.2.1; omega
          have HCell : Hid (∀ W, Below w.heap.size w W → ∃ g off, la = some ⟨g, off, none⟩ ∧ W.cell? ⟨g, off + i * 3, none⟩ = some (.int .i64 L[i].d) ∧ W.cell? ⟨g, off + i * 3 + 1, none⟩ = some (.int .i64 L[i].i) ∧ W.cell? ⟨g, off + i * 3 + 2, none⟩ = some (.string L[i].c)) := fun W b => HA.out.1.hit (W := W) (fun k hk => b.block k hk) i hiL
          obtain ⟨g, off, e1, x0, x1, x2⟩ := HCell.out w5 F5.out.below
          subst e1
          obtain ⟨h, hh⟩ : ∃ h, h = L[i] := ⟨_, rfl⟩
          have hst1 : srtL (inR r (L.take (i + 1))) = putB r h X := by rw [ball_step hiL, ← hh, HXY.out.1]
          have hst2 : srtL (inR 2 (L.take (i + 1))) = putB 2 h Y := by rw [ball_step hiL, ← hh, HXY.out.2.1]
          have hhW : HtW h := by rw [hh]; exact HA.out.2.1 _ (List.getElem_mem hiL)
          rw [← hh] at x0 x1 x2 HCell
          have HC2 : Hid (∀ W, Below w.heap.size w W → W.cell? ⟨g, off + i * 3, none⟩ = some (.int .i64 h.d) ∧ W.cell? ⟨g, off + i * 3 + 1, none⟩ = some (.int .i64 h.i) ∧ W.cell? ⟨g, off + i * 3 + 2, none⟩ = some (.string h.c)) := fun W b => by
            obtain ⟨g', o', e', y⟩ := HCell.out W b
            simp only [Option.some.injEq, Addr.mk.injEq] at e'
            obtain ⟨rfl, rfl, -⟩ := e'
            exact y
          clear HCell
          have HST := Hid.mk (And.intro hst1 (And.intro hst2 (And.intro hhW hiL)))
          have lX : X.length < LIM := by have := HXY.out.2.2.1; unfold LIM; omega
          have lY : Y.length < LIM := by have := HXY.out.2.2.2; unfold LIM; omega
          have a1 := badd_any t kt r X h w5.drew (F5.out.tt.below (b_drew w5)).1 hhW lX
          have a2 := fun W (H : RTp 69 W u r X) => rbadd_any u r X h W H hhW lX
          have a3 := fun W (H : BT W o 2 ko Y) => badd_any o ko 2 Y h W H hhW lY
          have a4 := fun W (H : RTp 69 W p 2 Y) => rbadd_any p 2 Y h W H hhW lY
          simp only [hC] at a1 a2 a3 a4
          have F5d := Hid.mk (F5.out.more (b_drew w5))
          clear hst1 hst2 hhW hh lX lY F5
          obtain ⟨q1, hq1⟩ : ∃ q1, q1 = decide (h.d ≤ r) := ⟨_, rfl⟩
          obtain ⟨q2, hq2⟩ : ∃ q2, q2 = decide (h.d ≤ 2) := ⟨_, rfl⟩
          rw [← hq1] at a1 a2
          rw [← hq2] at a3 a4
          clear hq1 hq2
          cases q1 with
          | false =>
            cases q2 with
            | false =>
              clear HXY
              go_wp2_with fail
              go_region_held (fun w' => w'.cell? ⟨g, off + i * 3, none⟩ = some (.int .i64 h.d) ∧ w'.cell? ⟨g, off + i * 3 + 1, none⟩ = some (.int .i64 h.i) ∧ w'.cell? ⟨g, off + i * 3 + 2, none⟩ = some (.string h.c))
                (first | exact y9 | exact y8 | exact y7 | exact y6 | exact ⟨x0, x1, x2⟩)
                (first
                  | (go_at_call 21; refine a1.mono ?_; clear a1; rintro e w6 ⟨rfl, T6, f6⟩; have F6 := Hid.mk (F5d.out.ft T6 f6); have y6 := HC2.out w6 F6.out.below; have b2' := a2 w6 F6.out.uu; clear a2 T6 f6)
                  | (go_at_call 22; refine b2'.mono ?_; clear b2'; rintro e w7 ⟨rfl, T7, f7⟩; have F7 := Hid.mk (F6.out.fu' T7 f7); have y7 := HC2.out w7 F7.out.below; have b3' := a3 w7 F7.out.oo; clear a3 T7 f7)
                  | (go_at_call 21; refine b3'.mono ?_; clear b3'; rintro e w8 ⟨rfl, T8, f8⟩; have F8 := Hid.mk (F7.out.fo' T8 f8); have y8 := HC2.out w8 F8.out.below; have b4' := a4 w8 F8.out.pp; clear a4 T8 f8)
                  | (go_at_call 22; refine b4'.mono ?_; clear b4'; rintro e w9 ⟨rfl, T9, f9⟩; have F9 := Hid.mk (F8.out.fp' T9 f9); have y9 := HC2.out w9 F9.out.below; clear T9 f9))
              all_goals
                have HN : Hid (R4 w t kt o ko u p r L (.int .i64 ((i + 1 : Nat) : Int)) w9) := ⟨i + 1, rfl, by have := HST.out.2.2.2; omega, by rw [HST.out.1, HST.out.2.1]; exact F9.out⟩
                clear F9 F8 F7 F6 y6 y7 y8 y9
                go_wp2
                exact ⟨HN.out, by simp only [intOf]; omega⟩
            | true =>
              clear HXY
              go_wp2_with fail
              go_region_held (fun w' => w'.cell? ⟨g, off + i * 3, none⟩ = some (.int .i64 h.d) ∧ w'.cell? ⟨g, off + i * 3 + 1, none⟩ = some (.int .i64 h.i) ∧ w'.cell? ⟨g, off + i * 3 + 2, none⟩ = some (.string h.c))
                (first | exact y9 | exact y8 | exact y7 | exact y6 | exact ⟨x0, x1, x2⟩)
                (first
                  | (go_at_call 21; refine a1.mono ?_; clear a1; rintro e w6 ⟨rfl, T6, f6⟩; have F6 := Hid.mk (F5d.out.ft T6 f6); have y6 := HC2.out w6 F6.out.below; have b2' := a2 w6 F6.out.uu; clear a2 T6 f6)
                  | (go_at_call 22; refine b2'.mono ?_; clear b2'; rintro e w7 ⟨rfl, T7, f7⟩; have F7 := Hid.mk (F6.out.fu' T7 f7); have y7 := HC2.out w7 F7.out.below; have b3' := a3 w7 F7.out.oo; clear a3 T7 f7)
                  | (go_at_call 21; refine b3'.mono ?_; clear b3'; rintro e w8 ⟨rfl, T8, f8⟩; have F8 := Hid.mk (F7.out.fo' T8 f8); have y8 := HC2.out w8 F8.out.below; have b4' := a4 w8 F8.out.pp; clear a4 T8 f8)
                  | (go_at_call 22; refine b4'.mono ?_; clear b4'; rintro e w9 ⟨rfl, T9, f9⟩; have F9 := Hid.mk (F8.out.fp' T9 f9); have y9 := HC2.out w9 F9.out.below; clear T9 f9))
              all_goals
                have HN : Hid (R4 w t kt o ko u p r L (.int .i64 ((i + 1 : Nat) : Int)) w9) := ⟨i + 1, rfl, by have := HST.out.2.2.2; omega, by rw [HST.out.1, HST.out.2.1]; exact F9.out⟩
                clear F9 F8 F7 F6 y6 y7 y8 y9
                go_wp2
                exact ⟨HN.out, by simp only [intOf]; omega⟩
          | true =>
            cases q2 with
            | false =>
              clear HXY
              go_wp2_with fail
              go_region_held (fun w' => w'.cell? ⟨g, off + i * 3, none⟩ = some (.int .i64 h.d) ∧ w'.cell? ⟨g, off + i * 3 + 1, none⟩ = some (.int .i64 h.i) ∧ w'.cell? ⟨g, off + i * 3 + 2, none⟩ = some (.string h.c))
                (first | exact y9 | exact y8 | exact y7 | exact y6 | exact ⟨x0, x1, x2⟩)
                (first
                  | (go_at_call 21; refine a1.mono ?_; clear a1; rintro e w6 ⟨rfl, T6, f6⟩; have F6 := Hid.mk (F5d.out.ft T6 f6); have y6 := HC2.out w6 F6.out.below; have b2' := a2 w6 F6.out.uu; clear a2 T6 f6)
                  | (go_at_call 22; refine b2'.mono ?_; clear b2'; rintro e w7 ⟨rfl, T7, f7⟩; have F7 := Hid.mk (F6.out.fu' T7 f7); have y7 := HC2.out w7 F7.out.below; have b3' := a3 w7 F7.out.oo; clear a3 T7 f7)
                  | (go_at_call 21; refine b3'.mono ?_; clear b3'; rintro e w8 ⟨rfl, T8, f8⟩; have F8 := Hid.mk (F7.out.fo' T8 f8); have y8 := HC2.out w8 F8.out.below; have b4' := a4 w8 F8.out.pp; clear a4 T8 f8)
                  | (go_at_call 22; refine b4'.mono ?_; clear b4'; rintro e w9 ⟨rfl, T9, f9⟩; have F9 := Hid.mk (F8.out.fp' T9 f9); have y9 := HC2.out w9 F9.out.below; clear T9 f9))
              all_goals
                have HN : Hid (R4 w t kt o ko u p r L (.int .i64 ((i + 1 : Nat) : Int)) w9) := ⟨i + 1, rfl, by have := HST.out.2.2.2; omega, by rw [HST.out.1, HST.out.2.1]; exact F9.out⟩
                clear F9 F8 F7 F6 y6 y7 y8 y9
                go_wp2
                exact ⟨HN.out, by simp only [intOf]; omega⟩
            | true =>
              clear HXY
              go_wp2_with fail
              go_region_held (fun w' => w'.cell? ⟨g, off + i * 3, none⟩ = some (.int .i64 h.d) ∧ w'.cell? ⟨g, off + i * 3 + 1, none⟩ = some (.int .i64 h.i) ∧ w'.cell? ⟨g, off + i * 3 + 2, none⟩ = some (.string h.c))
                (first | exact y9 | exact y8 | exact y7 | exact y6 | exact ⟨x0, x1, x2⟩)
                (first
                  | (go_at_call 21; refine a1.mono ?_; clear a1; rintro e w6 ⟨rfl, T6, f6⟩; have F6 := Hid.mk (F5d.out.ft T6 f6); have y6 := HC2.out w6 F6.out.below; have b2' := a2 w6 F6.out.uu; clear a2 T6 f6)
                  | (go_at_call 22; refine b2'.mono ?_; clear b2'; rintro e w7 ⟨rfl, T7, f7⟩; have F7 := Hid.mk (F6.out.fu' T7 f7); have y7 := HC2.out w7 F7.out.below; have b3' := a3 w7 F7.out.oo; clear a3 T7 f7)
                  | (go_at_call 21; refine b3'.mono ?_; clear b3'; rintro e w8 ⟨rfl, T8, f8⟩; have F8 := Hid.mk (F7.out.fo' T8 f8); have y8 := HC2.out w8 F8.out.below; have b4' := a4 w8 F8.out.pp; clear a4 T8 f8)
                  | (go_at_call 22; refine b4'.mono ?_; clear b4'; rintro e w9 ⟨rfl, T9, f9⟩; have F9 := Hid.mk (F8.out.fp' T9 f9); have y9 := HC2.out w9 F9.out.below; clear T9 f9))
              all_goals
                have HN : Hid (R4 w t kt o ko u p r L (.int .i64 ((i + 1 : Nat) : Int)) w9) := ⟨i + 1, rfl, by have := HST.out.2.2.2; omega, by rw [HST.out.1, HST.out.2.1]; exact F9.out⟩
                clear F9 F8 F7 F6 y6 y7 y8 y9
                go_wp2
                exact ⟨HN.out, by simp only [intOf]; omega⟩
        · have i3 : ¬ (i : Int) < (n : Int) := by omega
          have i4 : ¬ i < n := hlt
          have HN : Hid (R4 w t kt o ko u p r L (.int .i64 ((i + 1 : Nat) : Int)) w5.drew) := by
            have e1 : L.take (i + 1) = L.take i := by rw [List.take_of_length_le (by have := HA.out.2.2.1; omega), List.take_of_length_le (by have := HA.out.2.2.1; omega)]
            refine ⟨i + 1, rfl, by have := HA.out.2.2.1; omega, ?_⟩
            rw [e1, ← HXY.out.1, ← HXY.out.2.1]
            exact F5.out.more (b_drew w5)
          clear F5 HXY
          go_wp2_with fail
          go_region
          all_goals
            go_wp2
            exact ⟨HN.out, by simp only [intOf]; omega⟩
      · have i1 : ¬ (i : Int) ≤ (n : Int) := by omega
        have HE := Hid.mk HF.out.below
        clear HF
        go_wp2
        go_ret
        exact ⟨rfl, HE.out⟩
end Go.Proofs.Ytnhihpekdimbbaa
