/-
  DERIVED. BestTop: its walk.
-/
import Derived.Test.YtnhihpekdimbbaaELawF
set_option linter.unusedVariables false
set_option linter.unusedSimpArgs false
namespace Go.Proofs.Ytnhihpekdimbbaa
open Classical
open Go.RowKit
theorem FourT.start {w w1 w2 w3 w4 : World} {t kt o ko u p k : Nat} (ht : TT w1 t k kt []) (ft : FreshK w w1 kt) (nt : w.heap.size ≤ t) (hu : RTp 73 w2 u k []) (fu : ∀ j, RFt w2 u j → w1.heap.size ≤ j) (bu : Below w1.heap.size w1 w2)
    (ho : TT w3 o 3 ko []) (fo : FreshK w2 w3 ko) (no : w2.heap.size ≤ o) (hp : RTp 73 w4 p 3 []) (fp : ∀ j, RFt w4 p j → w3.heap.size ≤ j) (bp : Below w3.heap.size w3 w4) : FourT w w4 t kt o ko u p k [] [] [] [] := by
  have b14 : Below w1.heap.size w1 w4 := bu.trans ((fo.2.mono bu.size).trans (bp.mono (Nat.le_trans bu.size fo.2.size)))
  have b24 : Below w2.heap.size w2 w4 := fo.2.trans (bp.mono fo.2.size)
  obtain ⟨t1, t2⟩ := ht.gkeep (F := fun _ => False) (.below b14) (fun _ _ h => h)
  obtain ⟨u1, u2⟩ := hu.below b24
  obtain ⟨o1, o2⟩ := ho.gkeep (F := fun _ => False) (.below bp) (fun _ _ h => h)
  have gt : ∀ j, Gb w4 t kt j → w.heap.size ≤ j ∧ j < w1.heap.size := fun j hj => by
    have h1 := (t2 j).1 hj
    refine ⟨?_, ht.glt j h1⟩
    rcases h1 with e | e
    · rw [e]; exact nt
    · exact ft.1 j e
  have gu : ∀ j, RFt w4 u j → w1.heap.size ≤ j ∧ j < w2.heap.size := fun j hj => ⟨fu j ((u2 j).1 hj), hu.ftlt j ((u2 j).1 hj)⟩
  have go : ∀ j, Gb w4 o ko j → w2.heap.size ≤ j ∧ j < w3.heap.size := fun j hj => by
    have h1 := (o2 j).1 hj
    refine ⟨?_, ho.glt j h1⟩
    rcases h1 with e | e
    · rw [e]; exact no
    · exact fo.1 j e
  have s1 := ft.2.size
  have s2 := bu.size
  have s3 := fo.2.size
  exact ⟨t1, o1, u1, hp, fun j a b => by have := gt j a; have := go j b; omega, fun j a b => by have := gt j a; have := gu j b; omega, fun j a b => by have := gt j a; have := fp j b; omega, fun j a b => by have := go j a; have := gu j b; omega, fun j a b => by have := go j a; have := fp j b; omega, fun j a b => by have := gu j a; have := fp j b; omega,
    fun j a => (gt j a).1, fun j a => by have := gu; have := go j a; omega, fun j a => by have := gu j a; omega, fun j a => by have := fp j a; omega, ft.2.trans (b14.mono s1)⟩
def R4T (w : World) (t kt o ko u p k : Nat) (L : List Ht) (ui : Value) (wr : World) : Prop := ∃ i : Nat, ui = .int .i64 i ∧ i ≤ L.length + 1 ∧ Hid (FourT w wr t kt o ko u p k (topL k (L.take i)) (topL 3 (L.take i)) (srtL (L.take i)) (srtL (L.take i)))
theorem srt_lim (L : List Ht) (i : Nat) (h : L.length ≤ 4398046510976) : (srtL (L.take i)).length < LIM := by
  have h1 := srtL_len (L.take i)
  have h3 : (L.take i).length ≤ L.length := by rw [List.length_take]; omega
  unfold LIM; omega
set_option maxHeartbeats 8000000 in
set_option maxRecDepth 100000 in
theorem law_top (r : Int) (hr : I64 r) (L : List Ht) (hL : ∀ x ∈ L, HtW x) (la : Option Addr) (ca : Nat) (w : World) (ha : LAt w la L) (hl : L.length ≤ 4398046510976) :
    Calls Try.prog 8 #[.int .i64 r, .slice la L.length ca] w fun e w' => e = .returned (.bool true) ∧ Below w.heap.size w w' := by
  obtain ⟨n, hn⟩ : ∃ n, n = L.length := ⟨_, rfl⟩
  have HA := Hid.mk (And.intro ha (And.intro hL (And.intro hn hl)))
  rw [← hn]
  have hnl : n ≤ 4398046510976 := by omega
  clear ha hL hn hl
  by_cases hbad : r < 0 ∨ 4096 < r
  · have h1 := newTop_bad r hbad w
    have h2 := rnewTop_bad r hbad w
    have h3 := newTop_any 3 (by decide) w
    clear hbad
    go_enter Try.func8, Try.ntmps8
    go_wp2_with fail
    refine h1.mono ?_
    clear h1
    rintro e w1 ⟨rfl, rfl⟩
    go_wp2_with fail
    refine h2.mono ?_
    clear h2
    rintro e w2 ⟨rfl, rfl⟩
    go_wp2_with fail
    refine h3.mono ?_
    clear h3
    rintro e w3 ⟨o, ko, rfl, ho, fo, no⟩
    have h4 := rnewTop_any 3 (by decide) w3
    have b3 := Hid.mk fo.2
    clear ho fo no
    go_wp2_with fail
    refine h4.mono ?_
    clear h4
    rintro e w4 ⟨p, rfl, hp, fp, bp⟩
    have HE := Hid.mk (b3.out.trans (bp.mono b3.out.size))
    clear hp fp bp b3
    go_wp2
    go_ret
    exact ⟨rfl, HE.out⟩
  · obtain ⟨k, hk⟩ : ∃ k : Nat, r = (k : Int) := ⟨r.toNat, by omega⟩
    have hk2 : k ≤ 4096 := by omega
    subst hk
    have h1 := newTop_any k hk2 w
    clear hbad hr
    go_enter Try.func8, Try.ntmps8
    go_wp2_with fail
    refine h1.mono ?_
    clear h1
    rintro e w1 ⟨t, kt, rfl, ht, ft, nt⟩
    have h2 := rnewTop_any k hk2 w1
    go_wp2_with fail
    refine h2.mono ?_
    clear h2
    rintro e w2 ⟨u, rfl, hu, fu, bu⟩
    have h3 := newTop_any 3 (by decide) w2
    go_wp2_with fail
    refine h3.mono ?_
    clear h3
    rintro e w3 ⟨o, ko, rfl, ho, fo, no⟩
    have h4 := rnewTop_any 3 (by decide) w3
    go_wp2_with fail
    refine h4.mono ?_
    clear h4
    rintro e w4 ⟨p, rfl, hp, fp, bp⟩
    have F0 := Hid.mk (FourT.start ht ft nt hu fu bu ho fo no hp fp bp)
    clear ht ft nt hu fu bu ho fo no hp fp bp
    go_wp2_with fail
    go_loopw [13] (fun ui wr => R4T w t kt o ko u p k L ui wr) (fun u _ => n + 1 - (intOf u).toNat)
    case atStart => exact ⟨0, rfl, by omega, F0.out⟩
    case round =>
      clear F0
      obtain ⟨i, rfl, hi, HF⟩ := hrel
      by_cases hle : i ≤ n
      · have i1 : (i : Int) ≤ (n : Int) := by omega
        have i2 : (0 : Int) ≤ (i : Int) := by omega
        obtain ⟨X, hX⟩ : ∃ X, X = topL k (L.take i) := ⟨_, rfl⟩
        obtain ⟨Y, hY⟩ : ∃ Y, Y = topL 3 (L.take i) := ⟨_, rfl⟩
        obtain ⟨S, hS⟩ : ∃ S, S = srtL (L.take i) := ⟨_, rfl⟩
        rw [← hX, ← hY, ← hS] at HF
        have HXS : Hid (S.take k = X) := by show _ = _; rw [hS, hX, topL_eq]
        have HYS : Hid (S.take 3 = Y) := by show _ = _; rw [hS, hY, topL_eq]
        have hSl : S.length < LIM := by rw [hS]; exact srt_lim L i HA.out.2.2.2
        have HXY := Hid.mk (And.intro hX (And.intro hY (And.intro hS (And.intro (show X.length ≤ 4398046510976 by rw [hX]; have := topL_len k (L.take i); omega) (show Y.length ≤ 4398046510976 by rw [hY]; have := topL_len 3 (L.take i); omega)))))
        clear hX hY hS
        have hwo := worst_any t k kt X wr HF.out.tt
        obtain ⟨wv, hwv⟩ : ∃ wv, wv = wrs k X := ⟨_, rfl⟩
        obtain ⟨wf, hwf⟩ : ∃ wf, wf = decide (X.length = k) := ⟨_, rfl⟩
        rw [← hwv, ← hwf] at hwo
        have hwi : IntKind.i64.wrap ((i : Int) + 1) = ((i + 1 : Nat) : Int) := by rw [IntKind.wrap_i64]; omega
        have HW := Hid.mk (And.intro hwv hwf)
        clear hwv hwf
        go_wp2_with fail
        refine hwo.mono ?_
        clear hwo
        rintro e w5a ⟨rfl, b5a⟩
        have F5a := Hid.mk (HF.out.more b5a)
        have hwo2 := rworst_any u k S w5a F5a.out.uu hk2
        rw [HXS.out, ← HW.out.1, ← HW.out.2] at hwo2
        clear HF b5a
        go_wp2_with fail
        refine hwo2.mono ?_
        clear hwo2
        rintro e w5b ⟨rfl, b5b⟩
        have F5b := Hid.mk (F5a.out.more b5b)
        have hbl := topped_any t o u p kt ko k X Y S S w5b F5b.out.tt F5b.out.oo F5b.out.uu F5b.out.pp HXS HYS hSl hSl HXY.out.2.2.2.1 HXY.out.2.2.2.2
        clear F5a b5b HW
        go_wp2_with fail
        refine hbl.mono ?_
        clear hbl
        rintro e w5 ⟨rfl, b5⟩
        have F5 := Hid.mk (F5b.out.more b5)
        clear F5b b5
        by_cases hlt : i < n
        · have i3 : (i : Int) < (n : Int) := by omega
          have i4 : i < n := hlt
          have hiL : i < L.length := by have := HA.out.2.2.1; omega
          have HCell : Hid (∀ W, Below w.heap.size w W → ∃ g off, la = some ⟨g, off, none⟩ ∧ W.cell? ⟨g, off + i * 3, none⟩ = some (.int .i64 L[i].d) ∧ W.cell? ⟨g, off + i * 3 + 1, none⟩ = some (.int .i64 L[i].i) ∧ W.cell? ⟨g, off + i * 3 + 2, none⟩ = some (.string L[i].c)) := fun W b => HA.out.1.hit (W := W) (fun k hk => b.block k hk) i hiL
          obtain ⟨g, off, e1, x0, x1, x2⟩ := HCell.out w5 F5.out.below
          subst e1
          obtain ⟨h, hh⟩ : ∃ h, h = L[i] := ⟨_, rfl⟩
          have hst1 : topL k (L.take (i + 1)) = putK k h X := by rw [take_step hiL, ← hh, HXY.out.1]
          have hst2 : topL 3 (L.take (i + 1)) = putK 3 h Y := by rw [take_step hiL, ← hh, HXY.out.2.1]
          have hst3 : srtL (L.take (i + 1)) = ins h S := by rw [List.take_succ_eq_append_getElem hiL, srtL_snoc, ← hh, HXY.out.2.2.1]
          have hq1' : (ins h S).take k = putK k h X := by rw [← hst1, ← hst3, topL_eq]
          have hq2' : (ins h S).take 3 = putK 3 h Y := by rw [← hst2, ← hst3, topL_eq]
          have hhW : HtW h := by rw [hh]; exact HA.out.2.1 _ (List.getElem_mem hiL)
          rw [← hh] at x0 x1 x2 HCell
          have HC2 : Hid (∀ W, Below w.heap.size w W → W.cell? ⟨g, off + i * 3, none⟩ = some (.int .i64 h.d) ∧ W.cell? ⟨g, off + i * 3 + 1, none⟩ = some (.int .i64 h.i) ∧ W.cell? ⟨g, off + i * 3 + 2, none⟩ = some (.string h.c)) := fun W b => by
            obtain ⟨g', o', e', y⟩ := HCell.out W b
            simp only [Option.some.injEq, Addr.mk.injEq] at e'
            obtain ⟨rfl, rfl, -⟩ := e'
            exact y
          clear HCell
          have HST := Hid.mk (And.intro hst1 (And.intro hst2 (And.intro hhW (And.intro hiL hst3))))
          have a1 := tadd_any t k kt X h w5.drew (F5.out.tt.below (b_drew w5)).1 hhW
          have a2 := fun W (H : RTp 73 W u k S) => rtadd_any u k S h W H hhW hSl hk2
          have a3 := fun W (H : TT W o 3 ko Y) => tadd_any o 3 ko Y h W H hhW
          have a4 := fun W (H : RTp 73 W p 3 S) => rtadd_any p 3 S h W H hhW hSl (by decide)
          simp only [hC] at a1 a2 a3 a4
          have F5d := Hid.mk (F5.out.more (b_drew w5))
          clear hst1 hst2 hst3 hhW hh F5
          obtain ⟨q1, hq1⟩ : ∃ q1, q1 = decide (h ∈ putK k h X) := ⟨_, rfl⟩
          obtain ⟨q2, hq2⟩ : ∃ q2, q2 = decide (h ∈ putK 3 h Y) := ⟨_, rfl⟩
          rw [hq1'] at a2
          rw [hq2'] at a4
          rw [← hq1] at a1 a2
          rw [← hq2] at a3 a4
          clear hq1 hq2 hq1' hq2'
          cases q1 with
          | false =>
            cases q2 with
            | false =>
              clear HXY
              go_wp2_with fail
              go_region_held (fun w' => w'.cell? ⟨g, off + i * 3, none⟩ = some (.int .i64 h.d) ∧ w'.cell? ⟨g, off + i * 3 + 1, none⟩ = some (.int .i64 h.i) ∧ w'.cell? ⟨g, off + i * 3 + 2, none⟩ = some (.string h.c))
                (first | exact y9 | exact y8 | exact y7 | exact y6 | exact ⟨x0, x1, x2⟩)
                (first
                  | (go_at_call 14; refine a1.mono ?_; clear a1; rintro e w6 ⟨rfl, T6, f6⟩; have F6 := Hid.mk (F5d.out.ft T6 f6); have y6 := HC2.out w6 F6.out.below; have b2' := a2 w6 F6.out.uu; clear a2 T6 f6)
                  | (go_at_call 28; refine b2'.mono ?_; clear b2'; rintro e w7 ⟨rfl, T7, f7⟩; have F7 := Hid.mk (F6.out.fu' T7 f7); have y7 := HC2.out w7 F7.out.below; have b3' := a3 w7 F7.out.oo; clear a3 T7 f7)
                  | (go_at_call 14; refine b3'.mono ?_; clear b3'; rintro e w8 ⟨rfl, T8, f8⟩; have F8 := Hid.mk (F7.out.fo' T8 f8); have y8 := HC2.out w8 F8.out.below; have b4' := a4 w8 F8.out.pp; clear a4 T8 f8)
                  | (go_at_call 28; refine b4'.mono ?_; clear b4'; rintro e w9 ⟨rfl, T9, f9⟩; have F9 := Hid.mk (F8.out.fp' T9 f9); have y9 := HC2.out w9 F9.out.below; clear T9 f9))
              all_goals
                have HN : Hid (R4T w t kt o ko u p k L (.int .i64 ((i + 1 : Nat) : Int)) w9) := ⟨i + 1, rfl, by have := HST.out.2.2.2.1; omega, by rw [HST.out.1, HST.out.2.1, HST.out.2.2.2.2]; exact F9.out⟩
                clear F9 F8 F7 F6 y6 y7 y8 y9
                go_wp2
                exact ⟨HN.out, by simp only [intOf]; omega⟩
            | true =>
              clear HXY
              go_wp2_with fail
              go_region_held (fun w' => w'.cell? ⟨g, off + i * 3, none⟩ = some (.int .i64 h.d) ∧ w'.cell? ⟨g, off + i * 3 + 1, none⟩ = some (.int .i64 h.i) ∧ w'.cell? ⟨g, off + i * 3 + 2, none⟩ = some (.string h.c))
                (first | exact y9 | exact y8 | exact y7 | exact y6 | exact ⟨x0, x1, x2⟩)
                (first
                  | (go_at_call 14; refine a1.mono ?_; clear a1; rintro e w6 ⟨rfl, T6, f6⟩; have F6 := Hid.mk (F5d.out.ft T6 f6); have y6 := HC2.out w6 F6.out.below; have b2' := a2 w6 F6.out.uu; clear a2 T6 f6)
                  | (go_at_call 28; refine b2'.mono ?_; clear b2'; rintro e w7 ⟨rfl, T7, f7⟩; have F7 := Hid.mk (F6.out.fu' T7 f7); have y7 := HC2.out w7 F7.out.below; have b3' := a3 w7 F7.out.oo; clear a3 T7 f7)
                  | (go_at_call 14; refine b3'.mono ?_; clear b3'; rintro e w8 ⟨rfl, T8, f8⟩; have F8 := Hid.mk (F7.out.fo' T8 f8); have y8 := HC2.out w8 F8.out.below; have b4' := a4 w8 F8.out.pp; clear a4 T8 f8)
                  | (go_at_call 28; refine b4'.mono ?_; clear b4'; rintro e w9 ⟨rfl, T9, f9⟩; have F9 := Hid.mk (F8.out.fp' T9 f9); have y9 := HC2.out w9 F9.out.below; clear T9 f9))
              all_goals
                have HN : Hid (R4T w t kt o ko u p k L (.int .i64 ((i + 1 : Nat) : Int)) w9) := ⟨i + 1, rfl, by have := HST.out.2.2.2.1; omega, by rw [HST.out.1, HST.out.2.1, HST.out.2.2.2.2]; exact F9.out⟩
                clear F9 F8 F7 F6 y6 y7 y8 y9
                go_wp2
                exact ⟨HN.out, by simp only [intOf]; omega⟩
          | true =>
            cases q2 with
            | false =>
              clear HXY
              go_wp2_with fail
              go_region_held (fun w' => w'.cell? ⟨g, off + i * 3, none⟩ = some (.int .i64 h.d) ∧ w'.cell? ⟨g, off + i * 3 + 1, none⟩ = some (.int .i64 h.i) ∧ w'.cell? ⟨g, off + i * 3 + 2, none⟩ = some (.string h.c))
                (first | exact y9 | exact y8 | exact y7 | exact y6 | exact ⟨x0, x1, x2⟩)
                (first
                  | (go_at_call 14; refine a1.mono ?_; clear a1; rintro e w6 ⟨rfl, T6, f6⟩; have F6 := Hid.mk (F5d.out.ft T6 f6); have y6 := HC2.out w6 F6.out.below; have b2' := a2 w6 F6.out.uu; clear a2 T6 f6)
                  | (go_at_call 28; refine b2'.mono ?_; clear b2'; rintro e w7 ⟨rfl, T7, f7⟩; have F7 := Hid.mk (F6.out.fu' T7 f7); have y7 := HC2.out w7 F7.out.below; have b3' := a3 w7 F7.out.oo; clear a3 T7 f7)
                  | (go_at_call 14; refine b3'.mono ?_; clear b3'; rintro e w8 ⟨rfl, T8, f8⟩; have F8 := Hid.mk (F7.out.fo' T8 f8); have y8 := HC2.out w8 F8.out.below; have b4' := a4 w8 F8.out.pp; clear a4 T8 f8)
                  | (go_at_call 28; refine b4'.mono ?_; clear b4'; rintro e w9 ⟨rfl, T9, f9⟩; have F9 := Hid.mk (F8.out.fp' T9 f9); have y9 := HC2.out w9 F9.out.below; clear T9 f9))
              all_goals
                have HN : Hid (R4T w t kt o ko u p k L (.int .i64 ((i + 1 : Nat) : Int)) w9) := ⟨i + 1, rfl, by have := HST.out.2.2.2.1; omega, by rw [HST.out.1, HST.out.2.1, HST.out.2.2.2.2]; exact F9.out⟩
                clear F9 F8 F7 F6 y6 y7 y8 y9
                go_wp2
                exact ⟨HN.out, by simp only [intOf]; omega⟩
            | true =>
              clear HXY
              go_wp2_with fail
              go_region_held (fun w' => w'.cell? ⟨g, off + i * 3, none⟩ = some (.int .i64 h.d) ∧ w'.cell? ⟨g, off + i * 3 + 1, none⟩ = some (.int .i64 h.i) ∧ w'.cell? ⟨g, off + i * 3 + 2, none⟩ = some (.string h.c))
                (first | exact y9 | exact y8 | exact y7 | exact y6 | exact ⟨x0, x1, x2⟩)
                (first
                  | (go_at_call 14; refine a1.mono ?_; clear a1; rintro e w6 ⟨rfl, T6, f6⟩; have F6 := Hid.mk (F5d.out.ft T6 f6); have y6 := HC2.out w6 F6.out.below; have b2' := a2 w6 F6.out.uu; clear a2 T6 f6)
                  | (go_at_call 28; refine b2'.mono ?_; clear b2'; rintro e w7 ⟨rfl, T7, f7⟩; have F7 := Hid.mk (F6.out.fu' T7 f7); have y7 := HC2.out w7 F7.out.below; have b3' := a3 w7 F7.out.oo; clear a3 T7 f7)
                  | (go_at_call 14; refine b3'.mono ?_; clear b3'; rintro e w8 ⟨rfl, T8, f8⟩; have F8 := Hid.mk (F7.out.fo' T8 f8); have y8 := HC2.out w8 F8.out.below; have b4' := a4 w8 F8.out.pp; clear a4 T8 f8)
                  | (go_at_call 28; refine b4'.mono ?_; clear b4'; rintro e w9 ⟨rfl, T9, f9⟩; have F9 := Hid.mk (F8.out.fp' T9 f9); have y9 := HC2.out w9 F9.out.below; clear T9 f9))
              all_goals
                have HN : Hid (R4T w t kt o ko u p k L (.int .i64 ((i + 1 : Nat) : Int)) w9) := ⟨i + 1, rfl, by have := HST.out.2.2.2.1; omega, by rw [HST.out.1, HST.out.2.1, HST.out.2.2.2.2]; exact F9.out⟩
                clear F9 F8 F7 F6 y6 y7 y8 y9
                go_wp2
                exact ⟨HN.out, by simp only [intOf]; omega⟩
        · have i3 : ¬ (i : Int) < (n : Int) := by omega
          have i4 : ¬ i < n := hlt
          have HN : Hid (R4T w t kt o ko u p k L (.int .i64 ((i + 1 : Nat) : Int)) w5.drew) := by
            have e1 : L.take (i + 1) = L.take i := by rw [List.take_of_length_le (by have := HA.out.2.2.1; omega), List.take_of_length_le (by have := HA.out.2.2.1; omega)]
            refine ⟨i + 1, rfl, by have := HA.out.2.2.1; omega, ?_⟩
            rw [e1, ← HXY.out.1, ← HXY.out.2.1, ← HXY.out.2.2.1]
            exact F5.out.more (b_drew w5)
          clear F5 HXY
          go_wp2_with fail
          go_region
          all_goals
            go_wp2
            exact ⟨HN.out, by simp only [intOf]; omega⟩
      · have i1 : ¬ (i : Int) ≤ (n : Int) := by omega
        have HE := Hid.mk HF.out.below
        clear HF
        go_wp2
        go_ret
        exact ⟨rfl, HE.out⟩
end Go.Proofs.Ytnhihpekdimbbaa
