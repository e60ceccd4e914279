/-
  DERIVED. BestWithin: its walk.
-/
import Derived.Test.YtnhihpekdimbbaaELawB
set_option linter.unusedVariables false
set_option linter.unusedSimpArgs false
namespace Go.Proofs.Ytnhihpekdimbbaa
open Go.RowKit
set_option maxHeartbeats 8000000 in
set_option maxRecDepth 100000 in
theorem law_within (r k : Int) (hr : I64 r) (hk : I64 k) (L : List Ht) (hL : ∀ x ∈ L, HtW x) (la : Option Addr) (ca : Nat) (w : World) (ha : LAt w la L) (hl : L.length ≤ 4398046510976) :
    Calls Try.prog 7 #[.int .i64 r, .int .i64 k, .slice la L.length ca] w fun e w' => e = .returned (.bool true) ∧ Below w.heap.size w w' := by
  have hb := begun_any w
  have hf := fun W => fit_any k hk W
  have hK := fitK_le k
  obtain ⟨K, hKe⟩ : ∃ K, K = fitK k := ⟨_, rfl⟩
  rw [← hKe] at hf hK
  clear hKe
  obtain ⟨n, hn⟩ : ∃ n, n = L.length := ⟨_, rfl⟩
  have HA := Hid.mk (And.intro ha (And.intro hL (And.intro hn (And.intro (show L.length < 4611686018427387904 by omega) hl))))
  rw [← hn]
  have hnl : n < 4611686018427387904 := by omega
  clear ha hL hn hl
  go_enter Try.func7, Try.ntmps7
  go_wp2_with fail
  refine hb.mono ?_
  clear hb
  rintro e w1 ⟨rfl, b1⟩
  go_wp2_with fail
  refine (hf _).mono ?_
  clear hf
  rintro e w1' ⟨rfl, e1⟩
  subst e1
  by_cases hr0 : r < 0
  · have HR0 : Hid (0 ≤ (3 : Int) ∧ (3 : Int) ≤ 1024) := ⟨by decide, by decide⟩
    have hnb := newBall_any (3 : Int) HR0.out.1 HR0.out.2 w1'
    go_wp2_with fail
    refine hnb.mono ?_
    clear hnb
    rintro e w2 ⟨b, kpb, rfl, B2, F2, fb⟩
    have hh1 := handed_any K hK L HA.out.2.1 la ca false w2 ((HA.out.1.below b1).below (F2.2)) HA.out.2.2.2.1
    rw [← HA.out.2.2.1] at hh1
    go_wp2_with fail
    refine hh1.mono ?_
    clear hh1
    rintro e w3 ⟨t, kpt, rfl, O3⟩
    obtain ⟨X, hX⟩ : ∃ X, X = topL K (way false L) := ⟨_, rfl⟩
    rw [← hX] at O3
    have HX : Hid (X = topL K L) := hX
    clear hX
    have B3 : Hid (BTwo w1' w3 b (3 : Int) kpb t K kpt [] X) := ⟨(B2.below O3.below).1, O3.tt, fun j hj => F2.1 j (((B2.below O3.below).2 j).1 hj), fun j h1 h2 => by
      have h3 := B2.2.ftlt j (((B2.below O3.below).2 j).1 h1)
      have h4 := O3.far j h2
      omega, F2.2.trans (O3.below.mono F2.2.size)⟩
    clear B2 F2 fb O3
    go_wp2_with fail
    go_loopw [11] (fun u wr => RB w1' b (3 : Int) kpb t K kpt L X u wr) (fun u _ => n - (intOf u).toNat)
    case atStart => exact ⟨0, rfl, Nat.zero_le _, B3⟩
    case round =>
      clear B3
      obtain ⟨i, rfl, hi, HR⟩ := hrel
      have bwr : Hid (Below w.heap.size w wr) := b1.trans (HR.out.below.mono b1.size)
      by_cases hlt : i < n
      · have i1 : (i : Int) < (n : Int) := by omega
        have i2 : (0 : Int) ≤ (i : Int) := by omega
        have hiL : i < L.length := by have := HA.out.2.2.1; omega
        obtain ⟨g, o, e1, x0, x1, x2⟩ := HA.out.1.hit (W := wr) (fun k hk => bwr.out.block k hk) i hiL
        subst e1
        obtain ⟨h, hh⟩ : ∃ h, h = L[i] := ⟨_, rfl⟩
        rw [← hh] at x0 x1 x2
        obtain ⟨Y, hY⟩ : ∃ Y, Y = srtL (inR (3 : Int) (L.take i)) := ⟨_, rfl⟩
        rw [← hY] at HR
        have hYl : Y.length < LIM := by
          have h1 := srtL_len (inR (3 : Int) (L.take i))
          have h2 := inR_len (3 : Int) (L.take i)
          have h3 := HA.out.2.2.2.2
          have h4 : (L.take i).length ≤ L.length := by rw [List.length_take]; omega
          rw [hY]; unfold LIM; omega
        have hadd := badd_any b kpb (3 : Int) Y h wr.drew (HR.out.b.below (b_drew wr)).1 (by rw [hh]; exact HA.out.2.1 _ (List.getElem_mem hiL)) hYl
        simp only [hC] at hadd
        have HN : Hid (∀ W, BT W b (3 : Int) kpb (putB (3 : Int) h Y) → FrK kpb wr.drew W → RB w1' b (3 : Int) kpb t K kpt L X (.int .i64 ((i + 1 : Nat) : Int)) W ∧ W.cell? ⟨g, o + i * 3, none⟩ = some (.int .i64 h.d) ∧ W.cell? ⟨g, o + i * 3 + 1, none⟩ = some (.int .i64 h.i) ∧ W.cell? ⟨g, o + i * 3 + 2, none⟩ = some (.string h.c)) := fun W hT hf => by
          have t6 := HR.out.frk hT ((HR.out.b.2.frk (b_drew wr)).trans hf)
          refine ⟨⟨i + 1, rfl, hiL, by rw [ball_step hiL, ← hh, ← hY]; exact t6⟩, ?_⟩
          have b6 : Below w.heap.size w W := b1.trans (t6.below.mono b1.size)
          obtain ⟨g', o', e', y0, y1, y2⟩ := HA.out.1.hit (W := W) (fun k hk => b6.block k hk) i hiL
          simp only [Option.some.injEq, Addr.mk.injEq] at e'
          obtain ⟨rfl, rfl, -⟩ := e'
          rw [← hh] at y0 y1 y2
          exact ⟨y0, y1, y2⟩
        have hwi : IntKind.i64.wrap ((i : Int) + 1) = ((i + 1 : Nat) : Int) := by rw [IntKind.wrap_i64]; omega
        obtain ⟨bq, hbq⟩ : ∃ bq, bq = decide (h.d ≤ (3 : Int)) := ⟨_, rfl⟩
        rw [← hbq] at hadd
        replace hbq := hbq.symm
        clear hh hY HR bwr hYl
        go_wp2_with fail
        go_region_held (fun w' => w'.cell? ⟨g, o + i * 3, none⟩ = some (.int .i64 h.d) ∧ w'.cell? ⟨g, o + i * 3 + 1, none⟩ = some (.int .i64 h.i) ∧ w'.cell? ⟨g, o + i * 3 + 2, none⟩ = some (.string h.c))
          (first | exact y6 | exact ⟨x0, x1, x2⟩)
          ((go_at_call 21; refine hadd.mono ?_; clear hadd; rintro e w6 ⟨rfl, T6, f6⟩; have y6 := (HN.out _ T6 f6).2))
        all_goals
          go_wp2
          exact ⟨(HN.out _ T6 f6).1, by simp only [intOf]; omega⟩
      · have i1 : ¬ (i : Int) < (n : Int) := by omega
        have B4 : Hid (BTwo w1' wr b (3 : Int) kpb t K kpt (srtL (inR (3 : Int) L)) X) := by
          have := HR.out
          rw [List.take_of_length_le (by have := HA.out.2.2.1; omega)] at this
          exact this
        obtain ⟨w4, rfl⟩ : ∃ w4, w4 = wr := ⟨_, rfl⟩
        clear HR hi hlt
        go_wp2_with fail
        clear i1
        go_loopw [12, 13] (fun uv ui wr => RP w4 (3 : Int) L uv ui wr) (fun _ u _ => n - (intOf u).toNat)
        case atStart => exact ⟨0, none, 0, 0, rfl, rfl, Nat.zero_le _, rfl, ⟨rfl, .inl ⟨rfl, rfl⟩⟩, fun j hj => (by cases hj), Below.refl _ _⟩
        case round =>
          obtain ⟨i, a, m, c, rfl, rfl, hi, HP⟩ := hrel
          have b5 : Hid (Below w.heap.size w wr) := bwr.out.trans (HP.out.2.2.2.mono bwr.out.size)
          by_cases hlt : i < n
          · have i1 : (i : Int) < (n : Int) := by omega
            have i2 : (0 : Int) ≤ (i : Int) := by omega
            have hiL : i < L.length := by have := HA.out.2.2.1; omega
            obtain ⟨g, o, e1, x0, x1, x2⟩ := HA.out.1.hit (W := wr) (fun k hk => b5.out.block k hk) i hiL
            subst e1
            obtain ⟨h, hh⟩ : ∃ h, h = L[i] := ⟨_, rfl⟩
            rw [← hh] at x0 x1 x2
            have hwi : IntKind.i64.wrap ((i : Int) + 1) = ((i + 1 : Nat) : Int) := by rw [IntKind.wrap_i64]; omega
            by_cases hd : h.d ≤ (3 : Int)
            · have hm := HP.out.1
              have hml : (inR (3 : Int) (L.take i)).length ≤ i := by
                have h2 := inR_len (3 : Int) (L.take i)
                rw [List.length_take] at h2; omega
              obtain ⟨v', w6, hap, ho, s6, hloc⟩ := ent_app1 wr (inR (3 : Int) (L.take i)) (.slice a m c) (by have h0 := HP.out.2.1; exact h0) h (by
                have h3 := HA.out.2.2.2.2
                omega)
              obtain ⟨a', c', hv', -⟩ := slice_form ho
              subst hv'
              have HN : Hid (RP w4 (3 : Int) L (.slice a' (inR (3 : Int) (L.take i) ++ [h]).length c') (.int .i64 ((i + 1 : Nat) : Int)) w6) := by
                have e : inR (3 : Int) (L.take (i + 1)) = inR (3 : Int) (L.take i) ++ [h] := by rw [hh]; exact inR_yes hiL (by rw [← hh]; exact hd)
                refine ⟨i + 1, a', _, c', rfl, rfl, hiL, by rw [e], by rw [e]; exact ho, fun j hj => ?_, ?_⟩
                · rcases hloc j hj with h1 | h1
                  · exact HP.out.2.2.1 j h1
                  · exact Nat.le_trans HP.out.2.2.2.size h1
                · exact HP.out.2.2.2.trans (s6.toBelow (fun j hj hF => by have := HP.out.2.2.1 j hF; omega) HP.out.2.2.2.size)
              obtain ⟨m', hm'⟩ : ∃ m', m' = (inR (3 : Int) (L.take i) ++ [h]).length := ⟨_, rfl⟩
              rw [← hm'] at HN hap
              simp only [hC] at hap
              clear hh HP b5 ho s6 hloc hm hml hm' B4
              go_wp2_with (at_builtin; refine wpList_append_eq rfl _ _ _ _ rfl _ _ _ _ rfl rfl hap ?_; clear hap)
              exact ⟨HN.out, by simp only [intOf]; omega⟩
            · have HN : Hid (RP w4 (3 : Int) L (.slice a m c) (.int .i64 ((i + 1 : Nat) : Int)) wr) := by
                have e : inR (3 : Int) (L.take (i + 1)) = inR (3 : Int) (L.take i) := inR_no hiL (by rw [← hh]; exact hd)
                refine ⟨i + 1, a, m, c, rfl, rfl, hiL, ?_⟩
                rw [e]; exact HP.out
              clear hh HP b5 B4
              go_wp2
              exact ⟨HN.out, by simp only [intOf]; omega⟩
          · have i1 : ¬ (i : Int) < (n : Int) := by omega
            have htk : L.take i = L := List.take_of_length_le (by have := HA.out.2.2.1; omega)
            rw [htk] at HP
            obtain ⟨hm0, hrow, -, hbl⟩ := HP.out
            have hm := Hid.mk hm0
            clear hm0
            obtain ⟨a0, c0, e0, lw⟩ := HRow.lat hrow
            simp only [Value.slice.injEq] at e0
            obtain ⟨rfl, -, rfl⟩ := e0
            have B5 := (B4.out.b.below hbl).1
            have T5 := (B4.out.t.below hbl).1
            have hl1 := blist_any b kpb (3 : Int) (srtL (inR (3 : Int) L)) wr B5
            obtain ⟨w5, rfl⟩ : ∃ w5, w5 = wr := ⟨_, rfl⟩
            have H5 := Hid.mk (And.intro B5 (And.intro T5 (And.intro lw hbl)))
            clear HP htk hi hlt B5 T5 lw hbl hrow
            go_wp2_with fail
            refine hl1.mono ?_
            clear hl1
            rintro e w6 ⟨vl, rfl, t6⟩
            obtain ⟨a1, c1, rfl, l1⟩ := HRow.lat t6.1
            have T6 := (H5.out.2.1.below t6.2.2).1
            have b6 : Below w.heap.size w w6 := b5.out.trans (t6.2.2.mono b5.out.size)
            have hSl : (srtL (inR (3 : Int) L)).length ≤ L.length := Nat.le_trans (srtL_len _) (inR_len _ _)
            have hlim := HA.out.2.2.2.2
            have hfi := first_any n hnl (srtL (inR (3 : Int) L)) (inR (3 : Int) L) (fst_ball n _ (by have := inR_len (3 : Int) L; have := HA.out.2.2.1; omega)) (fun x hx => HA.out.2.1 x (List.mem_filter.1 hx).1) a1 a c1 c w6 l1 (H5.out.2.2.1.below t6.2.2) (by omega) (by have := inR_len (3 : Int) L; omega)
            rw [← hm.out] at hfi
            have H6 := Hid.mk (And.intro t6 (And.intro l1 (And.intro T6 (And.intro b6 (And.intro hSl hlim)))))
            clear i1 t6 l1 T6 b6 hSl hlim
            go_wp2_with fail
            refine hfi.mono ?_
            clear hfi
            rintro e w7 ⟨rfl, b7⟩
            have T7 := (H6.out.2.2.1.below b7).1
            have hl2 := tlist_any t K kpt X w7 T7
            replace b7 := Hid.mk b7
            clear T7
            go_wp2_with fail
            refine hl2.mono ?_
            clear hl2
            rintro e w8 ⟨vt, rfl, t8⟩
            obtain ⟨a2, c2, rfl, l2⟩ := HRow.lat t8.1
            have l1' : LAt w8 a1 (srtL (inR (3 : Int) L)) := (H6.out.2.1.below b7.out).below t8.2.2
            have HE : Hid (∀ W, Drew w8 W → Below w.heap.size w W) := fun W hd => (H6.out.2.2.2.1.trans (b7.out.mono H6.out.2.2.2.1.size)).trans (((t8.2.2).mono (Nat.le_trans H6.out.2.2.2.1.size b7.out.size)).trans (hd.below _))
            have HL := Hid.mk (And.intro l1' (And.intro l2 HX.out))
            obtain ⟨nX, hnX⟩ : ∃ nX, nX = X.length := ⟨_, rfl⟩
            obtain ⟨nS, hnS⟩ : ∃ nS, nS = (srtL (inR (3 : Int) L)).length := ⟨_, rfl⟩
            have HN1 := Hid.mk (And.intro hnX hnS)
            rw [← hnX, ← hnS]
            have hnXl : nX < 4611686018427387904 := by have := topL_len K L; rw [← HX.out] at this; omega
            clear l1' l2 t8 b5 b7 hm hnX hnS B4 bwr H5 H6
            go_wp2_with fail
            go_loopw [17] (fun u wr => RT w8 nX u wr) (fun u _ => nX - (intOf u).toNat)
            case atStart => exact ⟨0, rfl, Nat.zero_le _, Drew.refl _⟩
            case round =>
              obtain ⟨i, rfl, hi, hdr⟩ := hrel
              by_cases hlt : i < nX
              · have i1 : (i : Int) < (nX : Int) := by omega
                have i2 : (0 : Int) ≤ (i : Int) := by omega
                have hiX : i < X.length := by have := HN1.out.1; omega
                obtain ⟨g, o, e1, x0, x1, x2⟩ := HL.out.2.1.hit (W := wr) (fun k _ => drew_heap hdr k) i hiX
                subst e1
                obtain ⟨h, hh⟩ : ∃ h, h = X[i] := ⟨_, rfl⟩
                rw [← hh] at x0 x1 x2
                have hwi : IntKind.i64.wrap ((i : Int) + 1) = ((i + 1 : Nat) : Int) := by rw [IntKind.wrap_i64]; omega
                have HN : Hid (RT w8 nX (.int .i64 ((i + 1 : Nat) : Int)) wr.drew) := ⟨i + 1, rfl, hlt, hdr.drew⟩
                by_cases hd : h.d ≤ (3 : Int)
                · have hS := within_at (r := (3 : Int)) (k := K) (L := L) (i := i) (x := h) (by rw [← HL.out.2.2, List.getElem?_eq_getElem hiX, hh]) hd
                  have hiS : i < (srtL (inR (3 : Int) L)).length := (List.getElem?_eq_some_iff.1 hS).1
                  obtain ⟨g2, o2, e2, y0, y1, y2⟩ := HL.out.1.hit (W := wr) (fun k _ => drew_heap hdr k) i hiS
                  subst e2
                  rw [List.getElem?_eq_getElem hiS] at hS
                  replace hS := Option.some.inj hS
                  rw [hS] at y0 y1 y2
                  have i3 : (i : Int) < (nS : Int) := by have := HN1.out.2; omega
                  have i4 : ¬ (nS : Int) ≤ (i : Int) := by omega
                  have i5 : ¬ nS ≤ i := by omega
                  clear hh hS HN1 HL HX hiX hiS
                  go_wp2
                  go_region
                  all_goals
                    go_wp2
                    exact ⟨HN.out, by simp only [intOf]; omega⟩
                · have hd2 : decide (h.d ≤ (3 : Int)) = false := decide_eq_false hd
                  clear hh HN1 HL HX hiX hd
                  go_wp2
                  go_region
                  all_goals
                    go_wp2
                    exact ⟨HN.out, by simp only [intOf]; omega⟩
              · have i1 : ¬ (i : Int) < (nX : Int) := by omega
                go_wp2
                go_ret
                exact ⟨rfl, HE.out _ hdr⟩
  · by_cases hr1 : 1024 < r
    · have HR0 : Hid (0 ≤ (3 : Int) ∧ (3 : Int) ≤ 1024) := ⟨by decide, by decide⟩
      have hnb := newBall_any (3 : Int) HR0.out.1 HR0.out.2 w1'
      go_wp2_with fail
      refine hnb.mono ?_
      clear hnb
      rintro e w2 ⟨b, kpb, rfl, B2, F2, fb⟩
      have hh1 := handed_any K hK L HA.out.2.1 la ca false w2 ((HA.out.1.below b1).below (F2.2)) HA.out.2.2.2.1
      rw [← HA.out.2.2.1] at hh1
      go_wp2_with fail
      refine hh1.mono ?_
      clear hh1
      rintro e w3 ⟨t, kpt, rfl, O3⟩
      obtain ⟨X, hX⟩ : ∃ X, X = topL K (way false L) := ⟨_, rfl⟩
      rw [← hX] at O3
      have HX : Hid (X = topL K L) := hX
      clear hX
      have B3 : Hid (BTwo w1' w3 b (3 : Int) kpb t K kpt [] X) := ⟨(B2.below O3.below).1, O3.tt, fun j hj => F2.1 j (((B2.below O3.below).2 j).1 hj), fun j h1 h2 => by
        have h3 := B2.2.ftlt j (((B2.below O3.below).2 j).1 h1)
        have h4 := O3.far j h2
        omega, F2.2.trans (O3.below.mono F2.2.size)⟩
      clear B2 F2 fb O3
      go_wp2_with fail
      go_loopw [11] (fun u wr => RB w1' b (3 : Int) kpb t K kpt L X u wr) (fun u _ => n - (intOf u).toNat)
      case atStart => exact ⟨0, rfl, Nat.zero_le _, B3⟩
      case round =>
        clear B3
        obtain ⟨i, rfl, hi, HR⟩ := hrel
        have bwr : Hid (Below w.heap.size w wr) := b1.trans (HR.out.below.mono b1.size)
        by_cases hlt : i < n
        · have i1 : (i : Int) < (n : Int) := by omega
          have i2 : (0 : Int) ≤ (i : Int) := by omega
          have hiL : i < L.length := by have := HA.out.2.2.1; omega
          obtain ⟨g, o, e1, x0, x1, x2⟩ := HA.out.1.hit (W := wr) (fun k hk => bwr.out.block k hk) i hiL
          subst e1
          obtain ⟨h, hh⟩ : ∃ h, h = L[i] := ⟨_, rfl⟩
          rw [← hh] at x0 x1 x2
          obtain ⟨Y, hY⟩ : ∃ Y, Y = srtL (inR (3 : Int) (L.take i)) := ⟨_, rfl⟩
          rw [← hY] at HR
          have hYl : Y.length < LIM := by
            have h1 := srtL_len (inR (3 : Int) (L.take i))
            have h2 := inR_len (3 : Int) (L.take i)
            have h3 := HA.out.2.2.2.2
            have h4 : (L.take i).length ≤ L.length := by rw [List.length_take]; omega
            rw [hY]; unfold LIM; omega
          have hadd := badd_any b kpb (3 : Int) Y h wr.drew (HR.out.b.below (b_drew wr)).1 (by rw [hh]; exact HA.out.2.1 _ (List.getElem_mem hiL)) hYl
          simp only [hC] at hadd
          have HN : Hid (∀ W, BT W b (3 : Int) kpb (putB (3 : Int) h Y) → FrK kpb wr.drew W → RB w1' b (3 : Int) kpb t K kpt L X (.int .i64 ((i + 1 : Nat) : Int)) W ∧ W.cell? ⟨g, o + i * 3, none⟩ = some (.int .i64 h.d) ∧ W.cell? ⟨g, o + i * 3 + 1, none⟩ = some (.int .i64 h.i) ∧ W.cell? ⟨g, o + i * 3 + 2, none⟩ = some (.string h.c)) := fun W hT hf => by
            have t6 := HR.out.frk hT ((HR.out.b.2.frk (b_drew wr)).trans hf)
            refine ⟨⟨i + 1, rfl, hiL, by rw [ball_step hiL, ← hh, ← hY]; exact t6⟩, ?_⟩
            have b6 : Below w.heap.size w W := b1.trans (t6.below.mono b1.size)
            obtain ⟨g', o', e', y0, y1, y2⟩ := HA.out.1.hit (W := W) (fun k hk => b6.block k hk) i hiL
            simp only [Option.some.injEq, Addr.mk.injEq] at e'
            obtain ⟨rfl, rfl, -⟩ := e'
            rw [← hh] at y0 y1 y2
            exact ⟨y0, y1, y2⟩
          have hwi : IntKind.i64.wrap ((i : Int) + 1) = ((i + 1 : Nat) : Int) := by rw [IntKind.wrap_i64]; omega
          obtain ⟨bq, hbq⟩ : ∃ bq, bq = decide (h.d ≤ (3 : Int)) := ⟨_, rfl⟩
          rw [← hbq] at hadd
          replace hbq := hbq.symm
          clear hh hY HR bwr hYl
          go_wp2_with fail
          go_region_held (fun w' => w'.cell? ⟨g, o + i * 3, none⟩ = some (.int .i64 h.d) ∧ w'.cell? ⟨g, o + i * 3 + 1, none⟩ = some (.int .i64 h.i) ∧ w'.cell? ⟨g, o + i * 3 + 2, none⟩ = some (.string h.c))
            (first | exact y6 | exact ⟨x0, x1, x2⟩)
            ((go_at_call 21; refine hadd.mono ?_; clear hadd; rintro e w6 ⟨rfl, T6, f6⟩; have y6 := (HN.out _ T6 f6).2))
          all_goals
            go_wp2
            exact ⟨(HN.out _ T6 f6).1, by simp only [intOf]; omega⟩
        · have i1 : ¬ (i : Int) < (n : Int) := by omega
          have B4 : Hid (BTwo w1' wr b (3 : Int) kpb t K kpt (srtL (inR (3 : Int) L)) X) := by
            have := HR.out
            rw [List.take_of_length_le (by have := HA.out.2.2.1; omega)] at this
            exact this
          obtain ⟨w4, rfl⟩ : ∃ w4, w4 = wr := ⟨_, rfl⟩
          clear HR hi hlt
          go_wp2_with fail
          clear i1
          go_loopw [12, 13] (fun uv ui wr => RP w4 (3 : Int) L uv ui wr) (fun _ u _ => n - (intOf u).toNat)
          case atStart => exact ⟨0, none, 0, 0, rfl, rfl, Nat.zero_le _, rfl, ⟨rfl, .inl ⟨rfl, rfl⟩⟩, fun j hj => (by cases hj), Below.refl _ _⟩
          case round =>
            obtain ⟨i, a, m, c, rfl, rfl, hi, HP⟩ := hrel
            have b5 : Hid (Below w.heap.size w wr) := bwr.out.trans (HP.out.2.2.2.mono bwr.out.size)
            by_cases hlt : i < n
            · have i1 : (i : Int) < (n : Int) := by omega
              have i2 : (0 : Int) ≤ (i : Int) := by omega
              have hiL : i < L.length := by have := HA.out.2.2.1; omega
              obtain ⟨g, o, e1, x0, x1, x2⟩ := HA.out.1.hit (W := wr) (fun k hk => b5.out.block k hk) i hiL
              subst e1
              obtain ⟨h, hh⟩ : ∃ h, h = L[i] := ⟨_, rfl⟩
              rw [← hh] at x0 x1 x2
              have hwi : IntKind.i64.wrap ((i : Int) + 1) = ((i + 1 : Nat) : Int) := by rw [IntKind.wrap_i64]; omega
              by_cases hd : h.d ≤ (3 : Int)
              · have hm := HP.out.1
                have hml : (inR (3 : Int) (L.take i)).length ≤ i := by
                  have h2 := inR_len (3 : Int) (L.take i)
                  rw [List.length_take] at h2; omega
                obtain ⟨v', w6, hap, ho, s6, hloc⟩ := ent_app1 wr (inR (3 : Int) (L.take i)) (.slice a m c) (by have h0 := HP.out.2.1; exact h0) h (by
                  have h3 := HA.out.2.2.2.2
                  omega)
                obtain ⟨a', c', hv', -⟩ := slice_form ho
                subst hv'
                have HN : Hid (RP w4 (3 : Int) L (.slice a' (inR (3 : Int) (L.take i) ++ [h]).length c') (.int .i64 ((i + 1 : Nat) : Int)) w6) := by
                  have e : inR (3 : Int) (L.take (i + 1)) = inR (3 : Int) (L.take i) ++ [h] := by rw [hh]; exact inR_yes hiL (by rw [← hh]; exact hd)
                  refine ⟨i + 1, a', _, c', rfl, rfl, hiL, by rw [e], by rw [e]; exact ho, fun j hj => ?_, ?_⟩
                  · rcases hloc j hj with h1 | h1
                    · exact HP.out.2.2.1 j h1
                    · exact Nat.le_trans HP.out.2.2.2.size h1
                  · exact HP.out.2.2.2.trans (s6.toBelow (fun j hj hF => by have := HP.out.2.2.1 j hF; omega) HP.out.2.2.2.size)
                obtain ⟨m', hm'⟩ : ∃ m', m' = (inR (3 : Int) (L.take i) ++ [h]).length := ⟨_, rfl⟩
                rw [← hm'] at HN hap
                simp only [hC] at hap
                clear hh HP b5 ho s6 hloc hm hml hm' B4
                go_wp2_with (at_builtin; refine wpList_append_eq rfl _ _ _ _ rfl _ _ _ _ rfl rfl hap ?_; clear hap)
                exact ⟨HN.out, by simp only [intOf]; omega⟩
              · have HN : Hid (RP w4 (3 : Int) L (.slice a m c) (.int .i64 ((i + 1 : Nat) : Int)) wr) := by
                  have e : inR (3 : Int) (L.take (i + 1)) = inR (3 : Int) (L.take i) := inR_no hiL (by rw [← hh]; exact hd)
                  refine ⟨i + 1, a, m, c, rfl, rfl, hiL, ?_⟩
                  rw [e]; exact HP.out
                clear hh HP b5 B4
                go_wp2
                exact ⟨HN.out, by simp only [intOf]; omega⟩
            · have i1 : ¬ (i : Int) < (n : Int) := by omega
              have htk : L.take i = L := List.take_of_length_le (by have := HA.out.2.2.1; omega)
              rw [htk] at HP
              obtain ⟨hm0, hrow, -, hbl⟩ := HP.out
              have hm := Hid.mk hm0
              clear hm0
              obtain ⟨a0, c0, e0, lw⟩ := HRow.lat hrow
              simp only [Value.slice.injEq] at e0
              obtain ⟨rfl, -, rfl⟩ := e0
              have B5 := (B4.out.b.below hbl).1
              have T5 := (B4.out.t.below hbl).1
              have hl1 := blist_any b kpb (3 : Int) (srtL (inR (3 : Int) L)) wr B5
              obtain ⟨w5, rfl⟩ : ∃ w5, w5 = wr := ⟨_, rfl⟩
              have H5 := Hid.mk (And.intro B5 (And.intro T5 (And.intro lw hbl)))
              clear HP htk hi hlt B5 T5 lw hbl hrow
              go_wp2_with fail
              refine hl1.mono ?_
              clear hl1
              rintro e w6 ⟨vl, rfl, t6⟩
              obtain ⟨a1, c1, rfl, l1⟩ := HRow.lat t6.1
              have T6 := (H5.out.2.1.below t6.2.2).1
              have b6 : Below w.heap.size w w6 := b5.out.trans (t6.2.2.mono b5.out.size)
              have hSl : (srtL (inR (3 : Int) L)).length ≤ L.length := Nat.le_trans (srtL_len _) (inR_len _ _)
              have hlim := HA.out.2.2.2.2
              have hfi := first_any n hnl (srtL (inR (3 : Int) L)) (inR (3 : Int) L) (fst_ball n _ (by have := inR_len (3 : Int) L; have := HA.out.2.2.1; omega)) (fun x hx => HA.out.2.1 x (List.mem_filter.1 hx).1) a1 a c1 c w6 l1 (H5.out.2.2.1.below t6.2.2) (by omega) (by have := inR_len (3 : Int) L; omega)
              rw [← hm.out] at hfi
              have H6 := Hid.mk (And.intro t6 (And.intro l1 (And.intro T6 (And.intro b6 (And.intro hSl hlim)))))
              clear i1 t6 l1 T6 b6 hSl hlim
              go_wp2_with fail
              refine hfi.mono ?_
              clear hfi
              rintro e w7 ⟨rfl, b7⟩
              have T7 := (H6.out.2.2.1.below b7).1
              have hl2 := tlist_any t K kpt X w7 T7
              replace b7 := Hid.mk b7
              clear T7
              go_wp2_with fail
              refine hl2.mono ?_
              clear hl2
              rintro e w8 ⟨vt, rfl, t8⟩
              obtain ⟨a2, c2, rfl, l2⟩ := HRow.lat t8.1
              have l1' : LAt w8 a1 (srtL (inR (3 : Int) L)) := (H6.out.2.1.below b7.out).below t8.2.2
              have HE : Hid (∀ W, Drew w8 W → Below w.heap.size w W) := fun W hd => (H6.out.2.2.2.1.trans (b7.out.mono H6.out.2.2.2.1.size)).trans (((t8.2.2).mono (Nat.le_trans H6.out.2.2.2.1.size b7.out.size)).trans (hd.below _))
              have HL := Hid.mk (And.intro l1' (And.intro l2 HX.out))
              obtain ⟨nX, hnX⟩ : ∃ nX, nX = X.length := ⟨_, rfl⟩
              obtain ⟨nS, hnS⟩ : ∃ nS, nS = (srtL (inR (3 : Int) L)).length := ⟨_, rfl⟩
              have HN1 := Hid.mk (And.intro hnX hnS)
              rw [← hnX, ← hnS]
              have hnXl : nX < 4611686018427387904 := by have := topL_len K L; rw [← HX.out] at this; omega
              clear l1' l2 t8 b5 b7 hm hnX hnS B4 bwr H5 H6
              go_wp2_with fail
              go_loopw [17] (fun u wr => RT w8 nX u wr) (fun u _ => nX - (intOf u).toNat)
              case atStart => exact ⟨0, rfl, Nat.zero_le _, Drew.refl _⟩
              case round =>
                obtain ⟨i, rfl, hi, hdr⟩ := hrel
                by_cases hlt : i < nX
                · have i1 : (i : Int) < (nX : Int) := by omega
                  have i2 : (0 : Int) ≤ (i : Int) := by omega
                  have hiX : i < X.length := by have := HN1.out.1; omega
                  obtain ⟨g, o, e1, x0, x1, x2⟩ := HL.out.2.1.hit (W := wr) (fun k _ => drew_heap hdr k) i hiX
                  subst e1
                  obtain ⟨h, hh⟩ : ∃ h, h = X[i] := ⟨_, rfl⟩
                  rw [← hh] at x0 x1 x2
                  have hwi : IntKind.i64.wrap ((i : Int) + 1) = ((i + 1 : Nat) : Int) := by rw [IntKind.wrap_i64]; omega
                  have HN : Hid (RT w8 nX (.int .i64 ((i + 1 : Nat) : Int)) wr.drew) := ⟨i + 1, rfl, hlt, hdr.drew⟩
                  by_cases hd : h.d ≤ (3 : Int)
                  · have hS := within_at (r := (3 : Int)) (k := K) (L := L) (i := i) (x := h) (by rw [← HL.out.2.2, List.getElem?_eq_getElem hiX, hh]) hd
                    have hiS : i < (srtL (inR (3 : Int) L)).length := (List.getElem?_eq_some_iff.1 hS).1
                    obtain ⟨g2, o2, e2, y0, y1, y2⟩ := HL.out.1.hit (W := wr) (fun k _ => drew_heap hdr k) i hiS
                    subst e2
                    rw [List.getElem?_eq_getElem hiS] at hS
                    replace hS := Option.some.inj hS
                    rw [hS] at y0 y1 y2
                    have i3 : (i : Int) < (nS : Int) := by have := HN1.out.2; omega
                    have i4 : ¬ (nS : Int) ≤ (i : Int) := by omega
                    have i5 : ¬ nS ≤ i := by omega
                    clear hh hS HN1 HL HX hiX hiS
                    go_wp2
                    go_region
                    all_goals
                      go_wp2
                      exact ⟨HN.out, by simp only [intOf]; omega⟩
                  · have hd2 : decide (h.d ≤ (3 : Int)) = false := decide_eq_false hd
                    clear hh HN1 HL HX hiX hd
                    go_wp2
                    go_region
                    all_goals
                      go_wp2
                      exact ⟨HN.out, by simp only [intOf]; omega⟩
                · have i1 : ¬ (i : Int) < (nX : Int) := by omega
                  go_wp2
                  go_ret
                  exact ⟨rfl, HE.out _ hdr⟩
    · have HR0 : Hid (0 ≤ r ∧ r ≤ 1024) := ⟨by omega, by omega⟩
      have hnb := newBall_any r HR0.out.1 HR0.out.2 w1'
      go_wp2_with fail
      refine hnb.mono ?_
      clear hnb
      rintro e w2 ⟨b, kpb, rfl, B2, F2, fb⟩
      have hh1 := handed_any K hK L HA.out.2.1 la ca false w2 ((HA.out.1.below b1).below (F2.2)) HA.out.2.2.2.1
      rw [← HA.out.2.2.1] at hh1
      go_wp2_with fail
      refine hh1.mono ?_
      clear hh1
      rintro e w3 ⟨t, kpt, rfl, O3⟩
      obtain ⟨X, hX⟩ : ∃ X, X = topL K (way false L) := ⟨_, rfl⟩
      rw [← hX] at O3
      have HX : Hid (X = topL K L) := hX
      clear hX
      have B3 : Hid (BTwo w1' w3 b r kpb t K kpt [] X) := ⟨(B2.below O3.below).1, O3.tt, fun j hj => F2.1 j (((B2.below O3.below).2 j).1 hj), fun j h1 h2 => by
        have h3 := B2.2.ftlt j (((B2.below O3.below).2 j).1 h1)
        have h4 := O3.far j h2
        omega, F2.2.trans (O3.below.mono F2.2.size)⟩
      clear B2 F2 fb O3
      go_wp2_with fail
      go_loopw [11] (fun u wr => RB w1' b r kpb t K kpt L X u wr) (fun u _ => n - (intOf u).toNat)
      case atStart => exact ⟨0, rfl, Nat.zero_le _, B3⟩
      case round =>
        clear B3
        obtain ⟨i, rfl, hi, HR⟩ := hrel
        have bwr : Hid (Below w.heap.size w wr) := b1.trans (HR.out.below.mono b1.size)
        by_cases hlt : i < n
        · have i1 : (i : Int) < (n : Int) := by omega
          have i2 : (0 : Int) ≤ (i : Int) := by omega
          have hiL : i < L.length := by have := HA.out.2.2.1; omega
          obtain ⟨g, o, e1, x0, x1, x2⟩ := HA.out.1.hit (W := wr) (fun k hk => bwr.out.block k hk) i hiL
          subst e1
          obtain ⟨h, hh⟩ : ∃ h, h = L[i] := ⟨_, rfl⟩
          rw [← hh] at x0 x1 x2
          obtain ⟨Y, hY⟩ : ∃ Y, Y = srtL (inR r (L.take i)) := ⟨_, rfl⟩
          rw [← hY] at HR
          have hYl : Y.length < LIM := by
            have h1 := srtL_len (inR r (L.take i))
            have h2 := inR_len r (L.take i)
            have h3 := HA.out.2.2.2.2
            have h4 : (L.take i).length ≤ L.length := by rw [List.length_take]; omega
            rw [hY]; unfold LIM; omega
          have hadd := badd_any b kpb r Y h wr.drew (HR.out.b.below (b_drew wr)).1 (by rw [hh]; exact HA.out.2.1 _ (List.getElem_mem hiL)) hYl
          simp only [hC] at hadd
          have HN : Hid (∀ W, BT W b r kpb (putB r h Y) → FrK kpb wr.drew W → RB w1' b r kpb t K kpt L X (.int .i64 ((i + 1 : Nat) : Int)) W ∧ W.cell? ⟨g, o + i * 3, none⟩ = some (.int .i64 h.d) ∧ W.cell? ⟨g, o + i * 3 + 1, none⟩ = some (.int .i64 h.i) ∧ W.cell? ⟨g, o + i * 3 + 2, none⟩ = some (.string h.c)) := fun W hT hf => by
            have t6 := HR.out.frk hT ((HR.out.b.2.frk (b_drew wr)).trans hf)
            refine ⟨⟨i + 1, rfl, hiL, by rw [ball_step hiL, ← hh, ← hY]; exact t6⟩, ?_⟩
            have b6 : Below w.heap.size w W := b1.trans (t6.below.mono b1.size)
            obtain ⟨g', o', e', y0, y1, y2⟩ := HA.out.1.hit (W := W) (fun k hk => b6.block k hk) i hiL
            simp only [Option.some.injEq, Addr.mk.injEq] at e'
            obtain ⟨rfl, rfl, -⟩ := e'
            rw [← hh] at y0 y1 y2
            exact ⟨y0, y1, y2⟩
          have hwi : IntKind.i64.wrap ((i : Int) + 1) = ((i + 1 : Nat) : Int) := by rw [IntKind.wrap_i64]; omega
          obtain ⟨bq, hbq⟩ : ∃ bq, bq = decide (h.d ≤ r) := ⟨_, rfl⟩
          rw [← hbq] at hadd
          replace hbq := hbq.symm
          clear hh hY HR bwr hYl
          go_wp2_with fail
          go_region_held (fun w' => w'.cell? ⟨g, o + i * 3, none⟩ = some (.int .i64 h.d) ∧ w'.cell? ⟨g, o + i * 3 + 1, none⟩ = some (.int .i64 h.i) ∧ w'.cell? ⟨g, o + i * 3 + 2, none⟩ = some (.string h.c))
            (first | exact y6 | exact ⟨x0, x1, x2⟩)
            ((go_at_call 21; refine hadd.mono ?_; clear hadd; rintro e w6 ⟨rfl, T6, f6⟩; have y6 := (HN.out _ T6 f6).2))
          all_goals
            go_wp2
            exact ⟨(HN.out _ T6 f6).1, by simp only [intOf]; omega⟩
        · have i1 : ¬ (i : Int) < (n : Int) := by omega
          have B4 : Hid (BTwo w1' wr b r kpb t K kpt (srtL (inR r L)) X) := by
            have := HR.out
            rw [List.take_of_length_le (by have := HA.out.2.2.1; omega)] at this
            exact this
          obtain ⟨w4, rfl⟩ : ∃ w4, w4 = wr := ⟨_, rfl⟩
          clear HR hi hlt
          go_wp2_with fail
          clear i1
          go_loopw [12, 13] (fun uv ui wr => RP w4 r L uv ui wr) (fun _ u _ => n - (intOf u).toNat)
          case atStart => exact ⟨0, none, 0, 0, rfl, rfl, Nat.zero_le _, rfl, ⟨rfl, .inl ⟨rfl, rfl⟩⟩, fun j hj => (by cases hj), Below.refl _ _⟩
          case round =>
            obtain ⟨i, a, m, c, rfl, rfl, hi, HP⟩ := hrel
            have b5 : Hid (Below w.heap.size w wr) := bwr.out.trans (HP.out.2.2.2.mono bwr.out.size)
            by_cases hlt : i < n
            · have i1 : (i : Int) < (n : Int) := by omega
              have i2 : (0 : Int) ≤ (i : Int) := by omega
              have hiL : i < L.length := by have := HA.out.2.2.1; omega
              obtain ⟨g, o, e1, x0, x1, x2⟩ := HA.out.1.hit (W := wr) (fun k hk => b5.out.block k hk) i hiL
              subst e1
              obtain ⟨h, hh⟩ : ∃ h, h = L[i] := ⟨_, rfl⟩
              rw [← hh] at x0 x1 x2
              have hwi : IntKind.i64.wrap ((i : Int) + 1) = ((i + 1 : Nat) : Int) := by rw [IntKind.wrap_i64]; omega
              by_cases hd : h.d ≤ r
              · have hm := HP.out.1
                have hml : (inR r (L.take i)).length ≤ i := by
                  have h2 := inR_len r (L.take i)
                  rw [List.length_take] at h2; omega
                obtain ⟨v', w6, hap, ho, s6, hloc⟩ := ent_app1 wr (inR r (L.take i)) (.slice a m c) (by have h0 := HP.out.2.1; exact h0) h (by
                  have h3 := HA.out.2.2.2.2
                  omega)
                obtain ⟨a', c', hv', -⟩ := slice_form ho
                subst hv'
                have HN : Hid (RP w4 r L (.slice a' (inR r (L.take i) ++ [h]).length c') (.int .i64 ((i + 1 : Nat) : Int)) w6) := by
                  have e : inR r (L.take (i + 1)) = inR r (L.take i) ++ [h] := by rw [hh]; exact inR_yes hiL (by rw [← hh]; exact hd)
                  refine ⟨i + 1, a', _, c', rfl, rfl, hiL, by rw [e], by rw [e]; exact ho, fun j hj => ?_, ?_⟩
                  · rcases hloc j hj with h1 | h1
                    · exact HP.out.2.2.1 j h1
                    · exact Nat.le_trans HP.out.2.2.2.size h1
                  · exact HP.out.2.2.2.trans (s6.toBelow (fun j hj hF => by have := HP.out.2.2.1 j hF; omega) HP.out.2.2.2.size)
                obtain ⟨m', hm'⟩ : ∃ m', m' = (inR r (L.take i) ++ [h]).length := ⟨_, rfl⟩
                rw [← hm'] at HN hap
                simp only [hC] at hap
                clear hh HP b5 ho s6 hloc hm hml hm' B4
                go_wp2_with (at_builtin; refine wpList_append_eq rfl _ _ _ _ rfl _ _ _ _ rfl rfl hap ?_; clear hap)
                exact ⟨HN.out, by simp only [intOf]; omega⟩
              · have HN : Hid (RP w4 r L (.slice a m c) (.int .i64 ((i + 1 : Nat) : Int)) wr) := by
                  have e : inR r (L.take (i + 1)) = inR r (L.take i) := inR_no hiL (by rw [← hh]; exact hd)
                  refine ⟨i + 1, a, m, c, rfl, rfl, hiL, ?_⟩
                  rw [e]; exact HP.out
                clear hh HP b5 B4
                go_wp2
                exact ⟨HN.out, by simp only [intOf]; omega⟩
            · have i1 : ¬ (i : Int) < (n : Int) := by omega
              have htk : L.take i = L := List.take_of_length_le (by have := HA.out.2.2.1; omega)
              rw [htk] at HP
              obtain ⟨hm0, hrow, -, hbl⟩ := HP.out
              have hm := Hid.mk hm0
              clear hm0
              obtain ⟨a0, c0, e0, lw⟩ := HRow.lat hrow
              simp only [Value.slice.injEq] at e0
              obtain ⟨rfl, -, rfl⟩ := e0
              have B5 := (B4.out.b.below hbl).1
              have T5 := (B4.out.t.below hbl).1
              have hl1 := blist_any b kpb r (srtL (inR r L)) wr B5
              obtain ⟨w5, rfl⟩ : ∃ w5, w5 = wr := ⟨_, rfl⟩
              have H5 := Hid.mk (And.intro B5 (And.intro T5 (And.intro lw hbl)))
              clear HP htk hi hlt B5 T5 lw hbl hrow
              go_wp2_with fail
              refine hl1.mono ?_
              clear hl1
              rintro e w6 ⟨vl, rfl, t6⟩
              obtain ⟨a1, c1, rfl, l1⟩ := HRow.lat t6.1
              have T6 := (H5.out.2.1.below t6.2.2).1
              have b6 : Below w.heap.size w w6 := b5.out.trans (t6.2.2.mono b5.out.size)
              have hSl : (srtL (inR r L)).length ≤ L.length := Nat.le_trans (srtL_len _) (inR_len _ _)
              have hlim := HA.out.2.2.2.2
              have hfi := first_any n hnl (srtL (inR r L)) (inR r L) (fst_ball n _ (by have := inR_len r L; have := HA.out.2.2.1; omega)) (fun x hx => HA.out.2.1 x (List.mem_filter.1 hx).1) a1 a c1 c w6 l1 (H5.out.2.2.1.below t6.2.2) (by omega) (by have := inR_len r L; omega)
              rw [← hm.out] at hfi
              have H6 := Hid.mk (And.intro t6 (And.intro l1 (And.intro T6 (And.intro b6 (And.intro hSl hlim)))))
              clear i1 t6 l1 T6 b6 hSl hlim
              go_wp2_with fail
              refine hfi.mono ?_
              clear hfi
              rintro e w7 ⟨rfl, b7⟩
              have T7 := (H6.out.2.2.1.below b7).1
              have hl2 := tlist_any t K kpt X w7 T7
              replace b7 := Hid.mk b7
              clear T7
              go_wp2_with fail
              refine hl2.mono ?_
              clear hl2
              rintro e w8 ⟨vt, rfl, t8⟩
              obtain ⟨a2, c2, rfl, l2⟩ := HRow.lat t8.1
              have l1' : LAt w8 a1 (srtL (inR r L)) := (H6.out.2.1.below b7.out).below t8.2.2
              have HE : Hid (∀ W, Drew w8 W → Below w.heap.size w W) := fun W hd => (H6.out.2.2.2.1.trans (b7.out.mono H6.out.2.2.2.1.size)).trans (((t8.2.2).mono (Nat.le_trans H6.out.2.2.2.1.size b7.out.size)).trans (hd.below _))
              have HL := Hid.mk (And.intro l1' (And.intro l2 HX.out))
              obtain ⟨nX, hnX⟩ : ∃ nX, nX = X.length := ⟨_, rfl⟩
              obtain ⟨nS, hnS⟩ : ∃ nS, nS = (srtL (inR r L)).length := ⟨_, rfl⟩
              have HN1 := Hid.mk (And.intro hnX hnS)
              rw [← hnX, ← hnS]
              have hnXl : nX < 4611686018427387904 := by have := topL_len K L; rw [← HX.out] at this; omega
              clear l1' l2 t8 b5 b7 hm hnX hnS B4 bwr H5 H6
              go_wp2_with fail
              go_loopw [17] (fun u wr => RT w8 nX u wr) (fun u _ => nX - (intOf u).toNat)
              case atStart => exact ⟨0, rfl, Nat.zero_le _, Drew.refl _⟩
              case round =>
                obtain ⟨i, rfl, hi, hdr⟩ := hrel
                by_cases hlt : i < nX
                · have i1 : (i : Int) < (nX : Int) := by omega
                  have i2 : (0 : Int) ≤ (i : Int) := by omega
                  have hiX : i < X.length := by have := HN1.out.1; omega
                  obtain ⟨g, o, e1, x0, x1, x2⟩ := HL.out.2.1.hit (W := wr) (fun k _ => drew_heap hdr k) i hiX
                  subst e1
                  obtain ⟨h, hh⟩ : ∃ h, h = X[i] := ⟨_, rfl⟩
                  rw [← hh] at x0 x1 x2
                  have hwi : IntKind.i64.wrap ((i : Int) + 1) = ((i + 1 : Nat) : Int) := by rw [IntKind.wrap_i64]; omega
                  have HN : Hid (RT w8 nX (.int .i64 ((i + 1 : Nat) : Int)) wr.drew) := ⟨i + 1, rfl, hlt, hdr.drew⟩
                  by_cases hd : h.d ≤ r
                  · have hS := within_at (r := r) (k := K) (L := L) (i := i) (x := h) (by rw [← HL.out.2.2, List.getElem?_eq_getElem hiX, hh]) hd
                    have hiS : i < (srtL (inR r L)).length := (List.getElem?_eq_some_iff.1 hS).1
                    obtain ⟨g2, o2, e2, y0, y1, y2⟩ := HL.out.1.hit (W := wr) (fun k _ => drew_heap hdr k) i hiS
                    subst e2
                    rw [List.getElem?_eq_getElem hiS] at hS
                    replace hS := Option.some.inj hS
                    rw [hS] at y0 y1 y2
                    have i3 : (i : Int) < (nS : Int) := by have := HN1.out.2; omega
                    have i4 : ¬ (nS : Int) ≤ (i : Int) := by omega
                    have i5 : ¬ nS ≤ i := by omega
                    clear hh hS HN1 HL HX hiX hiS
                    go_wp2
                    go_region
                    all_goals
                      go_wp2
                      exact ⟨HN.out, by simp only [intOf]; omega⟩
                  · have hd2 : decide (h.d ≤ r) = false := decide_eq_false hd
                    clear hh HN1 HL HX hiX hd
                    go_wp2
                    go_region
                    all_goals
                      go_wp2
                      exact ⟨HN.out, by simp only [intOf]; omega⟩
                · have i1 : ¬ (i : Int) < (nX : Int) := by omega
                  go_wp2
                  go_ret
                  exact ⟨rfl, HE.out _ hdr⟩
end Go.Proofs.Ytnhihpekdimbbaa
