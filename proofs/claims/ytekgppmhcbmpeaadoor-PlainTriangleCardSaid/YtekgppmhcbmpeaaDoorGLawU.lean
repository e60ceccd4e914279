/-
  DERIVED. PlainTriangle: its walk.
-/
import Derived.Test.YtekgppmhcbmpeaaDoorGLawT
set_option linter.unusedVariables false
set_option linter.unusedSimpArgs false
namespace Go.Proofs.YtekgppmhcbmpeaaDoor
open Go.RowKit Go.Proofs.BitMath
set_option maxHeartbeats 16000000 in
set_option maxRecDepth 100000 in
theorem law_triangle (x r : Int) (hr : I64 r) (ps : List Pr) (hps : ∀ y ∈ ps, I64 y.i ∧ y.c.size ≤ 140737488351232) (q p : ByteArray) (hq : q.size ≤ 140737488351232) (hp : p.size ≤ 140737488351232) (la : Option Addr) (ca : Nat) (w : World) (ha : PLAt w la ps) (hl : ps.length < 4611686018427387904) (ht : Tab w) :
    Calls Tryd.prog 3 #[.int .i64 x, .slice la ps.length ca, .string q, .string p, .int .i64 r] w fun e w' => e = .returned (.bool true) ∧ Below w.heap.size w w' := by
  have hbg := begun_any w ht
  have hwd := fun W => width_any x W
  obtain ⟨wd, hwe⟩ : ∃ wd, wd = wOf x := ⟨_, rfl⟩
  have hW : isW wd = true := by rw [hwe]; exact wOf_isW x
  have hb := isW_bd hW
  rw [← hwe] at hwd
  clear hwe
  obtain ⟨n, hn⟩ : ∃ n : Nat, wd / 8 = n := ⟨(wd / 8).toNat, by omega⟩
  have hn1 : n ≤ 1024 := by omega
  have hf1 := fun W => fit_any q n wd W hq hn1 hn (by omega)
  have hf2 := fun W => fit_any p n wd W hp hn1 hn (by omega)
  have sq := fitC_size q n
  have sp := fitC_size p n
  obtain ⟨q', hq'⟩ : ∃ q', q' = fitC q n := ⟨_, rfl⟩
  obtain ⟨p', hp'⟩ : ∃ p', p' = fitC p n := ⟨_, rfl⟩
  rw [← hq'] at sq hf1
  rw [← hp'] at sp hf2
  have hfl := fun W (h : PLAt W la ps) => filled_any wd n hW hn ps hps la ca W h hl
  obtain ⟨len, hlen⟩ : ∃ len, len = ps.length := ⟨_, rfl⟩
  rw [← hlen] at hfl ⊢
  obtain ⟨L, hL⟩ : ∃ L, L = flL n ps := ⟨_, rfl⟩
  rw [← hL] at hfl
  have HA := Hid.mk (And.intro ha (And.intro ht (And.intro hW (And.intro hn (And.intro sq (And.intro sp hb))))))
  clear ha ht hq' hp' hL hlen hps hl hq hp hW hb hn hn1 sq sp
  go_enter Tryd.func3, Tryd.ntmps3
  go_wp2_with fail
  refine hbg.mono ?_
  clear hbg
  rintro e w1 ⟨rfl, b1⟩
  go_wp2_with fail
  refine (hwd _).mono ?_
  clear hwd
  rintro e w2 ⟨rfl, h2⟩
  subst h2
  go_wp2_with fail
  refine (hf1 _).mono ?_
  clear hf1
  rintro e w3 ⟨rfl, b3⟩
  go_wp2_with fail
  refine (hf2 _).mono ?_
  clear hf2
  rintro e w4 ⟨rfl, b4⟩
  have b14 : Below w.heap.size w w4 := (b1.trans (b3.mono b1.size)).trans (b4.mono (Nat.le_trans b1.size b3.size))
  have hfl4 := hfl w4 (HA.out.1.below b14)
  clear hfl
  go_wp2_with fail
  refine hfl4.mono ?_
  clear hfl4
  rintro e w5 ⟨m, mb, a0, c0, rfl, F5⟩
  have b15 : Below w.heap.size w w5 := b14.trans (F5.st.mono b14.size)
  have t5 := HA.out.2.1.lat b15
  have hds := distance_yes q' p' w5 (by have := HA.out.2.2.2.2.1; have := HA.out.2.2.2.2.2.2; have := HA.out.2.2.2.1; omega) (by have := HA.out.2.2.2.2.1; have := HA.out.2.2.2.2.2.1; omega) t5
  obtain ⟨d, hd⟩ : ∃ d : Nat, d = dQ q' p' := ⟨_, rfl⟩
  have hd2 : wt (xorL q'.data.toList p'.data.toList) = d := hd.symm
  rw [hd2] at hds
  have hdl : (d : Int) ≤ 1024 := by
    have h1 := dQ_le (q := q') (c := p') (by rw [HA.out.2.2.2.2.1, HA.out.2.2.2.2.2.1])
    have h2 := HA.out.2.2.2.1
    have h3 := HA.out.2.2.2.2.2.2
    have h4 := HA.out.2.2.2.2.1
    omega
  have HK : Hid (Kept wd n L) := F5.kept HA.out.2.2.2.1
  have HF := Hid.mk (And.intro F5 (And.intro b15 (And.intro t5 hd)))
  obtain ⟨nl, hnl⟩ : ∃ nl, nl = L.length := ⟨_, rfl⟩
  rw [← hnl]
  clear F5 b1 b3 b4 b14 b15 t5 hd hd2 hnl
  go_wp2_with fail
  refine hds.mono ?_
  clear hds
  rintro e w6 ⟨rfl, d6⟩
  have HM : Hid (MP w6 m mb wd L L.length ∧ Tab w6 ∧ Below w.heap.size w w6) := ⟨HF.out.1.mp.below (d6.below _), HF.out.2.2.1.later d6, HF.out.2.1.trans (d6.below _)⟩
  have HD : Hid (d = dQ q' p') := HF.out.2.2.2
  have HZ : Hid (L.length ≤ 1048576) := by have := HF.out.1.len; show _ ≤ _; omega
  clear HF d6
  have hR := fun W (h : MP W m mb wd L L.length) (t : Tab W) (c : ByteArray) (hc : c.size = n) (ra : Int) (h0 : 0 ≤ ra ∧ ra ≤ wd) => radius_any m mb wd L.length L c ra W h (by have := HA.out.2.2.2.1; omega) h0 t HZ.out
  have HR := Hid.mk hR
  have hb := HA.out.2.2.2.2.2.2
  clear hR
  by_cases hr0 : r < 0
  · have k0 : decide (r < 0) = true := decide_eq_true hr0
    as_aux_lemma =>
      have hin : 0 ≤ (2 : Int) ∧ (2 : Int) ≤ wd := by omega
      by_cases hfar : wd < 2 + d
      · have HF : Hid (0 ≤ (wd : Int) ∧ (wd : Int) ≤ wd ∧ FarOk wd 2 (dQ q' p') wd) := ⟨by omega, by omega, Or.inr rfl⟩
        have hwf : IntKind.i64.wrap (2 + (d : Int)) = 2 + (d : Int) := by rw [IntKind.wrap_i64]; omega
        have kf : decide (wd < 2 + (d : Int)) = true := decide_eq_true hfar
        have HI := Hid.mk hin
        have r1 := HR.out w6 HM.out.1 HM.out.2.1 q' HA.out.2.2.2.2.1 2 hin
        clear hfar hin hr0
        go_wp2_with fail
        refine r1.mono ?_
        clear r1
        rintro e w7 ⟨v7, rfl, t7⟩
        have r2 := HR.out w7 (HM.out.1.below t7.2.2) (HM.out.2.1.lat t7.2.2) p' HA.out.2.2.2.2.2.1 wd ⟨HF.out.1, HF.out.2.1⟩
        obtain ⟨X, hX⟩ : ∃ X, X = srtL (inD 2 (hitsOf q' L)) := ⟨_, rfl⟩
        rw [← hX] at t7
        obtain ⟨a7, c7, hv, -, l7⟩ := t7.lat
        subst hv
        have HX := Hid.mk (And.intro hX (And.intro t7 l7))
        obtain ⟨nx, hnx⟩ : ∃ nx, nx = X.length := ⟨_, rfl⟩
        rw [← hnx]
        have HNX := Hid.mk hnx
        clear hX t7 l7 hnx
        go_wp2_with fail
        refine r2.mono ?_
        clear r2
        rintro e w8 ⟨v8, rfl, t8⟩
        obtain ⟨Y, hY⟩ : ∃ Y, Y = srtL (inD wd (hitsOf p' L)) := ⟨_, rfl⟩
        rw [← hY] at t8
        obtain ⟨a8, c8, hv, -, l8⟩ := t8.lat
        subst hv
        have HT : Hid (TwoL w w8 wd n L q' p' 2 wd X Y a7 a8) := ⟨HK.out, HA.out.2.2.2.2.1, HA.out.2.2.2.2.2.1, HX.out.1, hY, HF.out.2.2, HX.out.2.2.below t8.2.2, l8, (HM.out.2.2.trans (HX.out.2.1.2.2.mono HM.out.2.2.size)).trans (t8.2.2.mono (Nat.le_trans HM.out.2.2.size HX.out.2.1.2.2.size))⟩
        have hnxl : (nx : Int) < 4611686018427387904 := by
          have h1 := srtL_le (inD 2 (hitsOf q' L))
          have h2 : (inD 2 (hitsOf q' L)).length ≤ (hitsOf q' L).length := List.length_filter_le _ _
          have h3 : (hitsOf q' L).length = L.length := by simp [hitsOf]
          have h4 := HZ.out
          have h5 := HNX.out
          rw [HX.out.1] at h5
          omega
        have hnyl : (Y.length : Int) < 4611686018427387904 := by
          have h1 := srtL_le (inD wd (hitsOf p' L))
          have h2 : (inD wd (hitsOf p' L)).length ≤ (hitsOf p' L).length := List.length_filter_le _ _
          have h3 : (hitsOf p' L).length = L.length := by simp [hitsOf]
          have h4 := HZ.out
          rw [hY]
          omega
        have HB := Hid.mk (And.intro hnxl hnyl)
        obtain ⟨ny, hny⟩ : ∃ ny, ny = Y.length := ⟨_, rfl⟩
        rw [← hny]
        have HNY := Hid.mk hny
        clear hY t8 l8 hny HX HM HR hwf kf hnxl hnyl
        go_wp2_with fail
        go_loopw [22] (fun iv wr => RTo w8 X iv wr) (fun u _ => nx - (intOf u).toNat)
        case atStart => exact ⟨0, rfl, Nat.zero_le _, Drew.refl _⟩
        case round =>
          obtain ⟨i, rfl, hi, hdr⟩ := hrel
          have hhp : ∀ k : Nat, wr.heap[k]? = w8.heap[k]? := fun k => by obtain ⟨m, rfl⟩ := hdr; rfl
          by_cases hlt : i < nx
          · have i1 : (i : Int) < (nx : Int) := by omega
            have i2 : (0 : Int) ≤ (i : Int) := by omega
            have hiX : i < X.length := by have := HNX.out; omega
            obtain ⟨g, o, e1, x0, x1, x2⟩ := HT.out.la.hit (W := w8) (fun k _ => rfl) i hiX
            subst e1
            obtain ⟨A, hA⟩ : ∃ A, A = X[i] := ⟨_, rfl⟩
            rw [← hA] at x0 x1 x2
            have hAm : A ∈ srtL (inD 2 (hitsOf q' L)) := by rw [hA, ← HT.out.hX]; exact List.getElem_mem hiX
            have HAm := Hid.mk hAm
            have hwi : IntKind.i64.wrap ((i : Int) + 1) = ((i + 1 : Nat) : Int) := by have := HB.out.1; rw [IntKind.wrap_i64]; omega
            have HJ : Hid (i + 1 ≤ X.length) := hiX
            clear hA hAm hhp hiX
            go_wp2
            go_loopw [23, 24] (fun tv jv wr => RTi w8 A.i Y tv jv wr) (fun _ u _ => ny - (intOf u).toNat)
            case atStart => exact ⟨0, false, rfl, rfl, Nat.zero_le _, rfl, hdr⟩
            case round =>
              clear hdr
              obtain ⟨j, tw, rfl, rfl, hj, htw, hdj⟩ := hrel
              have hnY := HNY.out
              by_cases hjl : j < ny
              · have j1 : (j : Int) < (ny : Int) := by omega
                have j2 : (0 : Int) ≤ (j : Int) := by omega
                have hjY : j < Y.length := by omega
                obtain ⟨g2, o2, e2, y0, y1, y2⟩ := HT.out.lb.hit (W := w8) (fun k _ => rfl) j hjY
                subst e2
                have HTk := Hid.mk (any_tk Y A.i j hjY)
                obtain ⟨Bh, hB⟩ : ∃ Bh, Bh = Y[j] := ⟨_, rfl⟩
                rw [← hB] at y0 y1 y2 HTk
                rw [← htw.out] at HTk
                have hBm : Bh ∈ srtL (inD wd (hitsOf p' L)) := by rw [hB, ← HT.out.hY]; exact List.getElem_mem hjY
                have hcl : ∀ q, wr.cell? q = w8.cell? q := fun q => by obtain ⟨k, rfl⟩ := hdj; rfl
                replace y0 := (hcl _).trans y0
                replace y1 := (hcl _).trans y1
                replace y2 := (hcl _).trans y2
                have z0 := (hcl _).trans x0
                have z1 := (hcl _).trans x1
                have z2 := (hcl _).trans x2
                have hwj : IntKind.i64.wrap ((j : Int) + 1) = ((j + 1 : Nat) : Int) := by have := HB.out.2; rw [IntKind.wrap_i64]; omega
                have HJY : Hid (j + 1 ≤ Y.length) := hjY
                by_cases he : Bh.i = A.i
                · obtain ⟨hc, k1, k2, k3, k4, k5, k6⟩ := tri_hit HK.out HA.out.2.2.2.2.1 HA.out.2.2.2.2.2.1 HAm.out hBm he
                  rw [he] at y1
                  rw [hc] at y2
                  rw [← HD.out] at k1 k2
                  have hwz : IntKind.i64.wrap (Bh.d - A.d) = Bh.d - A.d := by rw [IntKind.wrap_i64]; omega
                  have hwn : IntKind.i64.wrap (-(Bh.d - A.d)) = -(Bh.d - A.d) := by rw [IntKind.wrap_i64]; omega
                  obtain ⟨z, hz⟩ : ∃ z : Int, z = Bh.d - A.d := ⟨_, rfl⟩
                  rw [← hz] at hwz k1 k2 hwn
                  have HTT : Hid (true = (Y.take (j + 1)).any (fun y => y.i == A.i)) := by show _ = _; rw [HTk.out, he]; simp
                  have hee : (A.i == A.i) = true := by simp
                  have hwz2 : wrap64 (Bh.d - A.d) = z := by unfold wrap64; rw [hz]; omega
                  have hwn2 : wrap64 (-z) = -z := by unfold wrap64; omega
                  clear hz hcl hB hBm htw HTk k3 k4 k5 k6 hc he hjY hnY x0 x1 x2
                  go_wp2
                  go_quiet (fail)
                  go_wp2
                  go_quiet (fail)
                  go_wp2
                  go_quiet (fail)
                  go_wp2
                  exact ⟨⟨j + 1, true, rfl, by go_num, HJY.out, HTT.out, hdj.more _⟩, by simp only [intOf]; omega⟩
                · have hee : (Bh.i == A.i) = false := by simpa using he
                  have HTT : Hid (tw = (Y.take (j + 1)).any (fun y => y.i == A.i)) := by show _ = _; rw [HTk.out, hee]; simp
                  clear hcl hB hBm htw HTk he hjY hnY x0 x1 x2
                  go_wp2
                  go_quiet (fail)
                  go_wp2
                  exact ⟨⟨j + 1, tw, rfl, by go_num, HJY.out, HTT.out, hdj.more _⟩, by simp only [intOf]; omega⟩
              · have j1 : ¬ (j : Int) < (ny : Int) := by omega
                have htt : tw = true := by
                  rw [htw.out, List.take_of_length_le (by omega), HT.out.hY]
                  exact tri_there HK.out HA.out.2.2.2.2.1 HA.out.2.2.2.2.2.1 HF.out.2.2 HAm.out
                subst htt
                clear htw hnY
                go_wp2
                exact ⟨⟨i + 1, by go_num, HJ.out, hdj⟩, by simp only [intOf]; omega⟩
          · have i1 : ¬ (i : Int) < (nx : Int) := by omega
            have HE : Hid (Below w.heap.size w wr) := HT.out.st.trans (hdr.below _)
            clear hhp hdr hi
            go_wp2
            go_ret
            exact ⟨rfl, HE.out⟩
      · have HF : Hid (0 ≤ ((2 + d) : Int) ∧ ((2 + d) : Int) ≤ wd ∧ FarOk (2 + d) 2 (dQ q' p') wd) := ⟨by omega, by omega, Or.inl (by rw [← HD.out])⟩
        have hwf : IntKind.i64.wrap (2 + (d : Int)) = 2 + (d : Int) := by rw [IntKind.wrap_i64]; omega
        have kf : decide (wd < 2 + (d : Int)) = false := decide_eq_false hfar
        have HI := Hid.mk hin
        have r1 := HR.out w6 HM.out.1 HM.out.2.1 q' HA.out.2.2.2.2.1 2 hin
        clear hfar hin hr0
        go_wp2_with fail
        refine r1.mono ?_
        clear r1
        rintro e w7 ⟨v7, rfl, t7⟩
        have r2 := HR.out w7 (HM.out.1.below t7.2.2) (HM.out.2.1.lat t7.2.2) p' HA.out.2.2.2.2.2.1 (2 + d) ⟨HF.out.1, HF.out.2.1⟩
        obtain ⟨X, hX⟩ : ∃ X, X = srtL (inD 2 (hitsOf q' L)) := ⟨_, rfl⟩
        rw [← hX] at t7
        obtain ⟨a7, c7, hv, -, l7⟩ := t7.lat
        subst hv
        have HX := Hid.mk (And.intro hX (And.intro t7 l7))
        obtain ⟨nx, hnx⟩ : ∃ nx, nx = X.length := ⟨_, rfl⟩
        rw [← hnx]
        have HNX := Hid.mk hnx
        clear hX t7 l7 hnx
        go_wp2_with fail
        refine r2.mono ?_
        clear r2
        rintro e w8 ⟨v8, rfl, t8⟩
        obtain ⟨Y, hY⟩ : ∃ Y, Y = srtL (inD (2 + d) (hitsOf p' L)) := ⟨_, rfl⟩
        rw [← hY] at t8
        obtain ⟨a8, c8, hv, -, l8⟩ := t8.lat
        subst hv
        have HT : Hid (TwoL w w8 wd n L q' p' 2 (2 + d) X Y a7 a8) := ⟨HK.out, HA.out.2.2.2.2.1, HA.out.2.2.2.2.2.1, HX.out.1, hY, HF.out.2.2, HX.out.2.2.below t8.2.2, l8, (HM.out.2.2.trans (HX.out.2.1.2.2.mono HM.out.2.2.size)).trans (t8.2.2.mono (Nat.le_trans HM.out.2.2.size HX.out.2.1.2.2.size))⟩
        have hnxl : (nx : Int) < 4611686018427387904 := by
          have h1 := srtL_le (inD 2 (hitsOf q' L))
          have h2 : (inD 2 (hitsOf q' L)).length ≤ (hitsOf q' L).length := List.length_filter_le _ _
          have h3 : (hitsOf q' L).length = L.length := by simp [hitsOf]
          have h4 := HZ.out
          have h5 := HNX.out
          rw [HX.out.1] at h5
          omega
        have hnyl : (Y.length : Int) < 4611686018427387904 := by
          have h1 := srtL_le (inD (2 + d) (hitsOf p' L))
          have h2 : (inD (2 + d) (hitsOf p' L)).length ≤ (hitsOf p' L).length := List.length_filter_le _ _
          have h3 : (hitsOf p' L).length = L.length := by simp [hitsOf]
          have h4 := HZ.out
          rw [hY]
          omega
        have HB := Hid.mk (And.intro hnxl hnyl)
        obtain ⟨ny, hny⟩ : ∃ ny, ny = Y.length := ⟨_, rfl⟩
        rw [← hny]
        have HNY := Hid.mk hny
        clear hY t8 l8 hny HX HM HR hwf kf hnxl hnyl
        go_wp2_with fail
        go_loopw [22] (fun iv wr => RTo w8 X iv wr) (fun u _ => nx - (intOf u).toNat)
        case atStart => exact ⟨0, rfl, Nat.zero_le _, Drew.refl _⟩
        case round =>
          obtain ⟨i, rfl, hi, hdr⟩ := hrel
          have hhp : ∀ k : Nat, wr.heap[k]? = w8.heap[k]? := fun k => by obtain ⟨m, rfl⟩ := hdr; rfl
          by_cases hlt : i < nx
          · have i1 : (i : Int) < (nx : Int) := by omega
            have i2 : (0 : Int) ≤ (i : Int) := by omega
            have hiX : i < X.length := by have := HNX.out; omega
            obtain ⟨g, o, e1, x0, x1, x2⟩ := HT.out.la.hit (W := w8) (fun k _ => rfl) i hiX
            subst e1
            obtain ⟨A, hA⟩ : ∃ A, A = X[i] := ⟨_, rfl⟩
            rw [← hA] at x0 x1 x2
            have hAm : A ∈ srtL (inD 2 (hitsOf q' L)) := by rw [hA, ← HT.out.hX]; exact List.getElem_mem hiX
            have HAm := Hid.mk hAm
            have hwi : IntKind.i64.wrap ((i : Int) + 1) = ((i + 1 : Nat) : Int) := by have := HB.out.1; rw [IntKind.wrap_i64]; omega
            have HJ : Hid (i + 1 ≤ X.length) := hiX
            clear hA hAm hhp hiX
            go_wp2
            go_loopw [23, 24] (fun tv jv wr => RTi w8 A.i Y tv jv wr) (fun _ u _ => ny - (intOf u).toNat)
            case atStart => exact ⟨0, false, rfl, rfl, Nat.zero_le _, rfl, hdr⟩
            case round =>
              clear hdr
              obtain ⟨j, tw, rfl, rfl, hj, htw, hdj⟩ := hrel
              have hnY := HNY.out
              by_cases hjl : j < ny
              · have j1 : (j : Int) < (ny : Int) := by omega
                have j2 : (0 : Int) ≤ (j : Int) := by omega
                have hjY : j < Y.length := by omega
                obtain ⟨g2, o2, e2, y0, y1, y2⟩ := HT.out.lb.hit (W := w8) (fun k _ => rfl) j hjY
                subst e2
                have HTk := Hid.mk (any_tk Y A.i j hjY)
                obtain ⟨Bh, hB⟩ : ∃ Bh, Bh = Y[j] := ⟨_, rfl⟩
                rw [← hB] at y0 y1 y2 HTk
                rw [← htw.out] at HTk
                have hBm : Bh ∈ srtL (inD (2 + d) (hitsOf p' L)) := by rw [hB, ← HT.out.hY]; exact List.getElem_mem hjY
                have hcl : ∀ q, wr.cell? q = w8.cell? q := fun q => by obtain ⟨k, rfl⟩ := hdj; rfl
                replace y0 := (hcl _).trans y0
                replace y1 := (hcl _).trans y1
                replace y2 := (hcl _).trans y2
                have z0 := (hcl _).trans x0
                have z1 := (hcl _).trans x1
                have z2 := (hcl _).trans x2
                have hwj : IntKind.i64.wrap ((j : Int) + 1) = ((j + 1 : Nat) : Int) := by have := HB.out.2; rw [IntKind.wrap_i64]; omega
                have HJY : Hid (j + 1 ≤ Y.length) := hjY
                by_cases he : Bh.i = A.i
                · obtain ⟨hc, k1, k2, k3, k4, k5, k6⟩ := tri_hit HK.out HA.out.2.2.2.2.1 HA.out.2.2.2.2.2.1 HAm.out hBm he
                  rw [he] at y1
                  rw [hc] at y2
                  rw [← HD.out] at k1 k2
                  have hwz : IntKind.i64.wrap (Bh.d - A.d) = Bh.d - A.d := by rw [IntKind.wrap_i64]; omega
                  have hwn : IntKind.i64.wrap (-(Bh.d - A.d)) = -(Bh.d - A.d) := by rw [IntKind.wrap_i64]; omega
                  obtain ⟨z, hz⟩ : ∃ z : Int, z = Bh.d - A.d := ⟨_, rfl⟩
                  rw [← hz] at hwz k1 k2 hwn
                  have HTT : Hid (true = (Y.take (j + 1)).any (fun y => y.i == A.i)) := by show _ = _; rw [HTk.out, he]; simp
                  have hee : (A.i == A.i) = true := by simp
                  have hwz2 : wrap64 (Bh.d - A.d) = z := by unfold wrap64; rw [hz]; omega
                  have hwn2 : wrap64 (-z) = -z := by unfold wrap64; omega
                  clear hz hcl hB hBm htw HTk k3 k4 k5 k6 hc he hjY hnY x0 x1 x2
                  go_wp2
                  go_quiet (fail)
                  go_wp2
                  go_quiet (fail)
                  go_wp2
                  go_quiet (fail)
                  go_wp2
                  exact ⟨⟨j + 1, true, rfl, by go_num, HJY.out, HTT.out, hdj.more _⟩, by simp only [intOf]; omega⟩
                · have hee : (Bh.i == A.i) = false := by simpa using he
                  have HTT : Hid (tw = (Y.take (j + 1)).any (fun y => y.i == A.i)) := by show _ = _; rw [HTk.out, hee]; simp
                  clear hcl hB hBm htw HTk he hjY hnY x0 x1 x2
                  go_wp2
                  go_quiet (fail)
                  go_wp2
                  exact ⟨⟨j + 1, tw, rfl, by go_num, HJY.out, HTT.out, hdj.more _⟩, by simp only [intOf]; omega⟩
              · have j1 : ¬ (j : Int) < (ny : Int) := by omega
                have htt : tw = true := by
                  rw [htw.out, List.take_of_length_le (by omega), HT.out.hY]
                  exact tri_there HK.out HA.out.2.2.2.2.1 HA.out.2.2.2.2.2.1 HF.out.2.2 HAm.out
                subst htt
                clear htw hnY
                go_wp2
                exact ⟨⟨i + 1, by go_num, HJ.out, hdj⟩, by simp only [intOf]; omega⟩
          · have i1 : ¬ (i : Int) < (nx : Int) := by omega
            have HE : Hid (Below w.heap.size w wr) := HT.out.st.trans (hdr.below _)
            clear hhp hdr hi
            go_wp2
            go_ret
            exact ⟨rfl, HE.out⟩
  · have k0 : decide (r < 0) = false := decide_eq_false hr0
    by_cases hr1 : wd < r
    · have k1 : decide (wd < r) = true := decide_eq_true hr1
      as_aux_lemma =>
        have hin : 0 ≤ (2 : Int) ∧ (2 : Int) ≤ wd := by omega
        by_cases hfar : wd < 2 + d
        · have HF : Hid (0 ≤ (wd : Int) ∧ (wd : Int) ≤ wd ∧ FarOk wd 2 (dQ q' p') wd) := ⟨by omega, by omega, Or.inr rfl⟩
          have hwf : IntKind.i64.wrap (2 + (d : Int)) = 2 + (d : Int) := by rw [IntKind.wrap_i64]; omega
          have kf : decide (wd < 2 + (d : Int)) = true := decide_eq_true hfar
          have HI := Hid.mk hin
          have r1 := HR.out w6 HM.out.1 HM.out.2.1 q' HA.out.2.2.2.2.1 2 hin
          clear hfar hin hr0 hr1
          go_wp2_with fail
          refine r1.mono ?_
          clear r1
          rintro e w7 ⟨v7, rfl, t7⟩
          have r2 := HR.out w7 (HM.out.1.below t7.2.2) (HM.out.2.1.lat t7.2.2) p' HA.out.2.2.2.2.2.1 wd ⟨HF.out.1, HF.out.2.1⟩
          obtain ⟨X, hX⟩ : ∃ X, X = srtL (inD 2 (hitsOf q' L)) := ⟨_, rfl⟩
          rw [← hX] at t7
          obtain ⟨a7, c7, hv, -, l7⟩ := t7.lat
          subst hv
          have HX := Hid.mk (And.intro hX (And.intro t7 l7))
          obtain ⟨nx, hnx⟩ : ∃ nx, nx = X.length := ⟨_, rfl⟩
          rw [← hnx]
          have HNX := Hid.mk hnx
          clear hX t7 l7 hnx
          go_wp2_with fail
          refine r2.mono ?_
          clear r2
          rintro e w8 ⟨v8, rfl, t8⟩
          obtain ⟨Y, hY⟩ : ∃ Y, Y = srtL (inD wd (hitsOf p' L)) := ⟨_, rfl⟩
          rw [← hY] at t8
          obtain ⟨a8, c8, hv, -, l8⟩ := t8.lat
          subst hv
          have HT : Hid (TwoL w w8 wd n L q' p' 2 wd X Y a7 a8) := ⟨HK.out, HA.out.2.2.2.2.1, HA.out.2.2.2.2.2.1, HX.out.1, hY, HF.out.2.2, HX.out.2.2.below t8.2.2, l8, (HM.out.2.2.trans (HX.out.2.1.2.2.mono HM.out.2.2.size)).trans (t8.2.2.mono (Nat.le_trans HM.out.2.2.size HX.out.2.1.2.2.size))⟩
          have hnxl : (nx : Int) < 4611686018427387904 := by
            have h1 := srtL_le (inD 2 (hitsOf q' L))
            have h2 : (inD 2 (hitsOf q' L)).length ≤ (hitsOf q' L).length := List.length_filter_le _ _
            have h3 : (hitsOf q' L).length = L.length := by simp [hitsOf]
            have h4 := HZ.out
            have h5 := HNX.out
            rw [HX.out.1] at h5
            omega
          have hnyl : (Y.length : Int) < 4611686018427387904 := by
            have h1 := srtL_le (inD wd (hitsOf p' L))
            have h2 : (inD wd (hitsOf p' L)).length ≤ (hitsOf p' L).length := List.length_filter_le _ _
            have h3 : (hitsOf p' L).length = L.length := by simp [hitsOf]
            have h4 := HZ.out
            rw [hY]
            omega
          have HB := Hid.mk (And.intro hnxl hnyl)
          obtain ⟨ny, hny⟩ : ∃ ny, ny = Y.length := ⟨_, rfl⟩
          rw [← hny]
          have HNY := Hid.mk hny
          clear hY t8 l8 hny HX HM HR hwf kf hnxl hnyl
          go_wp2_with fail
          go_loopw [22] (fun iv wr => RTo w8 X iv wr) (fun u _ => nx - (intOf u).toNat)
          case atStart => exact ⟨0, rfl, Nat.zero_le _, Drew.refl _⟩
          case round =>
            obtain ⟨i, rfl, hi, hdr⟩ := hrel
            have hhp : ∀ k : Nat, wr.heap[k]? = w8.heap[k]? := fun k => by obtain ⟨m, rfl⟩ := hdr; rfl
            by_cases hlt : i < nx
            · have i1 : (i : Int) < (nx : Int) := by omega
              have i2 : (0 : Int) ≤ (i : Int) := by omega
              have hiX : i < X.length := by have := HNX.out; omega
              obtain ⟨g, o, e1, x0, x1, x2⟩ := HT.out.la.hit (W := w8) (fun k _ => rfl) i hiX
              subst e1
              obtain ⟨A, hA⟩ : ∃ A, A = X[i] := ⟨_, rfl⟩
              rw [← hA] at x0 x1 x2
              have hAm : A ∈ srtL (inD 2 (hitsOf q' L)) := by rw [hA, ← HT.out.hX]; exact List.getElem_mem hiX
              have HAm := Hid.mk hAm
              have hwi : IntKind.i64.wrap ((i : Int) + 1) = ((i + 1 : Nat) : Int) := by have := HB.out.1; rw [IntKind.wrap_i64]; omega
              have HJ : Hid (i + 1 ≤ X.length) := hiX
              clear hA hAm hhp hiX
              go_wp2
              go_loopw [23, 24] (fun tv jv wr => RTi w8 A.i Y tv jv wr) (fun _ u _ => ny - (intOf u).toNat)
              case atStart => exact ⟨0, false, rfl, rfl, Nat.zero_le _, rfl, hdr⟩
              case round =>
                clear hdr
                obtain ⟨j, tw, rfl, rfl, hj, htw, hdj⟩ := hrel
                have hnY := HNY.out
                by_cases hjl : j < ny
                · have j1 : (j : Int) < (ny : Int) := by omega
                  have j2 : (0 : Int) ≤ (j : Int) := by omega
                  have hjY : j < Y.length := by omega
                  obtain ⟨g2, o2, e2, y0, y1, y2⟩ := HT.out.lb.hit (W := w8) (fun k _ => rfl) j hjY
                  subst e2
                  have HTk := Hid.mk (any_tk Y A.i j hjY)
                  obtain ⟨Bh, hB⟩ : ∃ Bh, Bh = Y[j] := ⟨_, rfl⟩
                  rw [← hB] at y0 y1 y2 HTk
                  rw [← htw.out] at HTk
                  have hBm : Bh ∈ srtL (inD wd (hitsOf p' L)) := by rw [hB, ← HT.out.hY]; exact List.getElem_mem hjY
                  have hcl : ∀ q, wr.cell? q = w8.cell? q := fun q => by obtain ⟨k, rfl⟩ := hdj; rfl
                  replace y0 := (hcl _).trans y0
                  replace y1 := (hcl _).trans y1
                  replace y2 := (hcl _).trans y2
                  have z0 := (hcl _).trans x0
                  have z1 := (hcl _).trans x1
                  have z2 := (hcl _).trans x2
                  have hwj : IntKind.i64.wrap ((j : Int) + 1) = ((j + 1 : Nat) : Int) := by have := HB.out.2; rw [IntKind.wrap_i64]; omega
                  have HJY : Hid (j + 1 ≤ Y.length) := hjY
                  by_cases he : Bh.i = A.i
                  · obtain ⟨hc, k1, k2, k3, k4, k5, k6⟩ := tri_hit HK.out HA.out.2.2.2.2.1 HA.out.2.2.2.2.2.1 HAm.out hBm he
                    rw [he] at y1
                    rw [hc] at y2
                    rw [← HD.out] at k1 k2
                    have hwz : IntKind.i64.wrap (Bh.d - A.d) = Bh.d - A.d := by rw [IntKind.wrap_i64]; omega
                    have hwn : IntKind.i64.wrap (-(Bh.d - A.d)) = -(Bh.d - A.d) := by rw [IntKind.wrap_i64]; omega
                    obtain ⟨z, hz⟩ : ∃ z : Int, z = Bh.d - A.d := ⟨_, rfl⟩
                    rw [← hz] at hwz k1 k2 hwn
                    have HTT : Hid (true = (Y.take (j + 1)).any (fun y => y.i == A.i)) := by show _ = _; rw [HTk.out, he]; simp
                    have hee : (A.i == A.i) = true := by simp
                    have hwz2 : wrap64 (Bh.d - A.d) = z := by unfold wrap64; rw [hz]; omega
                    have hwn2 : wrap64 (-z) = -z := by unfold wrap64; omega
                    clear hz hcl hB hBm htw HTk k3 k4 k5 k6 hc he hjY hnY x0 x1 x2
                    go_wp2
                    go_quiet (fail)
                    go_wp2
                    go_quiet (fail)
                    go_wp2
                    go_quiet (fail)
                    go_wp2
                    exact ⟨⟨j + 1, true, rfl, by go_num, HJY.out, HTT.out, hdj.more _⟩, by simp only [intOf]; omega⟩
                  · have hee : (Bh.i == A.i) = false := by simpa using he
                    have HTT : Hid (tw = (Y.take (j + 1)).any (fun y => y.i == A.i)) := by show _ = _; rw [HTk.out, hee]; simp
                    clear hcl hB hBm htw HTk he hjY hnY x0 x1 x2
                    go_wp2
                    go_quiet (fail)
                    go_wp2
                    exact ⟨⟨j + 1, tw, rfl, by go_num, HJY.out, HTT.out, hdj.more _⟩, by simp only [intOf]; omega⟩
                · have j1 : ¬ (j : Int) < (ny : Int) := by omega
                  have htt : tw = true := by
                    rw [htw.out, List.take_of_length_le (by omega), HT.out.hY]
                    exact tri_there HK.out HA.out.2.2.2.2.1 HA.out.2.2.2.2.2.1 HF.out.2.2 HAm.out
                  subst htt
                  clear htw hnY
                  go_wp2
                  exact ⟨⟨i + 1, by go_num, HJ.out, hdj⟩, by simp only [intOf]; omega⟩
            · have i1 : ¬ (i : Int) < (nx : Int) := by omega
              have HE : Hid (Below w.heap.size w wr) := HT.out.st.trans (hdr.below _)
              clear hhp hdr hi
              go_wp2
              go_ret
              exact ⟨rfl, HE.out⟩
        · have HF : Hid (0 ≤ ((2 + d) : Int) ∧ ((2 + d) : Int) ≤ wd ∧ FarOk (2 + d) 2 (dQ q' p') wd) := ⟨by omega, by omega, Or.inl (by rw [← HD.out])⟩
          have hwf : IntKind.i64.wrap (2 + (d : Int)) = 2 + (d : Int) := by rw [IntKind.wrap_i64]; omega
          have kf : decide (wd < 2 + (d : Int)) = false := decide_eq_false hfar
          have HI := Hid.mk hin
          have r1 := HR.out w6 HM.out.1 HM.out.2.1 q' HA.out.2.2.2.2.1 2 hin
          clear hfar hin hr0 hr1
          go_wp2_with fail
          refine r1.mono ?_
          clear r1
          rintro e w7 ⟨v7, rfl, t7⟩
          have r2 := HR.out w7 (HM.out.1.below t7.2.2) (HM.out.2.1.lat t7.2.2) p' HA.out.2.2.2.2.2.1 (2 + d) ⟨HF.out.1, HF.out.2.1⟩
          obtain ⟨X, hX⟩ : ∃ X, X = srtL (inD 2 (hitsOf q' L)) := ⟨_, rfl⟩
          rw [← hX] at t7
          obtain ⟨a7, c7, hv, -, l7⟩ := t7.lat
          subst hv
          have HX := Hid.mk (And.intro hX (And.intro t7 l7))
          obtain ⟨nx, hnx⟩ : ∃ nx, nx = X.length := ⟨_, rfl⟩
          rw [← hnx]
          have HNX := Hid.mk hnx
          clear hX t7 l7 hnx
          go_wp2_with fail
          refine r2.mono ?_
          clear r2
          rintro e w8 ⟨v8, rfl, t8⟩
          obtain ⟨Y, hY⟩ : ∃ Y, Y = srtL (inD (2 + d) (hitsOf p' L)) := ⟨_, rfl⟩
          rw [← hY] at t8
          obtain ⟨a8, c8, hv, -, l8⟩ := t8.lat
          subst hv
          have HT : Hid (TwoL w w8 wd n L q' p' 2 (2 + d) X Y a7 a8) := ⟨HK.out, HA.out.2.2.2.2.1, HA.out.2.2.2.2.2.1, HX.out.1, hY, HF.out.2.2, HX.out.2.2.below t8.2.2, l8, (HM.out.2.2.trans (HX.out.2.1.2.2.mono HM.out.2.2.size)).trans (t8.2.2.mono (Nat.le_trans HM.out.2.2.size HX.out.2.1.2.2.size))⟩
          have hnxl : (nx : Int) < 4611686018427387904 := by
            have h1 := srtL_le (inD 2 (hitsOf q' L))
            have h2 : (inD 2 (hitsOf q' L)).length ≤ (hitsOf q' L).length := List.length_filter_le _ _
            have h3 : (hitsOf q' L).length = L.length := by simp [hitsOf]
            have h4 := HZ.out
            have h5 := HNX.out
            rw [HX.out.1] at h5
            omega
          have hnyl : (Y.length : Int) < 4611686018427387904 := by
            have h1 := srtL_le (inD (2 + d) (hitsOf p' L))
            have h2 : (inD (2 + d) (hitsOf p' L)).length ≤ (hitsOf p' L).length := List.length_filter_le _ _
            have h3 : (hitsOf p' L).length = L.length := by simp [hitsOf]
            have h4 := HZ.out
            rw [hY]
            omega
          have HB := Hid.mk (And.intro hnxl hnyl)
          obtain ⟨ny, hny⟩ : ∃ ny, ny = Y.length := ⟨_, rfl⟩
          rw [← hny]
          have HNY := Hid.mk hny
          clear hY t8 l8 hny HX HM HR hwf kf hnxl hnyl
          go_wp2_with fail
          go_loopw [22] (fun iv wr => RTo w8 X iv wr) (fun u _ => nx - (intOf u).toNat)
          case atStart => exact ⟨0, rfl, Nat.zero_le _, Drew.refl _⟩
          case round =>
            obtain ⟨i, rfl, hi, hdr⟩ := hrel
            have hhp : ∀ k : Nat, wr.heap[k]? = w8.heap[k]? := fun k => by obtain ⟨m, rfl⟩ := hdr; rfl
            by_cases hlt : i < nx
            · have i1 : (i : Int) < (nx : Int) := by omega
              have i2 : (0 : Int) ≤ (i : Int) := by omega
              have hiX : i < X.length := by have := HNX.out; omega
              obtain ⟨g, o, e1, x0, x1, x2⟩ := HT.out.la.hit (W := w8) (fun k _ => rfl) i hiX
              subst e1
              obtain ⟨A, hA⟩ : ∃ A, A = X[i] := ⟨_, rfl⟩
              rw [← hA] at x0 x1 x2
              have hAm : A ∈ srtL (inD 2 (hitsOf q' L)) := by rw [hA, ← HT.out.hX]; exact List.getElem_mem hiX
              have HAm := Hid.mk hAm
              have hwi : IntKind.i64.wrap ((i : Int) + 1) = ((i + 1 : Nat) : Int) := by have := HB.out.1; rw [IntKind.wrap_i64]; omega
              have HJ : Hid (i + 1 ≤ X.length) := hiX
              clear hA hAm hhp hiX
              go_wp2
              go_loopw [23, 24] (fun tv jv wr => RTi w8 A.i Y tv jv wr) (fun _ u _ => ny - (intOf u).toNat)
              case atStart => exact ⟨0, false, rfl, rfl, Nat.zero_le _, rfl, hdr⟩
              case round =>
                clear hdr
                obtain ⟨j, tw, rfl, rfl, hj, htw, hdj⟩ := hrel
                have hnY := HNY.out
                by_cases hjl : j < ny
                · have j1 : (j : Int) < (ny : Int) := by omega
                  have j2 : (0 : Int) ≤ (j : Int) := by omega
                  have hjY : j < Y.length := by omega
                  obtain ⟨g2, o2, e2, y0, y1, y2⟩ := HT.out.lb.hit (W := w8) (fun k _ => rfl) j hjY
                  subst e2
                  have HTk := Hid.mk (any_tk Y A.i j hjY)
                  obtain ⟨Bh, hB⟩ : ∃ Bh, Bh = Y[j] := ⟨_, rfl⟩
                  rw [← hB] at y0 y1 y2 HTk
                  rw [← htw.out] at HTk
                  have hBm : Bh ∈ srtL (inD (2 + d) (hitsOf p' L)) := by rw [hB, ← HT.out.hY]; exact List.getElem_mem hjY
                  have hcl : ∀ q, wr.cell? q = w8.cell? q := fun q => by obtain ⟨k, rfl⟩ := hdj; rfl
                  replace y0 := (hcl _).trans y0
                  replace y1 := (hcl _).trans y1
                  replace y2 := (hcl _).trans y2
                  have z0 := (hcl _).trans x0
                  have z1 := (hcl _).trans x1
                  have z2 := (hcl _).trans x2
                  have hwj : IntKind.i64.wrap ((j : Int) + 1) = ((j + 1 : Nat) : Int) := by have := HB.out.2; rw [IntKind.wrap_i64]; omega
                  have HJY : Hid (j + 1 ≤ Y.length) := hjY
                  by_cases he : Bh.i = A.i
                  · obtain ⟨hc, k1, k2, k3, k4, k5, k6⟩ := tri_hit HK.out HA.out.2.2.2.2.1 HA.out.2.2.2.2.2.1 HAm.out hBm he
                    rw [he] at y1
                    rw [hc] at y2
                    rw [← HD.out] at k1 k2
                    have hwz : IntKind.i64.wrap (Bh.d - A.d) = Bh.d - A.d := by rw [IntKind.wrap_i64]; omega
                    have hwn : IntKind.i64.wrap (-(Bh.d - A.d)) = -(Bh.d - A.d) := by rw [IntKind.wrap_i64]; omega
                    obtain ⟨z, hz⟩ : ∃ z : Int, z = Bh.d - A.d := ⟨_, rfl⟩
                    rw [← hz] at hwz k1 k2 hwn
                    have HTT : Hid (true = (Y.take (j + 1)).any (fun y => y.i == A.i)) := by show _ = _; rw [HTk.out, he]; simp
                    have hee : (A.i == A.i) = true := by simp
                    have hwz2 : wrap64 (Bh.d - A.d) = z := by unfold wrap64; rw [hz]; omega
                    have hwn2 : wrap64 (-z) = -z := by unfold wrap64; omega
                    clear hz hcl hB hBm htw HTk k3 k4 k5 k6 hc he hjY hnY x0 x1 x2
                    go_wp2
                    go_quiet (fail)
                    go_wp2
                    go_quiet (fail)
                    go_wp2
                    go_quiet (fail)
                    go_wp2
                    exact ⟨⟨j + 1, true, rfl, by go_num, HJY.out, HTT.out, hdj.more _⟩, by simp only [intOf]; omega⟩
                  · have hee : (Bh.i == A.i) = false := by simpa using he
                    have HTT : Hid (tw = (Y.take (j + 1)).any (fun y => y.i == A.i)) := by show _ = _; rw [HTk.out, hee]; simp
                    clear hcl hB hBm htw HTk he hjY hnY x0 x1 x2
                    go_wp2
                    go_quiet (fail)
                    go_wp2
                    exact ⟨⟨j + 1, tw, rfl, by go_num, HJY.out, HTT.out, hdj.more _⟩, by simp only [intOf]; omega⟩
                · have j1 : ¬ (j : Int) < (ny : Int) := by omega
                  have htt : tw = true := by
                    rw [htw.out, List.take_of_length_le (by omega), HT.out.hY]
                    exact tri_there HK.out HA.out.2.2.2.2.1 HA.out.2.2.2.2.2.1 HF.out.2.2 HAm.out
                  subst htt
                  clear htw hnY
                  go_wp2
                  exact ⟨⟨i + 1, by go_num, HJ.out, hdj⟩, by simp only [intOf]; omega⟩
            · have i1 : ¬ (i : Int) < (nx : Int) := by omega
              have HE : Hid (Below w.heap.size w wr) := HT.out.st.trans (hdr.below _)
              clear hhp hdr hi
              go_wp2
              go_ret
              exact ⟨rfl, HE.out⟩
    · have k1 : decide (wd < r) = false := decide_eq_false hr1
      as_aux_lemma =>
        have hin : 0 ≤ (r : Int) ∧ (r : Int) ≤ wd := by omega
        by_cases hfar : wd < r + d
        · have HF : Hid (0 ≤ (wd : Int) ∧ (wd : Int) ≤ wd ∧ FarOk wd r (dQ q' p') wd) := ⟨by omega, by omega, Or.inr rfl⟩
          have hwf : IntKind.i64.wrap (r + (d : Int)) = r + (d : Int) := by rw [IntKind.wrap_i64]; omega
          have kf : decide (wd < r + (d : Int)) = true := decide_eq_true hfar
          have HI := Hid.mk hin
          have r1 := HR.out w6 HM.out.1 HM.out.2.1 q' HA.out.2.2.2.2.1 r hin
          clear hfar hin hr0 hr1
          go_wp2_with fail
          refine r1.mono ?_
          clear r1
          rintro e w7 ⟨v7, rfl, t7⟩
          have r2 := HR.out w7 (HM.out.1.below t7.2.2) (HM.out.2.1.lat t7.2.2) p' HA.out.2.2.2.2.2.1 wd ⟨HF.out.1, HF.out.2.1⟩
          obtain ⟨X, hX⟩ : ∃ X, X = srtL (inD r (hitsOf q' L)) := ⟨_, rfl⟩
          rw [← hX] at t7
          obtain ⟨a7, c7, hv, -, l7⟩ := t7.lat
          subst hv
          have HX := Hid.mk (And.intro hX (And.intro t7 l7))
          obtain ⟨nx, hnx⟩ : ∃ nx, nx = X.length := ⟨_, rfl⟩
          rw [← hnx]
          have HNX := Hid.mk hnx
          clear hX t7 l7 hnx
          go_wp2_with fail
          refine r2.mono ?_
          clear r2
          rintro e w8 ⟨v8, rfl, t8⟩
          obtain ⟨Y, hY⟩ : ∃ Y, Y = srtL (inD wd (hitsOf p' L)) := ⟨_, rfl⟩
          rw [← hY] at t8
          obtain ⟨a8, c8, hv, -, l8⟩ := t8.lat
          subst hv
          have HT : Hid (TwoL w w8 wd n L q' p' r wd X Y a7 a8) := ⟨HK.out, HA.out.2.2.2.2.1, HA.out.2.2.2.2.2.1, HX.out.1, hY, HF.out.2.2, HX.out.2.2.below t8.2.2, l8, (HM.out.2.2.trans (HX.out.2.1.2.2.mono HM.out.2.2.size)).trans (t8.2.2.mono (Nat.le_trans HM.out.2.2.size HX.out.2.1.2.2.size))⟩
          have hnxl : (nx : Int) < 4611686018427387904 := by
            have h1 := srtL_le (inD r (hitsOf q' L))
            have h2 : (inD r (hitsOf q' L)).length ≤ (hitsOf q' L).length := List.length_filter_le _ _
            have h3 : (hitsOf q' L).length = L.length := by simp [hitsOf]
            have h4 := HZ.out
            have h5 := HNX.out
            rw [HX.out.1] at h5
            omega
          have hnyl : (Y.length : Int) < 4611686018427387904 := by
            have h1 := srtL_le (inD wd (hitsOf p' L))
            have h2 : (inD wd (hitsOf p' L)).length ≤ (hitsOf p' L).length := List.length_filter_le _ _
            have h3 : (hitsOf p' L).length = L.length := by simp [hitsOf]
            have h4 := HZ.out
            rw [hY]
            omega
          have HB := Hid.mk (And.intro hnxl hnyl)
          obtain ⟨ny, hny⟩ : ∃ ny, ny = Y.length := ⟨_, rfl⟩
          rw [← hny]
          have HNY := Hid.mk hny
          clear hY t8 l8 hny HX HM HR hwf kf hnxl hnyl
          go_wp2_with fail
          go_loopw [22] (fun iv wr => RTo w8 X iv wr) (fun u _ => nx - (intOf u).toNat)
          case atStart => exact ⟨0, rfl, Nat.zero_le _, Drew.refl _⟩
          case round =>
            obtain ⟨i, rfl, hi, hdr⟩ := hrel
            have hhp : ∀ k : Nat, wr.heap[k]? = w8.heap[k]? := fun k => by obtain ⟨m, rfl⟩ := hdr; rfl
            by_cases hlt : i < nx
            · have i1 : (i : Int) < (nx : Int) := by omega
              have i2 : (0 : Int) ≤ (i : Int) := by omega
              have hiX : i < X.length := by have := HNX.out; omega
              obtain ⟨g, o, e1, x0, x1, x2⟩ := HT.out.la.hit (W := w8) (fun k _ => rfl) i hiX
              subst e1
              obtain ⟨A, hA⟩ : ∃ A, A = X[i] := ⟨_, rfl⟩
              rw [← hA] at x0 x1 x2
              have hAm : A ∈ srtL (inD r (hitsOf q' L)) := by rw [hA, ← HT.out.hX]; exact List.getElem_mem hiX
              have HAm := Hid.mk hAm
              have hwi : IntKind.i64.wrap ((i : Int) + 1) = ((i + 1 : Nat) : Int) := by have := HB.out.1; rw [IntKind.wrap_i64]; omega
              have HJ : Hid (i + 1 ≤ X.length) := hiX
              clear hA hAm hhp hiX
              go_wp2
              go_loopw [23, 24] (fun tv jv wr => RTi w8 A.i Y tv jv wr) (fun _ u _ => ny - (intOf u).toNat)
              case atStart => exact ⟨0, false, rfl, rfl, Nat.zero_le _, rfl, hdr⟩
              case round =>
                clear hdr
                obtain ⟨j, tw, rfl, rfl, hj, htw, hdj⟩ := hrel
                have hnY := HNY.out
                by_cases hjl : j < ny
                · have j1 : (j : Int) < (ny : Int) := by omega
                  have j2 : (0 : Int) ≤ (j : Int) := by omega
                  have hjY : j < Y.length := by omega
                  obtain ⟨g2, o2, e2, y0, y1, y2⟩ := HT.out.lb.hit (W := w8) (fun k _ => rfl) j hjY
                  subst e2
                  have HTk := Hid.mk (any_tk Y A.i j hjY)
                  obtain ⟨Bh, hB⟩ : ∃ Bh, Bh = Y[j] := ⟨_, rfl⟩
                  rw [← hB] at y0 y1 y2 HTk
                  rw [← htw.out] at HTk
                  have hBm : Bh ∈ srtL (inD wd (hitsOf p' L)) := by rw [hB, ← HT.out.hY]; exact List.getElem_mem hjY
                  have hcl : ∀ q, wr.cell? q = w8.cell? q := fun q => by obtain ⟨k, rfl⟩ := hdj; rfl
                  replace y0 := (hcl _).trans y0
                  replace y1 := (hcl _).trans y1
                  replace y2 := (hcl _).trans y2
                  have z0 := (hcl _).trans x0
                  have z1 := (hcl _).trans x1
                  have z2 := (hcl _).trans x2
                  have hwj : IntKind.i64.wrap ((j : Int) + 1) = ((j + 1 : Nat) : Int) := by have := HB.out.2; rw [IntKind.wrap_i64]; omega
                  have HJY : Hid (j + 1 ≤ Y.length) := hjY
                  by_cases he : Bh.i = A.i
                  · obtain ⟨hc, k1, k2, k3, k4, k5, k6⟩ := tri_hit HK.out HA.out.2.2.2.2.1 HA.out.2.2.2.2.2.1 HAm.out hBm he
                    rw [he] at y1
                    rw [hc] at y2
                    rw [← HD.out] at k1 k2
                    have hwz : IntKind.i64.wrap (Bh.d - A.d) = Bh.d - A.d := by rw [IntKind.wrap_i64]; omega
                    have hwn : IntKind.i64.wrap (-(Bh.d - A.d)) = -(Bh.d - A.d) := by rw [IntKind.wrap_i64]; omega
                    obtain ⟨z, hz⟩ : ∃ z : Int, z = Bh.d - A.d := ⟨_, rfl⟩
                    rw [← hz] at hwz k1 k2 hwn
                    have HTT : Hid (true = (Y.take (j + 1)).any (fun y => y.i == A.i)) := by show _ = _; rw [HTk.out, he]; simp
                    have hee : (A.i == A.i) = true := by simp
                    have hwz2 : wrap64 (Bh.d - A.d) = z := by unfold wrap64; rw [hz]; omega
                    have hwn2 : wrap64 (-z) = -z := by unfold wrap64; omega
                    clear hz hcl hB hBm htw HTk k3 k4 k5 k6 hc he hjY hnY x0 x1 x2
                    go_wp2
                    go_quiet (fail)
                    go_wp2
                    go_quiet (fail)
                    go_wp2
                    go_quiet (fail)
                    go_wp2
                    exact ⟨⟨j + 1, true, rfl, by go_num, HJY.out, HTT.out, hdj.more _⟩, by simp only [intOf]; omega⟩
                  · have hee : (Bh.i == A.i) = false := by simpa using he
                    have HTT : Hid (tw = (Y.take (j + 1)).any (fun y => y.i == A.i)) := by show _ = _; rw [HTk.out, hee]; simp
                    clear hcl hB hBm htw HTk he hjY hnY x0 x1 x2
                    go_wp2
                    go_quiet (fail)
                    go_wp2
                    exact ⟨⟨j + 1, tw, rfl, by go_num, HJY.out, HTT.out, hdj.more _⟩, by simp only [intOf]; omega⟩
                · have j1 : ¬ (j : Int) < (ny : Int) := by omega
                  have htt : tw = true := by
                    rw [htw.out, List.take_of_length_le (by omega), HT.out.hY]
                    exact tri_there HK.out HA.out.2.2.2.2.1 HA.out.2.2.2.2.2.1 HF.out.2.2 HAm.out
                  subst htt
                  clear htw hnY
                  go_wp2
                  exact ⟨⟨i + 1, by go_num, HJ.out, hdj⟩, by simp only [intOf]; omega⟩
            · have i1 : ¬ (i : Int) < (nx : Int) := by omega
              have HE : Hid (Below w.heap.size w wr) := HT.out.st.trans (hdr.below _)
              clear hhp hdr hi
              go_wp2
              go_ret
              exact ⟨rfl, HE.out⟩
        · have HF : Hid (0 ≤ ((r + d) : Int) ∧ ((r + d) : Int) ≤ wd ∧ FarOk (r + d) r (dQ q' p') wd) := ⟨by omega, by omega, Or.inl (by rw [← HD.out])⟩
          have hwf : IntKind.i64.wrap (r + (d : Int)) = r + (d : Int) := by rw [IntKind.wrap_i64]; omega
          have kf : decide (wd < r + (d : Int)) = false := decide_eq_false hfar
          have HI := Hid.mk hin
          have r1 := HR.out w6 HM.out.1 HM.out.2.1 q' HA.out.2.2.2.2.1 r hin
          clear hfar hin hr0 hr1
          go_wp2_with fail
          refine r1.mono ?_
          clear r1
          rintro e w7 ⟨v7, rfl, t7⟩
          have r2 := HR.out w7 (HM.out.1.below t7.2.2) (HM.out.2.1.lat t7.2.2) p' HA.out.2.2.2.2.2.1 (r + d) ⟨HF.out.1, HF.out.2.1⟩
          obtain ⟨X, hX⟩ : ∃ X, X = srtL (inD r (hitsOf q' L)) := ⟨_, rfl⟩
          rw [← hX] at t7
          obtain ⟨a7, c7, hv, -, l7⟩ := t7.lat
          subst hv
          have HX := Hid.mk (And.intro hX (And.intro t7 l7))
          obtain ⟨nx, hnx⟩ : ∃ nx, nx = X.length := ⟨_, rfl⟩
          rw [← hnx]
          have HNX := Hid.mk hnx
          clear hX t7 l7 hnx
          go_wp2_with fail
          refine r2.mono ?_
          clear r2
          rintro e w8 ⟨v8, rfl, t8⟩
          obtain ⟨Y, hY⟩ : ∃ Y, Y = srtL (inD (r + d) (hitsOf p' L)) := ⟨_, rfl⟩
          rw [← hY] at t8
          obtain ⟨a8, c8, hv, -, l8⟩ := t8.lat
          subst hv
          have HT : Hid (TwoL w w8 wd n L q' p' r (r + d) X Y a7 a8) := ⟨HK.out, HA.out.2.2.2.2.1, HA.out.2.2.2.2.2.1, HX.out.1, hY, HF.out.2.2, HX.out.2.2.below t8.2.2, l8, (HM.out.2.2.trans (HX.out.2.1.2.2.mono HM.out.2.2.size)).trans (t8.2.2.mono (Nat.le_trans HM.out.2.2.size HX.out.2.1.2.2.size))⟩
          have hnxl : (nx : Int) < 4611686018427387904 := by
            have h1 := srtL_le (inD r (hitsOf q' L))
            have h2 : (inD r (hitsOf q' L)).length ≤ (hitsOf q' L).length := List.length_filter_le _ _
            have h3 : (hitsOf q' L).length = L.length := by simp [hitsOf]
            have h4 := HZ.out
            have h5 := HNX.out
            rw [HX.out.1] at h5
            omega
          have hnyl : (Y.length : Int) < 4611686018427387904 := by
            have h1 := srtL_le (inD (r + d) (hitsOf p' L))
            have h2 : (inD (r + d) (hitsOf p' L)).length ≤ (hitsOf p' L).length := List.length_filter_le _ _
            have h3 : (hitsOf p' L).length = L.length := by simp [hitsOf]
            have h4 := HZ.out
            rw [hY]
            omega
          have HB := Hid.mk (And.intro hnxl hnyl)
          obtain ⟨ny, hny⟩ : ∃ ny, ny = Y.length := ⟨_, rfl⟩
          rw [← hny]
          have HNY := Hid.mk hny
          clear hY t8 l8 hny HX HM HR hwf kf hnxl hnyl
          go_wp2_with fail
          go_loopw [22] (fun iv wr => RTo w8 X iv wr) (fun u _ => nx - (intOf u).toNat)
          case atStart => exact ⟨0, rfl, Nat.zero_le _, Drew.refl _⟩
          case round =>
            obtain ⟨i, rfl, hi, hdr⟩ := hrel
            have hhp : ∀ k : Nat, wr.heap[k]? = w8.heap[k]? := fun k => by obtain ⟨m, rfl⟩ := hdr; rfl
            by_cases hlt : i < nx
            · have i1 : (i : Int) < (nx : Int) := by omega
              have i2 : (0 : Int) ≤ (i : Int) := by omega
              have hiX : i < X.length := by have := HNX.out; omega
              obtain ⟨g, o, e1, x0, x1, x2⟩ := HT.out.la.hit (W := w8) (fun k _ => rfl) i hiX
              subst e1
              obtain ⟨A, hA⟩ : ∃ A, A = X[i] := ⟨_, rfl⟩
              rw [← hA] at x0 x1 x2
              have hAm : A ∈ srtL (inD r (hitsOf q' L)) := by rw [hA, ← HT.out.hX]; exact List.getElem_mem hiX
              have HAm := Hid.mk hAm
              have hwi : IntKind.i64.wrap ((i : Int) + 1) = ((i + 1 : Nat) : Int) := by have := HB.out.1; rw [IntKind.wrap_i64]; omega
              have HJ : Hid (i + 1 ≤ X.length) := hiX
              clear hA hAm hhp hiX
              go_wp2
              go_loopw [23, 24] (fun tv jv wr => RTi w8 A.i Y tv jv wr) (fun _ u _ => ny - (intOf u).toNat)
              case atStart => exact ⟨0, false, rfl, rfl, Nat.zero_le _, rfl, hdr⟩
              case round =>
                clear hdr
                obtain ⟨j, tw, rfl, rfl, hj, htw, hdj⟩ := hrel
                have hnY := HNY.out
                by_cases hjl : j < ny
                · have j1 : (j : Int) < (ny : Int) := by omega
                  have j2 : (0 : Int) ≤ (j : Int) := by omega
                  have hjY : j < Y.length := by omega
                  obtain ⟨g2, o2, e2, y0, y1, y2⟩ := HT.out.lb.hit (W := w8) (fun k _ => rfl) j hjY
                  subst e2
                  have HTk := Hid.mk (any_tk Y A.i j hjY)
                  obtain ⟨Bh, hB⟩ : ∃ Bh, Bh = Y[j] := ⟨_, rfl⟩
                  rw [← hB] at y0 y1 y2 HTk
                  rw [← htw.out] at HTk
                  have hBm : Bh ∈ srtL (inD (r + d) (hitsOf p' L)) := by rw [hB, ← HT.out.hY]; exact List.getElem_mem hjY
                  have hcl : ∀ q, wr.cell? q = w8.cell? q := fun q => by obtain ⟨k, rfl⟩ := hdj; rfl
                  replace y0 := (hcl _).trans y0
                  replace y1 := (hcl _).trans y1
                  replace y2 := (hcl _).trans y2
                  have z0 := (hcl _).trans x0
                  have z1 := (hcl _).trans x1
                  have z2 := (hcl _).trans x2
                  have hwj : IntKind.i64.wrap ((j : Int) + 1) = ((j + 1 : Nat) : Int) := by have := HB.out.2; rw [IntKind.wrap_i64]; omega
                  have HJY : Hid (j + 1 ≤ Y.length) := hjY
                  by_cases he : Bh.i = A.i
                  · obtain ⟨hc, k1, k2, k3, k4, k5, k6⟩ := tri_hit HK.out HA.out.2.2.2.2.1 HA.out.2.2.2.2.2.1 HAm.out hBm he
                    rw [he] at y1
                    rw [hc] at y2
                    rw [← HD.out] at k1 k2
                    have hwz : IntKind.i64.wrap (Bh.d - A.d) = Bh.d - A.d := by rw [IntKind.wrap_i64]; omega
                    have hwn : IntKind.i64.wrap (-(Bh.d - A.d)) = -(Bh.d - A.d) := by rw [IntKind.wrap_i64]; omega
                    obtain ⟨z, hz⟩ : ∃ z : Int, z = Bh.d - A.d := ⟨_, rfl⟩
                    rw [← hz] at hwz k1 k2 hwn
                    have HTT : Hid (true = (Y.take (j + 1)).any (fun y => y.i == A.i)) := by show _ = _; rw [HTk.out, he]; simp
                    have hee : (A.i == A.i) = true := by simp
                    have hwz2 : wrap64 (Bh.d - A.d) = z := by unfold wrap64; rw [hz]; omega
                    have hwn2 : wrap64 (-z) = -z := by unfold wrap64; omega
                    clear hz hcl hB hBm htw HTk k3 k4 k5 k6 hc he hjY hnY x0 x1 x2
                    go_wp2
                    go_quiet (fail)
                    go_wp2
                    go_quiet (fail)
                    go_wp2
                    go_quiet (fail)
                    go_wp2
                    exact ⟨⟨j + 1, true, rfl, by go_num, HJY.out, HTT.out, hdj.more _⟩, by simp only [intOf]; omega⟩
                  · have hee : (Bh.i == A.i) = false := by simpa using he
                    have HTT : Hid (tw = (Y.take (j + 1)).any (fun y => y.i == A.i)) := by show _ = _; rw [HTk.out, hee]; simp
                    clear hcl hB hBm htw HTk he hjY hnY x0 x1 x2
                    go_wp2
                    go_quiet (fail)
                    go_wp2
                    exact ⟨⟨j + 1, tw, rfl, by go_num, HJY.out, HTT.out, hdj.more _⟩, by simp only [intOf]; omega⟩
                · have j1 : ¬ (j : Int) < (ny : Int) := by omega
                  have htt : tw = true := by
                    rw [htw.out, List.take_of_length_le (by omega), HT.out.hY]
                    exact tri_there HK.out HA.out.2.2.2.2.1 HA.out.2.2.2.2.2.1 HF.out.2.2 HAm.out
                  subst htt
                  clear htw hnY
                  go_wp2
                  exact ⟨⟨i + 1, by go_num, HJ.out, hdj⟩, by simp only [intOf]; omega⟩
            · have i1 : ¬ (i : Int) < (nx : Int) := by omega
              have HE : Hid (Below w.heap.size w wr) := HT.out.st.trans (hdr.below _)
              clear hhp hdr hi
              go_wp2
              go_ret
              exact ⟨rfl, HE.out⟩
end Go.Proofs.YtekgppmhcbmpeaaDoor
