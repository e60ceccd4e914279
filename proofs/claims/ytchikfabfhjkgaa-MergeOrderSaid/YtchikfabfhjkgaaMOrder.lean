/-
  DERIVED. MergeOrder, walked.
-/
import Derived.Test.YtchikfabfhjkgaaMOrder0
set_option linter.unusedVariables false
set_option linter.unusedSimpArgs false
namespace Go.Proofs.Ytchikfabfhjkgaa
open Go.RowKit
set_option maxHeartbeats 4000000 in
set_option maxRecDepth 100000 in
theorem order_any (a b : En) (l : List En) (la : Option Addr) (cap : Nat) (w : World) (h : LAt w la l) (hl : (l.length + 64) * 48 ≤ 140737488355328) :
    Calls Try.prog 3 #[.agg (enC a).toArray, .agg (enC b).toArray, .slice la l.length cap] w fun r w' => r = .returned (.bool true) ∧ Below w.heap.size w w' := by
  have c1 := fun W => compare_any a b W
  have c2 := fun W => rcompare_any a b W
  have c3 := fun W => compare_any b a W
  have c4 := fun W => rcompare_any b a W
  have c5 := fun W => compare_any a a W
  rw [cpE_self] at c5
  obtain ⟨q, hq⟩ : ∃ q, q = cpE a b := ⟨_, rfl⟩
  obtain ⟨p, hp⟩ : ∃ p, p = cpE b a := ⟨_, rfl⟩
  rw [← hq] at c1 c2
  rw [← hp] at c3 c4
  have HL := Hid.mk (And.intro h hl)
  clear hq hp h hl
  have A0 := SAt.new w (enC a) 23
  have B0 := SAt.new (w.alloc (.cells (enC a).toArray 23)) (enC b) 23
  have A1 := A0.alloc (.cells (enC b).toArray 23)
  have bA : Below w.heap.size w ((w.alloc (.cells (enC a).toArray 23)).alloc (.cells (enC b).toArray 23)) := ((Below.refl _ w).alloc (Nat.le_refl _) _).alloc (by simp) _
  have bg : w.heap.size + 1 < ((w.alloc (.cells (enC a).toArray 23)).alloc (.cells (enC b).toArray 23)).heap.size := by simp
  have hsz : (w.alloc (.cells (enC a).toArray 23)).heap.size = w.heap.size + 1 := by simp
  rw [hsz] at B0
  have x0 := A1 0 _ rfl
  have x1 := A1 1 _ rfl
  have x2 := A1 2 _ rfl
  have x3 := A1 3 _ rfl
  have x4 := A1 4 _ rfl
  have y0 := B0 0 _ rfl
  have y1 := B0 1 _ rfl
  have y2 := B0 2 _ rfl
  have y3 := B0 3 _ rfl
  have y4 := B0 4 _ rfl
  clear A0 A1 B0 hsz bg
  simp only [enC] at c1 c2 c3 c4 c5 bA x0 x1 x2 x3 x4 y0 y1 y2 y3 y4 ⊢
  go_enter Try.func3, Try.ntmps3
  go_wp2
  obtain ⟨W0, hW0⟩ : ∃ W0, W0 = ((w.alloc (.cells #[.int .i64 a.v, .string a.c, .int .i64 a.i, .int .i64 a.s, .bool a.d] 23)).alloc (.cells #[.int .i64 b.v, .string b.c, .int .i64 b.i, .int .i64 b.s, .bool b.d] 23)) := ⟨_, rfl⟩
  rw [← hW0] at bA x0 x1 x2 x3 x4 y0 y1 y2 y3 y4 ⊢
  clear hW0
  have hq : (q != q) = false := by simp
  have hp : (p != p) = false := by simp
  go_region_held (fun w' => Below W0.heap.size W0 w' ∧ w'.cell? ⟨w.heap.size, 0, none⟩ = some (.int .i64 a.v) ∧ w'.cell? ⟨w.heap.size, 1, none⟩ = some (.string a.c) ∧ w'.cell? ⟨w.heap.size, 2, none⟩ = some (.int .i64 a.i) ∧ w'.cell? ⟨w.heap.size, 3, none⟩ = some (.int .i64 a.s) ∧ w'.cell? ⟨w.heap.size, 4, none⟩ = some (.bool a.d) ∧ w'.cell? ⟨w.heap.size + 1, 0, none⟩ = some (.int .i64 b.v) ∧ w'.cell? ⟨w.heap.size + 1, 1, none⟩ = some (.string b.c) ∧ w'.cell? ⟨w.heap.size + 1, 2, none⟩ = some (.int .i64 b.i) ∧ w'.cell? ⟨w.heap.size + 1, 3, none⟩ = some (.int .i64 b.s) ∧ w'.cell? ⟨w.heap.size + 1, 4, none⟩ = some (.bool b.d))
    ((refine (fun hb => ⟨hb, cell_lat hb x0, cell_lat hb x1, cell_lat hb x2, cell_lat hb x3, cell_lat hb x4, cell_lat hb y0, cell_lat hb y1, cell_lat hb y2, cell_lat hb y3, cell_lat hb y4⟩) ?_; first | exact b5 | exact b4 | exact b3 | exact b2 | exact b1 | exact b_drew W0))
    (first
      | (go_at_call 9; refine (c1 _).mono ?_; clear c1; rintro r w1 ⟨rfl, b1⟩; replace b1 : Below W0.heap.size W0 w1 := below_d b1)
      | (go_at_call 10; refine (c2 _).mono ?_; clear c2; rintro r w2 ⟨rfl, b2⟩; replace b2 : Below W0.heap.size W0 w2 := chain b1 b2 (Nat.le_refl _))
      | (go_at_call 9; refine (c3 _).mono ?_; clear c3; rintro r w3 ⟨rfl, b3⟩; replace b3 : Below W0.heap.size W0 w3 := chain b2 b3 (Nat.le_refl _))
      | (go_at_call 10; refine (c4 _).mono ?_; clear c4; rintro r w4 ⟨rfl, b4⟩; replace b4 : Below W0.heap.size W0 w4 := chain b3 b4 (Nat.le_refl _))
      | (go_at_call 9; refine (c5 _).mono ?_; clear c5; rintro r w5 ⟨rfl, b5⟩; replace b5 : Below W0.heap.size W0 w5 := chain b4 b5 (Nat.le_refl _)))
  rename_i hHeld
  clear hHeld
  have bW := chain bA b5 (Nat.le_refl _)
  have hL5 := HL.out.1.below bW
  obtain ⟨hw64, hb64⟩ := w64 HL.out.2
  obtain ⟨n, hn⟩ : ∃ n, n = l.length := ⟨_, rfl⟩
  have HE := Hid.mk (And.intro bW (And.intro hL5 (NB.mk HL.out.2 hn)))
  rw [← hn] at hw64 hb64 ⊢
  clear hn hL5 bW b5 b4 b3 b2 b1 bA hq hp x0 x1 x2 x3 x4 y0 y1 y2 y3 y4 HL W0 w1 w2 w3 w4
  obtain ⟨i0, hi0, hz0, hz1, hz2⟩ := info_parts infoEn
  have hb1 : i0.bytes * (n + 64) ≤ 281474976710656 := hz2 ▸ hb64.1
  have HB := Hid.mk (And.intro hb1 hb64.2)
  clear hb1 hb64
  go_wp2_with (refine wpList_make_full (P := Try.prog) _ rfl _ _ _ rfl 0 23 i0 _ 5 Try.underlying24 hi0 hz0 hz1 .i64 .i64 ((n : Int) + 64) ((n : Int) + 64) (n + 64) rfl rfl rfl rfl HB.out.1 HB.out.2 (Nat.zero_le _) ?_; rintro w6 ho6 hg6)
  rw [made5] at ho6
  have hF6 : Full w6 w5.heap.size (List.replicate (n + 64) e0) := by
    unfold Full
    rw [List.length_replicate]
    exact ho6
  have bF6 : Below w5.heap.size w5 w6 := (Stay.grown (F := fun _ => False) hg6 (fun k hk => by cases hk)).toBelow (fun _ _ h => h) (Nat.le_refl _)
  obtain ⟨g, hg⟩ : ∃ g, g = w5.heap.size := ⟨_, rfl⟩
  rw [← hg] at hF6 bF6 ⊢
  have HF := Hid.mk (And.intro hF6 (And.intro bF6 hg))
  clear ho6 hg6 hF6 bF6 hg HB hi0 hz0 hz1 hz2 i0
  go_loopw [9] (fun iv wr => R0 w5 g n iv wr) (fun iv _ => 3 - (intOf iv).toNat)
  case atStart => exact ⟨0, _, rfl, by omega, List.length_replicate, HF.out.1, HF.out.2.1⟩
  case round =>
    obtain ⟨i, X, rfl, hi3, hXl, hFu, hBe⟩ := hrel
    obtain ⟨ws, hws⟩ : ∃ ws, ws = wr := ⟨_, rfl⟩
    rw [← hws] at hFu hBe ⊢
    clear hws
    by_cases hi : i < 3
    · have hi' : (i : Int) < 3 := by omega
      have HX := Hid.mk (And.intro hXl (And.intro hFu hBe))
      clear hXl hFu hBe
      go_wp2
      go_loopw [10, 11] (fun nv jv wr => R1 w5 g n (Mi l i) nv jv wr) (fun _ jv _ => n - (intOf jv).toNat)
      case atStart => exact ⟨0, X, rfl, Nat.zero_le _, ⟨HX.out.1, HX.out.2.1, HX.out.2.2, ⟨rfl, .inl ⟨rfl, rfl⟩⟩, rfl, fun k hk => by cases hk⟩⟩
      case round =>
        obtain ⟨j, Y, rfl, hjn, hO⟩ := hrel
        have hMl : (Mi l i).length = n := (Mi_len l i).trans HE.out.2.2.e.symm
        obtain ⟨a0, c0, hnv, -⟩ := slice_form hO.own
        have htk : ((Mi l i).take j).length = j := by rw [List.length_take, hMl]; exact Nat.min_eq_left hjn
        rw [htk] at hnv
        subst hnv
        replace hO := Hid.mk hO
        by_cases hj : j < n
        · have hjI : (j : Int) < (n : Int) := by omega
          have hj0 : (0 : Int) ≤ (j : Int) := by omega
          have hwj := HE.out.2.2.wj (j := j) (by omega)
          have hn64 : (j : Int) < ((n + 64 : Nat) : Int) := by omega
          have hLr : LAt wr la l := HE.out.2.1.below (HF.out.2.2 ▸ hO.out.below)
          have hjl : j < l.length := HE.out.2.2.e ▸ hj
          have hne : l ≠ [] := fun h => by rw [h] at hjl; simp at hjl
          obtain ⟨gl, off, hla, hra⟩ := hLr.at' hne
          subst hla
          have hgl : gl < wr.heap.size := hLr.lt rfl hne
          obtain ⟨x0, x1, x2, x3, x4⟩ := row_en hra rfl j hjl
          have hMj : l[j]? = some l[j] := List.getElem?_eq_getElem hjl
          obtain ⟨y, hy⟩ : ∃ y, y = l[j] := ⟨_, rfl⟩
          rw [← hy] at x0 x1 x2 x3 x4 hMj
          clear hy
          by_cases h1 : i = 1
          · have h1' : ((i : Int) == 1) = true := by rw [h1]; rfl
            obtain ⟨k, hk⟩ : ∃ k, k = n - 1 - j := ⟨_, rfl⟩
            have hkl : k < l.length := by have := HE.out.2.2.e; omega
            obtain ⟨hk1, hk2⟩ := wk (n := n) (j := j) (k := k) HE.out.2.2.lt hj hk
            have hk3 : (k : Int) < (n : Int) := by omega
            have hk4 : (0 : Int) ≤ (k : Int) := by omega
            obtain ⟨z0, z1, z2, z3, z4⟩ := row_en hra rfl k hkl
            have hM : (Mi l i)[j]? = some l[k] := by
              unfold Mi
              rw [if_pos h1, List.getElem?_reverse hjl]
              have e : l.length - 1 - j = k := by have := HE.out.2.2.e; omega
              rw [e, List.getElem?_eq_getElem hkl]
            obtain ⟨x, hx⟩ : ∃ x, x = l[k] := ⟨_, rfl⟩
            rw [← hx] at z0 z1 z2 z3 z4 hM
            clear hx hk h1 hMj
            obtain ⟨v', w', hr, ho, s, hloc⟩ := ent_app1 (wr.alloc (.cells (enC x).toArray 23)) ((Mi l i).take j) (.slice a0 j c0) (hO.out.own.alloc _) x (by rw [htk]; exact HE.out.2.2.app hj)
            obtain ⟨hFw, hOn⟩ := hO.out.step hMl hj x hM ho _ s hloc
            have hSx := x_later hO.out.own s
            have hjX : j < Y.length := Nat.lt_of_lt_of_le hj (by rw [hO.out.len]; exact Nat.le_add_right _ _)
            obtain ⟨f0, f1, f2, f3, f4⟩ := hFw.cells j hjX
            have r0 := hFw.free (j * 5)
            have r1 := hFw.free (j * 5 + 1)
            have r2 := hFw.free (j * 5 + 2)
            have r3 := hFw.free (j * 5 + 3)
            have r4 := hFw.free (j * 5 + 4)
            have t0 := hSx 0 _ rfl
            have t1 := hSx 1 _ rfl
            have t2 := hSx 2 _ rfl
            have t3 := hSx 3 _ rfl
            have t4 := hSx 4 _ rfl
            have hsz : ∀ o, (wr.alloc o).heap.size = wr.heap.size + 1 := fun o => by simp
            simp only [enC, hsz] at hr
            have HO := Hid.mk hOn
            clear hFw hOn ho s hloc hSx hsz hMl htk
            generalize Y[j] = Yj at f0 f1 f2 f3 f4
            go_wp2_with (at_builtin; refine wpList_append_eq rfl _ _ _ _ rfl _ _ _ _ rfl rfl hr ?_; clear hr)
            exact ⟨⟨j + 1, Y.set j x, ival (cast1 j), hj, HO.out⟩, by simp only [intOf]; omega⟩
          · have h1' : ((i : Int) == 1) = false := by
              apply beq_false_of_ne
              omega
            have hM : (Mi l i)[j]? = some y := by unfold Mi; rw [if_neg h1]; exact hMj
            clear h1 hMj
            obtain ⟨v', w', hr, ho, s, hloc⟩ := ent_app1 (wr.alloc (.cells (enC y).toArray 23)) ((Mi l i).take j) (.slice a0 j c0) (hO.out.own.alloc _) y (by rw [htk]; exact HE.out.2.2.app hj)
            obtain ⟨hFw, hOn⟩ := hO.out.step hMl hj y hM ho _ s hloc
            have hSx := x_later hO.out.own s
            have hjX : j < Y.length := Nat.lt_of_lt_of_le hj (by rw [hO.out.len]; exact Nat.le_add_right _ _)
            obtain ⟨f0, f1, f2, f3, f4⟩ := hFw.cells j hjX
            have r0 := hFw.free (j * 5)
            have r1 := hFw.free (j * 5 + 1)
            have r2 := hFw.free (j * 5 + 2)
            have r3 := hFw.free (j * 5 + 3)
            have r4 := hFw.free (j * 5 + 4)
            have t0 := hSx 0 _ rfl
            have t1 := hSx 1 _ rfl
            have t2 := hSx 2 _ rfl
            have t3 := hSx 3 _ rfl
            have t4 := hSx 4 _ rfl
            have hsz : ∀ o, (wr.alloc o).heap.size = wr.heap.size + 1 := fun o => by simp
            simp only [enC, hsz] at hr
            have HO := Hid.mk hOn
            clear hFw hOn ho s hloc hSx hsz hMl htk
            generalize Y[j] = Yj at f0 f1 f2 f3 f4
            go_wp2_with (at_builtin; refine wpList_append_eq rfl _ _ _ _ rfl _ _ _ _ rfl rfl hr ?_; clear hr)
            exact ⟨⟨j + 1, Y.set j y, ival (cast1 j), hj, HO.out⟩, by simp only [intOf]; omega⟩
        · have hje : n = j := by omega
          subst hje
          obtain ⟨wt, hwt⟩ : ∃ wt, wt = wr := ⟨_, rfl⟩
          rw [← hwt] at hO ⊢
          clear hwt hj htk
          have hwi : IntKind.i64.wrap ((i : Int) + 1) = (i : Int) + 1 := HE.out.2.2.wj (j := i) (by omega)
          have hmc := fun W => mark_any 998 (by omega) (by omega) W
          simp only [enC, mkE] at hmc
          go_wp2
          go_loopw [13] (fun jv wr => R2 w5 g n (Mi l i) (.slice a0 n c0) jv wr) (fun jv _ => n + 64 - (intOf jv).toNat)
          case atStart => exact ⟨n, Y, rfl, Nat.le_refl _, Nat.le_add_right _ _, hO.out, fun k h1 h2 => absurd h1 (Nat.not_le.2 h2)⟩
          case round =>
            obtain ⟨j, Z, rfl, hj1, hj2, hZ, hmk⟩ := hrel
            have HZ := Hid.mk (And.intro hZ hmk)
            clear hZ hmk
            by_cases hj : j < n + 64
            · have hjI : (j : Int) < (n : Int) + 64 := by omega
              have hjN : (j : Int) < ((n + 64 : Nat) : Int) := by omega
              have hwj := HE.out.2.2.wj hj
              have hjZ : j < Z.length := by rw [HZ.out.1.len]; exact hj
              go_wp2_with (go_at_call 11; refine (hmc _).mono ?_; clear hmc; rintro r w7 ⟨rfl, b7⟩; obtain ⟨⟨f0, f1, f2, f3, f4⟩, r0, r1, r2, r3, r4⟩ := (HZ.out.1.later b7).full.ten j hjZ; generalize Z[j] = Zj at f0 f1 f2 f3 f4)
              exact ⟨R2_step HZ.out.1 HZ.out.2 hj hj1 b7, by simp only [intOf]; omega⟩
            · have hjI : ¬ (j : Int) < (n : Int) + 64 := by omega
              obtain ⟨wv, hwv⟩ : ∃ wv, wv = wr := ⟨_, rfl⟩
              rw [← hwv] at HZ ⊢
              clear hwv
              have hs := sorted_any (Mi l i) (some ⟨g, 0, none⟩) (n + 64) wv (HZ.out.1.lat hMl) (by rw [hMl]; exact HE.out.2.2.lt)
              have hm := fun W (b : Below wv.heap.size wv W) => same_any (Mi l i) (some ⟨g, 0, none⟩) a0 (n + 64) c0 W ((HZ.out.1.later b).lat hMl) ((HZ.out.1.later b).lat2 hMl) (by rw [hMl]; exact HE.out.2.2.lt)
              have hr := fun W (b : Below wv.heap.size wv W) => rsorted_any (Mi l i) a0 c0 W ((HZ.out.1.later b).lat2 hMl) (by rw [hMl]; exact HE.out.2.2.lt)
              rw [hMl] at hs hm hr
              obtain ⟨E, hE⟩ : ∃ E, E = sE (rises (Mi l i)) := ⟨_, rfl⟩
              rw [← hE] at hs hr
              clear hE
              have hEE : (E != E) = false := by simp
              have hnI : (n : Int) ≤ ((n + 64 : Nat) : Int) := by omega
              have hn0 : (0 : Int) ≤ (n : Int) := by omega
              clear hj hj1 hj2
              go_wp2_with first
                | (go_at_call 12; refine hs.mono ?_; clear hs; rintro r w7 ⟨rfl, b7⟩)
                | (go_at_call 13; refine (hm _ b7).mono ?_; clear hm; rintro r w8 ⟨rfl, d8⟩; have b8 := b7.trans (d8.below _))
                | (go_at_call 14; refine (hr _ b8).mono ?_; clear hr; rintro r w9 ⟨rfl, c9⟩; have b9 := chain b8 c9 (Nat.le_refl _))
              have HI := Hid.mk (HZ.out.1.later b9)
              have HMk := Hid.mk (fun k h1 h2 => HZ.out.2 k h1 (Nat.lt_of_lt_of_le h2 (show n + 64 ≤ j by omega)))
              clear b7 b8 b9 d8 c9 hjI
              go_loopw [16] (fun jv wr => R3 w5 g n (Mi l i) (.slice a0 n c0) Z jv wr) (fun jv _ => n + 64 - (intOf jv).toNat)
              case atStart => exact ⟨n, rfl, Nat.le_refl _, Nat.le_add_right _ _, HI.out⟩
              case round =>
                obtain ⟨t, rfl, ht1, ht2, hT⟩ := hrel
                replace hT := Hid.mk hT
                by_cases ht : t < n + 64
                · have htI : (t : Int) < (n : Int) + 64 := by omega
                  have htN : (t : Int) < ((n + 64 : Nat) : Int) := by omega
                  have ht0 : (0 : Int) ≤ (t : Int) := by omega
                  have hwt := HE.out.2.2.wj ht
                  have htZ : t < Z.length := by rw [hT.out.len]; exact ht
                  obtain ⟨f0, f1, f2, f3, f4⟩ := hT.out.full.cells t htZ
                  have hZt : Z[t] = mkE 998 := by
                    have h1 := HMk.out t ht1 ht
                    rw [List.getElem?_eq_getElem htZ] at h1
                    exact Option.some.inj h1
                  rw [hZt] at f0 f1 f2 f3 f4
                  simp only [mkE] at f0 f1 f2 f3 f4
                  clear hZt
                  go_wp2
                  go_region_held (fun w' => Below wr.heap.size wr w' ∧ w'.cell? ⟨g, t * 5, none⟩ = some (.int .i64 (-998)) ∧ w'.cell? ⟨g, t * 5 + 1, none⟩ = some (.string ⟨#[109, 97, 114, 107]⟩) ∧ w'.cell? ⟨g, t * 5 + 2, none⟩ = some (.int .i64 (-998)) ∧ w'.cell? ⟨g, t * 5 + 3, none⟩ = some (.int .i64 (-998)) ∧ w'.cell? ⟨g, t * 5 + 4, none⟩ = some (.bool false))
                    ((refine (fun hb => ⟨hb, cell_lat hb f0, cell_lat hb f1, cell_lat hb f2, cell_lat hb f3, cell_lat hb f4⟩) ?_; first | exact bb | exact b_drew wr))
                    ((go_at_call 11; refine (hmc _).mono ?_; clear hmc; rintro r w4 ⟨rfl, b4⟩; have bb : Below wr.heap.size wr w4 := below_d b4))
                  all_goals
                    go_wp2
                    exact ⟨⟨t + 1, ival (cast1 t), Nat.le_succ_of_le ht1, ht, hT.out.later bb⟩, by simp only [intOf]; omega⟩
                · have htI : ¬ (t : Int) < (n : Int) + 64 := by omega
                  go_wp2
                  exact ⟨⟨i + 1, Z, ival (cast1 i), hi, hT.out.len, hT.out.full, hT.out.below⟩, by simp only [intOf]; omega⟩
    · have hi' : ¬ (i : Int) < 3 := by omega
      go_wp2
      go_ret
      exact ⟨rfl, chain HE.out.1 (HF.out.2.2 ▸ hBe) (Nat.le_refl _)⟩
end Go.Proofs.Ytchikfabfhjkgaa
