/-
  DERIVED. SignSums: its walk.
-/
import Derived.Test.YtmdmjjobhkpojaaQSumsK
set_option linter.unusedVariables false
set_option linter.unusedSimpArgs false
namespace Go.Proofs.Ytmdmjjobhkpojaa
open Go.RowKit Go.Shelf Go.Proofs.BitMath Go.Proofs.FloatMath
theorem nw_ok {x d : Int} (h : nwE x d = 0) : ∃ wd dm : Nat, x = wd ∧ d = dm ∧ 64 ≤ wd ∧ wd ≤ 1024 ∧ wd % 64 = 0 ∧ 1 ≤ dm ∧ dm ≤ 1024 := by
  unfold nwE at h
  by_cases hw : isW x = true
  · rw [if_pos hw] at h
    by_cases hd : 1 ≤ d ∧ d ≤ 1024
    · have hb := isW_bd hw
      have hm : x % 64 = 0 := by have := hw; simp [isW] at this; omega
      exact ⟨x.toNat, d.toNat, by omega, by omega, by omega, by omega, by omega, by omega, by omega⟩
    · rw [if_neg hd] at h; cases h
  · rw [if_neg hw] at h; cases h
theorem z_make (W : World) (n : Nat) (hn : n ≤ 8796093022207) :
    ∃ w', (Instr.makeSlice 23 (.int .i64 n) (.int .i64 n)).run Try.prog W = .ok (.slice (some ⟨W.heap.size, 0, none⟩) n n) w' ∧ zE.Row w' (.slice (some ⟨W.heap.size, 0, none⟩) n n) (List.replicate n (0, 0)) ∧ Below W.heap.size W w' ∧ w'.heap.size = W.heap.size + 1 := by
  obtain ⟨i0, hi, hz0, hz1, hz2⟩ := info_parts zOk.info
  have hz2' : i0.bytes = 16 := hz2
  have hrun := run_make W 23 30 i0 zE.z zOk.und hi hz0 .i64 .i64 (n : Int) (n : Int) (by omega) (by omega) (by rw [hz2', ← Int.natCast_mul, Nat.mul_comm]; omega) (by omega)
  rw [hz1, Int.toNat_natCast] at hrun
  exact ⟨_, hrun, El.made zOk W (0, 0) rfl n (by omega), (Below.refl _ _).alloc (Nat.le_refl _) _, by simp⟩
set_option maxRecDepth 100000 in
set_option maxHeartbeats 16000000 in
theorem law_sums (x d sd : Int) (la : Option Addr) (cap : Nat) (v : List Zp) (w : World) (hv : zE.At w la v) (hn : v.length ≤ 8796093021952) :
    Calls Try.prog 4 #[.int .i64 x, .int .i64 d, .int .u64 sd, .slice la v.length cap] w fun e w' => e = .returned (.bool true) ∧ Below w.heap.size w w' := by
  by_cases hk : nwE x d = 0
  · obtain ⟨wd, dm, rfl, rfl, h64, h1024, hm, hd1, hd2⟩ := nw_ok hk
    have kN := new_any (wd : Int) (dm : Int) sd w
    have kR := rnew_any (wd : Int) (dm : Int) sd (w.alloc (.cells #[.int .i64 wd, .int .i64 dm, .int .u64 sd] 60))
    have HK := Hid.mk hk
    obtain ⟨n, en⟩ : ∃ n, v.length = n := ⟨_, rfl⟩
    have EN := Hid.mk en
    have a64 : IntKind.i64.wrap ((n : Int) + 64) = ((n + 64 : Nat) : Int) := by rw [i64_sg _ (by omega) (by omega)]; omega
    rw [en] at hn ⊢
    have HV := Hid.mk hv
    have HX := Hid.mk (And.intro h64 (And.intro h1024 (And.intro hm (And.intro hd1 hd2))))
    clear hk en hv h64 h1024 hm hd1 hd2
    go_enter Try.func4, Try.ntmps4
    go_wp2_with fail
    refine kN _ (fun h => absurd HK.out h) (fun _ => ?_)
    clear kN
    go_wp2_with fail
    refine kR _ (fun h => absurd HK.out h) (fun _ => ?_)
    clear kR
    rw [World.size_alloc]
    obtain ⟨w0, hmk, hrow, hb0, hs0⟩ := z_make (((w.alloc (.cells #[.int .i64 wd, .int .i64 dm, .int .u64 sd] 60)).alloc (.cells #[.int .i64 wd, .int .i64 dm, .int .u64 sd] 63)).alloc (.cells #[.int .i64 (-77), .int .i64 77] 30)) (n + 64) (by omega)
    have HMK := Hid.mk hmk
    go_wp2_with (at_make; refine wpList_make_run _ rfl _ _ _ rfl _ _ HMK.out ?_; clear HMK)
    have B0 : Below w.heap.size w w0 := ((((Below.refl _ w).alloc (Nat.le_refl _) _).alloc (by simp) _).alloc (by simp; omega) _).trans (hb0.mono (by simp; omega))
    have g1 : SgAt w0 w.heap.size wd dm sd := (((sg_new w wd dm sd).below ((Below.refl _ _).alloc (Nat.le_refl _) _)).below ((Below.refl _ _).alloc (Nat.le_refl _) _)).below hb0
    have g2 : SgAt w0 (w.heap.size + 1) wd dm sd := by
      have h9 : SgAt ((w.alloc (.cells #[.int .i64 wd, .int .i64 dm, .int .u64 sd] 60)).alloc (.cells #[.int .i64 wd, .int .i64 dm, .int .u64 sd] 63)) (w.alloc (.cells #[.int .i64 wd, .int .i64 dm, .int .u64 sd] 60)).heap.size wd dm sd :=
        ⟨cells_new _ [.int .i64 wd, .int .i64 dm, .int .u64 sd] 63 0 _ rfl, cells_new _ [.int .i64 wd, .int .i64 dm, .int .u64 sd] 63 1 _ rfl, cells_new _ [.int .i64 wd, .int .i64 dm, .int .u64 sd] 63 2 _ rfl⟩
      rw [World.size_alloc] at h9
      exact (h9.below ((Below.refl _ _).alloc (Nat.le_refl _) _)).below hb0
    have g3 : w0.heap[w.heap.size + 1 + 1]? = some (.cells #[.int .i64 (-77), .int .i64 77] 30 (0, 0)) := by
      have h9 := heap_alloc_last ((w.alloc (.cells #[.int .i64 wd, .int .i64 dm, .int .u64 sd] 60)).alloc (.cells #[.int .i64 wd, .int .i64 dm, .int .u64 sd] 63)) (.cells #[.int .i64 (-77), .int .i64 77] 30)
      rw [World.size_alloc, World.size_alloc] at h9
      exact (hb0.block _ (by simp)).trans h9
    simp only [World.size_alloc] at hrow hs0
    obtain ⟨sa, esa⟩ : ∃ s, w.heap.size = s := ⟨_, rfl⟩
    obtain ⟨bf, ebf⟩ : ∃ s, w.heap.size + 1 + 1 + 1 = s := ⟨_, rfl⟩
    obtain ⟨bm, ebm⟩ : ∃ s, w.heap.size + 1 + 1 = s := ⟨_, rfl⟩
    obtain ⟨sb, esb⟩ : ∃ s, w.heap.size + 1 = s := ⟨_, rfl⟩
    simp only [ebf] at hrow hs0 ⊢
    simp only [ebm] at g3 ⊢
    simp only [esb] at g2 ⊢
    have hfz : bf < w0.heap.size := by omega
    have hwb : w.heap.size ≤ bf := by omega
    have hne : sa ≠ bf ∧ sb ≠ bf ∧ bm ≠ bf ∧ sa < w0.heap.size ∧ sb < w0.heap.size ∧ bm < w0.heap.size := by omega
    have HQ : Hid (∀ W, Stay (fun k => k = bf) w0 W → SgAt W sa wd dm sd ∧ SgAt W sb wd dm sd ∧ W.heap[bm]? = some (.cells #[.int .i64 (-77), .int .i64 77] 30 (0, 0)) ∧ zE.At W la v ∧ Below w.heap.size w W) := by
      intro W s
      obtain ⟨n1, n2, n3, l1, l2, l3⟩ := hne
      refine ⟨(esa ▸ g1).same (s.block sa l1 n1), g2.same (s.block sb l2 n2), (s.block bm l3 n3).trans g3, ⟨fun hne => ?_⟩, B0.trans (s.toBelow (fun k hk e => by have : k = bf := e; omega) B0.size)⟩
      obtain ⟨g, off, e, hr⟩ := HV.out.at' hne
      refine ⟨g, off, e, fun j x hx => ?_⟩
      have c1 := hr j x hx
      have gl : g < w.heap.size := World.block_lt_of_cell? w _ c1
      exact (World.cell?_of_block (a := ⟨g, off + j, none⟩) (s.block g (Nat.lt_of_lt_of_le gl B0.size) (fun e => by have : g = bf := e; omega))).trans (cell_lat B0 c1)
    have S0 : Hid (SSI w0 bf n (fun j => smW wd dm sd (vcI v j)) 0 (.slice none 0 0) (.slice none 0 0) [] [] w0) := ⟨rfl, rfl, .refl _ _, ⟨List.replicate (n + 64) (0, 0), by simp, hrow⟩, El.Got.nil EC _ _ _, El.Got.nil EC _ _ _, fun b hb => by cases hb⟩
    have hsa : Hid (w.heap.size = sa) := esa
    simp only [esa]
    have HF := Hid.mk (And.intro hfz (And.intro hwb hne))
    clear hmk hrow hb0 hs0 B0 g1 g2 g3 esa ebf ebm esb hfz hwb hne a64
    have a64 : IntKind.i64.wrap ((n : Int) + 64) = (n : Int) + 64 := i64_sg _ (by omega) (by omega)
    go_loopw [16, 17, 18, 19, 20, 22, 23, 24, 25, 26, 27, 28, 29, 30, 31, 32, 33] (fun ul uw ui _ _ _ _ _ _ _ _ _ _ _ _ _ _ wr => ∃ (i : Nat) (ga wa : Option Addr) (gc wc : Nat) (gs ws : List Value), i ≤ 5 ∧ ul = .slice ga i gc ∧ uw = .slice wa i wc ∧ ui = .int .i64 i ∧ Hid (SSI w0 bf n (fun j => smW wd dm sd (vcI v j)) i (.slice ga i gc) (.slice wa i wc) gs ws wr)) (fun _ _ ui _ _ _ _ _ _ _ _ _ _ _ _ _ _ _ => 5 - (intOf ui).toNat)
    case atStart => exact ⟨0, none, none, 0, 0, [], [], by omega, rfl, rfl, rfl, S0⟩
    case round =>
      clear S0
      obtain ⟨i, ga, wa, gc, wc, gs, ws, hi, rfl, rfl, rfl, HS⟩ := hrel
      obtain ⟨Wi, rfl⟩ : ∃ Wi, Wi = wr := ⟨_, rfl⟩
      by_cases hlt : i < 5
      · have hlt' : (i : Int) < 5 := by omega
        have hVl : (vcI v i).length = n := by rw [vcI_len, EN.out]
        have hVk : ∀ k, k < n → (vcI v i)[k]? = (if i = 2 ∨ i = 3 then v[n - 1 - k]? else v[k]?) := by
          intro k hk
          unfold vcI
          split
          · rw [List.getElem?_reverse (by rw [EN.out]; exact hk), EN.out]
          · rfl
        obtain ⟨V, eV⟩ : ∃ V, vcI v i = V := ⟨_, rfl⟩
        rw [eV] at hVl hVk
        have EV := Hid.mk (And.intro eV hVl)
        have HVk := Hid.mk hVk
        have L0 : Hid (LyI Wi bf n V 0 (.slice none 0 0) Wi) := by
          obtain ⟨F, h1, h2⟩ := HS.out.full
          exact ⟨⟨F, h1, by simp, h2⟩, by simpa using El.Row.nil zE Wi, fun b hb => (by cases hb), .refl _ _⟩
        clear eV hVl hVk
        go_wp2
        go_loopw [19, 20] (fun o f wj => ∃ (k : Nat), k ≤ n ∧ f = .int .i64 k ∧ Hid (LyI Wi bf n V k o wj)) (fun _ f _ => n - (intOf f).toNat)
        case atStart => exact ⟨0, Nat.zero_le _, rfl, L0⟩
        case round =>
          clear L0
          obtain ⟨k, hk, rfl, HL⟩ := hrel
          by_cases hkn : k < n
          · have hk' : (k : Int) < (n : Int) := by omega
            have hbi : bf < Wi.heap.size := Nat.lt_of_lt_of_le HF.out.1 HS.out.st.size
            have hst := HS.out.st.trans HL.out.st
            obtain ⟨-, -, -, hAv, -⟩ := HQ.out wr hst
            have hlv : k < v.length := by rw [EN.out]; exact hkn
            obtain ⟨g, off, rfl, x0, x1⟩ := at_zz hAv k hlv
            obtain ⟨p0, ep0⟩ : ∃ p, v[k] = p := ⟨_, rfl⟩
            rw [ep0] at x0 x1
            have EP0 := Hid.mk ep0
            clear ep0 hst
            by_cases h23 : i = 2 ∨ i = 3
            · have hlr : n - 1 - k < v.length := by rw [EN.out]; omega
              obtain ⟨g', off', eg, x2, x3⟩ := at_zz hAv (n - 1 - k) hlr
              simp only [Option.some.injEq, Addr.mk.injEq] at eg
              obtain ⟨rfl, rfl, -⟩ := eg
              obtain ⟨p, ep⟩ : ∃ p, v[n - 1 - k]'hlr = p := ⟨_, rfl⟩
              rw [ep] at x2 x3
              have hp : V[k]? = some p := by rw [HVk.out k hkn, if_pos h23, List.getElem?_eq_getElem hlr, ep]
              obtain ⟨o', W', hap, y0, y1, ⟨u0, z0⟩, ⟨u1, z1⟩, zf, hL2⟩ := HL.out.step hbi EV.out.2 hn hkn p hp
              obtain ⟨q, eq⟩ : ∃ q, n - 1 - k = q := ⟨_, rfl⟩
              rw [eq] at x2 x3
              have x2 := cell_lat ((Below.refl _ wr).alloc (Nat.le_refl _) (.cells #[.int .i64 p0.1, .int .i64 p0.2] 30)) x2
              have x3 := cell_lat ((Below.refl _ wr).alloc (Nat.le_refl _) (.cells #[.int .i64 p0.1, .int .i64 p0.2] 30)) x3
              have zf0 := zf (k * 2)
              have zf1 := zf (k * 2 + 1)
              have i1 : IntKind.i64.wrap ((n : Int) - 1) = (n : Int) - 1 := i64_sg _ (by omega) (by omega)
              have i2 : IntKind.i64.wrap ((n : Int) - 1 - k) = (q : Int) := by rw [i64_sg _ (by omega) (by omega)]; omega
              have i3 : (q : Int) < (n : Int) := by omega
              have i4 : (k : Int) < (n : Int) + 64 := by omega
              have i5 : (k : Int) < ((n + 64 : Nat) : Int) := by omega
              have HL2 := Hid.mk hL2
              clear zf hL2 hp ep hAv hlr HL eq
              rcases h23 with h2 | h3
              · have j1 : ((i : Int) == 2) = true := by simp; omega
                clear h2
                go_wp2_with (at_builtin; refine wpList_append_eq rfl _ _ _ _ rfl _ _ _ _ rfl rfl hap ?_; clear hap)
                go_roundw
                case rel => exact ⟨k + 1, hkn, by go_num, HL2⟩
                case measure => simp [intOf]; omega
              · have j1 : ((i : Int) == 2) = false := by simp; omega
                have j2 : ((i : Int) == 3) = true := by simp; omega
                clear h3
                go_wp2_with (at_builtin; refine wpList_append_eq rfl _ _ _ _ rfl _ _ _ _ rfl rfl hap ?_; clear hap)
                go_roundw
                case rel => exact ⟨k + 1, hkn, by go_num, HL2⟩
                case measure => simp [intOf]; omega
            · have hp : V[k]? = some p0 := by rw [HVk.out k hkn, if_neg h23, List.getElem?_eq_getElem hlv, EP0.out]
              obtain ⟨o', W', hap, y0, y1, ⟨u0, z0⟩, ⟨u1, z1⟩, zf, hL2⟩ := HL.out.step hbi EV.out.2 hn hkn p0 hp
              have zf0 := zf (k * 2)
              have zf1 := zf (k * 2 + 1)
              have j1 : ((i : Int) == 2) = false := by simp; omega
              have j2 : ((i : Int) == 3) = false := by simp; omega
              have i4 : (k : Int) < (n : Int) + 64 := by omega
              have i5 : (k : Int) < ((n + 64 : Nat) : Int) := by omega
              have HL2 := Hid.mk hL2
              clear zf hL2 hp hAv HL h23
              go_wp2_with (at_builtin; refine wpList_append_eq rfl _ _ _ _ rfl _ _ _ _ rfl rfl hap ?_; clear hap)
              go_roundw
              case rel => exact ⟨k + 1, hkn, by go_num, HL2⟩
              case measure => simp [intOf]; omega
          · have hk' : ¬ (k : Int) < (n : Int) := by omega
            have e : k = n := by omega
            have hM := HL.out
            rw [e] at hM
            have hM := hM.toMk EV.out.2
            obtain ⟨oa, oc, ho, -⟩ := hM.now.form
            rw [EV.out.2] at ho
            subst ho
            have M0 := Hid.mk hM
            clear HL hkn hk e hM
            go_wp2
            go_loopw [22] (fun f wj => ∃ (q : Nat), n ≤ q ∧ q ≤ n + 64 ∧ f = .int .i64 q ∧ Hid (MkI Wi bf n V q (.slice oa n oc) wj)) (fun f _ => n + 64 - (intOf f).toNat)
            case atStart => exact ⟨n, Nat.le_refl _, by omega, rfl, M0⟩
            case round =>
              clear M0
              obtain ⟨q, hq1, hq2, rfl, HM⟩ := hrel
              have hst := HS.out.st.trans HM.out.st
              obtain ⟨G1, G2, G3, G4, G5⟩ := HQ.out wr hst
              by_cases hqn : q < n + 64
              · have hq' : (q : Int) < (n : Int) + 64 := by omega
                have hq5 : (q : Int) < ((n + 64 : Nat) : Int) := by omega
                have hbi : bf < Wi.heap.size := Nat.lt_of_lt_of_le HF.out.1 HS.out.st.size
                obtain ⟨⟨u0, z0⟩, ⟨u1, z1⟩, zf, hM2⟩ := HM.out.step hbi hq1 hqn
                have zf0 := zf (q * 2)
                have zf1 := zf (q * 2 + 1)
                have c0 : wr.cell? ⟨bm, 0, none⟩ = some (.int .i64 (-77)) := by rw [cell_of_row _ _ 0 _ _ (0, 0) G3]; rfl
                have c1 : wr.cell? ⟨bm, 1, none⟩ = some (.int .i64 77) := by rw [cell_of_row _ _ 1 _ _ (0, 0) G3]; rfl
                have HM2 := Hid.mk hM2
                clear hst G1 G2 G3 G4 G5 zf hM2 HM
                go_wp2
                go_roundw
                case rel => exact ⟨q + 1, by omega, hqn, by go_num, HM2⟩
                case measure => simp [intOf]; omega
              · have hq' : ¬ (q : Int) < (n : Int) + 64 := by omega
                have e : q = n + 64 := by omega
                obtain ⟨h64, h1024, hm, hd1, hd2⟩ := HX.out
                obtain ⟨Wf, eWf⟩ : ∃ W, W = wr := ⟨_, rfl⟩
                have hAf := HM.out.at
                obtain ⟨a9, c9, e9, hAn⟩ := HM.out.now.lat
                rw [EV.out.2] at e9
                simp only [Value.slice.injEq] at e9
                obtain ⟨rfl, -, rfl⟩ := e9
                have k1 := fun c => sums_g sa wd dm sd (some ⟨bf, 0, none⟩) c V wr G1 hd1 hd2 (by omega) h1024 hAf
                have k2 := fun c W (b : Below wr.heap.size wr W) => rsums_g sb wd dm sd oa c V W (G2.below b) hd1 hd2 (by omega) h1024 (hAn.below b)
                have k3 := fun c W (b : Below wr.heap.size wr W) => code_any sa wd dm sd (some ⟨bf, 0, none⟩) c V W (G1.below b) hd1 hd2 h64 h1024 (by omega) (hAf.below b)
                have k4 := fun c W (b : Below wr.heap.size wr W) => rcode_any sb wd dm sd oa c V W (G2.below b) hd1 hd2 h64 h1024 (by omega) (hAn.below b)
                have k6 := fun ca cb W (b : Below wr.heap.size wr W) => same_any V (some ⟨bf, 0, none⟩) oa ca cb W (hAf.below b) (hAn.below b) (by rw [EV.out.2]; omega)
                have k5 := fun la lb ca cb W hA hB => same_any (smW wd dm sd V) la lb ca cb W hA hB (by have := smW_len wd dm sd V h1024; omega)
                rw [EV.out.2] at k1 k2 k3 k4 k6
                have hsl := smW_len wd dm sd V h1024
                obtain ⟨Sm, eSm⟩ : ∃ S, smW wd dm sd V = S := ⟨_, rfl⟩
                obtain ⟨cE, ecE⟩ : ∃ c, ckE dm V = c := ⟨_, rfl⟩
                obtain ⟨cD, ecD⟩ : ∃ c, cdB wd dm sd V = c := ⟨_, rfl⟩
                rw [eSm, ecE] at k1 k2
                rw [ecE, ecD] at k3 k4
                rw [eSm] at k5 hsl
                obtain ⟨L, eL⟩ : ∃ L, Sm.length = L := ⟨_, rfl⟩
                rw [eL] at k1 k2 k5 hsl
                have HE := Hid.mk (And.intro eSm (And.intro eL e))
                have kk1 := Hid.mk k1
                have kk2 := Hid.mk k2
                have kk3 := Hid.mk k3
                have kk4 := Hid.mk k4
                have kk5 := Hid.mk k5
                have kk6 := Hid.mk k6
                have i6 : (n : Int) ≤ (n : Int) + 64 := by omega
                have i7 : (n : Int) ≤ ((n + 64 : Nat) : Int) := by omega
                have HG3 := Hid.mk (And.intro G3 hst)
                clear k1 k2 k3 k4 k5 k6 eSm ecE ecD eL e hAf hAn G1 G2 G3 G4 G5 hst h64 h1024 hm hd1 hd2 eWf hqn
                go_wp2_with fail
                refine (kk1.out _).mono ?_
                rintro e w1 ⟨xa, xc, rfl, rx1, nx1, b1⟩
                clear kk1
                go_wp2_with fail
                refine (kk2.out _ _ b1).mono ?_
                rintro e w2 ⟨ya, yc, rfl, ry2, ny2, b2⟩
                have b12 := b1.trans (b2.mono b1.size)
                have rx2 := rx1.below b2
                clear kk2 rx1
                go_wp2_with fail
                refine (kk3.out _ _ b12).mono ?_
                rintro e w3 ⟨rfl, b3⟩
                have b13 := b12.trans (b3.mono b12.size)
                have rx3 := rx2.below b3
                have ry3 := ry2.below b3
                clear kk3 rx2 ry2 b12
                go_wp2_with fail
                refine (kk4.out _ _ b13).mono ?_
                rintro e w4 ⟨rfl, b4⟩
                have b14 := b13.trans (b4.mono b13.size)
                have rx4 := rx3.below b4
                have ry4 := ry3.below b4
                clear kk4 rx3 ry3 b13
                obtain ⟨xa', xc', ex, hAx⟩ := rx4.lat
                obtain ⟨ya', yc', ey, hAy⟩ := ry4.lat
                simp only [Value.slice.injEq] at ex ey
                obtain ⟨rfl, -, rfl⟩ := ex
                obtain ⟨rfl, -, rfl⟩ := ey
                go_wp2_with fail
                refine (kk5.out _ _ _ _ _ hAx hAy).mono ?_
                rintro e w5 ⟨rfl, d5⟩
                have b15 := b14.trans ((d5.below _).mono b14.size)
                have rx5 := rx4.below (d5.below _)
                have ry5 := ry4.below (d5.below _)
                clear kk5 rx4 ry4 b14 hAx hAy
                go_wp2_with fail
                refine (kk6.out _ _ _ b15).mono ?_
                rintro e w6 ⟨rfl, d6⟩
                have b16 := b15.trans ((d6.below _).mono b15.size)
                have rx6 := rx5.below (d6.below _)
                have ry6 := ry5.below (d6.below _)
                have HZ := Hid.mk (And.intro rx6 (And.intro ry6 (And.intro b16 (And.intro nx1 (And.intro ny2 b1)))))
                clear kk6 rx5 ry5 b15 rx6 ry6 b16 nx1 ny2 b1 b2 b3 b4 d5 d6
                go_wp2
                obtain ⟨Wm, rfl⟩ : ∃ W, W = wr := ⟨_, rfl⟩
                go_loopw [33] (fun f wj => ∃ (kk : Nat), n ≤ kk ∧ kk ≤ n + 64 ∧ f = .int .i64 kk ∧ Drew w6 wj) (fun f _ => n + 64 - (intOf f).toNat)
                case atStart => exact ⟨n, Nat.le_refl _, by omega, rfl, Drew.refl _⟩
                case round =>
                  obtain ⟨kk, hr1, hr2, rfl, hdr⟩ := hrel
                  have HDR := Hid.mk hdr
                  have BM : Below Wm.heap.size Wm wr := HZ.out.2.2.1.trans ((hdr.below _).mono HZ.out.2.2.1.size)
                  obtain ⟨F, hF1, hF2, hF3, hF4⟩ := HM.out.full
                  by_cases hrn : kk < n + 64
                  · have hr' : (kk : Int) < (n : Int) + 64 := by omega
                    have hr5 : (kk : Int) < ((n + 64 : Nat) : Int) := by omega
                    obtain ⟨y0, y1, -⟩ := z_row (hF4.below BM) kk (by omega)
                    have hmk := hF3 kk hr1 (by rw [HE.out.2.2]; exact hrn)
                    rw [List.getElem?_eq_getElem (by omega)] at hmk
                    simp only [Option.some.injEq] at hmk
                    rw [hmk] at y0 y1
                    have G3 := (BM.block bm (Array.getElem?_eq_some_iff.1 HG3.out.1).1).trans HG3.out.1
                    have y2 : wr.cell? ⟨bm, 0, none⟩ = some (.int .i64 (-77)) := by rw [cell_of_row _ _ 0 _ _ (0, 0) G3]; rfl
                    have y3 : wr.cell? ⟨bm, 1, none⟩ = some (.int .i64 77) := by rw [cell_of_row _ _ 1 _ _ (0, 0) G3]; rfl
                    have hzn := z_neq
                    clear hF1 hF2 hF3 hF4 hmk G3 BM hdr HM
                    go_wp2_with fail
                    refine wp_region_held_drew (S := fun w' => w'.cell? ⟨bf, kk * 2, none⟩ = some (.int .i64 (-77)) ∧ w'.cell? ⟨bf, kk * 2 + 1, none⟩ = some (.int .i64 77) ∧ w'.cell? ⟨bm, 0, none⟩ = some (.int .i64 (-77)) ∧ w'.cell? ⟨bm, 1, none⟩ = some (.int .i64 77)) (by kernel_rfl) ?_ (fun hHeld => ?_)
                    · exact ⟨y0, y1, y2, y3⟩
                    refine wpAnyH_take (i := 0) (oi := { dst := some 177, op := Op.move (Operand.tmp 15), type := 23, pos := "law.go:86", after := #[], guard := none }) (v := ?vm0) rfl (by kernel_rfl) (by kernel_rfl) (by kernel_rfl) (fun _ _ _ h => h) (Or.inl ⟨by rfl, ?hm0⟩) (by assumption) ?rm0
                    case hm0 => (intro w0 hSw; (try dsimp only at hSw); go_simp; try (with_reducible rfl))
                    simp only [Act.put, List.setIfInBounds_toArray, List.set_cons_zero, List.set_cons_succ]
                    refine wpAnyH_take (i := 1) (oi := { dst := some 178, op := Op.move (Operand.tmp 33), type := 3, pos := "law.go:86", after := #[], guard := none }) (v := ?vm1) rfl (by kernel_rfl) (by kernel_rfl) (by kernel_rfl) (fun _ _ _ h => h) (Or.inl ⟨by rfl, ?hm1⟩) (by assumption) ?rm1
                    case hm1 => (intro w0 hSw; (try dsimp only at hSw); go_simp; try (with_reducible rfl))
                    simp only [Act.put, List.setIfInBounds_toArray, List.set_cons_zero, List.set_cons_succ]
                    refine wpAnyH_take (i := 2) (oi := { dst := some 179, op := Op.indexAddr 23 (Operand.tmp 177) (Operand.tmp 178), type := 0, pos := "law.go:86", after := #[{ on := 0, ground := Ground.data }, { on := 1, ground := Ground.data }], guard := none }) (v := ?vm2) rfl (by kernel_rfl) (by kernel_rfl) (by kernel_rfl) (fun _ _ _ h => h) (Or.inl ⟨by rfl, ?hm2⟩) (by assumption) ?rm2
                    case hm2 => (intro w0 hSw; (try dsimp only at hSw); go_simp; try (with_reducible rfl))
                    simp only [Act.put, List.setIfInBounds_toArray, List.set_cons_zero, List.set_cons_succ]
                    refine wpAnyH_take (i := 3) (oi := { dst := some 180, op := Op.load 30 (Operand.tmp 179), type := 30, pos := "law.go:86", after := #[{ on := 2, ground := Ground.data }], guard := none }) (v := ?vm3) rfl (by kernel_rfl) (by kernel_rfl) (by kernel_rfl) (fun _ _ _ h => h) (Or.inl ⟨by rfl, ?hm3⟩) (by assumption) ?rm3
                    case hm3 => (intro w0 hSw; (try dsimp only at hSw); go_simp; try (with_reducible rfl))
                    simp only [Act.put, List.setIfInBounds_toArray, List.set_cons_zero, List.set_cons_succ]
                    refine wpAnyH_take (i := 4) (oi := { dst := some 181, op := Op.load 30 (Operand.tmp 14), type := 30, pos := "law.go:86", after := #[], guard := none }) (v := ?vm4) rfl (by kernel_rfl) (by kernel_rfl) (by kernel_rfl) (fun _ _ _ h => h) (Or.inl ⟨by rfl, ?hm4⟩) (by assumption) ?rm4
                    case hm4 => (intro w0 hSw; (try dsimp only at hSw); go_simp; try (with_reducible rfl))
                    simp only [Act.put, List.setIfInBounds_toArray, List.set_cons_zero, List.set_cons_succ]
                    refine wpAnyH_take (i := 5) (oi := { dst := some 182, op := Op.binOp BinOp.neq 30 (Operand.tmp 180) (Operand.tmp 181) 30, type := 4, pos := "law.go:86", after := #[{ on := 3, ground := Ground.data }, { on := 4, ground := Ground.data }], guard := none }) (v := ?vm5) rfl (by kernel_rfl) (by kernel_rfl) (by kernel_rfl) (fun _ _ _ h => h) (Or.inl ⟨by rfl, ?hm5⟩) (by assumption) ?rm5
                    case hm5 => (intro w0 hSw; (try dsimp only at hSw); go_simp; try (with_reducible rfl))
                    simp only [Act.put, List.setIfInBounds_toArray, List.set_cons_zero, List.set_cons_succ]
                    refine wpAnyH_done (by kernel_rfl) ?_ _
                    go_wp2
                    go_roundw
                    case rel => exact ⟨kk + 1, by omega, hrn, by go_num, HDR.out.drew⟩
                    case measure => simp [intOf]; omega
                  · have hr' : ¬ (kk : Int) < (n : Int) + 64 := by omega
                    have sF : Stay (fun k => k = bf) Wi wr := HM.out.st.trans (.below BM)
                    have hWm : Wi.heap.size ≤ Wm.heap.size := HM.out.st.size
                    have hw : smW wd dm sd (vcI v i) = Sm := by rw [EV.out.1]; exact HE.out.1
                    obtain ⟨rx, ry, b16, nx, ny, b1⟩ := HZ.out
                    obtain ⟨a1, c1, W1, a2, c2, W2, hap1, hap2, hS2⟩ := HS.out.next HF.out.1 sF F hF1 (hF4.below BM) (.slice xa L xc) (.slice ya L yc) (by show zE.Row _ _ (smW wd dm sd (vcI v i)); rw [hw]; exact rx.below (hdr.below _)) (by show zE.Row _ _ (smW wd dm sd (vcI v i)); rw [hw]; exact ry.below (hdr.below _)) (fun b hb => Nat.le_trans hWm (nx b hb)) (fun b hb => Nat.le_trans hWm (Nat.le_trans b1.size (ny b hb))) rfl rfl (by omega)
                    have HS2 := Hid.mk hS2
                    clear hF1 hF2 hF3 hF4 sF hWm hw rx ry b16 nx ny b1 BM hdr HM HS HZ hS2
                    go_wp2_with (at_builtin; first | (refine wpList_append_eq rfl _ _ _ _ rfl _ _ _ _ rfl rfl hap1 ?_; clear hap1) | (refine wpList_append_eq rfl _ _ _ _ rfl _ _ _ _ rfl rfl hap2 ?_; clear hap2))
                    go_roundw
                    case rel => exact ⟨i + 1, a1, a2, c1, c2, _, _, hlt, rfl, rfl, by go_num, HS2⟩
                    case measure => simp [intOf]; omega
      · have hlt' : ¬ (i : Int) < 5 := by omega
        have e : i = 5 := by omega
        subst e
        clear hi hlt
        have hw5 : ∀ j, (smW wd dm sd (vcI v j)).length ≤ 512 := fun j => smW_len wd dm sd _ HX.out.2.1
        have HW5 := Hid.mk hw5
        clear hw5
        go_wp2
        go_loopw [34, 35] (fun f _ wj => ∃ (j : Nat), j ≤ 5 ∧ f = .int .i64 j ∧ Drew Wi wj) (fun f _ _ => 5 - (intOf f).toNat)
        case atStart => exact ⟨0, Nat.zero_le _, rfl, Drew.refl _⟩
        case round =>
          obtain ⟨j, hj, rfl, hdr⟩ := hrel
          have HDR := Hid.mk hdr
          by_cases hj5 : j < 5
          · have hj' : (j : Int) < 5 := by omega
            have hgj : j < gs.length := by rw [HS.out.gl]; exact hj5
            have hwj : j < ws.length := by rw [HS.out.wl]; exact hj5
            have rl := HS.out.ls.each j _ (List.getElem?_eq_getElem hgj)
            have rw' := HS.out.wn.each j _ (List.getElem?_eq_getElem hwj)
            have gr := HS.out.ls.row
            have wr' := HS.out.wn.row
            rw [HS.out.gl] at gr
            rw [HS.out.wl] at wr'
            obtain ⟨gb, egb⟩ : ∃ g, ga = some ⟨g, 0, none⟩ := by
              rcases gr.2 with ⟨e, e2⟩ | ⟨g, cap, cur, e, -⟩
              · omega
              · simp only [Value.slice.injEq] at e
                exact ⟨g, e.1⟩
            obtain ⟨wb, ewb⟩ : ∃ g, wa = some ⟨g, 0, none⟩ := by
              rcases wr'.2 with ⟨e, e2⟩ | ⟨g, cap, cur, e, -⟩
              · omega
              · simp only [Value.slice.injEq] at e
                exact ⟨g, e.1⟩
            subst egb ewb
            have c0 := World.ownsRow.cellAt gr j (by omega)
            have c1 := World.ownsRow.cellAt wr' j (by omega)
            rw [List.getElem?_eq_getElem hgj] at c0
            rw [List.getElem?_eq_getElem hwj] at c1
            obtain ⟨xa, xc, ex, hAx⟩ := El.Row.lat (E := zE) rl
            obtain ⟨ya, yc, ey, hAy⟩ := El.Row.lat (E := zE) rw'
            rw [ex] at c0
            rw [ey] at c1
            have y0 := cell_lat (hdr.below _) c0
            have y1 := cell_lat (hdr.below _) c1
            have k5 := same_any _ xa ya xc yc wr.drew (hAx.below ((hdr.below _).drew)) (hAy.below ((hdr.below _).drew)) (by have := HW5.out j; omega)
            generalize (smW wd dm sd (vcI v j)).length = L at *
            clear c0 c1 ex ey hAx hAy rl rw' gr wr' hgj hwj hdr
            go_wp2_with fail
            refine wp_region_held_drew (S := fun w' => w'.cell? ⟨gb, j, none⟩ = some (.slice xa L xc) ∧ w'.cell? ⟨wb, j, none⟩ = some (.slice ya L yc)) (by kernel_rfl) ?_ (fun hHeld => ?_)
            · exact ⟨y0, y1⟩
            refine wpAnyH_take (i := 0) (oi := { dst := some 195, op := Op.move (Operand.tmp 16), type := 43, pos := "law.go:94", after := #[], guard := none }) (v := ?vl0) rfl (by kernel_rfl) (by kernel_rfl) (by kernel_rfl) (fun _ _ _ h => h) (Or.inl ⟨by rfl, ?hl0⟩) (by assumption) ?rl0
            case hl0 => (intro w0 hSw; (try dsimp only at hSw); go_simp; try (with_reducible rfl))
            simp only [Act.put, List.setIfInBounds_toArray, List.set_cons_zero, List.set_cons_succ]
            refine wpAnyH_take (i := 1) (oi := { dst := some 196, op := Op.move (Operand.tmp 34), type := 3, pos := "law.go:94", after := #[], guard := none }) (v := ?vl1) rfl (by kernel_rfl) (by kernel_rfl) (by kernel_rfl) (fun _ _ _ h => h) (Or.inl ⟨by rfl, ?hl1⟩) (by assumption) ?rl1
            case hl1 => (intro w0 hSw; (try dsimp only at hSw); go_simp; try (with_reducible rfl))
            simp only [Act.put, List.setIfInBounds_toArray, List.set_cons_zero, List.set_cons_succ]
            refine wpAnyH_take (i := 2) (oi := { dst := some 197, op := Op.indexAddr 43 (Operand.tmp 195) (Operand.tmp 196), type := 0, pos := "law.go:94", after := #[{ on := 0, ground := Ground.data }, { on := 1, ground := Ground.data }], guard := none }) (v := ?vl2) rfl (by kernel_rfl) (by kernel_rfl) (by kernel_rfl) (fun _ _ _ h => h) (Or.inl ⟨by rfl, ?hl2⟩) (by assumption) ?rl2
            case hl2 => (intro w0 hSw; (try dsimp only at hSw); go_simp; try (with_reducible rfl))
            simp only [Act.put, List.setIfInBounds_toArray, List.set_cons_zero, List.set_cons_succ]
            refine wpAnyH_take (i := 3) (oi := { dst := some 198, op := Op.load 23 (Operand.tmp 197), type := 23, pos := "law.go:94", after := #[{ on := 2, ground := Ground.data }], guard := none }) (v := ?vl3) rfl (by kernel_rfl) (by kernel_rfl) (by kernel_rfl) (fun _ _ _ h => h) (Or.inl ⟨by rfl, ?hl3⟩) (by assumption) ?rl3
            case hl3 => (intro w0 hSw; (try dsimp only at hSw); go_simp; try (with_reducible rfl))
            simp only [Act.put, List.setIfInBounds_toArray, List.set_cons_zero, List.set_cons_succ]
            refine wpAnyH_take (i := 4) (oi := { dst := some 199, op := Op.move (Operand.tmp 17), type := 43, pos := "law.go:94", after := #[], guard := none }) (v := ?vl4) rfl (by kernel_rfl) (by kernel_rfl) (by kernel_rfl) (fun _ _ _ h => h) (Or.inl ⟨by rfl, ?hl4⟩) (by assumption) ?rl4
            case hl4 => (intro w0 hSw; (try dsimp only at hSw); go_simp; try (with_reducible rfl))
            simp only [Act.put, List.setIfInBounds_toArray, List.set_cons_zero, List.set_cons_succ]
            refine wpAnyH_take (i := 5) (oi := { dst := some 200, op := Op.move (Operand.tmp 34), type := 3, pos := "law.go:94", after := #[], guard := none }) (v := ?vl5) rfl (by kernel_rfl) (by kernel_rfl) (by kernel_rfl) (fun _ _ _ h => h) (Or.inl ⟨by rfl, ?hl5⟩) (by assumption) ?rl5
            case hl5 => (intro w0 hSw; (try dsimp only at hSw); go_simp; try (with_reducible rfl))
            simp only [Act.put, List.setIfInBounds_toArray, List.set_cons_zero, List.set_cons_succ]
            refine wpAnyH_take (i := 6) (oi := { dst := some 201, op := Op.indexAddr 43 (Operand.tmp 199) (Operand.tmp 200), type := 0, pos := "law.go:94", after := #[{ on := 4, ground := Ground.data }, { on := 5, ground := Ground.data }], guard := none }) (v := ?vl6) rfl (by kernel_rfl) (by kernel_rfl) (by kernel_rfl) (fun _ _ _ h => h) (Or.inl ⟨by rfl, ?hl6⟩) (by assumption) ?rl6
            case hl6 => (intro w0 hSw; (try dsimp only at hSw); go_simp; try (with_reducible rfl))
            simp only [Act.put, List.setIfInBounds_toArray, List.set_cons_zero, List.set_cons_succ]
            refine wpAnyH_take (i := 7) (oi := { dst := some 202, op := Op.load 23 (Operand.tmp 201), type := 23, pos := "law.go:94", after := #[{ on := 6, ground := Ground.data }], guard := none }) (v := ?vl7) rfl (by kernel_rfl) (by kernel_rfl) (by kernel_rfl) (fun _ _ _ h => h) (Or.inl ⟨by rfl, ?hl7⟩) (by assumption) ?rl7
            case hl7 => (intro w0 hSw; (try dsimp only at hSw); go_simp; try (with_reducible rfl))
            simp only [Act.put, List.setIfInBounds_toArray, List.set_cons_zero, List.set_cons_succ]
            refine wpAnyH_ready (rs := [8]) (by kernel_rfl) (by simp) ?_
            refine AllReadyH.cons rfl (fun K hK => ?_) AllReadyH.nil
            go_simp
            go_wp2_with (go_at_call 20; refine k5.mono ?_; clear k5; rintro e w9 ⟨rfl, d9⟩)
            refine hK.out _ _ ?_ (fun hHeld => ?_)
            · exact ⟨cell_lat ((b_drew wr).trans ((d9.below _).mono (Nat.le_refl _))) y0, cell_lat ((b_drew wr).trans ((d9.below _).mono (Nat.le_refl _))) y1⟩
            clear hK K
            refine wpAnyH_take (i := 9) (oi := { dst := some 35, op := Op.assign (Operand.tmp 203), type := 4, pos := "law.go:94", after := #[{ on := 8, ground := Ground.data }, { on := 8, ground := Ground.chain }, { on := 0, ground := Ground.phase }, { on := 1, ground := Ground.phase }, { on := 2, ground := Ground.phase }, { on := 3, ground := Ground.phase }, { on := 4, ground := Ground.phase }, { on := 5, ground := Ground.phase }, { on := 6, ground := Ground.phase }, { on := 7, ground := Ground.phase }, { on := 8, ground := Ground.phase }], guard := none }) (v := ?vl9) rfl (by kernel_rfl) (by kernel_rfl) (by kernel_rfl) (fun _ _ _ h => h) (Or.inl ⟨by rfl, ?hl9⟩) (by assumption) ?rl9
            case hl9 => (intro w0 hSw; (try dsimp only at hSw); go_simp; try (with_reducible rfl))
            simp only [Act.put, List.setIfInBounds_toArray, List.set_cons_zero, List.set_cons_succ]
            refine wpAnyH_done (by kernel_rfl) ?_ _
            have HX9 := Hid.mk d9
            clear d9
            go_wp2
            go_roundw
            case rel => exact ⟨j + 1, hj5, by go_num, HDR.out.drew.trans HX9.out⟩
            case measure => simp [intOf]; omega
          · have hj' : ¬ (j : Int) < 5 := by omega
            have ap := (HS.out.ls.lat (hdr.below _)).ap
            have kA := apartC_any (.slice ga 5 gc) gs _ wr ap (by rw [HS.out.gl]; omega) (fun m hm => by
              obtain ⟨q, -, rfl⟩ := List.mem_map.1 hm
              have := HW5.out q
              show (smW wd dm sd (vcI v q)).length ≤ _
              omega)
            have HB5 := Hid.mk (HQ.out wr (HS.out.st.trans (.below (hdr.below _)))).2.2.2.2
            clear ap hdr
            go_wp2_with fail
            refine kA.mono ?_
            rintro e w9 ⟨rfl, s9⟩
            have HZ9 : Hid (Below w.heap.size w w9) := by
              have hb := HB5.out
              refine hb.trans (s9.toBelow (fun k hk e => ?_) hb.size)
              obtain ⟨q, s, hs, he⟩ := e
              have := HS.out.ls.new q s k hs he
              have := HF.out.1
              have := HF.out.2.1
              omega
            clear kA s9
            go_wp2
            go_ret
            exact ⟨rfl, HZ9.out⟩
  · have HK := Hid.mk hk
    have kN := new_any x d sd w
    have kR := rnew_any x d sd w
    have n1 : (nwE x d != nwE x d) = false := by simp
    clear hk hv hn
    go_enter Try.func4, Try.ntmps4
    go_wp2_with fail
    refine kN _ (fun _ => ?_) (fun h => absurd h HK.out)
    clear kN
    go_wp2_with fail
    refine kR _ (fun _ => ?_) (fun h => absurd h HK.out)
    clear kR
    go_wp2
    go_ret
    exact ⟨rfl, Below.refl _ _⟩
end Go.Proofs.Ytmdmjjobhkpojaa
