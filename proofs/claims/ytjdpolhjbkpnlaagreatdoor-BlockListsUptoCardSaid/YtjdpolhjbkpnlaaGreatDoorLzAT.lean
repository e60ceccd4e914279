/-
  DERIVED. BRef7, BLaw0, BX6, as one text.
-/
import Derived.Test.YtjdpolhjbkpnlaaGreatDoorLzAK
import Derived.Test.YtjdpolhjbkpnlaaGreatDoorLzAG
import Derived.Deep.RegionHeldLaw
import Derived.Test.YtjdpolhjbkpnlaaGreatDoorLzAI
import Derived.Test.YtjdpolhjbkpnlaaGreatDoorLzAL
import Derived.Test.YtjdpolhjbkpnlaaGreatDoorLzAS
set_option linter.unusedVariables false
set_option linter.unusedSimpArgs false
namespace Go.Proofs.YtjdpolhjbkpnlaaGreatDoor.Rb
open Go.RowKit Go.Proofs.SealMath
theorem rhead_any (h : Hd) (n : Nat) (w : World) (hh : hdE h = 0) (hn : n < 9223372036854775808) :
    Calls Tryz.prog 47 #[.agg (hdC h).toArray, .int .i64 n] w fun r w' => ∃ X : ByteArray, r = .returned (.string X) ∧ X.size ≤ 60 ∧ Hid (X.data.toList = hdB h n) ∧ Below w.heap.size w w' := by
  obtain ⟨h1, h2, h3, h4, h5, h6⟩ := hdE0 hh
  have hw := isW_bd h1
  obtain ⟨wd, t, b, lo, hi, c⟩ := h
  dsimp only at *
  obtain ⟨wd, rfl⟩ : ∃ V : Nat, wd = V := ⟨wd.toNat, by omega⟩
  obtain ⟨t, rfl⟩ : ∃ V : Nat, t = V := ⟨t.toNat, by omega⟩
  obtain ⟨b, rfl⟩ : ∃ V : Nat, b = V := ⟨b.toNat, by omega⟩
  obtain ⟨lo, rfl⟩ : ∃ V : Nat, lo = V := ⟨lo.toNat, by omega⟩
  obtain ⟨hi, rfl⟩ : ∃ V : Nat, hi = V := ⟨hi.toNat, by omega⟩
  exact rhead_x wd t b lo hi n w (by omega) (by omega) (by omega) (by omega) (by omega) hn c
set_option maxHeartbeats 4000000 in
set_option maxRecDepth 100000 in
theorem rbuild_any (h : Hd) (l : List En) (la : Option Addr) (cap : Nat) (w : World) (hl : LAt w la l) (hcm : l.length < 4611686018427387904) :
    Calls Tryz.prog 26 #[.agg (hdC h).toArray, .slice la l.length cap] w fun r w' => r = .returned (.tuple #[.string ⟨(bdT h l).toArray⟩, .int .i64 (bdE h l)]) ∧ Below w.heap.size w w' := by
  have hg := fun W hW => rgoes_any h l la cap W hW hcm
  have U0 := SAt.new w (hdC h) 31
  have bA : Below w.heap.size w (w.alloc (.cells (hdC h).toArray 31)) := (Below.refl _ w).alloc (Nat.le_refl _) _
  have hl1 := hl.below bA
  by_cases he : bdE h l = 0
  · obtain ⟨hh, hn, hls, hok⟩ := bdE_ok he
    have eT : bdT h l = fileT h l := by unfold bdT; rw [if_pos he]
    rw [he] at hg
    rw [he, eT]
    have hhd := fun W => rhead_any h l.length W hh (by omega)
    have q0 := U0 0 _ rfl
    have q1 := U0 1 _ rfl
    have q2 := U0 2 _ rfl
    have q3 := U0 3 _ rfl
    have q4 := U0 4 _ rfl
    have q5 := U0 5 _ rfl
    obtain ⟨FT, hFT⟩ : ∃ FT, FT = fileT h l := ⟨_, rfl⟩
    rw [← hFT]
    have HFT := Hid.mk hFT
    have HL := Hid.mk (And.intro hl hok)
    have hln : (l.length : Int) ≤ 2097152 := by omega
    obtain ⟨Hh, hHh⟩ : ∃ Hh, Hh = h := ⟨_, rfl⟩
    rw [← hHh] at HFT
    obtain ⟨wd, t, b, lo, hi, c⟩ := h
    simp only [hdC] at hg bA hl1 hhd q0 q1 q2 q3 q4 q5 ⊢
    clear U0 he eT hh hls hok hl hFT
    go_enter Tryz.func26, Tryz.ntmps26
    go_wp2_with (go_at_call 44; refine (hg _ hl1).mono ?_; rintro e w2 ⟨rfl, b2⟩; have q0 := cell_lat b2 q0; have q1 := cell_lat b2 q1; have q2 := cell_lat b2 q2; have q3 := cell_lat b2 q3; have q4 := cell_lat b2 q4; have q5 := cell_lat b2 q5; have bW := chain bA b2 (Nat.le_refl _); clear hg b2 bA hl1)
    go_loopw [7, 8] (fun tv iv wr => ∃ i : Nat, i ≤ l.length ∧ iv = .int .i64 i ∧ TAt wr tv ((l.take i).map enB) ∧ (∀ k, tv.ownBlock = some k → w2.heap.size ≤ k) ∧ Below w2.heap.size w2 wr) (fun _ iv _ => l.length - (intOf iv).toNat)
    case atStart => exact ⟨0, Nat.zero_le _, rfl, ⟨⟨rfl, .inl ⟨rfl, rfl⟩⟩⟩, (fun k h => by cases h), Below.refl _ _⟩
    case round =>
      obtain ⟨i, hi1, rfl, hT, hlo, hb⟩ := hrel
      have hbw := chain bW hb (Nat.le_refl _)
      by_cases hlt : i < l.length
      · obtain ⟨g, off, hla, hra⟩ := (HL.out.1.below hbw).at' (fun h => by rw [h] at hlt; simp at hlt)
        subst hla
        obtain ⟨x0, x1, x2, x3, x4⟩ := row_en hra rfl i hlt
        have hby := rbytes_o l[i] (HL.out.2 _ (List.getElem_mem hlt))
        have htk : (l.take (i + 1)).map enB = (l.take i).map enB ++ [enB l[i]] := by rw [List.take_succ_eq_append_getElem hlt, List.map_append]; rfl
        obtain ⟨e, hee⟩ : ∃ e, e = l[i] := ⟨_, rfl⟩
        rw [← hee] at x0 x1 x2 x3 x4 hby htk
        have i1 : (i : Int) < (l.length : Int) := by omega
        obtain ⟨ta, tc, htv, -⟩ := slice_form hT.row
        have hlen : ((l.take i).map enB).length = i := by simp; omega
        rw [hlen] at htv
        have HT := Hid.mk (And.intro hT (And.intro hlo (And.intro hb htk)))
        have HV := Hid.mk htv
        rw [htv]
        clear hT hlo hb htk hee htv hra
        go_wp2_with fail
        refine (hby _).mono ?_
        rintro r w3 ⟨rfl, b3⟩
        have hT3 := HT.out.1.kept (F := fun _ => False) (.below b3) (fun _ _ e => e)
        obtain ⟨v', w4, hr4, hT4, s4, hloc4⟩ := str_app w3 _ _ hT3 (enB e) (by rw [hlen]; omega)
        have eTV : TV (enB e) = .string ⟨(enB e).toArray⟩ := rfl
        rw [eTV, HV.out] at hr4
        rw [HV.out] at s4 hloc4
        have hlov := HT.out.2.1
        rw [HV.out] at hlov
        have HS := Hid.mk (And.intro hT4 (And.intro s4 (And.intro hloc4 (And.intro b3 hlov))))
        clear hT3 hT4 s4 hloc4 hby eTV hlov
        go_wp2_with (at_builtin; refine wpList_append_eq rfl _ _ _ _ rfl _ _ _ _ rfl rfl hr4 ?_)
        refine ⟨⟨i + 1, hlt, ival (by omega), by rw [HT.out.2.2.2]; exact HS.out.1, fun k hk => ?_, ?_⟩, by simp only [intOf]; omega⟩
        · rcases HS.out.2.2.1 k hk with h1 | h1
          · exact HS.out.2.2.2.2 k h1
          · have := HS.out.2.2.2.1.size; have := HT.out.2.2.1.size; omega
        · exact (chain HT.out.2.2.1 HS.out.2.2.2.1 (Nat.le_refl _)).trans (HS.out.2.1.toBelow (fun k hk e => by have := HS.out.2.2.2.2 k e; omega) (by have := HS.out.2.2.2.1.size; have := HT.out.2.2.1.size; omega))
      · have e1 : i = l.length := by omega
        subst e1
        rw [List.take_length] at hT
        have hok := HL.out.2
        have hTs : ∀ t ∈ l.map enB, 1 ≤ t.length ∧ t.length ≤ 4096 := fun t ht => by
          obtain ⟨q, hq, rfl⟩ := List.mem_map.1 ht
          have := enB_len q; have := (hok q hq).c; omega
        have hpm : (pk tid (l.map enB)).map (·.2.length) = (pk enB l).map (·.2.length) := by rw [show tid = fun t => t from rfl, pk_map]; simp
        have p0 := cell_lat hb q0
        have p1 := cell_lat hb q1
        have p2 := cell_lat hb q2
        have p3 := cell_lat hb q3
        have p4 := cell_lat hb q4
        have p5 := cell_lat hb q5
        obtain ⟨ta, tc, htv, -⟩ := slice_form hT.row
        rw [List.length_map] at htv
        have HT := Hid.mk (And.intro hT (And.intro hlo hb))
        have HV := Hid.mk htv
        rw [htv]
        have HM := Hid.mk (And.intro hTs hpm)
        clear hT hlo hb htv hok hTs hpm q0 q1 q2 q3 q4 q5
        go_wp2_with fail
        refine (hhd _).mono ?_
        rintro r w3 ⟨X, rfl, hX, HX, b3⟩
        clear hhd p0 p1 p2 p3 p4 p5
        go_wp2_with fail
        refine (rframed_e 4 X w3 (by omega) (by omega) (by omega)).mono ?_
        rintro r w4 ⟨rfl, b4⟩
        have hfs : (⟨(frL 4 X.data.toList).toArray⟩ : ByteArray).size = X.size + 14 := by show (frL 4 X.data.toList).toArray.size = _; rw [List.size_toArray, frL_len, nm_size]
        obtain ⟨hcv, hW5, b5⟩ := bytes_row w4 ⟨(frL 4 X.data.toList).toArray⟩ (by rw [hfs]; omega)
        have b45 := chain b4 b5 (Nat.le_refl _)
        have b35 := chain b3 b45 (Nat.le_refl _)
        have hT5 := HT.out.1.kept (F := fun _ => False) (.below b35) (fun _ _ e => e)
        have hfil := filled_any (l.map enB) u7 _ hT5 (by simp; omega) HM.out.1
        rw [HM.out.2, HV.out] at hfil
        obtain ⟨w5, hw5⟩ : ∃ w5, w5 = Lib.bytesWorld w4 5 ⟨(frL 4 X.data.toList).toArray⟩ := ⟨_, rfl⟩
        rw [← hw5] at hcv hW5 b5 b45 b35 hT5 hfil
        have hfb : frL 4 X.data.toList = hdF Hh l := by rw [HX.out]; unfold hdF; rw [hHh]
        obtain ⟨B0, hB0⟩ : ∃ B0, B0 = frL 4 X.data.toList := ⟨_, rfl⟩
        rw [← hB0] at hcv hW5 hfs hfb ⊢
        obtain ⟨zc, hzc⟩ : ∃ zc, zc = grownCap w4 (⟨B0.toArray⟩ : ByteArray).size 0 5 := ⟨_, rfl⟩
        rw [← hzc] at hcv hW5
        rw [hfs] at hcv hW5
        have hlo5 : w2.heap.size ≤ w4.heap.size := by have := HT.out.2.2.size; have := b3.size; have := b4.size; omega
        have HW5 := Hid.mk (And.intro hW5 (And.intro hT5 (And.intro b35 (And.intro hfb hlo5))))
        clear hW5 hT5 b35 b45 b5 b4 b3 hw5 hB0 hzc hfb HX hlo5
        go_wp2_with (go_at_call 48; refine hfil.mono ?_; rintro r w6 ⟨sv, rfl, hS6, hlo6, b6⟩; clear hfil hcv)
        obtain ⟨S, hSe⟩ : ∃ S, S = (pk enB l).map (·.2.length) := ⟨_, rfl⟩
        rw [← hSe] at hS6
        have hT6 := HW5.out.2.1.kept (F := fun _ => False) (.below b6) (fun _ _ e => e)
        have hRS : RS w2 w6 u7 (.slice (some ⟨w4.heap.size, 0, none⟩) (X.size + 14) zc) sv (.slice none 0 0) (l.map enB) B0 S [] := by
          refine ⟨hT6, ?_, hS6, ⟨⟨rfl, .inl ⟨rfl, rfl⟩⟩⟩, (HT.out.2.2.trans (HW5.out.2.2.1.mono HT.out.2.2.size)).trans (b6.mono (by have := HT.out.2.2.size; have := HW5.out.2.2.1.size; omega)), ?_, fun k _ h => by cases h⟩
          · exact HW5.out.1.kept (F := fun _ => False) (.below b6) (fun _ _ e => e)
          · rintro k (e | e | e | e)
            · exact HT.out.2.1 k e
            · cases e; exact HW5.out.2.2.2.2
            · have := hlo6 k e; have := HW5.out.2.2.1.size; have := HT.out.2.2.size; omega
            · cases e
        obtain ⟨sa, sc, hsv, -⟩ := int_at hS6
        subst hsv
        have hSl : S.length ≤ 2097152 := by rw [hSe, List.length_map]; have := pk_len enB l (fun q hq => by have := (enB_len q).1; have := (HL.out.2 q hq).c; omega); omega
        rw [HV.out] at hRS
        have HR0 := Hid.mk (And.intro hRS (And.intro hSe HW5.out.2.2.2.1))
        clear hRS hT6 hS6 hlo6 b6 HW5 HT HM hSe hfs
        go_loopw [9, 11, 12, 13, 14] (fun bv lv mv av kv wr => ∃ k : Nat, k ≤ (pk enB l).length ∧ kv = .int .i64 k ∧ av = .int .i64 (((((pk enB l).take k).map (fun x => x.2.length)).sum : Nat) : Int) ∧ mv = .int .u32 (smP ((pk enB l).take k)) ∧ RS w2 wr (.slice ta l.length tc) bv (.slice sa S.length sc) lv (l.map enB) (hdF Hh l ++ blkL enB 5 ((pk enB l).take k)) S ((lns (hdF Hh l).length ((pk enB l).take k)).map lnB)) (fun _ _ _ _ kv _ => (pk enB l).length - (intOf kv).toNat)
        case atStart => exact ⟨0, Nat.zero_le _, rfl, rfl, ival (by simp [smP, crc, regs]), by have h := HR0.out.1; rw [HR0.out.2.2] at h; simpa [blkL, lns] using h⟩
        case round =>
          obtain ⟨k, hk1, rfl, rfl, rfl, hRS⟩ := hrel
          have hSlen : S.length = (pk enB l).length := by rw [HR0.out.2.1]; simp
          have hbw2 := chain bW hRS.bel (Nat.le_refl _)
          by_cases hkl : k < (pk enB l).length
          · obtain ⟨hk2, hp1, hpx⟩ := pk_at l k hkl
            have hSk : ∃ hh : k < S.length, S[k] = (pk enB l)[k].2.length := ⟨by omega, by simp [HR0.out.2.1]⟩
            obtain ⟨pp, hpp⟩ : ∃ pp, pp = (pk enB l)[k] := ⟨_, rfl⟩
            rw [← hpp] at hk2 hp1 hpx hSk
            obtain ⟨hxl, hhd, hp0, hxe, hl4⟩ := part_first hpx HL.out.2
            obtain ⟨hkS, hSk⟩ := hSk
            have hokY := HL.out.2 _ (List.getElem_mem hxl)
            obtain ⟨g, off, hla, hra⟩ := (HL.out.1.below hbw2).at' (fun h => by rw [h] at hxl; simp at hxl)
            subst hla
            obtain ⟨x0, x1, x2, x3, x4⟩ := row_en hra rfl pp.1 hxl
            have hsn := lns_snoc ((pk enB l).take k) (hdF Hh l).length pp
            rw [hhd, ← List.length_append] at hsn
            have hbs := blkL_snoc enB 5 ((pk enB l).take k) pp
            have hsm := smP_snoc ((pk enB l).take k) pp
            have hsl := smP_lt ((pk enB l).take k)
            have hsum : (((pk enB l).take (k + 1)).map (·.2.length)).sum = pp.1 + pp.2.length := by rw [hk2, hp1]; simp
            rw [← hp1]
            have hdt : (((l.map enB).drop pp.1).take pp.2.length).flatten = pp.2.flatMap enB := by
              have hm : pp ∈ pk enB l := hpx.subset (by simp)
              obtain ⟨_, _, _, h4⟩ := pk_spec enB l (fun e he => by have := (enB_len e).1; have := (HL.out.2 e he).c; omega) pp hm
              rw [← List.map_drop, ← List.map_take, h4]
              rw [List.flatMap_def]
            obtain ⟨hHBl, hIl, hIok⟩ := hbT_len Hh l HL.out.2 hn
            have hBl : (hdF Hh l ++ blkL enB 5 ((pk enB l).take k)).length ≤ 400000000 := by
              have h1 : (blkL enB 5 ((pk enB l).take k)).length ≤ (blkL enB 5 (pk enB l)).length := by
                have e : blkL enB 5 (pk enB l) = blkL enB 5 ((pk enB l).take k) ++ blkL enB 5 ((pk enB l).drop k) := by
                  unfold blkL; rw [← List.flatMap_append, List.take_append_drop]
                rw [e, List.length_append]; omega
              unfold hbT at hHBl
              rw [List.length_append] at hHBl ⊢
              omega
            have hLl : ((lns (hdF Hh l).length ((pk enB l).take k)).map lnB).length ≤ 2097152 := by
              rw [List.length_map, lns_len, List.length_take]; omega
            obtain ⟨y, hy⟩ : ∃ y, y = l[pp.1] := ⟨_, rfl⟩
            rw [← hy] at x0 x1 x2 x3 x4 hsn hokY
            obtain ⟨B, hB⟩ : ∃ B, B = hdF Hh l ++ blkL enB 5 ((pk enB l).take k) := ⟨_, rfl⟩
            obtain ⟨Ls, hLs⟩ : ∃ Ls, Ls = (lns (hdF Hh l).length ((pk enB l).take k)).map lnB := ⟨_, rfl⟩
            obtain ⟨sm, hsme⟩ : ∃ sm, sm = smP ((pk enB l).take k) := ⟨_, rfl⟩
            rw [← hB] at hRS hBl hsn
            rw [← hLs] at hRS hLl
            rw [← hsme] at hsm hsl ⊢
            obtain ⟨V, hV⟩ : ∃ V : Nat, y.v = V := ⟨y.v.toNat, by have := hokY.v; omega⟩
            obtain ⟨I, hI⟩ : ∃ I : Nat, y.i = I := ⟨y.i.toNat, by have := hokY.i; omega⟩
            have hVb : V < 4294967296 := by have := hokY.v; omega
            have hIb : I < 9223372036854775808 := by have := hokY.i; omega
            have hcb := hokY.c
            obtain ⟨sa', sc', hsa, hsat⟩ := int_at hRS.s
            simp only [Value.slice.injEq] at hsa
            obtain ⟨rfl, -, rfl⟩ := hsa
            obtain ⟨gs, hgs, hcs⟩ := hsat k hkS
            subst hgs
            rw [hSk] at hcs
            have hpl : pp.2.length ≤ 2097152 := by omega
            have hpb := Hid.mk (show (pp.2.flatMap enB).length ≤ 4096 from hl4)
            have EQ := Hid.mk (And.intro hk2 (And.intro hsn (And.intro hbs (And.intro hsm (And.intro hsum (And.intro hB (And.intro hLs hdt)))))))
            clear hk2 hsn hbs hsm hsum hB hLs hdt hHBl hIl hIok hpp hhd hpx hsat hl4 hra hsme hp1 hSk hSlen hy q0 q1 q2 q3 q4 q5
            have bF : Below wr.heap.size wr (wr.alloc (.cells #[.int .i64 y.v, .string y.c, .int .i64 y.i, .int .i64 y.s, .bool y.d] 38)) := (Below.refl _ wr).alloc (Nat.le_refl _) _
            have F0 := SAt.new wr (enC y) 38
            have c0 := F0 0 _ rfl
            have c1 := F0 1 _ rfl
            have c2 := F0 2 _ rfl
            simp only [enC] at c0 c1 c2
            have hRSf := hRS.below bF
            have cs := cell_lat bF hcs
            obtain ⟨ba, bc, hbv⟩ : ∃ ba bc, u9 = .slice ba B.length bc := by obtain ⟨g, cap, cur, fz, h1, _⟩ := hRS.b; exact ⟨_, _, h1⟩
            obtain ⟨lca, lcc, hlv, -⟩ := slice_form hRS.l.row
            have at1 : (pp.1 : Int) < (l.length : Int) := by omega
            have k1 : (k : Int) < (S.length : Int) := by omega
            have nl1 : u11.ownBlock ≠ some wr.heap.size := fun e => by have := row_lt hRS.l.row e; omega
            have nl2 : u11.ownBlock ≠ some gs := fun e => by
              obtain ⟨c5, h5⟩ := row_block hRS.l.row e
              obtain ⟨c6, h6⟩ := row_block hRS.s (k := gs) rfl
              rw [h5] at h6; cases h6
            have HRf := Hid.mk hRSf
            have HVY := Hid.mk (And.intro hV hI)
            have HBV := Hid.mk (And.intro hbv hlv)
            clear hRS hRSf F0 hV hI hokY
            rw [hbv, hlv]
            clear hbv hlv
            go_wp2_with fail
            obtain ⟨wf, hwf⟩ : ∃ wf, wf = wr.alloc (.cells #[.int .i64 y.v, .string y.c, .int .i64 y.i, .int .i64 y.s, .bool y.d] 38) := ⟨_, rfl⟩
            rw [← hwf] at bF HRf c0 c1 c2 cs ⊢
            rw [HVY.out.1] at c0
            rw [HVY.out.2] at c2
            clear hwf
            obtain ⟨LV, qv⟩ : ∃ L, L = fixL V 4 := ⟨_, rfl⟩
            have kv : LV.length = 4 := by rw [qv]; exact fixL_len _ _
            have cv := fun W => rfour_e V W hVb LV qv
            obtain ⟨LI, qi⟩ : ∃ L, L = pvL 9 I := ⟨_, rfl⟩
            have ki : LI.length ≤ 10 := by rw [qi]; exact (pvL_len 9 I).2
            have ci := fun W => rnumber_e I W hIb LI qi
            obtain ⟨LN, qn⟩ : ∃ L, L = pvL 9 pp.2.length := ⟨_, rfl⟩
            have kn : LN.length ≤ 10 := by rw [qn]; exact (pvL_len 9 _).2
            have cn := fun W => rnumber_e pp.2.length W (by omega) LN qn
            obtain ⟨LB, qb⟩ : ∃ L, L = pvL 9 B.length := ⟨_, rfl⟩
            have kb : LB.length ≤ 10 := by rw [qb]; exact (pvL_len 9 _).2
            have cb := fun W => rnumber_e B.length W (by omega) LB qb
            have z1 : ¬ (9223372036854775807 < LV.length + y.c.size) := by omega
            have z2 : ¬ (9223372036854775807 < LV.length + y.c.size + LI.length) := by omega
            have z3 : ¬ (9223372036854775807 < LV.length + y.c.size + LI.length + LN.length) := by omega
            have z4 : ¬ (9223372036854775807 < LV.length + y.c.size + LI.length + LN.length + LB.length) := by omega
            have hlt1 : ((⟨LV.toArray⟩ : ByteArray) ++ y.c ++ ⟨LI.toArray⟩ ++ ⟨LN.toArray⟩ ++ ⟨LB.toArray⟩).data.toList = lnB ⟨y, pp.2.length, B.length⟩ := by
              simp [lnB, plB, qv, qi, qn, qb, HVY.out.1, HVY.out.2]
            have HLT := Hid.mk hlt1
            clear hlt1 qv qi qn qb kv ki kn kb hVb hIb hcb x0 x1 x2 x3 x4
            go_region_held_law (fun w' => w'.cell? ⟨wr.heap.size, 0, none⟩ = some (.int .i64 V) ∧ w'.cell? ⟨wr.heap.size, 1, none⟩ = some (.string y.c) ∧ w'.cell? ⟨wr.heap.size, 2, none⟩ = some (.int .i64 I) ∧ w'.cell? ⟨gs, k, none⟩ = some (.int .i64 pp.2.length))
              (first | exact kk | (refine (fun hb => ⟨cell_lat hb c0, cell_lat hb c1, cell_lat hb c2, cell_lat hb cs⟩) ?_; first | exact bb | exact bb.alloc bb.size _ | exact b_drew wf))
              (first
                | (go_at_call 49; refine (cv _).mono ?_; rintro e w3 ⟨rfl, b3⟩; clear cv; have bb : Below wf.heap.size wf w3 := below_d b3)
                | (go_at_call 50; refine (ci _).mono ?_; rintro e w4 ⟨rfl, b4⟩; clear ci; have bb := chain bb b4 (Nat.le_refl _))
                | (go_at_call 50; refine (cn _).mono ?_; rintro e w5 ⟨rfl, b5⟩; clear cn; have bb := chain bb b5 (Nat.le_refl _))
                | (go_at_call 50; refine (cb _).mono ?_; rintro e w6 ⟨rfl, b6⟩; clear cb; have bb := chain bb b6 (Nat.le_refl _))
                | (obtain ⟨v9, w9, hr9, hT9, s9, hloc9⟩ := str_app w6 Ls _ (HRf.out.below bb).l ((⟨LV.toArray⟩ : ByteArray) ++ y.c ++ ⟨LI.toArray⟩ ++ ⟨LN.toArray⟩ ++ ⟨LB.toArray⟩).data.toList (by omega); rw [show TV ((⟨LV.toArray⟩ : ByteArray) ++ y.c ++ ⟨LI.toArray⟩ ++ ⟨LN.toArray⟩ ++ ⟨LB.toArray⟩).data.toList = .string (⟨LV.toArray⟩ ++ y.c ++ ⟨LI.toArray⟩ ++ ⟨LN.toArray⟩ ++ ⟨LB.toArray⟩) from rfl, HBV.out.2] at hr9; refine step_append_eq rfl _ _ _ _ rfl _ _ _ _ rfl rfl hr9 ?_; have kk := And.intro (cell_stay s9 (cell_lat bb c0) nl1) (And.intro (cell_stay s9 (cell_lat bb c1) nl1) (And.intro (cell_stay s9 (cell_lat bb c2) nl1) (cell_stay s9 (cell_lat bb cs) nl2)))))
            have hRS9 := (HRf.out.below bb).putL hT9 s9 hloc9
            rw [HLT.out] at hRS9
            have cs9 := kk.2.2.2
            have hj := joined_any (l.map enB) (.slice ta l.length tc) pp.1 pp.2.length w9 hRS9.t (by simp; omega) (by simp; omega) (by rw [EQ.out.2.2.2.2.2.2.2]; have := hpb.out; omega)
            rw [EQ.out.2.2.2.2.2.2.2] at hj
            obtain ⟨pb, hpbe⟩ : ∃ pb, pb = pp.2.flatMap enB := ⟨_, rfl⟩
            rw [← hpbe] at hj
            have hpbs : (⟨pb.toArray⟩ : ByteArray).size ≤ 4096 := by show pb.toArray.size ≤ 4096; rw [List.size_toArray, hpbe]; exact hpb.out
            have HR9 := Hid.mk (And.intro hRS9 hpbe)
            clear hRS9 hpbe kk hT9 s9 hloc9 bb b3 b4 b5 b6 c0 c1 c2 cs hr9 z1 z2 z3 z4 nl1
            go_wp2_with (go_at_call 51; refine hj.mono ?_; rintro r w10 ⟨rfl, b10⟩; clear hj)
            refine (ron_any sm ⟨pb.toArray⟩ w10 hsl (by omega)).mono ?_
            rintro r w11 ⟨rfl, rfl⟩
            go_wp2_with fail
            refine (rframed_e 5 ⟨pb.toArray⟩ w11 (by omega) (by omega) (by omega)).mono ?_
            rintro r w12 ⟨rfl, b12⟩
            have hRS12 := (HR9.out.1.below b10).below b12
            have hfs2 : (⟨(frL 5 pb).toArray⟩ : ByteArray).size ≤ 4110 := by
              show (frL 5 pb).toArray.size ≤ 4110
              rw [List.size_toArray, frL_len]
              have : pb.length ≤ 4096 := by have h := hpbs; change pb.toArray.size ≤ 4096 at h; rw [List.size_toArray] at h; exact h
              omega
            obtain ⟨v13, w13, hr13, hW13, s13, hloc13⟩ := hRS12.b.append 98 ⟨(frL 5 pb).toArray⟩ (by omega)
            have hRS13 := hRS12.putB hW13 s13 hloc13
            have nb : u9.ownBlock ≠ some gs := fun e => by
              obtain ⟨c5, m5, h5⟩ := WRow.block hRS12.b e
              obtain ⟨c6, h6⟩ := row_block hRS12.s (k := gs) rfl
              rw [h5] at h6; cases h6
            have cs13 := cell_stay s13 (cell_lat b12 (cell_lat b10 cs9)) nb
            rw [HBV.out.1] at hr13
            have hpa : pp.1 ≤ 2097152 := by omega
            have HR13 := Hid.mk hRS13
            clear hRS12 hRS13 hW13 s13 hloc13 nb b12 b10 cs9 hfs2
            go_wp2_with (at_builtin; refine wpList_append_eq rfl _ _ _ _ rfl _ _ _ _ rfl rfl hr13 ?_)
            refine ⟨⟨k + 1, hkl, ival (by omega), ival (by rw [EQ.out.2.2.2.2.1]; omega), ?_, ?_⟩, by simp only [intOf]; omega⟩
            · rw [EQ.out.1, EQ.out.2.2.2.1, ← HR9.out.2]
            · have h := HR13.out
              rw [EQ.out.1, EQ.out.2.2.1, ← List.append_assoc, ← EQ.out.2.2.2.2.2.1, EQ.out.2.1, List.map_append, ← EQ.out.2.2.2.2.2.2.1, ← HR9.out.2]
              exact h
          · have e1 : k = (pk enB l).length := by omega
            subst e1
            rw [List.take_length] at hRS ⊢
            obtain ⟨hHBl, hIl, hIok⟩ := hbT_len Hh l HL.out.2 hn
            have eHB : hdF Hh l ++ blkL enB 5 (pk enB l) = hbT Hh l := rfl
            have eI : lns (hdF Hh l).length (pk enB l) = idx Hh l := rfl
            rw [eHB, eI] at hRS
            rw [smP_all]
            have hsl : crc 0 (l.flatMap enB) < 4294967296 := crc_lt _ (by omega)
            have hpk : (pk enB l).length = (idx Hh l).length := by unfold idx; rw [lns_len]
            obtain ⟨HB, eHBv⟩ : ∃ HB, HB = hbT Hh l := ⟨_, rfl⟩
            obtain ⟨LS, eLS⟩ : ∃ LS, LS = idx Hh l := ⟨_, rfl⟩
            obtain ⟨sm, esm⟩ : ∃ sm, sm = crc 0 (l.flatMap enB) := ⟨_, rfl⟩
            rw [← eHBv] at hRS hHBl
            rw [← eLS] at hRS hIl hIok hpk
            rw [← esm] at hsl ⊢
            have hFT2 : Hid (FT = HB ++ blkL lnB 6 (pk lnB LS) ++ frL 7 (pvL 9 LS.length ++ (pvL 9 HB.length ++ fixL sm 4))) := by
              show _ = _
              rw [HFT.out]
              unfold fileT ftB
              rw [← eHBv, ← eLS, ← esm, hpk]
            clear eHB eI eHBv eLS esm
            have hln2 : ∀ q ∈ LS, 1 ≤ (lnB q).length ∧ (lnB q).length ≤ 162 := fun q hq => by have := lnB_len q; have := (hIok q hq).e.c; omega
            have hT2 : ∀ t ∈ LS.map lnB, 1 ≤ t.length ∧ t.length ≤ 4096 := fun t ht => by
              obtain ⟨q, hq, rfl⟩ := List.mem_map.1 ht
              have := hln2 q hq; omega
            have hpm2 : (pk tid (LS.map lnB)).map (·.2.length) = (pk lnB LS).map (·.2.length) := by rw [show tid = fun t => t from rfl, pk_map]; simp
            obtain ⟨ba, bc, hbv⟩ : ∃ ba bc, u9 = .slice ba HB.length bc := by obtain ⟨g, cap, cur, fz, h1, _⟩ := hRS.b; exact ⟨_, _, h1⟩
            obtain ⟨lca, lcc, hlv, -⟩ := slice_form hRS.l.row
            rw [List.length_map] at hlv
            have hfil2 := filled_any (LS.map lnB) u11 wr hRS.l (by simp; omega) hT2
            rw [hpm2, hlv] at hfil2
            have HRr := Hid.mk (And.intro hRS (And.intro hbv hlv))
            rw [hbv, hlv]
            have hSlen' : Hid (S.length = LS.length) := by show _ = _; rw [hSlen, hpk]
            have hkl' : ¬ (((pk enB l).length : Int) < (S.length : Int)) := by omega
            clear hRS hbv hlv hT2 hpm2 hpk q0 q1 q2 q3 q4 q5 hSlen
            go_wp2_with (go_at_call 48; refine hfil2.mono ?_; rintro r w7 ⟨rv, rfl, hS7, hlo7, b7⟩; clear hfil2)
            obtain ⟨S2, hSe2⟩ : ∃ S2, S2 = (pk lnB LS).map (·.2.length) := ⟨_, rfl⟩
            rw [← hSe2] at hS7
            have hR7 : RS w2 w7 (.slice ta l.length tc) u9 rv u11 (l.map enB) (HB ++ blkL lnB 6 []) S2 (LS.map lnB) := by
              have h := HRr.out.1.below b7
              refine ⟨h.t, by simpa [blkL] using h.b, hS7, h.l, h.bel, ?_, h.ap⟩
              rintro k (e | e | e | e)
              · exact h.lo k (.inl e)
              · exact h.lo k (.inr (.inl e))
              · have := hlo7 k e; have := HRr.out.1.bel.size; omega
              · exact h.lo k (.inr (.inr (.inr e)))
            obtain ⟨ra, rc, hrv, -⟩ := int_at hS7
            subst hrv
            have hS2l : S2.length = (pk lnB LS).length := by rw [hSe2]; simp
            have hS2m : (pk lnB LS).length ≤ 2097152 := by have := pk_len lnB LS (fun q hq => by have := hln2 q hq; omega); omega
            have HS2 := Hid.mk hS2l
            have HR70 := Hid.mk (And.intro hR7 (And.intro hSe2 HRr.out))
            clear hS2l
            clear hR7 hS7 hlo7 b7 hSe2 HRr
            obtain ⟨bv0, hbv0⟩ : ∃ bv0, bv0 = u9 := ⟨_, rfl⟩
            obtain ⟨lv0, hlv0⟩ : ∃ lv0, lv0 = u11 := ⟨_, rfl⟩
            have hb9 : Value.slice ba HB.length bc = bv0 := by rw [hbv0]; exact HR70.out.2.2.2.1.symm
            rw [hb9]
            rw [← hbv0, ← hlv0] at HR70
            clear hb9 hbv0 hlv0
            obtain ⟨wR, hwR⟩ : ∃ wR, wR = wr := ⟨_, rfl⟩
            rw [← hwR] at HR70
            clear hwR
            go_loopw [9, 13, 19] (fun bv av kv wr => ∃ k : Nat, k ≤ (pk lnB LS).length ∧ kv = .int .i64 k ∧ av = .int .i64 (((((pk lnB LS).take k).map (fun x => x.2.length)).sum : Nat) : Int) ∧ RS w2 wr (.slice ta l.length tc) bv (.slice ra S2.length rc) lv0 (l.map enB) (HB ++ blkL lnB 6 ((pk lnB LS).take k)) S2 (LS.map lnB)) (fun _ _ kv _ => (pk lnB LS).length - (intOf kv).toNat)
            case atStart => exact ⟨0, Nat.zero_le _, rfl, rfl, by simpa [blkL] using HR70.out.1⟩
            case round =>
              obtain ⟨k, hk1, rfl, rfl, hRS⟩ := hrel
              have hS2l := HS2.out
              have hb6 := pre_len lnB 6 162 LS (fun q hq => (hln2 q hq).2) (by omega) ((pk lnB LS).take k) (List.take_prefix _ _)
              have hb7 : (162 + 14) * LS.length ≤ 176 * 2097152 := Nat.mul_le_mul (by omega) (by omega)
              have hBl : (HB ++ blkL lnB 6 ((pk lnB LS).take k)).length ≤ 800000000 := by rw [List.length_append]; omega
              by_cases hkl : k < (pk lnB LS).length
              · obtain ⟨hk2, hp1, hpx⟩ := pk_atL LS k hkl
                have hSk : ∃ hh : k < S2.length, S2[k] = (pk lnB LS)[k].2.length := ⟨by omega, by simp [HR70.out.2.1]⟩
                obtain ⟨pp, hpp⟩ : ∃ pp, pp = (pk lnB LS)[k] := ⟨_, rfl⟩
                rw [← hpp] at hk2 hp1 hpx hSk
                obtain ⟨hkS, hSk⟩ := hSk
                have hm : pp ∈ pk lnB LS := hpx.subset (by simp)
                obtain ⟨hs1, hs2, hs3, hs4⟩ := pk_spec lnB LS (fun e he => by have := hln2 e he; omega) pp hm
                have hdt : (((LS.map lnB).drop pp.1).take pp.2.length).flatten = pp.2.flatMap lnB := by
                  rw [← List.map_drop, ← List.map_take, hs4, List.flatMap_def]
                have hbs := blkL_snoc lnB 6 ((pk lnB LS).take k) pp
                have hsum : (((pk lnB LS).take (k + 1)).map (·.2.length)).sum = pp.1 + pp.2.length := by rw [hk2, hp1]; simp
                rw [← hp1]
                obtain ⟨sa', sc', hsa, hsat⟩ := int_at hRS.s
                simp only [Value.slice.injEq] at hsa
                obtain ⟨rfl, -, rfl⟩ := hsa
                obtain ⟨gs, hgs, hcs⟩ := hsat k hkS
                subst hgs
                rw [hSk] at hcs
                obtain ⟨B, hB⟩ : ∃ B, B = HB ++ blkL lnB 6 ((pk lnB LS).take k) := ⟨_, rfl⟩
                rw [← hB] at hRS hBl
                have hj := joined_any (LS.map lnB) lv0 pp.1 pp.2.length wr hRS.l (by simp; omega) (by simp; omega) (by rw [hdt]; have : ln lnB pp.2 ≤ 4096 := hs2; unfold ln at this; omega)
                rw [hdt] at hj
                obtain ⟨pb, hpbe⟩ : ∃ pb, pb = pp.2.flatMap lnB := ⟨_, rfl⟩
                rw [← hpbe] at hj
                have hpbl : pb.length ≤ 4096 := by rw [hpbe]; exact hs2
                have hpbs : (⟨pb.toArray⟩ : ByteArray).size ≤ 4096 := by show pb.toArray.size ≤ 4096; rw [List.size_toArray]; exact hpbl
                obtain ⟨ba2, bc2, hbv2⟩ : ∃ ba bc, u9 = .slice ba B.length bc := by obtain ⟨g, cap, cur, fz, h1, _⟩ := hRS.b; exact ⟨_, _, h1⟩
                have hlv2 := HR70.out.2.2.2.2
                have k1 : (k : Int) < (S2.length : Int) := by omega
                have hpp1 : pp.1 ≤ 2097152 := by omega
                have hpp2 : pp.2.length ≤ 2097152 := by omega
                clear hS2l
                have HRk := Hid.mk (And.intro hRS (And.intro hbv2 (And.intro hk2 (And.intro hbs (And.intro hsum (And.intro hB hpbe))))))
                clear hRS hk2 hbs hsum hB hpbe hdt hsat hpx hpp hp1 hSk hm hs1 hs2 hs3 hs4 hb6 hb7
                rw [hlv2] at hj
                rw [hbv2]
                clear hbv2 hlv2
                go_wp2_with (go_at_call 51; refine hj.mono ?_; rintro r w10 ⟨rfl, b10⟩; clear hj)
                refine (rframed_e 6 ⟨pb.toArray⟩ w10 (by omega) (by omega) (by omega)).mono ?_
                rintro r w12 ⟨rfl, b12⟩
                have hRS12 := (HRk.out.1.below b10).below b12
                have hfs2 : (⟨(frL 6 pb).toArray⟩ : ByteArray).size ≤ 4110 := by
                  show (frL 6 pb).toArray.size ≤ 4110
                  rw [List.size_toArray, frL_len]; omega
                obtain ⟨v13, w13, hr13, hW13, s13, hloc13⟩ := hRS12.b.append 98 ⟨(frL 6 pb).toArray⟩ (by omega)
                have hRS13 := hRS12.putB hW13 s13 hloc13
                have nb : u9.ownBlock ≠ some gs := fun e => by
                  obtain ⟨c5, m5, h5⟩ := WRow.block hRS12.b e
                  obtain ⟨c6, h6⟩ := row_block hRS12.s (k := gs) rfl
                  rw [h5] at h6; cases h6
                have cs13 := cell_stay s13 (cell_lat b12 (cell_lat b10 hcs)) nb
                rw [HRk.out.2.1] at hr13
                have HR13 := Hid.mk hRS13
                clear hRS12 hRS13 hW13 s13 hloc13 nb b12 b10 hcs hfs2
                go_wp2_with (at_builtin; refine wpList_append_eq rfl _ _ _ _ rfl _ _ _ _ rfl rfl hr13 ?_)
                refine ⟨⟨k + 1, hkl, ival (by omega), ival (by rw [HRk.out.2.2.2.2.1]; omega), ?_⟩, by simp only [intOf]; omega⟩
                have h := HR13.out
                rw [HRk.out.2.2.1, HRk.out.2.2.2.1, ← List.append_assoc, ← HRk.out.2.2.2.2.2.1, ← HRk.out.2.2.2.2.2.2]
                exact h
              · have e1 : k = (pk lnB LS).length := by omega
                subst e1
                rw [List.take_length] at hRS hBl
                obtain ⟨B, hB⟩ : ∃ B, B = HB ++ blkL lnB 6 (pk lnB LS) := ⟨_, rfl⟩
                rw [← hB] at hRS hBl
                obtain ⟨ba2, bc2, hbv2⟩ : ∃ ba bc, u9 = .slice ba B.length bc := by obtain ⟨g, cap, cur, fz, h1, _⟩ := hRS.b; exact ⟨_, _, h1⟩
                obtain ⟨L1, r1⟩ : ∃ L, L = pvL 9 S.length := ⟨_, rfl⟩
                have m1 : L1.length ≤ 10 := by rw [r1]; exact (pvL_len 9 _).2
                have d1 := fun W => rnumber_e S.length W (by omega) L1 r1
                obtain ⟨L2, r2⟩ : ∃ L, L = pvL 9 HB.length := ⟨_, rfl⟩
                have m2 : L2.length ≤ 10 := by rw [r2]; exact (pvL_len 9 _).2
                have d2 := fun W => rnumber_e HB.length W (by omega) L2 r2
                obtain ⟨L3, r3⟩ : ∃ L, L = fixL sm 4 := ⟨_, rfl⟩
                have m3 : L3.length = 4 := by rw [r3]; exact fixL_len _ _
                have d3 := fun W => rfour_e sm W hsl L3 r3
                have y1 : ¬ (9223372036854775807 < L1.length + L2.length) := by omega
                have y2 : ¬ (9223372036854775807 < L1.length + L2.length + L3.length) := by omega
                have hft : B ++ frL 7 ((⟨L1.toArray⟩ : ByteArray) ++ ⟨L2.toArray⟩ ++ ⟨L3.toArray⟩).data.toList = FT := by
                  rw [hFT2.out, hB, r1, r2, r3, hSlen'.out]
                  congr 2
                  simp
                have hfz : ((⟨L1.toArray⟩ : ByteArray) ++ ⟨L2.toArray⟩ ++ ⟨L3.toArray⟩).size ≤ 24 := by
                  simp only [ByteArray.size_append]
                  show L1.toArray.size + L2.toArray.size + L3.toArray.size ≤ 24
                  simp only [List.size_toArray]; omega
                have hsi : IntKind.i64.wrap (sm : Int) = sm := by rw [IntKind.wrap_i64]; omega
                have HRk := Hid.mk (And.intro hRS (And.intro hbv2 hft))
                have hkl' : ¬ (((pk lnB LS).length : Int) < (S2.length : Int)) := by omega
                clear hS2l
                clear hRS hft hB r1 r2 r3 hb6 hb7
                rw [hbv2]
                clear hbv2
                go_wp2_with first
                  | (go_at_call 50; refine (d1 _).mono ?_; rintro e x3 ⟨rfl, b3⟩; clear d1)
                  | (go_at_call 50; refine (d2 _).mono ?_; rintro e x4 ⟨rfl, b4⟩; clear d2)
                  | (go_at_call 49; refine (d3 _).mono ?_; rintro e x5 ⟨rfl, b5⟩; clear d3)
                obtain ⟨FP, hFP⟩ : ∃ FP : ByteArray, FP = (⟨L1.toArray⟩ : ByteArray) ++ ⟨L2.toArray⟩ ++ ⟨L3.toArray⟩ := ⟨_, rfl⟩
                rw [← hFP] at hfz HRk ⊢
                clear hFP
                refine (rframed_e 7 FP _ (by omega) (by omega) (by omega)).mono ?_
                rintro r x6 ⟨rfl, b6⟩
                have hR6 := (((HRk.out.1.below b3).below b4).below b5).below b6
                have hfs6 : (⟨(frL 7 FP.data.toList).toArray⟩ : ByteArray).size ≤ 38 := by
                  show (frL 7 FP.data.toList).toArray.size ≤ 38
                  rw [List.size_toArray, frL_len, nm_size]; omega
                obtain ⟨v7, x7, hr7, hW7, s7, hloc7⟩ := hR6.b.append 98 ⟨(frL 7 FP.data.toList).toArray⟩ (by omega)
                have hR7' := hR6.putB hW7 s7 hloc7
                have hcv7 := hW7.conv
                rw [HRk.out.2.1] at hr7
                have hfe : B ++ (⟨(frL 7 FP.data.toList).toArray⟩ : ByteArray).data.toList = FT := HRk.out.2.2
                rw [hfe] at hcv7
                obtain ⟨va7, vc7, hv7⟩ : ∃ a c, v7 = .slice a (B ++ (⟨(frL 7 FP.data.toList).toArray⟩ : ByteArray).data.toList).length c := by obtain ⟨g, cap, cur, fz, h1, _⟩ := hW7; exact ⟨_, _, h1⟩
                obtain ⟨n7, hn7⟩ : ∃ n7, n7 = (B ++ (⟨(frL 7 FP.data.toList).toArray⟩ : ByteArray).data.toList).length := ⟨_, rfl⟩
                rw [← hn7] at hv7
                have HE := Hid.mk (chain bW hR7'.bel (Nat.le_refl _))
                clear hR6 hR7' hW7 s7 hloc7 b3 b4 b5 b6 hfe hn7 hfs6 HRk
                subst hv7
                go_wp2_with (at_builtin; refine wpList_append_eq rfl _ _ _ _ rfl _ _ _ _ rfl rfl hr7 ?_)
                go_ret2
                exact ⟨rfl, HE.out⟩
  · have h1 : (bdE h l != 0) = true := by simpa using he
    have eT : bdT h l = [] := by unfold bdT; rw [if_neg he]
    rw [eT]
    obtain ⟨q, hq⟩ : ∃ q, q = bdE h l := ⟨_, rfl⟩
    rw [← hq] at hg h1 ⊢
    obtain ⟨wd, t, b, lo, hi, n⟩ := h
    simp only [hdC] at hg U0 bA hl1 ⊢
    clear he hq eT
    go_enter Tryz.func26, Tryz.ntmps26
    go_wp2_with (go_at_call 44; refine (hg _ hl1).mono ?_; rintro e w1 ⟨rfl, b1⟩)
    go_ret2
    exact ⟨rfl, chain bA b1 (Nat.le_refl _)⟩
end Go.Proofs.YtjdpolhjbkpnlaaGreatDoor.Rb
set_option linter.unusedVariables false
set_option linter.unusedSimpArgs false
namespace Go.Proofs.YtjdpolhjbkpnlaaGreatDoor
open Go.RowKit Go.Proofs.SealMath
set_option maxRecDepth 100000 in
set_option maxHeartbeats 2000000 in
theorem same6_any (l : List En) (la lb : Option Addr) (ca cb : Nat) (w : World) (ha : LAt w la l) (hb : LAt w lb l) (hl : l.length < 4611686018427387904) :
    Calls Tryz.prog 9 #[.slice la l.length ca, .slice lb l.length cb] w fun e w' => e = .returned (.bool true) ∧ Drew w w' := by
  obtain ⟨n, hn⟩ : ∃ n, n = l.length := ⟨_, rfl⟩
  have HA := Hid.mk (And.intro ha (And.intro hb hn))
  rw [← hn] at hl ⊢
  clear ha hb hn
  go_enter Tryz.func9, Tryz.ntmps9
  go_wp2
  go_loopw [5] (fun u wr => ∃ i : Nat, u = .int .i64 i ∧ i ≤ n ∧ Drew w wr) (fun u _ => n - (intOf u).toNat)
  case atStart => exact ⟨0, rfl, Nat.zero_le _, Drew.refl _⟩
  case round =>
    obtain ⟨i, rfl, hi, hd⟩ := hrel
    by_cases hlt : i < n
    · have hln : i < l.length := by have := HA.out.2.2; omega
      have hne : l ≠ [] := fun h => by rw [h] at hln; simp at hln
      obtain ⟨g1, o1, e1, r1⟩ := HA.out.1.at' hne
      obtain ⟨g2, o2, e2, r2⟩ := HA.out.2.1.at' hne
      subst e1
      subst e2
      have hh : ∀ k : Nat, wr.heap[k]? = w.heap[k]? := fun k => by obtain ⟨m, rfl⟩ := hd; rfl
      obtain ⟨x0, x1, x2, x3, x4⟩ := row_en r1 (hh g1) i hln
      obtain ⟨y0, y1, y2, y3, y4⟩ := row_en r2 (hh g2) i hln
      obtain ⟨e, he⟩ : ∃ e, e = l[i] := ⟨_, rfl⟩
      rw [← he] at x0 x1 x2 x3 x4 y0 y1 y2 y3 y4
      have i1 : (i : Int) < (n : Int) := by omega
      have i2 : 0 ≤ (i : Int) := by omega
      clear he hh r1 r2 hne hln
      go_wp2
      go_quiet (fail)
      go_wp2
      refine ⟨⟨i + 1, rfl, hlt, hd.more _⟩, by simp only [intOf]; omega⟩
    · go_wp2
      go_ret
      exact ⟨rfl, hd⟩
theorem flat_len5 (l : List En) : (l.flatMap enC).length = l.length * 5 := by
  induction l with
  | nil => rfl
  | cons x l ih => rw [List.flatMap_cons, List.length_append, ih, enC_len, List.length_cons]; omega
theorem one5 (l : List En) : ∀ u ∈ l.flatMap enC, u.oneCell' = true := fun u hu => by
  obtain ⟨e, _, he⟩ := List.mem_flatMap.1 hu
  simp [enC] at he
  rcases he with rfl | rfl | rfl | rfl | rfl <;> rfl
/-- Entries that lie somewhere are put behind entries of the call's own. -/
theorem ent_app (W : World) (l m : List En) (v : Value) (h : W.ownsRow 0 38 5 v l.length (l.flatMap enC)) (a : Option Addr) (c : Nat) (hm : m ≠ [] → ∃ g off, a = some ⟨g, off, none⟩ ∧ RowAt W g off (m.flatMap enC)) (hb : (l.length + m.length) * 48 ≤ 140737488355328) :
    ∃ v' w', (Builtin.append_ #[34, 34] 34 #[v, .slice a m.length c]).run Tryz.prog W = .ok v' w' ∧ w'.ownsRow 0 38 5 v' (l ++ m).length ((l ++ m).flatMap enC) ∧ Stay (fun k => v.ownBlock = some k) W w' ∧ (∀ k, v'.ownBlock = some k → v.ownBlock = some k ∨ W.heap.size ≤ k) := by
  obtain ⟨i0, hi, hz0, hz1, hz2⟩ := info_parts infoEn
  by_cases h0 : m = []
  · subst h0
    obtain ⟨a0, c0, hv, hc0⟩ := slice_form h
    refine ⟨v, W, ?_, by simpa using h, .refl _ _, fun k hk => .inl hk⟩
    subst hv
    have hf : (Builtin.firstCells 5 0 (.slice a 0 c)).run Tryz.prog W = .ok #[] W := by cases a <;> simp [Builtin.firstCells, loadCells, loadCellsFrom]
    simp [Builtin.append_, run_underlying Tryz.underlying34, sizeOf, typeInfo, hi, hz1, Builtin.lenOf, hf, hc0]
    cases a0 <;> simp [storeCells]
  · obtain ⟨g, off, rfl, hr⟩ := hm h0
    obtain ⟨v', w', hrun, ho, hg, _, hloc⟩ := run_append_own_at (P := Tryz.prog) W 0 34 34 38 i0 _ 5 48 Tryz.underlying34 hi hz0 hz1 hz2 rfl (by decide) v l.length _ h ⟨g, off, none⟩ m.length c (m.flatMap enC) (flat_len5 m) (fun j u hu => by
      have e1 : (⟨g, off, none⟩ : Addr).add j = ⟨g, off + j, none⟩ := by unfold Addr.add; split <;> simp_all
      rw [e1]; exact hr j u hu) (one5 m) (by unfold maxLen; omega) (by omega) (Nat.zero_le _)
    refine ⟨v', w', hrun, by rw [List.length_append, List.flatMap_append]; exact ho, .grown hg (fun k hk => hk), fun k hk => ?_⟩
    rcases hloc with hl | hl
    · exact .inl (hl ▸ hk)
    · rw [hl] at hk; cases hk; exact .inr (Nat.le_refl _)
def mk9 : En := ⟨-9, ⟨#[]⟩, 0, 0, false⟩
end Go.Proofs.YtjdpolhjbkpnlaaGreatDoor
set_option linter.unusedVariables false
set_option linter.unusedSimpArgs false
namespace Go.Proofs.YtjdpolhjbkpnlaaGreatDoor.Dx
open Go.RowKit Go.Proofs.SealMath
open Go.Proofs.YtjdpolhjbkpnlaaGreatDoor.Rb
/-- How many entries each block has. -/
def szs (l : List En) : List Nat := (pk enB l).map (·.2.length)
theorem szs_eq (l : List En) : szs l = (Gs l).map List.length := by unfold szs Gs; rw [List.map_map]; rfl
/-- The document's file's cells. -/
abbrev rfV (h : Hd) (lv sv : Value) (rd : Nat) : Array Value := #[.int .i64 h.w, .int .i64 h.t, .int .i64 h.b, .int .i64 h.lo, .int .i64 h.hi, .int .i64 h.n, lv, sv, .int .i64 rd]
/-- The document's file in memory: its head, its entries, its blocks' sizes, how many blocks were read. -/
structure RF (W : World) (fb : Nat) (h : Hd) (l : List En) (lv sv : Value) (rd : Nat) : Prop where
  box : W.heap[fb]? = some (.cells (rfV h lv sv rd) 67 (0, 0))
  row : W.ownsRow 0 38 5 lv l.length (l.flatMap enC)
  szr : W.ownsRow 0 3 1 sv (szs l).length ((szs l).map IV)
theorem RF.kept {W W' : World} {F : Nat → Prop} {fb : Nat} {h : Hd} {l : List En} {lv sv : Value} {rd : Nat} (H : RF W fb h l lv sv rd) (s : Stay F W W') (h1 : ¬ F fb) (h2 : ∀ k, lv.ownBlock = some k → ¬ F k) (h3 : ∀ k, sv.ownBlock = some k → ¬ F k) : RF W' fb h l lv sv rd :=
  ⟨(s.block fb (Array.getElem?_eq_some_iff.1 H.box).1 h1).trans H.box, row_kept H.row s h2, row_kept H.szr s h3⟩
theorem RF.below {W W' : World} {fb : Nat} {h : Hd} {l : List En} {lv sv : Value} {rd : Nat} (H : RF W fb h l lv sv rd) (b : Below W.heap.size W W') : RF W' fb h l lv sv rd :=
  H.kept (F := fun _ => False) (.below b) (fun h => h) (fun _ _ h => h) (fun _ _ h => h)
theorem RF.lt {W : World} {fb : Nat} {h : Hd} {l : List En} {lv sv : Value} {rd : Nat} (H : RF W fb h l lv sv rd) : fb < W.heap.size := (Array.getElem?_eq_some_iff.1 H.box).1
theorem RF.row_ne {W : World} {fb : Nat} {h : Hd} {l : List En} {lv sv : Value} {rd : Nat} (H : RF W fb h l lv sv rd) {k : Nat} (hk : lv.ownBlock = some k) : k ≠ fb := fun e => by
  obtain ⟨c, hc⟩ := row_block H.row hk
  have := H.box
  rw [← e, hc] at this; simp at this
theorem RF.szr_ne {W : World} {fb : Nat} {h : Hd} {l : List En} {lv sv : Value} {rd : Nat} (H : RF W fb h l lv sv rd) {k : Nat} (hk : sv.ownBlock = some k) : k ≠ fb := fun e => by
  obtain ⟨c, hc⟩ := row_block H.szr hk
  have := H.box
  rw [← e, hc] at this; simp at this
theorem rf9 {W : World} {fb : Nat} {h : Hd} {lv sv : Value} {rd : Nat} (hb : W.heap[fb]? = some (.cells (rfV h lv sv rd) 67 (0, 0))) :
    (W.cell? ⟨fb, 0, none⟩ = some (.int .i64 h.w) ∧ W.cell? ⟨fb, 1, none⟩ = some (.int .i64 h.t) ∧ W.cell? ⟨fb, 2, none⟩ = some (.int .i64 h.b) ∧ W.cell? ⟨fb, 3, none⟩ = some (.int .i64 h.lo) ∧ W.cell? ⟨fb, 4, none⟩ = some (.int .i64 h.hi) ∧ W.cell? ⟨fb, 5, none⟩ = some (.int .i64 h.n)) ∧ W.cell? ⟨fb, 6, none⟩ = some lv ∧ W.cell? ⟨fb, 7, none⟩ = some sv ∧ W.cell? ⟨fb, 8, none⟩ = some (.int .i64 rd) ∧ W.frozen? ⟨fb, 8, none⟩ = false :=
  ⟨⟨by rw [cell_of_row _ _ 0 _ _ (0, 0) hb]; rfl, by rw [cell_of_row _ _ 1 _ _ (0, 0) hb]; rfl, by rw [cell_of_row _ _ 2 _ _ (0, 0) hb]; rfl, by rw [cell_of_row _ _ 3 _ _ (0, 0) hb]; rfl, by rw [cell_of_row _ _ 4 _ _ (0, 0) hb]; rfl, by rw [cell_of_row _ _ 5 _ _ (0, 0) hb]; rfl⟩, by rw [cell_of_row _ _ 6 _ _ (0, 0) hb]; rfl, by rw [cell_of_row _ _ 7 _ _ (0, 0) hb]; rfl, by rw [cell_of_row _ _ 8 _ _ (0, 0) hb]; rfl, frozen_of_row _ _ _ _ _ hb⟩
/-- A block more was read. -/
theorem RF.more {W : World} {fb : Nat} {h : Hd} {l : List En} {lv sv : Value} {rd : Nat} (H : RF W fb h l lv sv rd) (n : Nat) : RF (W.setCell ⟨fb, 8, none⟩ (.int .i64 n)) fb h l lv sv n ∧ Stay (fun k => k = fb) W (W.setCell ⟨fb, 8, none⟩ (.int .i64 n)) := by
  have st : Stay (fun k => k = fb) W (W.setCell ⟨fb, 8, none⟩ (.int .i64 n)) := Stay.setCell (F := fun k => k = fb) (Stay.refl _ W) (p := ⟨fb, 8, none⟩) (fun _ => rfl) _
  exact ⟨⟨heap_setCell_same W fb 8 _ _ _ H.box, row_kept H.row st (fun k hk => H.row_ne hk), row_kept H.szr st (fun k hk => H.szr_ne hk)⟩, st⟩
set_option maxRecDepth 100000 in
set_option maxHeartbeats 1000000 in
theorem rhead_file (fb : Nat) (h : Hd) (lv sv : Value) (rd : Nat) (w : World) (hb : w.heap[fb]? = some (.cells (rfV h lv sv rd) 67 (0, 0))) :
    Calls Tryz.prog 8 #[Pt fb] w fun r w' => r = .returned (.agg (hdC h).toArray) ∧ Below w.heap.size w w' := by
  obtain ⟨⟨y0, y1, y2, y3, y4, y5⟩, -⟩ := rf9 hb
  have hz : fb < w.heap.size := World.block_lt_of_cell? w _ y0
  clear hb
  go_enter Tryz.func8, Tryz.ntmps8
  go_wp2
  refine bodyPost_ret (v := .agg (hdC h).toArray) (by simp [results, Tryz.results8, go_sem, hdC]; try rfl) rfl ?_
  exact ⟨rfl, (Below.refl _ w).alloc (Nat.le_refl _) _⟩
set_option maxRecDepth 100000 in
set_option maxHeartbeats 1000000 in
theorem rreads_any (fb : Nat) (h : Hd) (lv sv : Value) (rd : Nat) (w : World) (hb : w.heap[fb]? = some (.cells (rfV h lv sv rd) 67 (0, 0))) :
    Calls Tryz.prog 14 #[Pt fb] w fun r w' => r = .returned (.int .i64 (rd : Nat)) ∧ w' = w := by
  obtain ⟨-, -, -, y8, -⟩ := rf9 hb
  clear hb
  go_enter Tryz.func14, Tryz.ntmps14
  go_wp2
  go_ret
  exact ⟨rfl, rfl⟩
/-- What a call that answers a list of its own comes to. -/
def LsO (l : List En) (w : World) (r : Ending) (w' : World) : Prop := ∃ v, r = .returned v ∧ w'.ownsRow 0 38 5 v l.length (l.flatMap enC) ∧ (∀ k, v.ownBlock = some k → w.heap.size ≤ k) ∧ Below w.heap.size w w'
set_option maxRecDepth 100000 in
set_option maxHeartbeats 1000000 in
theorem rall_any (fb : Nat) (h : Hd) (l : List En) (lv sv : Value) (rd : Nat) (w : World) (H : RF w fb h l lv sv rd) (hl : l.length * 48 ≤ 140737488355328) :
    Calls Tryz.prog 11 #[Pt fb] w (LsO l w) := by
  obtain ⟨-, y6, -⟩ := rf9 H.box
  obtain ⟨la, cap, rfl, hcap, hla⟩ := lat_row H.row
  obtain ⟨v', w4, hr4, ho4, s4, hloc4⟩ := ent_app w [] l (.slice none 0 0) ⟨rfl, .inl ⟨rfl, rfl⟩⟩ la cap (fun hne => hla.at' hne) (by simpa using hl)
  have hb4 : Below w.heap.size w w4 := s4.toBelow (fun k hk e => by cases e) (Nat.le_refl _)
  rw [List.nil_append] at ho4
  obtain ⟨oa, oc, rfl, -⟩ := slice_form ho4
  have HS := Hid.mk (And.intro ho4 (And.intro hb4 hloc4))
  clear H ho4 hb4 hla s4 hloc4
  go_enter Tryz.func11, Tryz.ntmps11
  go_wp2_with (at_builtin; refine wpList_append_eq rfl _ _ _ _ rfl _ _ _ _ rfl rfl hr4 ?_)
  go_ret
  exact ⟨_, rfl, HS.out.1, fun k hk => by rcases HS.out.2.2 k hk with h1 | h1; cases h1; exact h1, HS.out.2.1⟩
set_option maxRecDepth 100000 in
set_option maxHeartbeats 4000000 in
theorem rsizes_any (l : List En) (la : Option Addr) (cap : Nat) (w : World) (hl : LAt w la l) (hok : ∀ x ∈ l, Ok x) (hn : l.length ≤ 2097152) :
    Calls Tryz.prog 27 #[.slice la l.length cap] w fun r w' => ∃ v', r = .returned v' ∧ w'.ownsRow 0 3 1 v' (szs l).length ((szs l).map IV) ∧ (∀ k, v'.ownBlock = some k → w.heap.size ≤ k) ∧ Below w.heap.size w w' := by
  have HL := Hid.mk (And.intro hl hok)
  clear hl hok
  go_enter Tryz.func27, Tryz.ntmps27
  go_wp2
  go_loopw [3, 4] (fun tv iv wr => ∃ i : Nat, i ≤ l.length ∧ iv = .int .i64 i ∧ TAt wr tv ((l.take i).map enB) ∧ (∀ k, tv.ownBlock = some k → w.heap.size ≤ k) ∧ Below w.heap.size w wr) (fun _ iv _ => l.length - (intOf iv).toNat)
  case atStart => exact ⟨0, Nat.zero_le _, rfl, ⟨⟨rfl, .inl ⟨rfl, rfl⟩⟩⟩, (fun k h => by cases h), Below.refl _ _⟩
  case round =>
    obtain ⟨i, hi1, rfl, hT, hlo, hb⟩ := hrel
    by_cases hlt : i < l.length
    · obtain ⟨g, off, hla, hra⟩ := (HL.out.1.below hb).at' (fun h => by rw [h] at hlt; simp at hlt)
      subst hla
      obtain ⟨x0, x1, x2, x3, x4⟩ := row_en hra rfl i hlt
      have hby := rbytes_o l[i] (HL.out.2 _ (List.getElem_mem hlt))
      have htk : (l.take (i + 1)).map enB = (l.take i).map enB ++ [enB l[i]] := by rw [List.take_succ_eq_append_getElem hlt, List.map_append]; rfl
      obtain ⟨e, hee⟩ : ∃ e, e = l[i] := ⟨_, rfl⟩
      rw [← hee] at x0 x1 x2 x3 x4 hby htk
      have i1 : (i : Int) < (l.length : Int) := by omega
      obtain ⟨ta, tc, htv, -⟩ := slice_form hT.row
      have hlen : ((l.take i).map enB).length = i := by simp; omega
      rw [hlen] at htv
      have HT := Hid.mk (And.intro hT (And.intro hlo (And.intro hb htk)))
      have HV := Hid.mk htv
      rw [htv]
      clear hT hlo hb htk hee htv hra
      go_wp2_with fail
      refine (hby _).mono ?_
      rintro r w3 ⟨rfl, b3⟩
      have hT3 := HT.out.1.kept (F := fun _ => False) (.below b3) (fun _ _ e => e)
      obtain ⟨v', w4, hr4, hT4, s4, hloc4⟩ := Rb.str_app w3 _ _ hT3 (enB e) (by rw [hlen]; omega)
      have eTV : TV (enB e) = .string ⟨(enB e).toArray⟩ := rfl
      rw [eTV, HV.out] at hr4
      rw [HV.out] at s4 hloc4
      have hlov := HT.out.2.1
      rw [HV.out] at hlov
      have HS := Hid.mk (And.intro hT4 (And.intro s4 (And.intro hloc4 (And.intro b3 hlov))))
      clear hT3 hT4 s4 hloc4 hby eTV hlov
      go_wp2_with (at_builtin; refine wpList_append_eq rfl _ _ _ _ rfl _ _ _ _ rfl rfl hr4 ?_)
      refine ⟨⟨i + 1, hlt, ival (by omega), by rw [HT.out.2.2.2]; exact HS.out.1, fun k hk => ?_, ?_⟩, by simp only [intOf]; omega⟩
      · rcases HS.out.2.2.1 k hk with h1 | h1
        · exact HS.out.2.2.2.2 k h1
        · have := HS.out.2.2.2.1.size; have := HT.out.2.2.1.size; omega
      · exact (chain HT.out.2.2.1 HS.out.2.2.2.1 (Nat.le_refl _)).trans (HS.out.2.1.toBelow (fun k hk e => by have := HS.out.2.2.2.2 k e; omega) (by have := HS.out.2.2.2.1.size; have := HT.out.2.2.1.size; omega))
    · have e1 : i = l.length := by omega
      subst e1
      rw [List.take_length] at hT
      have hTs : ∀ t ∈ l.map enB, 1 ≤ t.length ∧ t.length ≤ 4096 := fun t ht => by
        obtain ⟨q, hq, rfl⟩ := List.mem_map.1 ht
        have := enB_len q; have := (HL.out.2 q hq).c; omega
      have hpm : (pk tid (l.map enB)).map (·.2.length) = szs l := by unfold szs; rw [show tid = fun t => t from rfl, pk_map]; simp
      obtain ⟨ta, tc, htv, -⟩ := slice_form hT.row
      rw [List.length_map] at htv
      have hfil := filled_any (l.map enB) u3 wr hT (by simp; omega) hTs
      rw [hpm] at hfil
      rw [htv] at hfil ⊢
      clear hT hTs hpm htv
      go_wp2_with (go_at_call 48; refine hfil.mono ?_; clear hfil; rintro r w6 ⟨sv, rfl, hS6, hlo6, b6⟩)
      go_ret
      exact ⟨_, rfl, hS6, fun k hk => Nat.le_trans hb.size (hlo6 k hk), chain hb b6 (Nat.le_refl _)⟩
end Go.Proofs.YtjdpolhjbkpnlaaGreatDoor.Dx
