/-
  DERIVED. BIter, BFind0, BFindF, as one text.
-/
import Derived.Test.YtjdpolhjbkpnlaaGreatDoorLzAQ
set_option linter.unusedVariables false
set_option linter.unusedSimpArgs false
namespace Go.Proofs.YtjdpolhjbkpnlaaGreatDoor
open Go.RowKit Go.Shelf Go.Proofs.SealMath
attribute [local go_sem] Oper.semAt_some
/-- What the iterator does by itself: it counts. -/
structure TrF (fb : Nat) (h : Hd) (bv iv : Value) (rd : Nat) (s : Nat) (A : World) (s' : Nat) (B : World) : Prop where
  stay : Stay (fun k => k = fb) A B
  cells : ∃ c t m, A.heap[fb]? = some (.cells c t m)
  box : A.heap[fb]? = some (.cells (flV h bv iv (rd + s)) 54 (0, 0)) → B.heap[fb]? = some (.cells (flV h bv iv (rd + s')) 54 (0, 0))
theorem TrF.others {fb : Nat} {h : Hd} {bv iv : Value} {rd s s' : Nat} {A B : World} (t : TrF fb h bv iv rd s A s' B) : KeepsOthers A B :=
  ⟨t.stay.size, fun k o hk ho => (t.stay.block k (Array.getElem?_eq_some_iff.1 hk).1 (fun e => by
    obtain ⟨c, t, m, hc⟩ := t.cells
    rw [e, hc] at hk; cases hk; cases ho)).trans hk⟩
theorem TrF.below {fb : Nat} {h : Hd} {bv iv : Value} {rd s : Nat} {A B : World} (hc : ∃ c t m, A.heap[fb]? = some (.cells c t m)) (b : Below A.heap.size A B) : TrF fb h bv iv rd s A s B := by
  obtain ⟨c, t, m, h⟩ := hc
  exact ⟨.below b, ⟨c, t, m, h⟩, fun h' => (b.block fb (Array.getElem?_eq_some_iff.1 h).1).trans h'⟩
theorem wrap_one (n : Nat) (h : n < 4611686018427387905) : wrap64 ((n : Int) + 1) = (n : Int) + 1 := by unfold wrap64; omega
theorem addr0 (g j : Nat) : (⟨g, 0, none⟩ : Addr).add j = ⟨g, j, none⟩ := by unfold Addr.add; split <;> simp_all
theorem row_by {A B : World} {b e sz n : Nat} {v : Value} {xs : List Value} (h : A.ownsRow b e sz v n xs) (hk : ∀ k c t m, v.ownBlock = some k → A.heap[k]? = some (.cells c t m) → B.heap[k]? = some (.cells c t m)) : B.ownsRow b e sz v n xs := by
  rcases h with ⟨h1, h2 | ⟨g, cap, cur, h2, h3, h4, h5⟩⟩
  · exact ⟨h1, .inl h2⟩
  · exact ⟨h1, .inr ⟨g, cap, cur, h2, h3, hk g _ _ _ (by rw [h2]; rfl) h4, h5⟩⟩
/-- What stands while the blocks are gone through. -/
structure BI (fb : Nat) (h : Hd) (bl : List (List UInt8)) (bv iv : Value) (rd Bf q : Nat) (J : List (List UInt8) → Nat → World → Prop) (i : Nat) (A : World) : Prop where
  box : A.heap[fb]? = some (.cells (flV h bv iv (rd + i)) 54 (0, 0))
  row : A.ownsRow 0 9 1 bv bl.length (bl.map sv)
  f : A.heap[Bf]? = some (.cells #[Pt fb] 23 (0, 0))
  j : J ((bl.drop q).take i) i A
set_option maxRecDepth 100000 in
set_option maxHeartbeats 4000000 in
theorem blocks_st (fb : Nat) (hd : Hd) (bl : List (List UInt8)) (ix : List En) (bv iv : Value) (rd Bf Bp n : Nat) (p : En) (w : World) (H : FA w fb hd bl ix bv iv rd)
    (hf : w.heap[Bf]? = some (.cells #[Pt fb] 23 (0, 0))) (hp : w.heap[Bp]? = some (.cells (enV p) 38 (0, 0))) (hn : ix.length ≤ 1099511627776) (hu : Up ix) (hl : ix.length = bl.length) (hrd : rd + bl.length ≤ 4611686018427387904) :
    SeqS Fence.wide n Tryz.prog 54 #[Pt Bf, Pt Bp] (fun x => #[sv x]) (fun p' s x => p' ++ [x] <+: bl.drop (rF ix p - 1) ∧ s = p'.length + 1) (TrF fb hd bv iv rd) (fun _ => KpB (fun k => k = Bf ∨ k = fb ∨ bv.ownBlock = some k) none)
      (fun p' s => p' = bl.drop (rF ix p - 1) ∧ s = p'.length) (fun p' s => p' <+: bl.drop (rF ix p - 1) ∧ s = p'.length) 0 w := fun lp J Jx W hW hJ hJx hY h0 => by
  have HW : FA W fb hd bl ix bv iv rd := ⟨(hW.block fb H.lt).trans H.box, row_kept (F := fun k => w.heap.size ≤ k) H.row ⟨hW.os, hW.tape, hW.output, hW.size, fun k hk _ => hW.block k hk⟩ (fun k hk e => by have := row_lt H.row hk; omega), row_kept (F := fun k => w.heap.size ≤ k) H.idx ⟨hW.os, hW.tape, hW.output, hW.size, fun k hk _ => hW.block k hk⟩ (fun k hk e => by have := row_lt H.idx hk; omega)⟩
  have hf1 : W.heap[Bf]? = _ := (hW.block Bf (Array.getElem?_eq_some_iff.1 hf).1).trans hf
  have hp1 : W.heap[Bp]? = _ := (hW.block Bp (Array.getElem?_eq_some_iff.1 hp).1).trans hp
  have HD := HW.below (b_drew W)
  have hrf := rF_le ix p
  obtain ⟨q, hq⟩ : ∃ q, q = rF ix p - 1 := ⟨_, rfl⟩
  have hql : q ≤ bl.length := by omega
  obtain ⟨-, y6, y7, -⟩ := fl9 HD.box
  have yf := boxc (A := W.drew) hf1 rfl
  obtain ⟨p0, p1, p2, p3, p4⟩ := en5 (W := W.drew) hp1
  have hfb := firstBlock_any fb iv ix p W.drew y7 HD.idx hn hu
  rw [← hq] at hfb hY ⊢
  obtain ⟨ba, bc, rfl, hbc⟩ := slice_form HW.row
  obtain ⟨nb, hnb⟩ : ∃ nb, nb = bl.length := ⟨_, rfl⟩
  have HN := Hid.mk hnb
  rw [← hnb] at y6 hql hbc hl
  have hq1 : (q : Int) ≤ (nb : Int) := by omega
  have hq2 : (nb : Int) ≤ (bc : Int) := by omega
  have hfz : fb < W.drew.heap.size := HD.lt
  have HH := Hid.mk (And.intro HW (And.intro hf1 (And.intro hp1 h0)))
  clear hq hrf HW hf1 hp1 h0 HD y7 H hf hp hW hnb hl
  refine callsIn_of_wp Tryz.func54 rfl trivial ?_ rfl
  simp only [Tryz.ntmps54, List.size_toArray, List.length_cons, List.length_nil, Nat.reduceAdd, Nat.reduceSub, Array.replicate_succ, Array.replicate_zero, List.push_toArray, List.append_toArray, List.nil_append, List.cons_append]
  gi_wp2_with fail
  refine region_held mixed 10 rfl (S := fun w' => w'.cell? ⟨Bf, 0, none⟩ = some (Pt fb) ∧ w'.cell? ⟨fb, 6, none⟩ = some (.slice ba nb bc) ∧ w'.cell? ⟨Bp, 0, none⟩ = some (.int .i64 p.v) ∧ w'.cell? ⟨Bp, 1, none⟩ = some (.string p.c) ∧ w'.cell? ⟨Bp, 2, none⟩ = some (.int .i64 p.i) ∧ w'.cell? ⟨Bp, 3, none⟩ = some (.int .i64 p.s) ∧ w'.cell? ⟨Bp, 4, none⟩ = some (.bool p.d)) ?_
  refine AnyS.take (i := 0) (v := ?vi0) (by kernel_rfl) rfl (by kernel_rfl) (by kernel_rfl) (by kernel_rfl) (fun _ _ _ h => h) ⟨Or.inl ⟨by rfl, fun w' hS => ?yi0⟩, fun _ => rfl⟩ ⟨yf, y6, p0, p1, p2, p3, p4⟩ ?_
  case yi0 => have g0 := hS.1; clear hS; go_simp; rfl
  refine AnyS.take (i := 1) (v := ?vi1) (by kernel_rfl) rfl (by kernel_rfl) (by kernel_rfl) (by kernel_rfl) (fun _ _ _ h => h) ⟨Or.inl ⟨by rfl, fun w' hS => ?yi1⟩, fun _ => rfl⟩ ⟨yf, y6, p0, p1, p2, p3, p4⟩ ?_
  case yi1 => go_simp; rfl
  refine AnyS.take (i := 2) (v := ?vi2) (by kernel_rfl) rfl (by kernel_rfl) (by kernel_rfl) (by kernel_rfl) (fun _ _ _ h => h) ⟨Or.inl ⟨by rfl, fun w' hS => ?yi2⟩, fun _ => rfl⟩ ⟨yf, y6, p0, p1, p2, p3, p4⟩ ?_
  case yi2 => go_simp; rfl
  refine AnyS.take (i := 3) (v := ?vi3) (by kernel_rfl) rfl (by kernel_rfl) (by kernel_rfl) (by kernel_rfl) (fun _ _ _ h => h) ⟨Or.inl ⟨by rfl, fun w' hS => ?yi3⟩, fun _ => rfl⟩ ⟨yf, y6, p0, p1, p2, p3, p4⟩ ?_
  case yi3 => have g0 := hS.2.1; clear hS; go_simp; rfl
  refine AnyS.take (i := 4) (v := ?vi4) (by kernel_rfl) rfl (by kernel_rfl) (by kernel_rfl) (by kernel_rfl) (fun _ _ _ h => h) ⟨Or.inl ⟨by rfl, fun w' hS => ?yi4⟩, fun _ => rfl⟩ ⟨yf, y6, p0, p1, p2, p3, p4⟩ ?_
  case yi4 => have g0 := hS.1; clear hS; go_simp; rfl
  refine AnyS.take (i := 5) (v := ?vi5) (by kernel_rfl) rfl (by kernel_rfl) (by kernel_rfl) (by kernel_rfl) (fun _ _ _ h => h) ⟨Or.inl ⟨by rfl, fun w' hS => ?yi5⟩, fun _ => rfl⟩ ⟨yf, y6, p0, p1, p2, p3, p4⟩ ?_
  case yi5 => obtain ⟨-, -, g0, g1, g2, g3, g4⟩ := hS; go_simp; rfl
  refine AnyS.take (i := 9) (v := ?vi9) (by kernel_rfl) rfl (by kernel_rfl) (by kernel_rfl) (by kernel_rfl) (fun _ _ _ h => h) ⟨Or.inl ⟨by rfl, fun w' hS => ?yi9⟩, fun _ => rfl⟩ ⟨yf, y6, p0, p1, p2, p3, p4⟩ ?_
  case yi9 => go_simp; rfl
  refine AnyS.one (i := 6) (by kernel_rfl) (wpOpIn_step rfl (fun K hK => ?_))
  go_simp
  refine ⟨trivial, fun h => (by cases h), (callsIn_wide.2 hfb).mono ?_⟩
  clear hfb
  rintro r w3 ⟨rfl, b3⟩
  have S3 : w3.cell? ⟨Bf, 0, none⟩ = some (Pt fb) ∧ w3.cell? ⟨fb, 6, none⟩ = some (.slice ba nb bc) ∧ w3.cell? ⟨Bp, 0, none⟩ = some (.int .i64 p.v) ∧ w3.cell? ⟨Bp, 1, none⟩ = some (.string p.c) ∧ w3.cell? ⟨Bp, 2, none⟩ = some (.int .i64 p.i) ∧ w3.cell? ⟨Bp, 3, none⟩ = some (.int .i64 p.s) ∧ w3.cell? ⟨Bp, 4, none⟩ = some (.bool p.d) := ⟨cell_lat b3 yf, cell_lat b3 y6, cell_lat b3 p0, cell_lat b3 p1, cell_lat b3 p2, cell_lat b3 p3, cell_lat b3 p4⟩
  refine hK _ _ ⟨S3, ?_⟩
  clear hK K
  refine AnyS.take (i := 7) (v := ?vi7) (by kernel_rfl) rfl (by kernel_rfl) (by kernel_rfl) (by kernel_rfl) (fun _ _ _ h => h) ⟨Or.inl ⟨by rfl, fun w' hS => ?yi7⟩, fun _ => rfl⟩ S3 ?_
  case yi7 => go_simp; rfl
  refine AnyS.take (i := 8) (v := ?vi8) (by kernel_rfl) rfl (by kernel_rfl) (by kernel_rfl) (by kernel_rfl) (fun _ _ _ h => h) ⟨Or.inl ⟨by rfl, fun w' hS => ?yi8⟩, fun _ => rfl⟩ S3 ?_
  case yi8 => go_simp; rfl
  refine AnyS.done (by kernel_rfl) ?_
  obtain ⟨HW, hf1, hp1, h0⟩ := HH.out
  have b3' : Below W.heap.size W w3 := below_d b3
  have F3 := HW.below b3'
  have hf3 : w3.heap[Bf]? = _ := (b3'.block Bf (Array.getElem?_eq_some_iff.1 hf1).1).trans hf1
  have J3 := hJ [] 0 W 0 w3 h0 (TrF.below ⟨_, _, _, HW.box⟩ b3')
  have H3 := Hid.mk (And.intro F3 (And.intro hf3 J3))
  clear F3 hf3 J3 HW hf1 hp1 h0 b3 b3' S3 yf y6 p0 p1 p2 p3 p4 HH
  gi_wp2_with fail
  · have e0 : nb - q = 0 := by omega
    have hdr : bl.drop q = [] := List.drop_of_length_le (by rw [← HN.out]; omega)
    have HD := Hid.mk hdr
    rw [e0]
    clear hdr e0
    refine wpIn_loop_rounds 1 ?_
    rw [roundsIn_succ]
    gi_wp2_with fail
    go_end0
    exact ⟨⟨_, rfl⟩, .inl ⟨[], 0, ⟨HD.out.symm, rfl⟩, H3.out.2.2⟩⟩
  · rename_i hbq
    obtain ⟨M, hM⟩ : ∃ M, M = nb - q := ⟨_, rfl⟩
    rw [← hM]
    obtain ⟨XA, hXA⟩ : ∃ XA, XA = Option.map (fun x => Addr.add x q) ba := ⟨_, rfl⟩
    rw [← hXA]
    have HXA := Hid.mk hXA
    have hMl : M = (bl.drop q).length := by rw [List.length_drop, ← HN.out]; exact hM
    have HM := Hid.mk hMl
    clear hXA hMl hM
    gi_loopw [15] (fun u wr => ∃ i : Nat, u = .int .i64 i ∧ i ≤ M ∧ BI fb hd bl (.slice ba bl.length bc) iv rd Bf q J i wr) (fun u _ => M - (intOf u).toNat)
    case atStart => exact ⟨0, rfl, Nat.zero_le _, H3.out.1.box, H3.out.1.row, H3.out.2.1, H3.out.2.2⟩
    case round =>
      obtain ⟨i, rfl, hi, hB⟩ := hrel
      clear H3
      by_cases hlt : i < M
      · have hlt2 : i < (bl.drop q).length := by rw [← HM.out]; exact hlt
        have hqi : q + i < bl.length := by rw [List.length_drop] at hlt2; omega
        obtain ⟨g, hg⟩ : ∃ g, ba = some ⟨g, 0, none⟩ := by
          rcases hB.row.2 with ⟨e, -⟩ | ⟨g, cap, cur, e, -⟩
          · injection e with e1 e2; omega
          · injection e with e1 e2; exact ⟨g, e1⟩
        subst hg
        have hXa : XA = some ⟨g, q, none⟩ := by
          rw [HXA.out, Option.map_some, addr0]
        subst hXa
        have xb := World.ownsRow.cells hB.row (g := g) rfl (q + i) (sv bl[q + i]) (by rw [List.getElem?_map, List.getElem?_eq_getElem hqi]; rfl)
        rw [addr0] at xb
        obtain ⟨x, hx⟩ : ∃ x, x = bl[q + i] := ⟨_, rfl⟩
        rw [← hx] at xb
        obtain ⟨X, hX⟩ : ∃ X : ByteArray, X = ⟨x.toArray⟩ := ⟨_, rfl⟩
        have hpx : (bl.drop q).take i ++ [x] = (bl.drop q).take (i + 1) := by
          rw [List.take_add_one, List.getElem?_eq_getElem hlt2, hx, List.getElem_drop]
          rfl
        obtain ⟨R, hR⟩ : ∃ R, R = rd + i := ⟨_, rfl⟩
        have hbx := hB.box
        rw [← hR] at hbx
        obtain ⟨-, -, -, y8, yz⟩ := fl9 hbx
        have yz8 := yz 8
        have yf := boxc (A := wr) hB.f rfl
        have hRb : R < 4611686018427387904 := by omega
        have hset := fl_set8 hbx (R + 1)
        have st1 : Stay (fun k => k = fb) wr (wr.setCell ⟨fb, 8, none⟩ (.int .i64 ((R + 1 : Nat) : Int))) := stay1 _ _ _ _ _ (.refl _ _)
        have J1 := hJ _ _ wr (i + 1) _ hB.j ⟨st1, ⟨_, _, _, hB.box⟩, fun _ => by rw [← Nat.add_assoc, ← hR]; exact hset⟩
        obtain ⟨fn, tmps, assign, body, hy, hRd⟩ := hY _ x (i + 1) _ J1 ⟨by rw [hpx]; exact List.take_prefix _ _, by rw [List.length_take]; omega⟩
        rw [show sv x = .string X by rw [hX]] at hy xb
        have e1 : (((R + 1 : Nat)) : Int) = (R : Int) + 1 := by omega
        rw [e1] at hy hRd
        have hib : i < 4611686018427387905 := by have := HM.out; rw [List.length_drop] at this; omega
        have hRb2 : R < 4611686018427387905 := by omega
        have hi1 : (i : Int) < (M : Int) := by omega
        have hwR := wrap_one R hRb2
        have hwi := wrap_one i hib
        clear hib hRb2
        have HP := Hid.mk (And.intro hB (And.intro hpx (And.intro hR (And.intro hset (And.intro st1 e1)))))
        clear hB hpx hR hset st1 hx hX J1 hbx yz e1 hlt2 hqi hRb hrd
        gi_wp2_with fail
        refine ⟨fun h => (by cases h), hRd.mono ?_⟩
        obtain ⟨hB, hpx, hR, hset, st1, e1⟩ := HP.out
        clear hy hRd xb y8 yz8 yf
        rintro rr W3 (⟨rfl, hJ3, hk3⟩ | ⟨rfl, hJ3, hk3⟩)
        · rw [e1] at hset st1
          have hb3 := hk3.2 fb _ _ _ (.inl (.inr (.inl rfl))) hset
          have hf2 := (st1.block Bf (Array.getElem?_eq_some_iff.1 hB.f).1 (fun e => by
            have h1 := hB.f
            rw [e, hB.box] at h1; simp at h1)).trans hB.f
          have hf3 := hk3.2 Bf _ _ _ (.inl (.inl rfl)) hf2
          have hr2 := row_kept hB.row st1 (fun k hk e => by
            obtain ⟨c, hc⟩ := row_block hB.row hk
            rw [e, hB.box] at hc; simp at hc)
          have hr3 := row_by (B := W3) hr2 (fun k c t m hk hc => hk3.2 k c t m (.inl (.inr (.inr hk))) hc)
          rw [hpx] at hJ3
          have B3 : BI fb hd bl (.slice (some ⟨g, 0, none⟩) bl.length bc) iv rd Bf q J (i + 1) W3 := ⟨by rw [← Nat.add_assoc, ← hR]; exact hb3, hr3, hf3, hJ3⟩
          have HB3 := Hid.mk B3
          clear B3 hb3 hf2 hf3 hr2 hr3 hJ3 hk3 hB hpx hR hset st1 e1 HP
          clear hwR
          gi_wp2
          try rw [hwi]
          clear hwi
          exact ⟨⟨i + 1, ival (by omega), hlt, HB3.out⟩, by simp only [intOf]; omega⟩
        · have HJ := Hid.mk hJ3
          have HPX := Hid.mk hpx
          clear hJ3 hk3 hB hpx hR hset st1 e1 hwR hwi
          gi_wp2_with fail
          refine bodyPost_ret (results_none rfl _ _ _) rfl ?_
          refine ⟨⟨_, rfl⟩, .inr ⟨_, _, ⟨?_, ?_⟩, HJ.out⟩⟩
          · rw [HPX.out]; exact List.take_prefix _ _
          · rw [HPX.out, List.length_take]
            have := HM.out
            omega
      · have e1 : i = M := by omega
        have hi1 : ¬ (i : Int) < (M : Int) := by omega
        have hj := hB.j
        have HJ := Hid.mk hj
        clear hj hB
        gi_wp2_with fail
        go_end0
        refine ⟨⟨_, rfl⟩, .inl ⟨_, _, ⟨?_, ?_⟩, HJ.out⟩⟩
        · exact List.take_of_length_le (by rw [← HM.out]; omega)
        · rw [List.length_take, ← HM.out]; omega
end Go.Proofs.YtjdpolhjbkpnlaaGreatDoor
set_option linter.unusedVariables false
set_option linter.unusedSimpArgs false
namespace Go.Proofs.YtjdpolhjbkpnlaaGreatDoor
open Go.RowKit Go.Shelf Go.Proofs.SealMath
/-- The file, the list that is found, in its box, and the result's box. -/
structure OI (U : World) (fb : Nat) (h : Hd) (bv iv : Value) (rd Bo Br s : Nat) (L : List En) (lv rv : Value) (A : World) : Prop where
  num : fb ≠ Bo ∧ fb ≠ Br ∧ Bo ≠ Br ∧ fb < U.heap.size ∧ Bo < U.heap.size ∧ Br < U.heap.size
  box : A.heap[Bo]? = some (.cells #[lv] 34 (0, 0))
  res : A.heap[Br]? = some (.cells #[rv] 34 (0, 0))
  row : A.ownsRow 0 38 5 lv L.length (L.flatMap enC)
  file : A.heap[fb]? = some (.cells (flV h bv iv (rd + s)) 54 (0, 0))
  stay : Stay (fun k => k = Bo ∨ k = Br ∨ k = fb) U A
  loc : ∀ k, lv.ownBlock = some k → U.heap.size ≤ k
section
variable {U A B : World} {fb : Nat} {h : Hd} {bv iv : Value} {rd Bo Br s s' : Nat} {L : List En} {lv rv : Value}
theorem OI.tr (o : OI U fb h bv iv rd Bo Br s L lv rv A) (t : TrF fb h bv iv rd s A s' B) : OI U fb h bv iv rd Bo Br s' L lv rv B where
  num := o.num
  box := (t.stay.block Bo (Array.getElem?_eq_some_iff.1 o.box).1 (fun e => o.num.1 e.symm)).trans o.box
  res := (t.stay.block Br (Array.getElem?_eq_some_iff.1 o.res).1 (fun e => o.num.2.1 e.symm)).trans o.res
  row := row_kept o.row t.stay (fun k hk e => by have := o.loc k hk; have := o.num.2.2.2.1; omega)
  file := t.box o.file
  stay := o.stay.andThen t.stay (fun k _ e => .inr (.inr e))
  loc := o.loc
theorem OI.grown {row : Option Nat} (o : OI U fb h bv iv rd Bo Br s L lv rv A) (hg : A.grownBy B row) (hr : ∀ r, row = some r → U.heap.size ≤ r ∧ ∃ o : Obj, A.heap[r]? = some o ∧ o.isCells = false) : OI U fb h bv iv rd Bo Br s L lv rv B := by
  have st : Stay (fun k => row = some k) A B := .grown hg (fun k hk => hk)
  have hlow : ∀ k, k < U.heap.size → ¬ row = some k := fun k hk e => by have := (hr k e).1; omega
  exact {
    num := o.num
    box := (st.block Bo (Array.getElem?_eq_some_iff.1 o.box).1 (hlow Bo o.num.2.2.2.2.1)).trans o.box
    res := (st.block Br (Array.getElem?_eq_some_iff.1 o.res).1 (hlow Br o.num.2.2.2.2.2)).trans o.res
    row := row_kept o.row st (fun k hk e => by
      obtain ⟨-, o1, ho, hc⟩ := hr k e
      obtain ⟨c, hc'⟩ := row_block o.row hk
      rw [hc'] at ho; cases ho; cases hc)
    file := (st.block fb (Array.getElem?_eq_some_iff.1 o.file).1 (hlow fb o.num.2.2.2.1)).trans o.file
    stay := o.stay.andThen st (fun k hk e => absurd e (hlow k hk))
    loc := o.loc }
/-- A round of the inner loop, as the outer one sees it. -/
theorem OI.step {L' : List En} {lv' rv' : Value} {C : World} (o : OI U fb h bv iv rd Bo Br s L lv rv A) (st : Stay (fun k => k = Bo ∨ k = Br ∨ lv.ownBlock = some k) A C)
    (hb : C.heap[Bo]? = some (.cells #[lv'] 34 (0, 0))) (hr : C.heap[Br]? = some (.cells #[rv'] 34 (0, 0))) (hrow : C.ownsRow 0 38 5 lv' L'.length (L'.flatMap enC)) (hloc : ∀ k, lv'.ownBlock = some k → lv.ownBlock = some k ∨ A.heap.size ≤ k) :
    OI U fb h bv iv rd Bo Br s L' lv' rv' C ∧ KeepsOthers A C ∧ ∀ K : Nat → Prop, (∀ k, K k → k < U.heap.size ∧ k ≠ Bo ∧ k ≠ Br) → KpB K none A C := by
  have hcell : ∀ k, (k = Bo ∨ k = Br ∨ lv.ownBlock = some k) → ∃ c t m, A.heap[k]? = some (.cells c t m) := fun k e => by
    rcases e with e | e | e
    · subst e; exact ⟨_, _, _, o.box⟩
    · subst e; exact ⟨_, _, _, o.res⟩
    · obtain ⟨c, hc⟩ := row_block o.row e; exact ⟨_, _, _, hc⟩
  refine ⟨{ num := o.num, box := hb, res := hr, row := hrow, file := (st.block fb (Array.getElem?_eq_some_iff.1 o.file).1 (fun e => ?_)).trans o.file, stay := o.stay.andThen st (fun k hk e => ?_), loc := fun k hk => ?_ }, ⟨st.size, fun k ob hk ho => (st.block k (Array.getElem?_eq_some_iff.1 hk).1 (fun e => ?_)).trans hk⟩, fun K hK => ⟨st.size, fun k c t m hk hh => (st.block k (Array.getElem?_eq_some_iff.1 hh).1 (fun e => ?_)).trans hh⟩⟩
  · rcases e with e | e | e
    · exact o.num.1 e
    · exact o.num.2.1 e
    · have := o.loc _ e; have := o.num.2.2.2.1; omega
  · rcases e with e | e | e
    · exact .inl e
    · exact .inr (.inl e)
    · have := o.loc _ e; omega
  · rcases hloc k hk with e | e
    · exact o.loc k e
    · exact Nat.le_trans o.stay.size e
  · obtain ⟨c, t, m, h1⟩ := hcell k e
    rw [hk] at h1; cases h1; cases ho
  · rcases hk with hk | hk
    · obtain ⟨k1, k2, k3⟩ := hK k hk
      rcases e with e | e | e
      · exact k2 e
      · exact k3 e
      · have := o.loc _ e; omega
    · cases hk
end
/-- What is left behind where the inner loop is left by a return. -/
structure AX (W0 : World) (Bo Br : Nat) (lv0 : Value) (L : List En) (lv : Value) (s : Option Nat) (A : World) : Prop where
  lt : Bo < W0.heap.size ∧ Br < W0.heap.size
  box : A.heap[Bo]? = some (.cells #[lv] 34 (0, 0))
  res : A.heap[Br]? = some (.cells #[lv] 34 (0, 0))
  row : A.ownsRow 0 38 5 lv L.length (L.flatMap enC)
  stay : Stay (fun k => k = Bo ∨ k = Br ∨ lv0.ownBlock = some k) W0 A
  loc : ∀ k, lv.ownBlock = some k → lv0.ownBlock = some k ∨ W0.heap.size ≤ k
  own : ∀ k, s = some k → W0.heap.size ≤ k ∧ k < A.heap.size ∧ lv.ownBlock ≠ some k
section
variable {W0 A B : World} {Bo Br : Nat} {lv0 lv : Value} {L : List En} {s s' : Option Nat}
theorem AX.row_lt (h : AX W0 Bo Br lv0 L lv s A) {k : Nat} (hk : lv.ownBlock = some k) : k < A.heap.size := by
  obtain ⟨c, hc⟩ := row_block h.row hk
  exact (Array.getElem?_eq_some_iff.1 hc).1
theorem AX.tr (h : AX W0 Bo Br lv0 L lv s A) (t : TrB s A s' B) : AX W0 Bo Br lv0 L lv s' B where
  lt := h.lt
  box := (t.stay.block Bo (Array.getElem?_eq_some_iff.1 h.box).1 (fun e => by have := (h.own Bo e).1; have := h.lt.1; omega)).trans h.box
  res := (t.stay.block Br (Array.getElem?_eq_some_iff.1 h.res).1 (fun e => by have := (h.own Br e).1; have := h.lt.2; omega)).trans h.res
  row := row_kept h.row t.stay (fun k hk e => (h.own k e).2.2 hk)
  stay := h.stay.andThen t.stay (fun k hk e => by have := (h.own k e).1; omega)
  loc := h.loc
  own := fun k hk => by
    have hlt := t.lt k hk
    rcases t.loc k hk with e | e
    · exact ⟨(h.own k e).1, hlt, (h.own k e).2.2⟩
    · refine ⟨Nat.le_trans h.stay.size e, hlt, fun e2 => ?_⟩
      have := h.row_lt e2
      omega
theorem AX.grown {row : Option Nat} (h : AX W0 Bo Br lv0 L lv s A) (hg : A.grownBy B row) (hr : ∀ r, row = some r → W0.heap.size ≤ r ∧ ∃ o : Obj, A.heap[r]? = some o ∧ o.isCells = false) : AX W0 Bo Br lv0 L lv s B := by
  have st : Stay (fun k => row = some k) A B := .grown hg (fun k hk => hk)
  exact {
    lt := h.lt
    box := (st.block Bo (Array.getElem?_eq_some_iff.1 h.box).1 (fun e => by have := (hr Bo e).1; have := h.lt.1; omega)).trans h.box
    res := (st.block Br (Array.getElem?_eq_some_iff.1 h.res).1 (fun e => by have := (hr Br e).1; have := h.lt.2; omega)).trans h.res
    row := row_kept h.row st (fun k hk e => by
      obtain ⟨-, o, ho, hc⟩ := hr k e
      obtain ⟨c, hc'⟩ := row_block h.row hk
      rw [hc'] at ho; cases ho; cases hc)
    stay := h.stay.andThen st (fun k hk e => by have := (hr k e).1; omega)
    loc := h.loc
    own := fun k hk => ⟨(h.own k hk).1, Nat.lt_of_lt_of_le (h.own k hk).2.1 hg.size, (h.own k hk).2.2⟩ }
/-- The list is the answer. -/
theorem AI.ret {rv : Value} (h : AI W0 Bo lv0 L lv s A) (hne : Bo ≠ Br) (hlt : Br < W0.heap.size) (hr : A.heap[Br]? = some (.cells #[rv] 34 (0, 0))) : AX W0 Bo Br lv0 L lv s (A.setCell ⟨Br, 0, none⟩ lv) ∧ Stay (fun k => k = Br) A (A.setCell ⟨Br, 0, none⟩ lv) := by
  have st : Stay (fun k => k = Br) A (A.setCell ⟨Br, 0, none⟩ lv) := stay1 _ _ _ _ _ (.refl _ _)
  refine ⟨{ lt := ⟨h.lt, hlt⟩, box := (st.block Bo (Array.getElem?_eq_some_iff.1 h.box).1 hne).trans h.box, res := by rw [heap_setCell_same A Br 0 _ _ _ hr]; rfl, row := row_kept h.row st (fun k hk e => ?_), stay := (h.stay.mono (fun k _ e => ?_)).andThen st (fun k _ e => .inr (.inl e)), loc := h.loc, own := fun k hk => ⟨(h.own k hk).1, Nat.lt_of_lt_of_le (h.own k hk).2.1 st.size, (h.own k hk).2.2⟩ }, st⟩
  · obtain ⟨c, hc⟩ := row_block h.row hk
    rw [e, hr] at hc; simp at hc
  · rcases e with e | e
    · exact .inl e
    · exact .inr (.inr e)
end
/-- At the end, behind the loop's mark. -/
theorem OI.fin {w U A w' : World} {fb : Nat} {h : Hd} {bl : List (List UInt8)} {ix : List En} {bv iv : Value} {rd Bo Br s : Nat} {L : List En} {lv : Value} (o : OI U fb h bv iv rd Bo Br s L lv lv A) (H : FA w fb h bl ix bv iv rd) (bU : Below w.heap.size w U) (hBo : w.heap.size ≤ Bo) (hBr : w.heap.size ≤ Br)
    {D : Nat} (hD : U.heap.size ≤ D) (hdef : A.heap[D]? = some (.deferred (some []))) (st : Stay (fun k => k ∈ [D]) A w') :
    w'.cell? ⟨Br, 0, none⟩ = some lv ∧ w'.ownsRow 0 38 5 lv L.length (L.flatMap enC) ∧ (∀ k, lv.ownBlock = some k → w.heap.size ≤ k) ∧ FA w' fb h bl ix bv iv (rd + s) ∧ Stay (fun k => k = fb) w w' := by
  have s1 : Stay (fun k => k = Bo ∨ k = Br ∨ k = fb ∨ k ∈ [D]) U w' := (o.stay.mono (fun k _ e => by rcases e with e | e | e <;> simp [e])).andThen st (fun k _ e => .inr (.inr (.inr e)))
  have s2 : Stay (fun k => k = fb) w w' := by
    refine ⟨s1.os.trans bU.os, s1.tape.trans bU.tape, s1.output.trans bU.output, Nat.le_trans bU.size s1.size, fun k hk hn => ?_⟩
    refine (s1.block k (Nat.lt_of_lt_of_le hk bU.size) (fun e => ?_)).trans (bU.block k hk)
    have := bU.size
    rcases e with e | e | e | e
    · omega
    · omega
    · exact hn e
    · simp at e; omega
  have nD : ∀ k, k < U.heap.size → ¬ k ∈ [D] := fun k hk e => by simp at e; omega
  have hres : w'.heap[Br]? = _ := (st.block Br (Array.getElem?_eq_some_iff.1 o.res).1 (nD _ o.num.2.2.2.2.2)).trans o.res
  have hfile : w'.heap[fb]? = _ := (st.block fb (Array.getElem?_eq_some_iff.1 o.file).1 (nD _ o.num.2.2.2.1)).trans o.file
  refine ⟨boxc (A := w') hres rfl, row_kept o.row st (fun k hk e => ?_), fun k hk => Nat.le_trans bU.size (o.loc k hk), ⟨hfile, row_kept H.row s2 (fun k hk e => H.row_ne hk e), row_kept H.idx s2 (fun k hk e => H.idx_ne hk e)⟩, s2⟩
  obtain ⟨c, hc⟩ := row_block o.row hk
  simp at e
  rw [e, hdef] at hc; cases hc
/-- How long what is found may be. -/
theorem len_lim (cb : Nat) (bl : List (List UInt8)) (hs : (bl.map (·.length + 14)).sum ≤ 1099511627776) (q : Nat) (p : List (List UInt8)) (y : List UInt8) (hy : p ++ [y] <+: bl.drop q) : ((alA cb p).length + (ents ⟨y.toArray⟩ 0 cb).length) * (cb + 7) ≤ 1099511627776 := by
  obtain ⟨t, ht⟩ := hy
  have h1 := congrArg (fun l => (l.map (·.length + 14)).sum) (List.take_append_drop q bl)
  rw [← ht] at h1
  have h2 := alA_len cb (p ++ [y])
  have e : alA cb (p ++ [y]) = alA cb p ++ ents ⟨y.toArray⟩ 0 cb := by unfold alA; rw [List.flatMap_append]; simp
  rw [e, List.length_append] at h2
  simp only [List.map_append, List.sum_append] at h1 h2
  omega
set_option maxRecDepth 100000 in
theorem blocksFrom_any (fb : Nat) (p : En) (w : World) :
    Calls Tryz.prog 29 #[Pt fb, .agg (enV p)] w fun r w' => r = .returned (.func (.func 54) #[] #[Pt w.heap.size, Pt (w.heap.size + 1)]) ∧ w' = (w.alloc (.cells #[Pt fb] 23)).alloc (.cells (enV p) 38) := by
  have hmf : ∀ (fn : Fn) (first cap : Array Value) (w : World), (Instr.makeFunc fn first cap).run Tryz.prog w = .ok (.func fn first cap) w := fun _ _ _ _ => rfl
  go_enter Tryz.func29, Tryz.ntmps29
  go_wp2
  go_ret
  exact ⟨rfl, rfl⟩
end Go.Proofs.YtjdpolhjbkpnlaaGreatDoor
set_option linter.unusedVariables false
set_option linter.unusedSimpArgs false
namespace Go.Proofs.YtjdpolhjbkpnlaaGreatDoor
open Go.RowKit Go.Shelf Go.Proofs.SealMath
attribute [local go_sem] Oper.semAt_some
/-- The entries of a value. -/
def hitV (x : Int) (l : List En) : List En := l.filter fun e => decide (e.v = x)
/-- How blocks are gone through for a value: to the end, or up to an entry above it. -/
def FndO (cb : Nat) (x : Int) (bl : List (List UInt8)) (t : Nat) (L : List En) : Prop :=
  (t = bl.length ∧ (∀ e ∈ alA cb bl, e.v ≤ x) ∧ L = hitV x (alA cb bl)) ∨
  ∃ pre y q rest, pre ++ [y] <+: bl ∧ t = pre.length + 1 ∧ ents ⟨y.toArray⟩ 0 cb = q ++ rest ∧ (∃ e r, rest = e :: r ∧ x < e.v) ∧ (∀ e ∈ alA cb pre ++ q, e.v ≤ x) ∧ L = hitV x (alA cb pre ++ q)
theorem alA_snoc (cb : Nat) (p : List (List UInt8)) (y : List UInt8) : alA cb (p ++ [y]) = alA cb p ++ ents ⟨y.toArray⟩ 0 cb := by unfold alA; rw [List.flatMap_append]; simp
theorem hitV_app (x : Int) (a b : List En) : hitV x (a ++ b) = hitV x a ++ hitV x b := by unfold hitV; rw [List.filter_append]
theorem mem_sum : ∀ (bl : List (List UInt8)) (i : Nat) (hi : i < bl.length), bl[i].length + 14 ≤ (bl.map (·.length + 14)).sum
  | x :: l, 0, _ => by simp
  | x :: l, i + 1, hi => by
    have := mem_sum l i (by simpa using hi)
    simp only [List.getElem_cons_succ, List.map_cons, List.sum_cons]
    omega
theorem alloc_old (W : World) (o : Obj) (k : Nat) (h : k < W.heap.size) : (W.alloc o).heap[k]? = W.heap[k]? := ((Below.refl _ W).alloc (Nat.le_refl _) o).block k h
theorem two_new {V : World} (W : World) (o1 o2 : Obj) (h : V = (W.alloc o1).alloc o2) : Below W.heap.size W V ∧ V.heap[W.heap.size]? = some o1 ∧ V.heap[W.heap.size + 1]? = some o2 ∧ V.heap.size = W.heap.size + 2 := by
  subst h
  refine ⟨((Below.refl _ W).alloc (Nat.le_refl _) _).alloc (by simp) _, ?_, ?_, by simp⟩
  · rw [alloc_old _ _ _ (by simp)]; exact heap_alloc_last W o1
  · have := heap_alloc_last (W.alloc o1) o2
    rw [World.size_alloc] at this; exact this
theorem four_new {V : World} (W : World) (o1 o2 o3 o4 : Obj) (h : V = (((W.alloc o1).alloc o2).alloc o3).alloc o4) : Below W.heap.size W V ∧ V.heap[W.heap.size]? = some o1 ∧ V.heap[W.heap.size + 1]? = some o2 ∧ V.heap[W.heap.size + 1 + 1]? = some o3 ∧ V.heap[W.heap.size + 1 + 1 + 1]? = some o4 ∧ V.heap.size = W.heap.size + 4 := by
  obtain ⟨b1, h1, h2, s1⟩ := two_new W o1 o2 rfl
  obtain ⟨b2, h3, h4, s2⟩ := two_new ((W.alloc o1).alloc o2) o3 o4 h
  rw [s1] at h3 h4 s2
  exact ⟨chain b1 b2 (Nat.le_refl _), (b2.block _ (by omega)).trans h1, (b2.block _ (by omega)).trans h2, h3, h4, s2⟩
set_option maxHeartbeats 8000000 in
set_option maxRecDepth 100000 in
theorem find_any (fb : Nat) (hd : Hd) (bl : List (List UInt8)) (ix : List En) (bv iv : Value) (rd : Nat) (x : Int) (w : World) (H : FA w fb hd bl ix bv iv rd) (hw : 64 ≤ hd.w ∧ hd.w ≤ 1024) (hs : (bl.map (·.length + 14)).sum ≤ 1099511627776) (hl : ix.length = bl.length) (hu : Up ix) (hrd : rd + bl.length ≤ 4611686018427387904) :
    Calls Tryz.prog 15 #[Pt fb, .int .i64 x] w fun r w' => ∃ v t L, r = .returned v ∧ FndO (cbH hd) x (bl.drop (rF ix ⟨x, ⟨#[]⟩, -1, 0, false⟩ - 1)) t L ∧ w'.ownsRow 0 38 5 v L.length (L.flatMap enC) ∧ (∀ k, v.ownBlock = some k → w.heap.size ≤ k) ∧ FA w' fb hd bl ix bv iv (rd + t) ∧ Stay (fun k => k = fb) w w' := by
  have hbl := len_sum bl
  obtain ⟨CB, hCB⟩ : ∃ CB, CB = cbH hd := ⟨_, rfl⟩
  have hcb := fun r W hbx => codeBytes_any fb hd bv iv r W hbx hw
  rw [← hCB] at hcb ⊢
  have hCB2 : CB ≤ 128 := by rw [hCB]; unfold cbH; omega
  clear hCB
  have hfz := H.lt
  refine (callsIn_wide (n := 9)).1 ?_
  refine callsIn_of_wp_marks Tryz.func15 rfl trivial ?_ rfl
  simp only [Tryz.ntmps15, List.size_toArray, List.length_cons, List.length_nil, Nat.reduceAdd, Nat.reduceSub, Array.replicate_succ, Array.replicate_zero, List.push_toArray, List.append_toArray, List.nil_append, List.cons_append]
  obtain ⟨pl, hpl⟩ : ∃ pl : En, pl = ⟨x, ⟨#[]⟩, -1, 0, false⟩ := ⟨_, rfl⟩
  gi_wp2_with fail
  obtain ⟨U0, hU0⟩ : ∃ U0, U0 = (((w.alloc (.cells #[Pt fb] 23)).alloc (.cells #[.int .i64 x] 3)).alloc (.cells #[.slice none 0 0] 34)).alloc (.cells #[.slice none 0 0] 34) := ⟨_, rfl⟩
  rw [← hU0]
  have hbf := blocksFrom_any fb pl U0
  simp only [enV, hpl] at hbf
  refine ⟨trivial, (callsIn_wide.2 hbf).mono ?_⟩
  clear hbf
  rintro r U ⟨rfl, hU⟩
  obtain ⟨b0, f1, f2, f3, f4, fs⟩ := four_new w _ _ _ _ hU0
  obtain ⟨b1, g1, g2, gs⟩ := two_new U0 _ _ hU
  have bU := chain b0 b1 (Nat.le_refl _)
  have HU : FA U fb hd bl ix bv iv rd := H.below bU
  have u1 : U.heap[w.heap.size]? = _ := (b1.block _ (by omega)).trans f1
  have u2 : U.heap[w.heap.size + 1]? = _ := (b1.block _ (by omega)).trans f2
  have u3 : U.heap[w.heap.size + 1 + 1]? = _ := (b1.block _ (by omega)).trans f3
  have u4 : U.heap[w.heap.size + 1 + 1 + 1]? = _ := (b1.block _ (by omega)).trans f4
  obtain ⟨q0, hq0⟩ : ∃ q0, q0 = rF ix pl - 1 := ⟨_, rfl⟩
  have hseq := blocks_st fb hd bl ix bv iv rd U0.heap.size (U0.heap.size + 1) 8 pl U HU g1 (by rw [g2, hpl]) (by omega) hu hl hrd
  rw [← hq0] at hseq
  have hq0' : bl.drop (rF ix ⟨x, ⟨#[]⟩, -1, 0, false⟩ - 1) = bl.drop q0 := by rw [hq0, hpl]
  have HQ := Hid.mk hq0'
  have FS := Hid.mk (And.intro fs gs)
  clear hU0 hU f1 f2 f3 f4 hq0 hq0' hpl fs gs
  gi_wp2_with fail
  obtain ⟨fs, gs⟩ := FS.out
  have o0 : OI U fb hd bv iv rd (w.heap.size + 1 + 1 + 1) (w.heap.size + 1 + 1) 0 (hitV x (alA CB [])) (.slice none 0 0) (.slice none 0 0) U :=
    { num := by refine ⟨?_, ?_, ?_, HU.lt, ?_, ?_⟩ <;> omega, box := u4, res := u3, row := ⟨rfl, .inl ⟨rfl, rfl⟩⟩, file := HU.box, stay := .refl _ _, loc := fun k hk => by cases hk }
  clear fs gs
  refine wpIn_rangeFunc_sS rfl (by omega) (gf := 54) (lb := #[Pt U0.heap.size, Pt (U0.heap.size + 1)]) rfl trivial (enters_of Tryz.func54 (by kernel_rfl) rfl) hseq (fun _ _ _ _ h => h.others) (fun {_ _ _ _} => KpB.trans) (fun s A l o o' _ h ho _ => KpB.put none A l o o' h ho) (fun _ => rfl)
    (fun p s A => (∃ lv rv, OI U fb hd bv iv rd (w.heap.size + 1 + 1 + 1) (w.heap.size + 1 + 1) s (hitV x (alA CB p)) lv rv A) ∧ ∀ e ∈ alA CB p, e.v ≤ x)
    (fun c p s A => c = .ret ∧ ∃ lv pre y q rest, OI U fb hd bv iv rd (w.heap.size + 1 + 1 + 1) (w.heap.size + 1 + 1) s (hitV x (alA CB pre ++ q)) lv lv A ∧ p = pre ++ [y] ∧ ents ⟨y.toArray⟩ 0 CB = q ++ rest ∧ (∃ e r, rest = e :: r ∧ x < e.v) ∧ ∀ e ∈ alA CB pre ++ q, e.v ≤ x)
    (fun p s A s' B h ht => by obtain ⟨⟨lv, rv, o⟩, h2⟩ := h; exact ⟨⟨lv, rv, o.tr ht⟩, h2⟩)
    (fun c p s A s' B h ht => by obtain ⟨h1, lv, pre, y, q, rest, o, h2⟩ := h; exact ⟨h1, lv, pre, y, q, rest, o.tr ht, h2⟩)
    (fun z A B row h hg hr => by obtain ⟨⟨lv, rv, o⟩, h2⟩ := h; exact ⟨⟨lv, rv, o.grown hg hr⟩, h2⟩)
    (fun c z A B row h hg hr => by obtain ⟨h1, lv, pre, y, q, rest, o, h2⟩ := h; exact ⟨h1, lv, pre, y, q, rest, o.grown hg hr, h2⟩)
    ⟨⟨_, _, o0⟩, fun e he => by cases he⟩
    (fun y a' A => a' = { tmps := #[Pt fb, .int .i64 x, .pointer (some ⟨w.heap.size, 0, none⟩), .pointer (some ⟨w.heap.size + 1, 0, none⟩), .pointer (some ⟨w.heap.size + 1 + 1, 0, none⟩), .pointer (some ⟨w.heap.size + 1 + 1 + 1, 0, none⟩), sv y, undef, Pt fb, .bool false, Pt fb, .int .i64 x, .agg #[.int .i64 x, .string ⟨#[]⟩, .int .i64 (-1), .int .i64 0, .bool false], .func (.func 54) #[] #[Pt U0.heap.size, Pt (U0.heap.size + 1)], sv y, undef, undef, undef, undef, undef, undef, undef, undef, undef, undef, undef, undef, undef, undef, undef, undef, undef, undef, undef], defers := [] })
    (fun x a' s A B row h hg hr => h) ?assign ?body ?done ?stop
  case assign =>
    intro lp p y s A K hI hx hK
    gi_wp2
    exact hK _ _ (KeepsFrom.refl _ _) ⟨Nat.le_refl _, fun _ _ _ _ _ h => h⟩ hI rfl
  case body =>
    rintro lp p y s a' A hlp ⟨rc, hrc⟩ ⟨⟨lv, rv, o⟩, hle⟩ rfl hy
    obtain ⟨X, hX⟩ : ∃ X : ByteArray, X = ⟨y.toArray⟩ := ⟨_, rfl⟩
    have hyX : sv y = .string X := by rw [hX]
    have HX := Hid.mk hX
    clear hX
    have hlow : ∀ k, k < U.heap.size → k ≠ w.heap.size + 1 + 1 + 1 → k ≠ w.heap.size + 1 + 1 → k ≠ fb → A.heap[k]? = U.heap[k]? := fun k h1 h2 h3 h4 => o.stay.block k h1 (fun e => by rcases e with e | e | e <;> omega)
    have fs := FS.out.1
    have gs := FS.out.2
    have a1 : A.heap[w.heap.size]? = _ := (hlow _ (by omega) (by omega) (by omega) (by omega)).trans u1
    have a2 : A.heap[w.heap.size + 1]? = _ := (hlow _ (by omega) (by omega) (by omega) (by omega)).trans u2
    have c1 := boxc (A := A) a1 rfl
    have cb1 := hcb (rd + s) A o.file
    have HY := Hid.mk (And.intro hy hrc)
    rw [hyX]
    clear fs gs hrc hy hyX hlow
    gi_wp2_with fail
    refine ⟨trivial, (CallsIn.inRound lp (callsIn_wide.2 cb1)).mono ?_⟩
    rintro r A1 ⟨rfl, rfl⟩
    gi_wp2_with fail
    refine ⟨trivial, (CallsIn.inRound lp (callsIn_wide.2 (entries_any X CB A1))).mono ?_⟩
    rintro r A2 ⟨rfl, hA2⟩
    obtain ⟨b2, e1, e2, es⟩ := two_new A1 _ _ hA2
    have v2 : A2.heap[w.heap.size + 1]? = _ := (b2.block _ (Array.getElem?_eq_some_iff.1 a2).1).trans a2
    have hlr : A2.heap[lp]? = some (.loop rc) := (b2.block _ (Array.getElem?_eq_some_iff.1 HY.out.2).1).trans HY.out.2
    have hXl : X.size < 1152921504606846976 := by
      have h1 : y ∈ bl := List.mem_of_mem_drop (HY.out.1.1.subset (by simp))
      obtain ⟨i, hi, hyi⟩ := List.getElem_of_mem h1
      have h2 : bl[i].length + 14 ≤ (bl.map (·.length + 14)).sum := mem_sum bl i hi
      rw [HX.out, ba_len]; rw [hyi] at h2; omega
    have hseq2 := entries_st X CB A1.heap.size (A1.heap.size + 1) 6 (fun k => k = A1.heap.size ∨ k = A1.heap.size + 1) A2 e1 e2 ⟨.inl rfl, .inr rfl⟩ (fun k hk => by
      rcases hk with rfl | rfl
      · exact ⟨_, _, _, e1⟩
      · exact ⟨_, _, _, e2⟩) hXl hCB2
    have hBo : A2.heap[w.heap.size + 1 + 1 + 1]? = _ := (b2.block _ (Array.getElem?_eq_some_iff.1 o.box).1).trans o.box
    have hBr : A2.heap[w.heap.size + 1 + 1]? = _ := (b2.block _ (Array.getElem?_eq_some_iff.1 o.res).1).trans o.res
    have a0 : AI A2 (w.heap.size + 1 + 1 + 1) lv (hitV x (alA CB p) ++ hitV x []) lv none A2 :=
      { lt := (Array.getElem?_eq_some_iff.1 hBo).1, box := hBo, row := by rw [show hitV x [] = [] from rfl, List.append_nil]; exact row_kept (F := fun _ => False) o.row (.below b2) (fun _ _ e => e), stay := .refl _ _, loc := fun k hk => .inl hk, own := fun k hk => by cases hk }
    have ES := Hid.mk es
    clear hA2 es cb1 c1 a1 a2
    gi_wp2_with fail
    refine wpIn_rangeFunc_stN (l₀ := lp) rfl hlr (by omega) (gf := 53) (lb := #[Pt A1.heap.size, Pt (A1.heap.size + 1)]) rfl trivial (enters_of Tryz.func53 (by kernel_rfl) rfl) hseq2 (fun _ _ _ _ h => h.others) KpB.trans (fun s A l o o' _ h ho _ => KpB.put s A l o o' h ho) (fun _ => rfl)
      (fun p2 s2 B => (∃ lv', AI A2 (w.heap.size + 1 + 1 + 1) lv (hitV x (alA CB p) ++ hitV x p2) lv' s2 B) ∧ ∀ e ∈ p2, e.v ≤ x)
      (fun c p2 s2 B => c = .ret ∧ ∃ lv' q e, AX A2 (w.heap.size + 1 + 1 + 1) (w.heap.size + 1 + 1) lv (hitV x (alA CB p) ++ hitV x q) lv' s2 B ∧ p2 = q ++ [e] ∧ p2 <+: ents X 0 CB ∧ x < e.v ∧ ∀ e ∈ q, e.v ≤ x)
      (fun p s A s' B h ht => by obtain ⟨⟨lv', hA⟩, h2⟩ := h; exact ⟨⟨lv', hA.tr ht⟩, h2⟩)
      (fun c p s A s' B h ht => by obtain ⟨h1, lv', q, e, hA, h2⟩ := h; exact ⟨h1, lv', q, e, hA.tr ht, h2⟩)
      (fun z A B row h hg hr => by obtain ⟨⟨lv', hA⟩, h2⟩ := h; exact ⟨⟨lv', hA.grown hg hr⟩, h2⟩)
      (fun c z A B row h hg hr => by obtain ⟨h1, lv', q, e, hA, h2⟩ := h; exact ⟨h1, lv', q, e, hA.grown hg hr, h2⟩)
      ⟨⟨lv, a0⟩, fun e he => by cases he⟩
      (fun e a' B => ∃ Bx, A2.heap.size ≤ Bx ∧ B.heap[Bx]? = some (.cells (enV e) 38 (0, 0)) ∧ a' = { tmps := #[Pt fb, .int .i64 x, .pointer (some ⟨w.heap.size, 0, none⟩), .pointer (some ⟨w.heap.size + 1, 0, none⟩), .pointer (some ⟨w.heap.size + 1 + 1, 0, none⟩), .pointer (some ⟨w.heap.size + 1 + 1 + 1, 0, none⟩), .string X, Pt Bx, Pt fb, .bool false, Pt fb, .int .i64 x, .agg #[.int .i64 x, .string ⟨#[]⟩, .int .i64 (-1), .int .i64 0, .bool false], .func (.func 54) #[] #[Pt U0.heap.size, Pt (U0.heap.size + 1)], .string X, .string X, Pt fb, .int .i64 CB, .func (.func 53) #[] #[Pt A1.heap.size, Pt (A1.heap.size + 1)], .agg (enV e), undef, undef, undef, undef, undef, undef, undef, undef, undef, undef, undef, undef, undef, undef], defers := [] })
      (fun x a' s A B row h hg hr => by
        obtain ⟨Bx, h1, h2, h3⟩ := h
        refine ⟨Bx, h1, (hg.block Bx (Array.getElem?_eq_some_iff.1 h2).1 (fun e => ?_)).trans h2, h3⟩
        obtain ⟨-, o, ho, hc⟩ := hr Bx e.symm
        rw [h2] at ho; cases ho; cases hc) ?iassign ?ibody ?idone ?istop
    case iassign =>
      rintro lq p2 e s2 B K ⟨⟨lv', hA⟩, h2⟩ hx hK
      simp only [encE]
      gi_wp2
      have bA : Below B.heap.size B (B.alloc (.cells (enV e) 38)) := (Below.refl _ B).alloc (Nat.le_refl _) _
      exact hK _ _ ((KeepsOthers.alloc _ _).from _) ⟨bA.size, fun k c t m _ h => (bA.block k (Array.getElem?_eq_some_iff.1 h).1).trans h⟩ ⟨⟨lv', hA.below bA⟩, h2⟩ ⟨B.heap.size, hA.stay.size, heap_alloc_last B _, rfl⟩
    case ibody =>
      rintro lq p2 e s2 a' B hlq ⟨rc2, hrc2⟩ ⟨⟨lv', hA⟩, hle2⟩ ⟨Bx, hBu, hBx, rfl⟩ hx
      obtain ⟨x0, x1, x2, x3, x4⟩ := en5 hBx
      have c0 := boxc (A := B) hA.box rfl
      have fs := FS.out.1
      have gs := FS.out.2
      have hus := o.stay.size
      have hlowB : ∀ k, k < U.heap.size → k ≠ w.heap.size + 1 + 1 + 1 → B.heap[k]? = A2.heap[k]? := fun k h1 h2 => hA.stay.block k (by have := b2.size; omega) (fun e => by
        rcases e with e | e
        · exact h2 e
        · have := o.loc _ e; omega)
      have y2 : B.heap[w.heap.size + 1]? = _ := (hlowB _ (by omega) (by omega)).trans v2
      have y3 : B.heap[w.heap.size + 1 + 1]? = _ := (hlowB _ (by omega) (by omega)).trans hBr
      have cv := boxc (A := B) y2 rfl
      have cr := boxc (A := B) y3 rfl
      have fr3 : B.frozen? ⟨w.heap.size + 1 + 1, 0, none⟩ = false := frozen_of_row _ _ _ _ _ y3
      have fr0 : B.frozen? ⟨w.heap.size + 1 + 1 + 1, 0, none⟩ = false := frozen_of_row _ _ _ _ _ hA.box
      have hBrU : w.heap.size + 1 + 1 < A2.heap.size := (Array.getElem?_eq_some_iff.1 hBr).1
      have hA1s : U.heap.size ≤ A1.heap.size := hus
      have kK : ∀ k, (k = A1.heap.size ∨ k = A1.heap.size + 1) → k ≠ w.heap.size + 1 + 1 + 1 ∧ k ≠ w.heap.size + 1 + 1 ∧ lv'.ownBlock ≠ some k := fun k hk => by
        refine ⟨by omega, by omega, fun e => ?_⟩
        rcases hA.loc k e with e | e
        · have := row_lt o.row e; omega
        · have := ES.out; omega
      clear fs gs hus hA1s
      obtain ⟨qa, qc, hlv, -⟩ := slice_form hA.row
      obtain ⟨n5, hn5⟩ : ∃ n5, n5 = (hitV x (alA CB p) ++ hitV x p2).length := ⟨_, rfl⟩
      rw [← hn5] at hlv
      by_cases h1 : x < e.v
      · obtain ⟨hX2, st2⟩ := hA.ret (Br := w.heap.size + 1 + 1) (by omega) hBrU y3
        have kp2 : KpB (fun k => k = A1.heap.size ∨ k = A1.heap.size + 1) s2 B (B.setCell ⟨w.heap.size + 1 + 1, 0, none⟩ lv') := ⟨st2.size, fun k c t m hk hh => (st2.block k (Array.getElem?_eq_some_iff.1 hh).1 (fun e => by
          rcases hk with hk | hk
          · exact (kK k hk).2.1 e
          · have := (hA.own k hk).1; omega)).trans hh⟩
        have ko2 : KeepsOthers B (B.setCell ⟨w.heap.size + 1 + 1, 0, none⟩ lv') := KeepsOthers.setCell _ _ _
        have h1d : decide (x < e.v) = true := decide_eq_true h1
        have HR := Hid.mk (And.intro hX2 (And.intro kp2 (And.intro ko2 (And.intro h1 (And.intro hx hle2)))))
        rw [hlv] at c0
        have HL := Hid.mk hlv
        clear hX2 st2 kp2 ko2 hA hle2 hle o a0 hseq2 hlowB kK hx hBx y2 y3 hBo hBr hn5 hlv h1
        gi_wp2
        obtain ⟨hX2, kp2, ko2, h1, hx, hle2⟩ := HR.out
        rw [← HL.out]
        exact ⟨ko2.from _, kp2, rfl, lv', p2, e, hX2, rfl, hx, h1, hle2⟩
      · have h1d : decide (x < e.v) = false := decide_eq_false h1
        have hle3 : ∀ e' ∈ p2 ++ [e], e'.v ≤ x := fun e' he' => by
          rcases List.mem_append.1 he' with h | h
          · exact hle2 e' h
          · simp at h; subst h; omega
        by_cases h2 : e.v = x
        · have hh : hitV x (p2 ++ [e]) = hitV x p2 ++ [e] := by
            unfold hitV
            rw [List.filter_append]
            simp [h2]
          have h2d : (e.v == x) = true := by rw [h2]; simp
          have hpx : p2.length + 1 ≤ (ents X 0 CB).length := by have := hx.length_le; simpa using this
          have hlen : (hitV x (alA CB p) ++ hitV x p2).length + 1 ≤ 1099511627776 := by
            have l1 := len_lim CB bl hs q0 p y HY.out.1.1
            rw [← HX.out] at l1
            have l2 : (hitV x (alA CB p)).length ≤ (alA CB p).length := List.length_filter_le _ _
            have l3 : (hitV x p2).length ≤ p2.length := List.length_filter_le _ _
            rw [List.length_append]
            have l4 : (alA CB p).length + (ents X 0 CB).length ≤ ((alA CB p).length + (ents X 0 CB).length) * (CB + 7) := Nat.le_mul_of_pos_right _ (by omega)
            omega
          obtain ⟨v', V5, hap, ho5, st5, loc5⟩ := en_app B _ _ hA.row e hlen
          obtain ⟨hA6, st6⟩ := hA.app ho5 st5 loc5
          have hb5 : V5.heap[w.heap.size + 1 + 1 + 1]? = _ := (st5.block _ (Array.getElem?_eq_some_iff.1 hA.box).1 (fun e => hA.row_lb e rfl)).trans hA.box
          have z0 := boxc (A := V5) hb5 rfl
          have zf : V5.frozen? ⟨w.heap.size + 1 + 1 + 1, 0, none⟩ = false := frozen_of_row _ _ _ _ _ hb5
          obtain ⟨kp, ko⟩ := hA.kp (K := fun k => k = A1.heap.size ∨ k = A1.heap.size + 1) st6 (fun k hk => ⟨(kK k hk).1, (kK k hk).2.2⟩)
          obtain ⟨ra, rc5, hra, -⟩ := slice_form ho5
          obtain ⟨m5, hm5⟩ : ∃ m5, m5 = (hitV x (alA CB p) ++ hitV x p2 ++ [e]).length := ⟨_, rfl⟩
          rw [← hm5] at hra
          have HR := Hid.mk (And.intro hA6 (And.intro kp (And.intro ko (And.intro hle3 (And.intro hh hra)))))
          rw [hra, hlv] at hap
          rw [hlv] at c0 z0
          clear hA6 kp ko hA hle2 hle3 hle o a0 hseq2 hlowB kK hx hBx y2 y3 hBo hBr st6 ho5 st5 loc5 hb5 hpx hlen hh hra hm5 hlv hn5 h2 h1
          gi_wp2_with (gi_at_builtin; refine wpListIn_append_eq rfl _ _ _ _ rfl _ _ _ _ rfl rfl hap ?_)
          obtain ⟨hA6, kp, ko, hle3, hh, hra⟩ := HR.out
          rw [← hra]
          refine ⟨ko.from _, kp, ⟨v', ?_⟩, hle3⟩
          rw [hh, ← List.append_assoc]
          exact hA6
        · have hh : hitV x (p2 ++ [e]) = hitV x p2 := by
            unfold hitV
            rw [List.filter_append]
            simp [h2]
          have h2d : (e.v == x) = false := by apply beq_false_of_ne; exact h2
          have HR := Hid.mk (And.intro hA (And.intro hle3 hh))
          clear hA hle2 hle3 hle o a0 hseq2 hlowB kK hx hBx y2 y3 hBo hBr hh hlv hn5 h2 h1
          gi_wp2
          obtain ⟨hA, hle3, hh⟩ := HR.out
          refine ⟨KeepsFrom.refl _ _, ⟨Nat.le_refl _, fun _ _ _ _ _ h => h⟩, ⟨lv', ?_⟩, hle3⟩
          rw [hh]
          exact hA
    case idone =>
      rintro p2 s2 B hS ⟨⟨lv', hA⟩, hle2⟩
      subst hS
      have fs := FS.out.1
      have gs := FS.out.2
      have st : Stay (fun k => k = w.heap.size + 1 + 1 + 1 ∨ k = w.heap.size + 1 + 1 ∨ lv.ownBlock = some k) A1 B := (Stay.below b2).trans (hA.stay.mono (fun k _ e => by
        rcases e with e | e
        · exact .inl e
        · exact .inr (.inr e)))
      have hus := o.stay.size
      have hbr : B.heap[w.heap.size + 1 + 1]? = _ := (hA.stay.block _ (Array.getElem?_eq_some_iff.1 hBr).1 (fun e => by
        rcases e with e | e
        · omega
        · have := o.loc _ e; omega)).trans hBr
      obtain ⟨o2, ko, kp⟩ := o.step st hA.box hbr hA.row (fun k hk => by
        rcases hA.loc k hk with e | e
        · exact .inl e
        · exact .inr (Nat.le_trans b2.size e))
      have kp2 := kp (fun k => k = U0.heap.size ∨ k = fb ∨ bv.ownBlock = some k) (fun k hk => by
        rcases hk with e | e | e
        · omega
        · omega
        · have := row_lt H.row e; omega)
      have hap : hitV x (alA CB p) ++ hitV x (ents X 0 CB) = hitV x (alA CB (p ++ [y])) := by rw [alA_snoc, hitV_app, HX.out]
      rw [hap] at o2
      have hle3 : ∀ e ∈ alA CB (p ++ [y]), e.v ≤ x := fun e he => by
        rw [alA_snoc] at he
        rcases List.mem_append.1 he with h | h
        · exact hle e h
        · rw [← HX.out] at h; exact hle2 e h
      have HR := Hid.mk (And.intro o2 (And.intro ko (And.intro kp2 hle3)))
      clear o2 ko kp2 kp hle3 hap hbr st hA hle2 fs gs hus a0 hseq2 hBo hBr o hle
      gi_wp2
      exact ⟨HR.out.2.1.from _, HR.out.2.2.1, ⟨lv', rv, HR.out.1⟩, HR.out.2.2.2⟩
    case istop =>
      rintro c p2 s2 B _ ⟨rfl, lv', q, e, hA, hp2, hpre, hxe, hle2⟩
      have fs := FS.out.1
      have gs := FS.out.2
      have st : Stay (fun k => k = w.heap.size + 1 + 1 + 1 ∨ k = w.heap.size + 1 + 1 ∨ lv.ownBlock = some k) A1 B := (Stay.below b2).trans hA.stay
      obtain ⟨o2, ko, kp⟩ := o.step st hA.box hA.res hA.row (fun k hk => by
        rcases hA.loc k hk with e | e
        · exact .inl e
        · exact .inr (Nat.le_trans b2.size e))
      have kp2 := kp (fun k => k = U0.heap.size ∨ k = fb ∨ bv.ownBlock = some k) (fun k hk => by
        rcases hk with e | e | e
        · omega
        · omega
        · have := row_lt H.row e; omega)
      obtain ⟨rr, hrr⟩ := hpre
      rw [hp2] at hrr
      have hfin : ∃ lv pre y' q rest, OI U fb hd bv iv rd (w.heap.size + 1 + 1 + 1) (w.heap.size + 1 + 1) s (hitV x (alA CB pre ++ q)) lv lv B ∧ p ++ [y] = pre ++ [y'] ∧ ents ⟨y'.toArray⟩ 0 CB = q ++ rest ∧ (∃ e r, rest = e :: r ∧ x < e.v) ∧ ∀ e ∈ alA CB pre ++ q, e.v ≤ x :=
        ⟨lv', p, y, q, e :: rr, by rw [hitV_app]; exact o2, rfl, by rw [← HX.out, ← hrr]; simp, ⟨e, rr, rfl, hxe⟩, fun e' he' => by
          rcases List.mem_append.1 he' with h | h
          · exact hle e' h
          · exact hle2 e' h⟩
      have HR := Hid.mk (And.intro hfin (And.intro ko kp2))
      clear hfin o2 ko kp2 kp st hA hle2 fs gs a0 hseq2 hBo hBr o hle hrr hp2
      gi_wp2
      exact ⟨HR.out.2.1.from _, HR.out.2.2, rfl, HR.out.1⟩
  case done =>
    rintro D p s A hD ⟨hS, hS2⟩ ⟨⟨lv, rv, o⟩, hle⟩ hdef
    have st0 : Stay (fun k => k = w.heap.size + 1 + 1) A (A.setCell ⟨w.heap.size + 1 + 1, 0, none⟩ lv) := stay1 _ _ _ _ _ (.refl _ _)
    have o2 : OI U fb hd bv iv rd (w.heap.size + 1 + 1 + 1) (w.heap.size + 1 + 1) s (hitV x (alA CB p)) lv lv (A.setCell ⟨w.heap.size + 1 + 1, 0, none⟩ lv) :=
      { num := o.num, box := (st0.block _ (Array.getElem?_eq_some_iff.1 o.box).1 (by omega)).trans o.box, res := by rw [heap_setCell_same A _ 0 _ _ _ o.res]; rfl, row := row_kept o.row st0 (fun k hk e => by
          obtain ⟨c, hc⟩ := row_block o.row hk
          rw [e, o.res] at hc; simp at hc), file := (st0.block _ (Array.getElem?_eq_some_iff.1 o.file).1 o.num.2.1).trans o.file, stay := o.stay.andThen st0 (fun k _ e => .inr (.inl e)), loc := o.loc }
    have hd2 : (A.setCell ⟨w.heap.size + 1 + 1, 0, none⟩ lv).heap[D]? = some (.deferred (some [])) := (st0.block D (Array.getElem?_eq_some_iff.1 hdef).1 (fun e => by
      have := o.num.2.2.2.2.2; omega)).trans hdef
    have c0 := boxc (A := A) o.box rfl
    have c1 := boxc (A := A) o.res rfl
    have cf : A.frozen? ⟨w.heap.size + 1 + 1, 0, none⟩ = false := frozen_of_row _ _ _ _ _ o.res
    obtain ⟨qa, qc, hlv, -⟩ := slice_form o.row
    have hF : FndO CB x (bl.drop q0) s (hitV x (alA CB p)) := .inl ⟨by rw [hS2, hS], by rw [← hS]; exact hle, by rw [← hS]⟩
    have fin : ∀ (tmps : Array Value) (hres : ∀ w', w'.cell? ⟨w.heap.size + 1 + 1, 0, none⟩ = some lv → (results Tryz.f15 tmps).run Tryz.prog w' = .ok lv w'), LeavesInM Fence.wide 9 Tryz.prog Tryz.f15 tmps (fun r w' => ∃ v t L, r = .returned v ∧ FndO CB x (bl.drop (rF ix ⟨x, ⟨#[]⟩, -1, 0, false⟩ - 1)) t L ∧ w'.ownsRow 0 38 5 v L.length (L.flatMap enC) ∧ (∀ k, v.ownBlock = some k → w.heap.size ≤ k) ∧ FA w' fb hd bl ix bv iv (rd + t) ∧ Stay (fun k => k = fb) w w') (markL [D]) .returning (A.setCell ⟨w.heap.size + 1 + 1, 0, none⟩ lv) := fun tmps hres =>
      leaves_marks lv [D] _ (fun D' h' => by simp at h'; subst h'; exact hd2) (by simp) (fun w' st => by
        obtain ⟨k1, k2, k3, k4, k5⟩ := o2.fin H bU (by omega) (by omega) hD hd2 st
        exact ⟨hres w' k1, lv, s, _, rfl, by rw [HQ.out]; exact hF, k2, k3, k4, k5⟩)
    have HR := Hid.mk fin
    have HL := Hid.mk hlv
    obtain ⟨n5, hn5⟩ : ∃ n5, n5 = (hitV x (alA CB p)).length := ⟨_, rfl⟩
    rw [hlv, ← hn5] at c0
    rw [← hn5] at HL
    clear fin hlv o2 hd2 hF st0 o hle hS hS2 hn5 hseq o0
    gi_wp2
    rw [← HL.out]
    exact HR.out _ (fun w' hc => by simp [results, Tryz.results15, go_sem, hc])
  case stop =>
    rintro D c p s A hD ⟨hS, hS2⟩ ⟨rfl, lv, pre, y, q, rest, o, hp, he, hr, hle⟩ hdef
    have hF : FndO CB x (bl.drop q0) s (hitV x (alA CB pre ++ q)) := .inr ⟨pre, y, q, rest, by rw [← hp]; exact hS, by rw [hS2, hp]; simp, he, hr, hle, rfl⟩
    have fin : ∀ (tmps : Array Value) (hres : ∀ w', w'.cell? ⟨w.heap.size + 1 + 1, 0, none⟩ = some lv → (results Tryz.f15 tmps).run Tryz.prog w' = .ok lv w'), LeavesInM Fence.wide 9 Tryz.prog Tryz.f15 tmps (fun r w' => ∃ v t L, r = .returned v ∧ FndO CB x (bl.drop (rF ix ⟨x, ⟨#[]⟩, -1, 0, false⟩ - 1)) t L ∧ w'.ownsRow 0 38 5 v L.length (L.flatMap enC) ∧ (∀ k, v.ownBlock = some k → w.heap.size ≤ k) ∧ FA w' fb hd bl ix bv iv (rd + t) ∧ Stay (fun k => k = fb) w w') (markL [D]) .returning A := fun tmps hres =>
      leaves_marks lv [D] _ (fun D' h' => by simp at h'; subst h'; exact hdef) (by simp) (fun w' st => by
        obtain ⟨k1, k2, k3, k4, k5⟩ := o.fin H bU (by omega) (by omega) hD hdef st
        exact ⟨hres w' k1, lv, s, _, rfl, by rw [HQ.out]; exact hF, k2, k3, k4, k5⟩)
    have HR := Hid.mk fin
    clear fin hF o hle hS hS2 hseq o0 he hr hp
    gi_wp2
    exact HR.out _ (fun w' hc => by simp [results, Tryz.results15, go_sem, hc])
end Go.Proofs.YtjdpolhjbkpnlaaGreatDoor
