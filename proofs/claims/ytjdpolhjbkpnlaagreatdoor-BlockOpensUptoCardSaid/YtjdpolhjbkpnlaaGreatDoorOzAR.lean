/-
  DERIVED. BIter, BFind0, as one text.
-/
import Derived.Test.YtjdpolhjbkpnlaaGreatDoorOzAQ
set_option linter.unusedVariables false
set_option linter.unusedSimpArgs false
namespace Go.Proofs.YtjdpolhjbkpnlaaGreatDoor
open Go.RowKit Go.Shelf Go.Proofs.SealMath
attribute [local go_sem] Oper.semAt_some
/-- What the iterator does by itself: it counts. -/
structure TrF (fb : Nat) (h : Hd) (bv iv : Value) (rd : Nat) (s : Nat) (A : World) (s' : Nat) (B : World) : Prop where
  stay : Stay (fun k => k = fb) A B
  cells : ∃ c t m, A.heap[fb]? = some (.cells c t m)
  box : A.heap[fb]? = some (.cells (flV h bv iv (rd + s)) 54 (0, 0)) → B.heap[fb]? = some (.cells (flV h bv iv (rd + s')) 54 (0, 0))
theorem TrF.others {fb : Nat} {h : Hd} {bv iv : Value} {rd s s' : Nat} {A B : World} (t : TrF fb h bv iv rd s A s' B) : KeepsOthers A B :=
  ⟨t.stay.size, fun k o hk ho => (t.stay.block k (Array.getElem?_eq_some_iff.1 hk).1 (fun e => by
    obtain ⟨c, t, m, hc⟩ := t.cells
    rw [e, hc] at hk; cases hk; cases ho)).trans hk⟩
theorem TrF.below {fb : Nat} {h : Hd} {bv iv : Value} {rd s : Nat} {A B : World} (hc : ∃ c t m, A.heap[fb]? = some (.cells c t m)) (b : Below A.heap.size A B) : TrF fb h bv iv rd s A s B := by
  obtain ⟨c, t, m, h⟩ := hc
  exact ⟨.below b, ⟨c, t, m, h⟩, fun h' => (b.block fb (Array.getElem?_eq_some_iff.1 h).1).trans h'⟩
theorem wrap_one (n : Nat) (h : n < 4611686018427387905) : wrap64 ((n : Int) + 1) = (n : Int) + 1 := by unfold wrap64; omega
theorem addr0 (g j : Nat) : (⟨g, 0, none⟩ : Addr).add j = ⟨g, j, none⟩ := by unfold Addr.add; split <;> simp_all
theorem row_by {A B : World} {b e sz n : Nat} {v : Value} {xs : List Value} (h : A.ownsRow b e sz v n xs) (hk : ∀ k c t m, v.ownBlock = some k → A.heap[k]? = some (.cells c t m) → B.heap[k]? = some (.cells c t m)) : B.ownsRow b e sz v n xs := by
  rcases h with ⟨h1, h2 | ⟨g, cap, cur, h2, h3, h4, h5⟩⟩
  · exact ⟨h1, .inl h2⟩
  · exact ⟨h1, .inr ⟨g, cap, cur, h2, h3, hk g _ _ _ (by rw [h2]; rfl) h4, h5⟩⟩
/-- What stands while the blocks are gone through. -/
structure BI (fb : Nat) (h : Hd) (bl : List (List UInt8)) (bv iv : Value) (rd Bf q : Nat) (J : List (List UInt8) → Nat → World → Prop) (i : Nat) (A : World) : Prop where
  box : A.heap[fb]? = some (.cells (flV h bv iv (rd + i)) 54 (0, 0))
  row : A.ownsRow 0 9 1 bv bl.length (bl.map sv)
  f : A.heap[Bf]? = some (.cells #[Pt fb] 23 (0, 0))
  j : J ((bl.drop q).take i) i A
set_option maxRecDepth 100000 in
set_option maxHeartbeats 4000000 in
theorem blocks_st (fb : Nat) (hd : Hd) (bl : List (List UInt8)) (ix : List En) (bv iv : Value) (rd Bf Bp n : Nat) (p : En) (w : World) (H : FA w fb hd bl ix bv iv rd)
    (hf : w.heap[Bf]? = some (.cells #[Pt fb] 23 (0, 0))) (hp : w.heap[Bp]? = some (.cells (enV p) 38 (0, 0))) (hn : ix.length ≤ 1099511627776) (hu : Up ix) (hl : ix.length = bl.length) (hrd : rd + bl.length ≤ 4611686018427387904) :
    SeqS Fence.wide n Tryz.prog 54 #[Pt Bf, Pt Bp] (fun x => #[sv x]) (fun p' s x => p' ++ [x] <+: bl.drop (rF ix p - 1) ∧ s = p'.length + 1) (TrF fb hd bv iv rd) (fun _ => KpB (fun k => k = Bf ∨ k = fb ∨ bv.ownBlock = some k) none)
      (fun p' s => p' = bl.drop (rF ix p - 1) ∧ s = p'.length) (fun p' s => p' <+: bl.drop (rF ix p - 1) ∧ s = p'.length) 0 w := fun lp J Jx W hW hJ hJx hY h0 => by
  have HW : FA W fb hd bl ix bv iv rd := ⟨(hW.block fb H.lt).trans H.box, row_kept (F := fun k => w.heap.size ≤ k) H.row ⟨hW.os, hW.tape, hW.output, hW.size, fun k hk _ => hW.block k hk⟩ (fun k hk e => by have := row_lt H.row hk; omega), row_kept (F := fun k => w.heap.size ≤ k) H.idx ⟨hW.os, hW.tape, hW.output, hW.size, fun k hk _ => hW.block k hk⟩ (fun k hk e => by have := row_lt H.idx hk; omega)⟩
  have hf1 : W.heap[Bf]? = _ := (hW.block Bf (Array.getElem?_eq_some_iff.1 hf).1).trans hf
  have hp1 : W.heap[Bp]? = _ := (hW.block Bp (Array.getElem?_eq_some_iff.1 hp).1).trans hp
  have HD := HW.below (b_drew W)
  have hrf := rF_le ix p
  obtain ⟨q, hq⟩ : ∃ q, q = rF ix p - 1 := ⟨_, rfl⟩
  have hql : q ≤ bl.length := by omega
  obtain ⟨-, y6, y7, -⟩ := fl9 HD.box
  have yf := boxc (A := W.drew) hf1 rfl
  obtain ⟨p0, p1, p2, p3, p4⟩ := en5 (W := W.drew) hp1
  have hfb := firstBlock_any fb iv ix p W.drew y7 HD.idx hn hu
  rw [← hq] at hfb hY ⊢
  obtain ⟨ba, bc, rfl, hbc⟩ := slice_form HW.row
  obtain ⟨nb, hnb⟩ : ∃ nb, nb = bl.length := ⟨_, rfl⟩
  have HN := Hid.mk hnb
  rw [← hnb] at y6 hql hbc hl
  have hq1 : (q : Int) ≤ (nb : Int) := by omega
  have hq2 : (nb : Int) ≤ (bc : Int) := by omega
  have hfz : fb < W.drew.heap.size := HD.lt
  have HH := Hid.mk (And.intro HW (And.intro hf1 (And.intro hp1 h0)))
  clear hq hrf HW hf1 hp1 h0 HD y7 H hf hp hW hnb hl
  refine callsIn_of_wp Tryz.func54 rfl trivial ?_ rfl
  simp only [Tryz.ntmps54, List.size_toArray, List.length_cons, List.length_nil, Nat.reduceAdd, Nat.reduceSub, Array.replicate_succ, Array.replicate_zero, List.push_toArray, List.append_toArray, List.nil_append, List.cons_append]
  gi_wp2_with fail
  refine region_held mixed 10 rfl (S := fun w' => w'.cell? ⟨Bf, 0, none⟩ = some (Pt fb) ∧ w'.cell? ⟨fb, 6, none⟩ = some (.slice ba nb bc) ∧ w'.cell? ⟨Bp, 0, none⟩ = some (.int .i64 p.v) ∧ w'.cell? ⟨Bp, 1, none⟩ = some (.string p.c) ∧ w'.cell? ⟨Bp, 2, none⟩ = some (.int .i64 p.i) ∧ w'.cell? ⟨Bp, 3, none⟩ = some (.int .i64 p.s) ∧ w'.cell? ⟨Bp, 4, none⟩ = some (.bool p.d)) ?_
  refine AnyS.take (i := 0) (v := ?vi0) (by kernel_rfl) rfl (by kernel_rfl) (by kernel_rfl) (by kernel_rfl) (fun _ _ _ h => h) ⟨Or.inl ⟨by rfl, fun w' hS => ?yi0⟩, fun _ => rfl⟩ ⟨yf, y6, p0, p1, p2, p3, p4⟩ ?_
  case yi0 => have g0 := hS.1; clear hS; go_simp; rfl
  refine AnyS.take (i := 1) (v := ?vi1) (by kernel_rfl) rfl (by kernel_rfl) (by kernel_rfl) (by kernel_rfl) (fun _ _ _ h => h) ⟨Or.inl ⟨by rfl, fun w' hS => ?yi1⟩, fun _ => rfl⟩ ⟨yf, y6, p0, p1, p2, p3, p4⟩ ?_
  case yi1 => go_simp; rfl
  refine AnyS.take (i := 2) (v := ?vi2) (by kernel_rfl) rfl (by kernel_rfl) (by kernel_rfl) (by kernel_rfl) (fun _ _ _ h => h) ⟨Or.inl ⟨by rfl, fun w' hS => ?yi2⟩, fun _ => rfl⟩ ⟨yf, y6, p0, p1, p2, p3, p4⟩ ?_
  case yi2 => go_simp; rfl
  refine AnyS.take (i := 3) (v := ?vi3) (by kernel_rfl) rfl (by kernel_rfl) (by kernel_rfl) (by kernel_rfl) (fun _ _ _ h => h) ⟨Or.inl ⟨by rfl, fun w' hS => ?yi3⟩, fun _ => rfl⟩ ⟨yf, y6, p0, p1, p2, p3, p4⟩ ?_
  case yi3 => have g0 := hS.2.1; clear hS; go_simp; rfl
  refine AnyS.take (i := 4) (v := ?vi4) (by kernel_rfl) rfl (by kernel_rfl) (by kernel_rfl) (by kernel_rfl) (fun _ _ _ h => h) ⟨Or.inl ⟨by rfl, fun w' hS => ?yi4⟩, fun _ => rfl⟩ ⟨yf, y6, p0, p1, p2, p3, p4⟩ ?_
  case yi4 => have g0 := hS.1; clear hS; go_simp; rfl
  refine AnyS.take (i := 5) (v := ?vi5) (by kernel_rfl) rfl (by kernel_rfl) (by kernel_rfl) (by kernel_rfl) (fun _ _ _ h => h) ⟨Or.inl ⟨by rfl, fun w' hS => ?yi5⟩, fun _ => rfl⟩ ⟨yf, y6, p0, p1, p2, p3, p4⟩ ?_
  case yi5 => obtain ⟨-, -, g0, g1, g2, g3, g4⟩ := hS; go_simp; rfl
  refine AnyS.take (i := 9) (v := ?vi9) (by kernel_rfl) rfl (by kernel_rfl) (by kernel_rfl) (by kernel_rfl) (fun _ _ _ h => h) ⟨Or.inl ⟨by rfl, fun w' hS => ?yi9⟩, fun _ => rfl⟩ ⟨yf, y6, p0, p1, p2, p3, p4⟩ ?_
  case yi9 => go_simp; rfl
  refine AnyS.one (i := 6) (by kernel_rfl) (wpOpIn_step rfl (fun K hK => ?_))
  go_simp
  refine ⟨trivial, fun h => (by cases h), (callsIn_wide.2 hfb).mono ?_⟩
  clear hfb
  rintro r w3 ⟨rfl, b3⟩
  have S3 : w3.cell? ⟨Bf, 0, none⟩ = some (Pt fb) ∧ w3.cell? ⟨fb, 6, none⟩ = some (.slice ba nb bc) ∧ w3.cell? ⟨Bp, 0, none⟩ = some (.int .i64 p.v) ∧ w3.cell? ⟨Bp, 1, none⟩ = some (.string p.c) ∧ w3.cell? ⟨Bp, 2, none⟩ = some (.int .i64 p.i) ∧ w3.cell? ⟨Bp, 3, none⟩ = some (.int .i64 p.s) ∧ w3.cell? ⟨Bp, 4, none⟩ = some (.bool p.d) := ⟨cell_lat b3 yf, cell_lat b3 y6, cell_lat b3 p0, cell_lat b3 p1, cell_lat b3 p2, cell_lat b3 p3, cell_lat b3 p4⟩
  refine hK _ _ ⟨S3, ?_⟩
  clear hK K
  refine AnyS.take (i := 7) (v := ?vi7) (by kernel_rfl) rfl (by kernel_rfl) (by kernel_rfl) (by kernel_rfl) (fun _ _ _ h => h) ⟨Or.inl ⟨by rfl, fun w' hS => ?yi7⟩, fun _ => rfl⟩ S3 ?_
  case yi7 => go_simp; rfl
  refine AnyS.take (i := 8) (v := ?vi8) (by kernel_rfl) rfl (by kernel_rfl) (by kernel_rfl) (by kernel_rfl) (fun _ _ _ h => h) ⟨Or.inl ⟨by rfl, fun w' hS => ?yi8⟩, fun _ => rfl⟩ S3 ?_
  case yi8 => go_simp; rfl
  refine AnyS.done (by kernel_rfl) ?_
  obtain ⟨HW, hf1, hp1, h0⟩ := HH.out
  have b3' : Below W.heap.size W w3 := below_d b3
  have F3 := HW.below b3'
  have hf3 : w3.heap[Bf]? = _ := (b3'.block Bf (Array.getElem?_eq_some_iff.1 hf1).1).trans hf1
  have J3 := hJ [] 0 W 0 w3 h0 (TrF.below ⟨_, _, _, HW.box⟩ b3')
  have H3 := Hid.mk (And.intro F3 (And.intro hf3 J3))
  clear F3 hf3 J3 HW hf1 hp1 h0 b3 b3' S3 yf y6 p0 p1 p2 p3 p4 HH
  gi_wp2_with fail
  · have e0 : nb - q = 0 := by omega
    have hdr : bl.drop q = [] := List.drop_of_length_le (by rw [← HN.out]; omega)
    have HD := Hid.mk hdr
    rw [e0]
    clear hdr e0
    refine wpIn_loop_rounds 1 ?_
    rw [roundsIn_succ]
    gi_wp2_with fail
    go_end0
    exact ⟨⟨_, rfl⟩, .inl ⟨[], 0, ⟨HD.out.symm, rfl⟩, H3.out.2.2⟩⟩
  · rename_i hbq
    obtain ⟨M, hM⟩ : ∃ M, M = nb - q := ⟨_, rfl⟩
    rw [← hM]
    obtain ⟨XA, hXA⟩ : ∃ XA, XA = Option.map (fun x => Addr.add x q) ba := ⟨_, rfl⟩
    rw [← hXA]
    have HXA := Hid.mk hXA
    have hMl : M = (bl.drop q).length := by rw [List.length_drop, ← HN.out]; exact hM
    have HM := Hid.mk hMl
    clear hXA hMl hM
    gi_loopw [15] (fun u wr => ∃ i : Nat, u = .int .i64 i ∧ i ≤ M ∧ BI fb hd bl (.slice ba bl.length bc) iv rd Bf q J i wr) (fun u _ => M - (intOf u).toNat)
    case atStart => exact ⟨0, rfl, Nat.zero_le _, H3.out.1.box, H3.out.1.row, H3.out.2.1, H3.out.2.2⟩
    case round =>
      obtain ⟨i, rfl, hi, hB⟩ := hrel
      clear H3
      by_cases hlt : i < M
      · have hlt2 : i < (bl.drop q).length := by rw [← HM.out]; exact hlt
        have hqi : q + i < bl.length := by rw [List.length_drop] at hlt2; omega
        obtain ⟨g, hg⟩ : ∃ g, ba = some ⟨g, 0, none⟩ := by
          rcases hB.row.2 with ⟨e, -⟩ | ⟨g, cap, cur, e, -⟩
          · injection e with e1 e2; omega
          · injection e with e1 e2; exact ⟨g, e1⟩
        subst hg
        have hXa : XA = some ⟨g, q, none⟩ := by
          rw [HXA.out, Option.map_some, addr0]
        subst hXa
        have xb := World.ownsRow.cells hB.row (g := g) rfl (q + i) (sv bl[q + i]) (by rw [List.getElem?_map, List.getElem?_eq_getElem hqi]; rfl)
        rw [addr0] at xb
        obtain ⟨x, hx⟩ : ∃ x, x = bl[q + i] := ⟨_, rfl⟩
        rw [← hx] at xb
        obtain ⟨X, hX⟩ : ∃ X : ByteArray, X = ⟨x.toArray⟩ := ⟨_, rfl⟩
        have hpx : (bl.drop q).take i ++ [x] = (bl.drop q).take (i + 1) := by
          rw [List.take_add_one, List.getElem?_eq_getElem hlt2, hx, List.getElem_drop]
          rfl
        obtain ⟨R, hR⟩ : ∃ R, R = rd + i := ⟨_, rfl⟩
        have hbx := hB.box
        rw [← hR] at hbx
        obtain ⟨-, -, -, y8, yz⟩ := fl9 hbx
        have yz8 := yz 8
        have yf := boxc (A := wr) hB.f rfl
        have hRb : R < 4611686018427387904 := by omega
        have hset := fl_set8 hbx (R + 1)
        have st1 : Stay (fun k => k = fb) wr (wr.setCell ⟨fb, 8, none⟩ (.int .i64 ((R + 1 : Nat) : Int))) := stay1 _ _ _ _ _ (.refl _ _)
        have J1 := hJ _ _ wr (i + 1) _ hB.j ⟨st1, ⟨_, _, _, hB.box⟩, fun _ => by rw [← Nat.add_assoc, ← hR]; exact hset⟩
        obtain ⟨fn, tmps, assign, body, hy, hRd⟩ := hY _ x (i + 1) _ J1 ⟨by rw [hpx]; exact List.take_prefix _ _, by rw [List.length_take]; omega⟩
        rw [show sv x = .string X by rw [hX]] at hy xb
        have e1 : (((R + 1 : Nat)) : Int) = (R : Int) + 1 := by omega
        rw [e1] at hy hRd
        have hib : i < 4611686018427387905 := by have := HM.out; rw [List.length_drop] at this; omega
        have hRb2 : R < 4611686018427387905 := by omega
        have hi1 : (i : Int) < (M : Int) := by omega
        have hwR := wrap_one R hRb2
        have hwi := wrap_one i hib
        clear hib hRb2
        have HP := Hid.mk (And.intro hB (And.intro hpx (And.intro hR (And.intro hset (And.intro st1 e1)))))
        clear hB hpx hR hset st1 hx hX J1 hbx yz e1 hlt2 hqi hRb hrd
        gi_wp2_with fail
        refine ⟨fun h => (by cases h), hRd.mono ?_⟩
        obtain ⟨hB, hpx, hR, hset, st1, e1⟩ := HP.out
        clear hy hRd xb y8 yz8 yf
        rintro rr W3 (⟨rfl, hJ3, hk3⟩ | ⟨rfl, hJ3, hk3⟩)
        · rw [e1] at hset st1
          have hb3 := hk3.2 fb _ _ _ (.inl (.inr (.inl rfl))) hset
          have hf2 := (st1.block Bf (Array.getElem?_eq_some_iff.1 hB.f).1 (fun e => by
            have h1 := hB.f
            rw [e, hB.box] at h1; simp at h1)).trans hB.f
          have hf3 := hk3.2 Bf _ _ _ (.inl (.inl rfl)) hf2
          have hr2 := row_kept hB.row st1 (fun k hk e => by
            obtain ⟨c, hc⟩ := row_block hB.row hk
            rw [e, hB.box] at hc; simp at hc)
          have hr3 := row_by (B := W3) hr2 (fun k c t m hk hc => hk3.2 k c t m (.inl (.inr (.inr hk))) hc)
          rw [hpx] at hJ3
          have B3 : BI fb hd bl (.slice (some ⟨g, 0, none⟩) bl.length bc) iv rd Bf q J (i + 1) W3 := ⟨by rw [← Nat.add_assoc, ← hR]; exact hb3, hr3, hf3, hJ3⟩
          have HB3 := Hid.mk B3
          clear B3 hb3 hf2 hf3 hr2 hr3 hJ3 hk3 hB hpx hR hset st1 e1 HP
          clear hwR
          gi_wp2
          try rw [hwi]
          clear hwi
          exact ⟨⟨i + 1, ival (by omega), hlt, HB3.out⟩, by simp only [intOf]; omega⟩
        · have HJ := Hid.mk hJ3
          have HPX := Hid.mk hpx
          clear hJ3 hk3 hB hpx hR hset st1 e1 hwR hwi
          gi_wp2_with fail
          refine bodyPost_ret (results_none rfl _ _ _) rfl ?_
          refine ⟨⟨_, rfl⟩, .inr ⟨_, _, ⟨?_, ?_⟩, HJ.out⟩⟩
          · rw [HPX.out]; exact List.take_prefix _ _
          · rw [HPX.out, List.length_take]
            have := HM.out
            omega
      · have e1 : i = M := by omega
        have hi1 : ¬ (i : Int) < (M : Int) := by omega
        have hj := hB.j
        have HJ := Hid.mk hj
        clear hj hB
        gi_wp2_with fail
        go_end0
        refine ⟨⟨_, rfl⟩, .inl ⟨_, _, ⟨?_, ?_⟩, HJ.out⟩⟩
        · exact List.take_of_length_le (by rw [← HM.out]; omega)
        · rw [List.length_take, ← HM.out]; omega
end Go.Proofs.YtjdpolhjbkpnlaaGreatDoor
set_option linter.unusedVariables false
set_option linter.unusedSimpArgs false
namespace Go.Proofs.YtjdpolhjbkpnlaaGreatDoor
open Go.RowKit Go.Shelf Go.Proofs.SealMath
/-- The file, the list that is found, in its box, and the result's box. -/
structure OI (U : World) (fb : Nat) (h : Hd) (bv iv : Value) (rd Bo Br s : Nat) (L : List En) (lv rv : Value) (A : World) : Prop where
  num : fb ≠ Bo ∧ fb ≠ Br ∧ Bo ≠ Br ∧ fb < U.heap.size ∧ Bo < U.heap.size ∧ Br < U.heap.size
  box : A.heap[Bo]? = some (.cells #[lv] 34 (0, 0))
  res : A.heap[Br]? = some (.cells #[rv] 34 (0, 0))
  row : A.ownsRow 0 38 5 lv L.length (L.flatMap enC)
  file : A.heap[fb]? = some (.cells (flV h bv iv (rd + s)) 54 (0, 0))
  stay : Stay (fun k => k = Bo ∨ k = Br ∨ k = fb) U A
  loc : ∀ k, lv.ownBlock = some k → U.heap.size ≤ k
section
variable {U A B : World} {fb : Nat} {h : Hd} {bv iv : Value} {rd Bo Br s s' : Nat} {L : List En} {lv rv : Value}
theorem OI.tr (o : OI U fb h bv iv rd Bo Br s L lv rv A) (t : TrF fb h bv iv rd s A s' B) : OI U fb h bv iv rd Bo Br s' L lv rv B where
  num := o.num
  box := (t.stay.block Bo (Array.getElem?_eq_some_iff.1 o.box).1 (fun e => o.num.1 e.symm)).trans o.box
  res := (t.stay.block Br (Array.getElem?_eq_some_iff.1 o.res).1 (fun e => o.num.2.1 e.symm)).trans o.res
  row := row_kept o.row t.stay (fun k hk e => by have := o.loc k hk; have := o.num.2.2.2.1; omega)
  file := t.box o.file
  stay := o.stay.andThen t.stay (fun k _ e => .inr (.inr e))
  loc := o.loc
theorem OI.grown {row : Option Nat} (o : OI U fb h bv iv rd Bo Br s L lv rv A) (hg : A.grownBy B row) (hr : ∀ r, row = some r → U.heap.size ≤ r ∧ ∃ o : Obj, A.heap[r]? = some o ∧ o.isCells = false) : OI U fb h bv iv rd Bo Br s L lv rv B := by
  have st : Stay (fun k => row = some k) A B := .grown hg (fun k hk => hk)
  have hlow : ∀ k, k < U.heap.size → ¬ row = some k := fun k hk e => by have := (hr k e).1; omega
  exact {
    num := o.num
    box := (st.block Bo (Array.getElem?_eq_some_iff.1 o.box).1 (hlow Bo o.num.2.2.2.2.1)).trans o.box
    res := (st.block Br (Array.getElem?_eq_some_iff.1 o.res).1 (hlow Br o.num.2.2.2.2.2)).trans o.res
    row := row_kept o.row st (fun k hk e => by
      obtain ⟨-, o1, ho, hc⟩ := hr k e
      obtain ⟨c, hc'⟩ := row_block o.row hk
      rw [hc'] at ho; cases ho; cases hc)
    file := (st.block fb (Array.getElem?_eq_some_iff.1 o.file).1 (hlow fb o.num.2.2.2.1)).trans o.file
    stay := o.stay.andThen st (fun k hk e => absurd e (hlow k hk))
    loc := o.loc }
/-- A round of the inner loop, as the outer one sees it. -/
theorem OI.step {L' : List En} {lv' rv' : Value} {C : World} (o : OI U fb h bv iv rd Bo Br s L lv rv A) (st : Stay (fun k => k = Bo ∨ k = Br ∨ lv.ownBlock = some k) A C)
    (hb : C.heap[Bo]? = some (.cells #[lv'] 34 (0, 0))) (hr : C.heap[Br]? = some (.cells #[rv'] 34 (0, 0))) (hrow : C.ownsRow 0 38 5 lv' L'.length (L'.flatMap enC)) (hloc : ∀ k, lv'.ownBlock = some k → lv.ownBlock = some k ∨ A.heap.size ≤ k) :
    OI U fb h bv iv rd Bo Br s L' lv' rv' C ∧ KeepsOthers A C ∧ ∀ K : Nat → Prop, (∀ k, K k → k < U.heap.size ∧ k ≠ Bo ∧ k ≠ Br) → KpB K none A C := by
  have hcell : ∀ k, (k = Bo ∨ k = Br ∨ lv.ownBlock = some k) → ∃ c t m, A.heap[k]? = some (.cells c t m) := fun k e => by
    rcases e with e | e | e
    · subst e; exact ⟨_, _, _, o.box⟩
    · subst e; exact ⟨_, _, _, o.res⟩
    · obtain ⟨c, hc⟩ := row_block o.row e; exact ⟨_, _, _, hc⟩
  refine ⟨{ num := o.num, box := hb, res := hr, row := hrow, file := (st.block fb (Array.getElem?_eq_some_iff.1 o.file).1 (fun e => ?_)).trans o.file, stay := o.stay.andThen st (fun k hk e => ?_), loc := fun k hk => ?_ }, ⟨st.size, fun k ob hk ho => (st.block k (Array.getElem?_eq_some_iff.1 hk).1 (fun e => ?_)).trans hk⟩, fun K hK => ⟨st.size, fun k c t m hk hh => (st.block k (Array.getElem?_eq_some_iff.1 hh).1 (fun e => ?_)).trans hh⟩⟩
  · rcases e with e | e | e
    · exact o.num.1 e
    · exact o.num.2.1 e
    · have := o.loc _ e; have := o.num.2.2.2.1; omega
  · rcases e with e | e | e
    · exact .inl e
    · exact .inr (.inl e)
    · have := o.loc _ e; omega
  · rcases hloc k hk with e | e
    · exact o.loc k e
    · exact Nat.le_trans o.stay.size e
  · obtain ⟨c, t, m, h1⟩ := hcell k e
    rw [hk] at h1; cases h1; cases ho
  · rcases hk with hk | hk
    · obtain ⟨k1, k2, k3⟩ := hK k hk
      rcases e with e | e | e
      · exact k2 e
      · exact k3 e
      · have := o.loc _ e; omega
    · cases hk
end
/-- What is left behind where the inner loop is left by a return. -/
structure AX (W0 : World) (Bo Br : Nat) (lv0 : Value) (L : List En) (lv : Value) (s : Option Nat) (A : World) : Prop where
  lt : Bo < W0.heap.size ∧ Br < W0.heap.size
  box : A.heap[Bo]? = some (.cells #[lv] 34 (0, 0))
  res : A.heap[Br]? = some (.cells #[lv] 34 (0, 0))
  row : A.ownsRow 0 38 5 lv L.length (L.flatMap enC)
  stay : Stay (fun k => k = Bo ∨ k = Br ∨ lv0.ownBlock = some k) W0 A
  loc : ∀ k, lv.ownBlock = some k → lv0.ownBlock = some k ∨ W0.heap.size ≤ k
  own : ∀ k, s = some k → W0.heap.size ≤ k ∧ k < A.heap.size ∧ lv.ownBlock ≠ some k
section
variable {W0 A B : World} {Bo Br : Nat} {lv0 lv : Value} {L : List En} {s s' : Option Nat}
theorem AX.row_lt (h : AX W0 Bo Br lv0 L lv s A) {k : Nat} (hk : lv.ownBlock = some k) : k < A.heap.size := by
  obtain ⟨c, hc⟩ := row_block h.row hk
  exact (Array.getElem?_eq_some_iff.1 hc).1
theorem AX.tr (h : AX W0 Bo Br lv0 L lv s A) (t : TrB s A s' B) : AX W0 Bo Br lv0 L lv s' B where
  lt := h.lt
  box := (t.stay.block Bo (Array.getElem?_eq_some_iff.1 h.box).1 (fun e => by have := (h.own Bo e).1; have := h.lt.1; omega)).trans h.box
  res := (t.stay.block Br (Array.getElem?_eq_some_iff.1 h.res).1 (fun e => by have := (h.own Br e).1; have := h.lt.2; omega)).trans h.res
  row := row_kept h.row t.stay (fun k hk e => (h.own k e).2.2 hk)
  stay := h.stay.andThen t.stay (fun k hk e => by have := (h.own k e).1; omega)
  loc := h.loc
  own := fun k hk => by
    have hlt := t.lt k hk
    rcases t.loc k hk with e | e
    · exact ⟨(h.own k e).1, hlt, (h.own k e).2.2⟩
    · refine ⟨Nat.le_trans h.stay.size e, hlt, fun e2 => ?_⟩
      have := h.row_lt e2
      omega
theorem AX.grown {row : Option Nat} (h : AX W0 Bo Br lv0 L lv s A) (hg : A.grownBy B row) (hr : ∀ r, row = some r → W0.heap.size ≤ r ∧ ∃ o : Obj, A.heap[r]? = some o ∧ o.isCells = false) : AX W0 Bo Br lv0 L lv s B := by
  have st : Stay (fun k => row = some k) A B := .grown hg (fun k hk => hk)
  exact {
    lt := h.lt
    box := (st.block Bo (Array.getElem?_eq_some_iff.1 h.box).1 (fun e => by have := (hr Bo e).1; have := h.lt.1; omega)).trans h.box
    res := (st.block Br (Array.getElem?_eq_some_iff.1 h.res).1 (fun e => by have := (hr Br e).1; have := h.lt.2; omega)).trans h.res
    row := row_kept h.row st (fun k hk e => by
      obtain ⟨-, o, ho, hc⟩ := hr k e
      obtain ⟨c, hc'⟩ := row_block h.row hk
      rw [hc'] at ho; cases ho; cases hc)
    stay := h.stay.andThen st (fun k hk e => by have := (hr k e).1; omega)
    loc := h.loc
    own := fun k hk => ⟨(h.own k hk).1, Nat.lt_of_lt_of_le (h.own k hk).2.1 hg.size, (h.own k hk).2.2⟩ }
/-- The list is the answer. -/
theorem AI.ret {rv : Value} (h : AI W0 Bo lv0 L lv s A) (hne : Bo ≠ Br) (hlt : Br < W0.heap.size) (hr : A.heap[Br]? = some (.cells #[rv] 34 (0, 0))) : AX W0 Bo Br lv0 L lv s (A.setCell ⟨Br, 0, none⟩ lv) ∧ Stay (fun k => k = Br) A (A.setCell ⟨Br, 0, none⟩ lv) := by
  have st : Stay (fun k => k = Br) A (A.setCell ⟨Br, 0, none⟩ lv) := stay1 _ _ _ _ _ (.refl _ _)
  refine ⟨{ lt := ⟨h.lt, hlt⟩, box := (st.block Bo (Array.getElem?_eq_some_iff.1 h.box).1 hne).trans h.box, res := by rw [heap_setCell_same A Br 0 _ _ _ hr]; rfl, row := row_kept h.row st (fun k hk e => ?_), stay := (h.stay.mono (fun k _ e => ?_)).andThen st (fun k _ e => .inr (.inl e)), loc := h.loc, own := fun k hk => ⟨(h.own k hk).1, Nat.lt_of_lt_of_le (h.own k hk).2.1 st.size, (h.own k hk).2.2⟩ }, st⟩
  · obtain ⟨c, hc⟩ := row_block h.row hk
    rw [e, hr] at hc; simp at hc
  · rcases e with e | e
    · exact .inl e
    · exact .inr (.inr e)
end
/-- At the end, behind the loop's mark. -/
theorem OI.fin {w U A w' : World} {fb : Nat} {h : Hd} {bl : List (List UInt8)} {ix : List En} {bv iv : Value} {rd Bo Br s : Nat} {L : List En} {lv : Value} (o : OI U fb h bv iv rd Bo Br s L lv lv A) (H : FA w fb h bl ix bv iv rd) (bU : Below w.heap.size w U) (hBo : w.heap.size ≤ Bo) (hBr : w.heap.size ≤ Br)
    {D : Nat} (hD : U.heap.size ≤ D) (hdef : A.heap[D]? = some (.deferred (some []))) (st : Stay (fun k => k ∈ [D]) A w') :
    w'.cell? ⟨Br, 0, none⟩ = some lv ∧ w'.ownsRow 0 38 5 lv L.length (L.flatMap enC) ∧ (∀ k, lv.ownBlock = some k → w.heap.size ≤ k) ∧ FA w' fb h bl ix bv iv (rd + s) ∧ Stay (fun k => k = fb) w w' := by
  have s1 : Stay (fun k => k = Bo ∨ k = Br ∨ k = fb ∨ k ∈ [D]) U w' := (o.stay.mono (fun k _ e => by rcases e with e | e | e <;> simp [e])).andThen st (fun k _ e => .inr (.inr (.inr e)))
  have s2 : Stay (fun k => k = fb) w w' := by
    refine ⟨s1.os.trans bU.os, s1.tape.trans bU.tape, s1.output.trans bU.output, Nat.le_trans bU.size s1.size, fun k hk hn => ?_⟩
    refine (s1.block k (Nat.lt_of_lt_of_le hk bU.size) (fun e => ?_)).trans (bU.block k hk)
    have := bU.size
    rcases e with e | e | e | e
    · omega
    · omega
    · exact hn e
    · simp at e; omega
  have nD : ∀ k, k < U.heap.size → ¬ k ∈ [D] := fun k hk e => by simp at e; omega
  have hres : w'.heap[Br]? = _ := (st.block Br (Array.getElem?_eq_some_iff.1 o.res).1 (nD _ o.num.2.2.2.2.2)).trans o.res
  have hfile : w'.heap[fb]? = _ := (st.block fb (Array.getElem?_eq_some_iff.1 o.file).1 (nD _ o.num.2.2.2.1)).trans o.file
  refine ⟨boxc (A := w') hres rfl, row_kept o.row st (fun k hk e => ?_), fun k hk => Nat.le_trans bU.size (o.loc k hk), ⟨hfile, row_kept H.row s2 (fun k hk e => H.row_ne hk e), row_kept H.idx s2 (fun k hk e => H.idx_ne hk e)⟩, s2⟩
  obtain ⟨c, hc⟩ := row_block o.row hk
  simp at e
  rw [e, hdef] at hc; cases hc
/-- How long what is found may be. -/
theorem len_lim (cb : Nat) (bl : List (List UInt8)) (hs : (bl.map (·.length + 14)).sum ≤ 1099511627776) (q : Nat) (p : List (List UInt8)) (y : List UInt8) (hy : p ++ [y] <+: bl.drop q) : ((alA cb p).length + (ents ⟨y.toArray⟩ 0 cb).length) * (cb + 7) ≤ 1099511627776 := by
  obtain ⟨t, ht⟩ := hy
  have h1 := congrArg (fun l => (l.map (·.length + 14)).sum) (List.take_append_drop q bl)
  rw [← ht] at h1
  have h2 := alA_len cb (p ++ [y])
  have e : alA cb (p ++ [y]) = alA cb p ++ ents ⟨y.toArray⟩ 0 cb := by unfold alA; rw [List.flatMap_append]; simp
  rw [e, List.length_append] at h2
  simp only [List.map_append, List.sum_append] at h1 h2
  omega
set_option maxRecDepth 100000 in
theorem blocksFrom_any (fb : Nat) (p : En) (w : World) :
    Calls Tryz.prog 29 #[Pt fb, .agg (enV p)] w fun r w' => r = .returned (.func (.func 54) #[] #[Pt w.heap.size, Pt (w.heap.size + 1)]) ∧ w' = (w.alloc (.cells #[Pt fb] 23)).alloc (.cells (enV p) 38) := by
  have hmf : ∀ (fn : Fn) (first cap : Array Value) (w : World), (Instr.makeFunc fn first cap).run Tryz.prog w = .ok (.func fn first cap) w := fun _ _ _ _ => rfl
  go_enter Tryz.func29, Tryz.ntmps29
  go_wp2
  go_ret
  exact ⟨rfl, rfl⟩
end Go.Proofs.YtjdpolhjbkpnlaaGreatDoor
