/-
  DERIVED. PlRText, PlLaw, as one text.
-/
import Derived.Test.YtojnlngpgbcimaaDoorTpAP
import Derived.Test.YtojnlngpgbcimaaDoorTpAN
set_option linter.unusedVariables false
set_option linter.unusedSimpArgs false
namespace Go.Proofs.YtojnlngpgbcimaaDoor
open Go.RowKit
theorem ofK_all : ∀ k : Nat, 1 ≤ k → k ≤ 23 → (ofK shL (k : Int)).isSome = true := by
  intro k h1 h2
  have h : ∀ k : Nat, k < 24 → 1 ≤ k → (ofK shL (k : Int)).isSome = true := by decide
  exact h k (by omega) h1
theorem ofK_in {k : Int} (h : 1 ≤ k ∧ k ≤ 23) : ∃ f, ofK shL k = some f := by
  obtain ⟨n, rfl⟩ : ∃ n : Nat, k = n := ⟨k.toNat, by omega⟩
  have := ofK_all n (by omega) (by omega)
  exact Option.isSome_iff_exists.1 this
theorem ofK_out {k : Int} (h : ¬ (1 ≤ k ∧ k ≤ 23)) : ofK shL k = none := by
  cases hk : ofK shL k with
  | none => rfl
  | some f =>
    obtain ⟨h1, h2⟩ := ofK_mem hk
    have h3 := shL_wf f h1
    exact absurd ⟨by omega, by omega⟩ h
set_option maxHeartbeats 16000000 in
set_option maxRecDepth 100000 in
theorem rtext_any {W : World} {la : Option Addr} {cp : Nat} (L : List Mt) (h : EM.At W la L) (hm : ∀ m ∈ L, MtAt W m) (hB : StB (L.map Mt.s)) (hP : Pow W) :
    Calls Tryd.prog 10 #[.slice la L.length cp] W fun e W' => e = .returned (.string ⟨(textK (L.map Mt.s)).toArray⟩) ∧ Below W.heap.size W W' := by
  obtain ⟨n, en⟩ : ∃ n, n = L.length := ⟨_, rfl⟩
  have hn : n ≤ 1048576 := by have := hB.n; rw [List.length_map] at this; omega
  rw [← en]
  have HH := Hid.mk (And.intro h (And.intro hm (And.intro hB (And.intro hP en))))
  obtain ⟨R, hR⟩ : ∃ R : ByteArray, R = ⟨(textK (L.map Mt.s)).toArray⟩ := ⟨_, rfl⟩
  rw [← hR]
  have HR := Hid.mk hR
  clear h hm hB hP en hR
  go_enter Tryd.func10, Tryd.ntmps10
  go_wp2
  go_loopw [3, 4] (fun ut u wr => ∃ (i : Nat) (T : ByteArray), ut = .string T ∧ u = .int .i64 i ∧ i ≤ n ∧ Hid (T.data.toList = textK ((L.map Mt.s).take i)) ∧ Hid (Below W.heap.size W wr)) (fun _ u _ => n - (intOf u).toNat)
  case atStart => exact ⟨0, ⟨#[]⟩, rfl, rfl, Nat.zero_le _, (by show _ = _; simp [textK]), Below.refl _ _⟩
  case round =>
    obtain ⟨i, T, rfl, rfl, hi, HT, HB⟩ := hrel
    by_cases hlt : i < n
    · have i1 : (i : Int) < (n : Int) := by omega
      have i2 : (0 : Int) ≤ (i : Int) := by omega
      have hbw := HB.out
      have hiL : i < L.length := by rw [← HH.out.2.2.2.2]; exact hlt
      obtain ⟨g, off, rfl, hc⟩ := mt_cells (HH.out.1.below hbw) i hiL
      have hmt := (HH.out.2.1 L[i] (List.getElem_mem hiL)).below hbw
      have hsI := HH.out.2.2.1.i L[i].s (List.mem_map_of_mem (List.getElem_mem hiL))
      have hsn := text_succ (L.map Mt.s) i (by rw [List.length_map]; exact hiL)
      rw [List.getElem_map] at hsn
      have hs2 := sum_le (fun s : St => s.S.length) (L.map Mt.s) L[i].s (List.mem_map_of_mem (List.getElem_mem hiL))
      have hs3 := sum_le (fun s : St => bytesS s.S) (L.map Mt.s) L[i].s (List.mem_map_of_mem (List.getElem_mem hiL))
      have hz2 := HH.out.2.2.1.S
      have hz3 := HH.out.2.2.1.B
      unfold sumS at hz2
      unfold sumB at hz3
      have htl := text_take (L.map Mt.s) HH.out.2.2.1 i
      have htl2 := text_take (L.map Mt.s) HH.out.2.2.1 (i + 1)
      have hTs : T.size ≤ 154140672 := by
        have e1 : T.size = T.data.toList.length := by simp
        rw [e1, HT.out]; exact htl
      have hPw := HH.out.2.2.2.1.lat' hbw
      generalize L[i] = m at hc hmt hsI hsn hs2 hs3
      have hline := fun f (hf : f ∈ shL) (hk : f.k = m.s.k) => line_any (w := wr) f hf m hk hmt hsI hPw (by omega) (by omega)
      dsimp only [stV] at hline
      obtain ⟨⟨sk, sN, sS, sa, sb, sc⟩, ma, mca, mlb, mcb⟩ := m
      dsimp only at hs2 hs3 hsn hline
      have x0 := hc 0 _ (by omega) rfl
      have x1 := hc 1 _ (by omega) rfl
      have x2 := hc 2 _ (by omega) rfl
      have x3 := hc 3 _ (by omega) rfl
      have x4 := hc 4 _ (by omega) rfl
      have x5 := hc 5 _ (by omega) rfl
      dsimp only [Nat.add_zero] at x0 x1 x2 x3 x4 x5
      by_cases hk : 1 ≤ sk ∧ sk ≤ 23
      · obtain ⟨f, hof⟩ := ofK_in hk
        have hfm := ofK_mem hof
        have hln : lineK ⟨sk, sN, sS, sa, sb, sc⟩ = lineF f ⟨sk, sN, sS, sa, sb, sc⟩ := by unfold lineK; rw [hof]
        have hl := hline f hfm.1 hfm.2
        obtain ⟨A, hA⟩ : ∃ A : ByteArray, A = ⟨(lineF f ⟨sk, sN, sS, sa, sb, sc⟩).toArray⟩ := ⟨_, rfl⟩
        rw [← hA] at hl
        rw [hln] at hsn
        have hAl : A.data.toList = lineF f ⟨sk, sN, sS, sa, sb, sc⟩ := by rw [hA]
        have hAs : A.size ≤ 154140672 := by
          have e1 : A.size = A.data.toList.length := by simp
          rw [hsn, List.length_append, ← hAl] at htl2
          omega
        have k1 : (1 : Int) ≤ sk := hk.1
        have k2 : sk ≤ (23 : Int) := hk.2
        have HA := Hid.mk (And.intro hsn hAl)
        clear hsn hA hAl hln hfm hof hline hc hmt hsI hs2 hs3 hz2 hz3 htl htl2 hPw hk
        go_wp2_with fail
        refine hl.mono ?_
        clear hl
        rintro r w1 ⟨rfl, b1⟩
        have HBN := Hid.mk (hbw.trans (b1.mono hbw.size))
        clear b1
        go_wp2
        refine ⟨⟨i + 1, _, rfl, rfl, hlt, ?_, HBN⟩, by simp only [intOf]; omega⟩
        show _ = _
        rw [HA.out.1, ← HA.out.2, ← HT.out]; simp
      · have hof := ofK_out hk
        have hln : lineK ⟨sk, sN, sS, sa, sb, sc⟩ = [] := by unfold lineK; rw [hof]
        rw [hln, List.append_nil] at hsn
        have HS := Hid.mk (show T.data.toList = textK ((L.map Mt.s).take (i + 1)) from by rw [hsn]; exact HT.out)
        clear hsn hln hof hline hc hmt hsI hs2 hs3 hz2 hz3 htl htl2 hPw
        by_cases k1 : (1 : Int) ≤ sk
        · have k2 : ¬ sk ≤ (23 : Int) := fun h => hk ⟨k1, h⟩
          clear hk
          go_wp2
          exact ⟨⟨i + 1, T, rfl, rfl, hlt, HS, HB⟩, by simp only [intOf]; omega⟩
        · clear hk
          go_wp2
          exact ⟨⟨i + 1, T, rfl, rfl, hlt, HS, HB⟩, by simp only [intOf]; omega⟩
    · have e : i = n := by omega
      have hlt2 : (L.map Mt.s).take i = L.map Mt.s := List.take_of_length_le (by rw [List.length_map, e, HH.out.2.2.2.2]; exact Nat.le_refl _)
      have hTR : R = T := by
        have h1 := HT.out
        rw [hlt2] at h1
        exact ByteArray.ext (Array.toList_inj.1 (by rw [h1, HR.out]))
      clear HT hlt2 hlt HR
      subst hTR e
      go_wp2
      go_ret
      exact ⟨rfl, HB.out⟩
end Go.Proofs.YtojnlngpgbcimaaDoor
set_option linter.unusedVariables false
set_option linter.unusedSimpArgs false
namespace Go.Proofs.YtojnlngpgbcimaaDoor
open Go.RowKit
theorem RW.at' {w W : World} {b n cp : Nat} {L Y : List Mt} (h : RW w W (.slice (some ⟨b, 0, none⟩) n cp) (L ++ Y) L) : EM.At W (some ⟨b, 0, none⟩) L := by
  obtain ⟨a, c, e, hat⟩ := h.row.lat
  simp only [Value.slice.injEq] at e
  rw [← e.1] at hat
  exact At.pre hat
theorem sum_set (f : St → Nat) : ∀ (L : List St) (x : St), ((L.set 0 x).map f).sum ≤ f x + (L.map f).sum
  | [], x => by simp
  | y :: L, x => by
    rw [List.set_cons_zero, List.map_cons, List.map_cons, List.sum_cons, List.sum_cons]; omega
/-- The step that the law writes over the first one. -/
def mNew (g : Nat) : Mt := ⟨⟨4, [7], [], 0, 0, 0⟩, some ⟨g, 0, none⟩, 1, none, 0⟩
theorem StB.set {L : List St} (h : StB L) (hN : sumN L ≤ 1048575) (g : Nat) : StB (L.set 0 (mNew g).s) := by
  refine ⟨fun s hs => ?_, by rw [List.length_set]; exact h.n, ?_, ?_, ?_⟩
  · rcases List.mem_or_eq_of_mem_set hs with h1 | rfl
    · exact h.i s h1
    · exact ⟨by show I64 4; decide, fun n hn => by (simp [mNew] at hn; subst hn; decide), by show I64 0; decide, by show I64 0; decide, by show I64 0; decide⟩
  · have h1 := sum_set (fun s => s.N.length) L (mNew g).s
    have h2 : ((mNew g).s.N.length) = 1 := rfl
    unfold sumN at hN ⊢
    omega
  · have h1 := sum_set (fun s => s.S.length) L (mNew g).s
    have h2 : ((mNew g).s.S.length) = 0 := rfl
    have h3 := h.S
    unfold sumS at h3 ⊢
    omega
  · have h1 := sum_set (fun s => bytesS s.S) L (mNew g).s
    have h2 : bytesS ((mNew g).s.S) = 0 := rfl
    have h3 := h.B
    unfold sumB at h3 ⊢
    omega
theorem room_cap {W : World} {v : Value} {m : Mt} (h : RoomM W v m) : (m.la = none → m.ca = 0) ∧ (m.lb = none → m.cb = 0) := by
  obtain ⟨g, off, e, _⟩ := h.N.at' (by simp)
  obtain ⟨g2, off2, e2, _⟩ := h.S.at' (by simp)
  exact ⟨fun h0 => by (rw [h0] at e; cases e), fun h0 => by (rw [h0] at e2; cases e2)⟩
/-- Behind the first step's being written over. -/
theorem law_set {w W : World} {b cp : Nat} {y : Mt} {L Y : List Mt} {n : Nat} (hn : n = ((y :: L) ++ Y).length) (h : RW w W (.slice (some ⟨b, 0, none⟩) n cp) ((y :: L) ++ Y) (y :: L)) :
    ∃ W', W' = Rw.putL (W.alloc (.cells #[.int .i64 7] 3)) b 0 (mC (mNew W.heap.size)) ∧ EM.At W' (some ⟨b, 0, none⟩) (mNew W.heap.size :: L) ∧ (∀ m ∈ mNew W.heap.size :: L, MtAt W' m ∧ ((m.la = none → m.ca = 0) ∧ (m.lb = none → m.cb = 0))) ∧ Below w.heap.size w W' := by
  have bA : Below W.heap.size W (W.alloc (.cells #[.int .i64 7] 3)) := (Below.refl _ W).alloc (Nat.le_refl _) _
  have hA := h.below bA
  have hs := Rw.El.set okEM hA.row hn 0 (by simp) (mNew W.heap.size)
  rw [Nat.zero_mul, List.cons_append, List.set_cons_zero] at hs
  have st : Stay (fun k => k = b) (W.alloc (.cells #[.int .i64 7] 3)) (Rw.putL (W.alloc (.cells #[.int .i64 7] 3)) b 0 (mC (mNew W.heap.size))) := Rw.putL_stay _ _ _ _
  have hbw : w.heap.size ≤ b := h.vo b rfl
  have hbl : b < W.heap.size := row_lt h.row rfl
  refine ⟨_, rfl, ?_, fun m hm => ?_, hA.bl.trans (st.toBelow (fun k hk e => by omega) hA.bl.size)⟩
  · obtain ⟨a, c, e, hat⟩ := Rw.El.Row.lat hs
    simp only [Value.slice.injEq] at e
    rw [← e.1] at hat
    exact At.pre (X := mNew W.heap.size :: L) (Y := Y) hat
  · rcases List.mem_cons.1 hm with rfl | hm
    · refine ⟨⟨⟨fun _ => ⟨W.heap.size, 0, rfl, fun j x hx => ?_⟩⟩, ⟨fun hn => absurd rfl hn⟩⟩, ⟨fun h0 => (by cases h0), fun _ => rfl⟩⟩
      have h1 : (Rw.putL (W.alloc (.cells #[.int .i64 7] 3)) b 0 (mC (mNew W.heap.size))).heap[W.heap.size]? = _ := (st.block W.heap.size (by simp) (fun e => by omega)).trans (heap_alloc_last W _)
      rw [cell_of_row _ _ _ _ _ (0, 0) h1, Nat.zero_add]
      have hx' : ([.int .i64 7] : List Value)[j]? = some x := hx
      simpa using hx'
    · have hk := (hA.own m (List.mem_cons_of_mem _ hm)).kept (v' := .slice (some ⟨b, 0, none⟩) n cp) st (fun a ha hf => by
        rcases ha with ha | ha
        · exact ((hA.own m (List.mem_cons_of_mem _ hm)).nN a ha).2 (by rw [hf]; rfl)
        · exact ((hA.own m (List.mem_cons_of_mem _ hm)).nS a ha).2 (by rw [hf]; rfl)) (fun k hk => .inl hk)
      exact ⟨hk.at', room_cap hk⟩
set_option maxHeartbeats 16000000 in
set_option maxRecDepth 100000 in
theorem law_text {w : World} {la : Option Addr} {cp : Nat} (L : List Mt) (h : EM.At w la L) (hm : ∀ m ∈ L, MtAt w m) (hB : StB (L.map Mt.s)) (hN : sumN (L.map Mt.s) ≤ 1048575) (hP : Pow w) :
    Calls Tryd.prog 3 #[.slice la L.length cp] w fun e w' => e = .returned (.bool true) ∧ Below w.heap.size w w' := by
  have hr := roomy_any (la := la) (cp := cp) L h hm hB
  obtain ⟨n, hn⟩ : ∃ n, n = L.length := ⟨_, rfl⟩
  have hn1 : n ≤ 1048576 := by have := hB.n; rw [List.length_map] at this; omega
  rw [← hn] at hr ⊢
  have HX := Hid.mk (And.intro hn (And.intro h (And.intro hm (And.intro hB (And.intro hN hP)))))
  clear hn h hm hB hN hP
  go_enter Tryd.func3, Tryd.ntmps3
  go_wp2_with fail
  refine hr.mono ?_
  clear hr
  rintro r w1 ⟨b, c1, L1, rfl, hL1, hR1⟩
  have hL1n : L1.length = n := by
    have h1 := congrArg List.length hL1
    rw [List.length_map, List.length_map] at h1; rw [h1, HX.out.1]
  have hBB : StB (L1.map Mt.s) := by rw [hL1]; exact HX.out.2.2.2.1
  have hNN : sumN (L1.map Mt.s) ≤ 1048575 := by rw [hL1]; exact HX.out.2.2.2.2.1
  have hP1 := HX.out.2.2.2.2.2.lat' hR1.bl
  have ht1 := text_any (la := some ⟨b, 0, none⟩) (cp := c1) L1 hR1.at' (fun m hm => (hR1.own m hm).at') hBB hP1
  rw [hL1n] at ht1
  obtain ⟨T, hT⟩ : ∃ T : ByteArray, T = ⟨(textK (L1.map Mt.s)).toArray⟩ := ⟨_, rfl⟩
  rw [← hT] at ht1
  have H1 := Hid.mk (And.intro hR1 (And.intro hL1 (And.intro hL1n (And.intro hBB (And.intro hNN hT)))))
  clear hR1 hL1 hL1n hBB hNN hP1 hT
  go_wp2_with fail
  refine ht1.mono ?_
  clear ht1
  rintro r w2 ⟨rfl, b2⟩
  have hR2 := H1.out.1.below b2
  have ht2 := rtext_any (la := la) (cp := cp) L (HX.out.2.1.below hR2.bl) (fun m hm => (HX.out.2.2.1 m hm).below hR2.bl) HX.out.2.2.2.1 (HX.out.2.2.2.2.2.lat' hR2.bl)
  rw [← HX.out.1, ← H1.out.2.1, ← H1.out.2.2.2.2.2] at ht2
  have H2 := Hid.mk hR2
  clear hR2 b2
  go_wp2_with fail
  refine ht2.mono ?_
  clear ht2
  rintro r w3 ⟨rfl, b3⟩
  have hR3 := H2.out.below b3
  have hs := sameSteps_any (la := some ⟨b, 0, none⟩) (lb := la) (ca := c1) (cb := cp) L1 L H1.out.2.1 hR3.at' (HX.out.2.1.below hR3.bl) (fun m hm => (hR3.own m hm).at') (fun m hm => (HX.out.2.2.1 m hm).below hR3.bl) H1.out.2.2.2.1
  rw [H1.out.2.2.1, ← HX.out.1] at hs
  have H3 := Hid.mk hR3
  clear hR3 b3
  go_wp2_with fail
  refine hs.mono ?_
  clear hs
  rintro r w4 ⟨rfl, d4⟩
  have hR4 := H3.out.below (d4.below _)
  have hro := rooms_any (w0 := w) (cp := c1) (n := n) L1 H1.out.2.2.1.symm hR4 H1.out.2.2.2.1
  have H4 := Hid.mk hR4
  clear hR4 d4
  go_wp2_with fail
  refine hro.mono ?_
  clear hro
  rintro r w5 ⟨rfl, d5⟩
  have H5 := Hid.mk (H4.out.below (d5.below _))
  clear d5
  by_cases h0 : n = 0
  · have HF := Hid.mk H5.out.bl
    subst h0
    go_wp2
    go_ret
    exact ⟨rfl, HF.out⟩
  · obtain ⟨y, L2, hL2⟩ : ∃ y L2, L1 = y :: L2 := by
      cases hq : L1 with
      | nil => have := H1.out.2.2.1; rw [hq] at this; exact absurd this.symm h0
      | cons y L2 => exact ⟨y, L2, rfl⟩
    have H5' := H5
    clear H5
    have hR5 := H5'.out
    rw [hL2] at hR5
    have hn2 : n + 2 = ((y :: L2) ++ [xK 71, xK 72]).length := by
      rw [List.length_append, ← hL2, H1.out.2.2.1]; rfl
    obtain ⟨W6, hW6, hat6, hm6, b6⟩ := law_set hn2 hR5
    obtain ⟨cur, hcur⟩ := row_block hR5.row (k := b) rfl
    have hcells : ∀ j, j < 6 → ∃ u, w5.cell? ⟨b, j, none⟩ = some u := fun j hj => by
      obtain ⟨g, off, e, hc⟩ := mt_cells hR5.at' 0 (by simp)
      simp only [Option.some.injEq, Addr.mk.injEq] at e
      obtain ⟨rfl, rfl, -⟩ := e
      have hlen : (mC (y :: L2)[0]).length = 6 := rfl
      have h1 := hc j ((mC (y :: L2)[0])[j]'(by rw [hlen]; exact hj)) hj (List.getElem?_eq_getElem _)
      exact ⟨_, by simpa using h1⟩
    have bA : Below w5.heap.size w5 (w5.alloc (.cells #[.int .i64 7] 3)) := (Below.refl _ w5).alloc (Nat.le_refl _) _
    obtain ⟨u0, z0⟩ := hcells 0 (by omega)
    obtain ⟨u1, z1⟩ := hcells 1 (by omega)
    obtain ⟨u2, z2⟩ := hcells 2 (by omega)
    obtain ⟨u3, z3⟩ := hcells 3 (by omega)
    obtain ⟨u4, z4⟩ := hcells 4 (by omega)
    obtain ⟨u5, z5⟩ := hcells 5 (by omega)
    have y0 := Rw.cell_lat bA z0
    have y1 := Rw.cell_lat bA z1
    have y2 := Rw.cell_lat bA z2
    have y3 := Rw.cell_lat bA z3
    have y4 := Rw.cell_lat bA z4
    have y5 := Rw.cell_lat bA z5
    have hbl : b < w5.heap.size := (Array.getElem?_eq_some_iff.1 hcur).1
    have hfz : ∀ j, (w5.alloc (.cells #[.int .i64 7] 3)).frozen? ⟨b, j, none⟩ = false := fun j => frozen_of_row _ _ _ _ _ ((bA.block b hbl).trans hcur)
    have f0 := hfz 0
    have f1 := hfz 1
    have f2 := hfz 2
    have f3 := hfz 3
    have f4 := hfz 4
    have f5 := hfz 5
    have hlen2 : (mNew w5.heap.size :: L2).length = n := by
      have h1 := H1.out.2.2.1
      rw [hL2] at h1
      exact h1
    have hLs : (mNew w5.heap.size :: L2).map Mt.s = (L1.map Mt.s).set 0 (mNew w5.heap.size).s := by rw [hL2]; rfl
    have hB6 : StB ((mNew w5.heap.size :: L2).map Mt.s) := by rw [hLs]; exact H1.out.2.2.2.1.set H1.out.2.2.2.2.1 _
    have hP6 := HX.out.2.2.2.2.2.lat' b6
    obtain ⟨L6, hL6⟩ : ∃ L6, L6 = mNew w5.heap.size :: L2 := ⟨_, rfl⟩
    rw [← hL6] at hat6 hm6 hlen2 hB6
    have htw := twin_any (la := some ⟨b, 0, none⟩) (cp := c1) L6 hat6 (fun m hm => (hm6 m hm).1) (fun m hm => (hm6 m hm).2) hB6
    rw [hlen2] at htw
    have H6 := Hid.mk (And.intro hat6 (And.intro hm6 (And.intro b6 (And.intro hlen2 (And.intro hB6 hP6)))))
    have hi0 : (0 : Int) < (n : Int) := by omega
    simp [Rw.putL, mC, mNew] at hW6
    have HW6 := Hid.mk hW6
    have hn0 : ¬ (n : Int) = 0 := by omega
    clear hR5 hn2 hW6 hat6 hm6 b6 hcur hcells bA z0 z1 z2 z3 z4 z5 hbl hfz hlen2 hLs hB6 hP6 hL6 hL2 H5'
    go_wp2_with fail
    rw [← HW6.out]
    refine htw.mono ?_
    clear htw
    rintro r w7 ⟨a7, c7, L7, rfl, hL7, hT7⟩
    have b7 := hT7.bl
    have hL7n : L7.length = n := by
      have h1 := congrArg List.length hL7
      rw [List.length_map, List.length_map, H6.out.2.2.2.1] at h1; exact h1
    have bw7 : Below w.heap.size w w7 := H6.out.2.2.1.trans (b7.mono H6.out.2.2.1.size)
    have hat7 := H6.out.1.below b7
    have hm7 := fun m hm => (H6.out.2.1 m hm).1.below b7
    have ht3 := text_any (la := some ⟨b, 0, none⟩) (cp := c1) L6 hat7 hm7 H6.out.2.2.2.2.1 (HX.out.2.2.2.2.2.lat' bw7)
    rw [H6.out.2.2.2.1] at ht3
    obtain ⟨T2, hT2⟩ : ∃ T2 : ByteArray, T2 = ⟨(textK (L6.map Mt.s)).toArray⟩ := ⟨_, rfl⟩
    rw [← hT2] at ht3
    have H7 := Hid.mk (And.intro hat7 (And.intro hm7 (And.intro hL7 (And.intro hT7 (And.intro hL7n (And.intro bw7 hT2))))))
    clear hat7 hm7 hL7 hT7 hL7n bw7 hT2 b7
    go_wp2_with fail
    refine ht3.mono ?_
    clear ht3
    rintro r w8 ⟨rfl, b8⟩
    have hT8 := H7.out.2.2.2.1.below b8
    have bw8 : Below w.heap.size w w8 := H7.out.2.2.2.2.2.1.trans (b8.mono H7.out.2.2.2.2.2.1.size)
    have hat8 : EM.At w8 a7 L7 := by
      obtain ⟨a9, c9, e9, hat⟩ := hT8.row.lat
      simp only [Value.slice.injEq] at e9
      rw [← e9.1] at hat; exact hat
    have hB7 : StB (L7.map Mt.s) := by rw [H7.out.2.2.1]; exact H6.out.2.2.2.2.1
    have ht4 := rtext_any (la := a7) (cp := c7) L7 hat8 (fun m hm => (hT8.own m hm).at') hB7 (HX.out.2.2.2.2.2.lat' bw8)
    rw [H7.out.2.2.2.2.1, H7.out.2.2.1, ← H7.out.2.2.2.2.2.2] at ht4
    have H8 := Hid.mk (And.intro hat8 (And.intro hT8 (And.intro b8 bw8)))
    clear hat8 hT8 b8 bw8 hB7
    go_wp2_with fail
    refine ht4.mono ?_
    clear ht4
    rintro r w9 ⟨rfl, b9⟩
    have b79 := chain H8.out.2.2.1 b9 (Nat.le_refl _)
    have hs := sameSteps_any (la := some ⟨b, 0, none⟩) (lb := a7) (ca := c1) (cb := c7) L6 L7 H7.out.2.2.1.symm (H7.out.1.below b79) (H8.out.1.below b9) (fun m hm => (H7.out.2.1 m hm).below b79) (fun m hm => ((H8.out.2.1.own m hm).at').below b9) H6.out.2.2.2.2.1
    rw [H6.out.2.2.2.1, H7.out.2.2.2.2.1] at hs
    have H9 := Hid.mk (H8.out.2.2.2.trans (b9.mono H8.out.2.2.2.size))
    clear b79 b9
    go_wp2_with fail
    refine hs.mono ?_
    clear hs
    rintro r v1 ⟨rfl, d1⟩
    have HF := Hid.mk (H9.out.trans ((d1.below _).mono H9.out.size))
    clear d1
    go_wp2
    go_ret
    exact ⟨rfl, HF.out⟩
end Go.Proofs.YtojnlngpgbcimaaDoor
