/-
  DERIVED. MergeLastWord: the walk itself.
-/
import Derived.Test.YtchikfabfhjkgaaMLawW
set_option linter.unusedVariables false
set_option linter.unusedSimpArgs false
namespace Go.Proofs.Ytchikfabfhjkgaa
open Go.RowKit
set_option maxHeartbeats 8000000 in
set_option maxRecDepth 100000 in
theorem law_lastWord (all : List En) (la : Option Addr) (lc : Nat) (ts : List Int) (ta : Option Addr) (tc : Nat) (w : World) (h : LAt w la all) (hl : all.length < 4611686018427387904) (ht : IAt w ta ts) (htl : ts.length < 4611686018427387904) (hcs : ∀ e ∈ all, e.c.size ≤ 281474976710656) :
    Calls Try.prog 5 #[.slice la all.length lc, .slice ta ts.length tc] w fun r w' => r = .returned (.bool true) ∧ Below w.heap.size w w' := by
  have hbg := begun_any w
  have hfr := fun W (b : Below w.heap.size w W) => fresh_any all la lc W (h.below b) hl
  have HT := Hid.mk (And.intro ht (And.intro htl hcs))
  clear h ht hcs
  go_enter Try.func5, Try.ntmps5
  go_wp2_with fail
  refine hbg.mono ?_
  clear hbg
  rintro r w1 ⟨rfl, b1⟩
  replace hfr := hfr w1 b1
  go_wp2_with fail
  refine hfr.mono ?_
  clear hfr
  rintro r w2 ⟨b2, F, v, hu, hl60, hsub, rfl, ho, hg⟩
  obtain ⟨fa, fc, rfl, hfc⟩ := slice_form ho
  have bw2 := chain b1 b2 (Nat.le_refl _)
  have hL2 : LAt w2 fa F := by
    obtain ⟨a, c, e, -, hl⟩ := own_lat ho
    cases e
    exact hl
  have hde := dealt_any F fa fc ts ta tc w2 hL2 hl60 (HT.out.1.below bw2) HT.out.2.1
  have HO := Hid.mk (And.intro ho (And.intro bw2 (And.intro hu (And.intro hl60 hsub))))
  clear ho bw2 hL2 b1 b2 hg hu hl60 hsub
  go_wp2_with fail
  refine hde.mono ?_
  clear hde
  rintro r w3 ⟨b3, R, lv, hri, hrl, rfl, hdl⟩
  obtain ⟨ga, gc, rfl, hgc⟩ := hdl.form
  have fr : FR F R := ⟨HO.out.2.2.1, HO.out.2.2.2.1, fun e he => HT.out.2.2 e (HO.out.2.2.2.2 e he), hri, hrl⟩
  have K3 : MW w w2.heap.size F fa fc R (.slice ga R.length gc) w3 := ⟨row_kept HO.out.1 (F := fun _ => False) (.below b3) (fun _ _ h => h), hdl, chain HO.out.2.1 b3 (Nat.le_refl _), b3.size⟩
  have hm1 := fr.merge K3 false
  have H := Hid.mk (And.intro fr (And.intro K3 HO.out.2.1))
  have hf60 := fr.l
  have hr60 : R.length ≤ 60 := by omega
  clear fr K3 HO HT hri hrl hdl b3
  obtain ⟨fn, hfn⟩ : ∃ n, n = F.length := ⟨_, rfl⟩
  obtain ⟨rn, hrn⟩ : ∃ n, n = R.length := ⟨_, rfl⟩
  have HN := Hid.mk (And.intro hfn hrn)
  rw [← hrn] at hm1
  rw [← hrn] at hr60 hgc
  rw [← hfn] at hf60 hfc
  rw [← hfn, ← hrn]
  clear hfn hrn
  go_wp2_with fail
  refine hm1.mono ?_
  clear hm1
  rintro r w4 ⟨b4, A, aa, ac, tA, rfl, hoA⟩
  have K4 := H.out.2.1.lat b4
  have hm2 := H.out.1.merge K4 true
  have H4 := Hid.mk (And.intro K4 (And.intro tA hoA))
  rw [← HN.out.2] at hm2
  clear b4 K4 tA hoA
  go_wp2_with fail
  refine hm2.mono ?_
  clear hm2
  rintro r w5 ⟨b5, C, ca, cc, tC, rfl, hoC⟩
  have K5 := H4.out.1.lat b5
  have hla1 := last_any F fa fc false w5 K5.la H.out.1.l H.out.1.u
  have H5 := Hid.mk (And.intro K5 (And.intro H4.out.2.1 (And.intro (row_kept H4.out.2.2 (F := fun _ => False) (.below b5) (fun _ _ h => h)) (And.intro tC hoC))))
  rw [← HN.out.1] at hla1
  clear b5 K5 tC hoC H4
  go_wp2_with fail
  refine hla1.mono ?_
  clear hla1
  rintro r w6 ⟨b6, A', v, liA, rfl, hoA', -⟩
  have e1 : A = A' := H5.out.2.1.one (liA.told H.out.1.ri.flat) (fun _ => Iff.rfl)
  subst e1
  obtain ⟨xa, xc, rfl, -⟩ := slice_form hoA'
  have K6 := H5.out.1.lat b6
  have hoA6 := row_kept H5.out.2.2.1 (F := fun _ => False) (.below b6) (fun _ _ h => h)
  have hAl : A.length ≤ 60 := Nat.le_trans liA.len H.out.1.l
  have hs1 := same_any A aa xa ac xc w6 (by obtain ⟨a, c, e, -, hl⟩ := own_lat hoA6; cases e; exact hl) (by obtain ⟨a, c, e, -, hl⟩ := own_lat hoA'; cases e; exact hl) (by omega)
  have H6 := Hid.mk (And.intro K6 (And.intro H5.out.2.1 (And.intro hoA6 (And.intro H5.out.2.2.2.1 (row_kept H5.out.2.2.2.2 (F := fun _ => False) (.below b6) (fun _ _ h => h))))))
  clear b6 K6 hoA6 hoA' liA H5
  go_wp2_with fail
  refine hs1.mono ?_
  clear hs1
  rintro r w7 ⟨rfl, d7⟩
  have b7 : Below w6.heap.size w6 w7 := d7.below _
  have K7 := H6.out.1.lat b7
  have hla2 := last_any F fa fc true w7 K7.la H.out.1.l H.out.1.u
  have H7 := Hid.mk (And.intro K7 (And.intro H6.out.2.1 (And.intro (row_kept H6.out.2.2.1 (F := fun _ => False) (.below b7) (fun _ _ h => h)) (And.intro H6.out.2.2.2.1 (row_kept H6.out.2.2.2.2 (F := fun _ => False) (.below b7) (fun _ _ h => h))))))
  rw [← HN.out.1] at hla2
  clear b7 K7 d7 H6
  go_wp2_with fail
  refine hla2.mono ?_
  clear hla2
  rintro r w8 ⟨b8, C', v, liC, rfl, hoC', -⟩
  have e1 : C = C' := H7.out.2.2.2.1.one (liC.told H.out.1.ri.flat) (fun _ => Iff.rfl)
  subst e1
  obtain ⟨za, zc, rfl, -⟩ := slice_form hoC'
  have K8 := H7.out.1.lat b8
  have hoC8 := row_kept H7.out.2.2.2.2 (F := fun _ => False) (.below b8) (fun _ _ h => h)
  have hCl : C.length ≤ 60 := Nat.le_trans liC.len H.out.1.l
  have hs2 := same_any C ca za cc zc w8 (by obtain ⟨a, c, e, -, hl⟩ := own_lat hoC8; cases e; exact hl) (by obtain ⟨a, c, e, -, hl⟩ := own_lat hoC'; cases e; exact hl) (by omega)
  have H8 := Hid.mk (And.intro K8 (And.intro H7.out.2.1 (row_kept H7.out.2.2.1 (F := fun _ => False) (.below b8) (fun _ _ h => h))))
  clear b8 K8 hoC8 hoC' liC H7
  go_wp2_with fail
  refine hs2.mono ?_
  clear hs2
  rintro r w9 ⟨rfl, d9⟩
  have b9 : Below w8.heap.size w8 w9 := d9.below _
  have hA9 := row_kept H8.out.2.2 (F := fun _ => False) (.below b9) (fun _ _ h => h)
  have hso := sorted_any A aa ac w9 (by obtain ⟨a, c, e, -, hl⟩ := own_lat hA9; cases e; exact hl) (by omega)
  rw [up_rises (show Up A from H8.out.2.1.up)] at hso
  have H9 := Hid.mk (H8.out.1.lat b9)
  clear b9 d9 hA9 H8
  simp only [sE, if_true] at hso
  go_wp2_with fail
  refine hso.mono ?_
  clear hso
  rintro r w10 ⟨rfl, b10⟩
  have H10 := Hid.mk (H9.out.lat b10)
  clear b10 H9
  go_wp2
  go_loopw [13] (fun iv wr => ∃ i : Nat, iv = .int .i64 i ∧ i ≤ rn ∧ MW w w2.heap.size F fa fc R (.slice ga R.length gc) wr) (fun iv _ => rn - (intOf iv).toNat)
  case atStart => exact ⟨0, rfl, Nat.zero_le _, H10.out⟩
  case round =>
    obtain ⟨i, rfl, hi, K⟩ := hrel
    clear H10
    by_cases hlt : i < rn
    · have i1 : (i : Int) < (rn : Int) := by omega
      have i0 : 0 ≤ (i : Int) := by omega
      have hw3 : IntKind.i64.wrap ((i : Int) + 1) = (i : Int) + 1 := by rw [IntKind.wrap_i64]; omega
      obtain ⟨r, hr⟩ : ∃ r, R[i]? = some r := ⟨_, List.getElem?_eq_getElem (by have := HN.out.2; omega)⟩
      obtain ⟨g, la', lc', rfl, hc, -, hcap, hL⟩ := K.dl.at' hr
      have hso := sorted_any r la' lc' wr hL (by have := H.out.1.short r (List.mem_of_getElem? hr); omega)
      rw [up_rises (H.out.1.ri.up r (List.mem_of_getElem? hr))] at hso
      simp only [sE, if_true] at hso
      have HK := Hid.mk K
      clear K hL hr hcap
      go_wp2_with fail
      refine hso.mono ?_
      clear hso
      rintro q w11 ⟨rfl, b11⟩
      have HK2 := Hid.mk (HK.out.lat b11)
      clear b11 hc
      go_wp2
      exact ⟨⟨i + 1, ival (by omega), by omega, HK2.out⟩, by simp only [intOf]; omega⟩
    · have i1 : (rn : Int) ≤ (i : Int) := by omega
      by_cases hf0 : fn = 0
      · have HK := Hid.mk K.bw
        clear K
        subst hf0
        go_wp2
        go_ret
        exact ⟨rfl, HK.out⟩
      · have f1 : ¬ ((fn : Int) = 0) := by omega
        have f2 : 1 ≤ fn := by omega
        have f3 : 1 ≤ fc := by omega
        obtain ⟨x, hx⟩ : ∃ x, F[0]? = some x := ⟨_, List.getElem?_eq_getElem (by have := HN.out.1; omega)⟩
        have hxs : F.take 1 = [x] := by
          obtain ⟨h1, h2⟩ := List.getElem?_eq_some_iff.1 hx
          rw [List.take_succ_eq_append_getElem h1, h2]
          simp
        have hox : wr.ownsRow 0 23 5 (.slice fa 1 fc) [x].length ([x].flatMap enC) := by
          have h := own_take K.fl (m := 1) (by have := HN.out.1; omega) (flat_len5 F)
          have e : (F.flatMap enC).take (1 * 5) = [x].flatMap enC := by
            rw [← hxs]
            have := List.take_append_drop 1 F
            conv => lhs; rw [← this, List.flatMap_append]
            rw [List.take_append_of_le_length (by rw [flat_len5, hxs]; simp), List.take_of_length_le (by rw [flat_len5, hxs]; simp)]
          rw [e] at h
          exact h
        obtain ⟨a5, c5, w12, hap, hdl, hb5⟩ := K.dl.push (Nat.le_trans (Nat.le_refl _) K.lo) (by have := HN.out.2; omega) hox rfl
        have hsq := H.out.1.seq (List.mem_of_getElem? hx) hdl
        have FN := Hid.mk (K.bw.trans (hb5.mono H.out.2.2.size))
        rw [← HN.out.2] at hap hsq
        clear K hox hxs hx hdl hb5
        go_wp2_with (at_builtin; refine wpList_append_eq rfl _ _ _ _ rfl _ _ _ _ rfl rfl hap ?_; clear hap)
        refine hsq.mono ?_
        clear hsq
        rintro q w13 ⟨rfl, b13⟩
        have FN2 := Hid.mk (chain FN.out b13 (Nat.le_refl _))
        clear b13
        go_wp2
        go_ret
        exact ⟨rfl, FN2.out⟩
end Go.Proofs.Ytchikfabfhjkgaa
