/-
  DERIVED. MLawW, MLawX, MTurned, MLawG, FLaw0, FLaw1, FLaw2, FLaw3, FLaw4, MOpen2, OneRow, as one text.
-/
import Derived.Test.YtchikfabfhjkgaaMDealt
import Derived.Test.YtchikfabfhjkgaaMFresh
import Derived.Test.YtchikfabfhjkgaaMLast
import Derived.Test.YtchikfabfhjkgaaMBegun
import Derived.Test.YtchikfabfhjkgaaMOpen
import Derived.Test.YtchikfabfhjkgaaFFedW
import Derived.Test.YtchikfabfhjkgaaFPure2
import Derived.Test.YtchikfabfhjkgaaMMerge0
import Derived.Test.YtchikfabfhjkgaaMDealt0
import Derived.SizedLaws
import Derived.ChangeSlices
import Derived.ProofKit
import Derived.OpenShut
import Derived.ChangeMaps5
set_option linter.unusedVariables false
set_option linter.unusedSimpArgs false
namespace Go.Proofs.Ytchikfabfhjkgaa
open Go.RowKit
theorem own_take {w : World} {B e sz : Nat} {a : Option Addr} {n m c : Nat} {xs : List Value} (h : w.ownsRow B e sz (.slice a n c) n xs) (hm : m ≤ n) (hx : xs.length = n * sz) : w.ownsRow B e sz (.slice a m c) m (xs.take (m * sz)) := by
  rcases h with ⟨h1, ⟨h2, h3⟩ | ⟨g, cap, cur, h2, h3, h4, h5, h6, h7, h8⟩⟩
  · simp only [Value.slice.injEq] at h2
    obtain ⟨rfl, rfl, rfl⟩ := h2
    have : m = 0 := by omega
    subst this
    exact ⟨by simp, .inl ⟨rfl, rfl⟩⟩
  · simp only [Value.slice.injEq] at h2
    obtain ⟨rfl, -, rfl⟩ := h2
    have hle : m * sz ≤ n * sz := Nat.mul_le_mul_right sz hm
    refine ⟨by rw [List.length_take, hx, Nat.min_eq_left hle], .inr ⟨g, c, cur, rfl, h3, h4, by omega, h6, h7, ?_⟩⟩
    rw [← h8, List.take_take, Nat.min_eq_left hle]
/-- What is held through the law: the fresh entries, the lists. -/
structure MW (w : World) (B : Nat) (F : List En) (fa : Option Addr) (fc : Nat) (R : List (List En)) (lv : Value) (W : World) : Prop where
  fl : W.ownsRow 0 23 5 (.slice fa F.length fc) F.length (F.flatMap enC)
  dl : DL B W lv R
  bw : Below w.heap.size w W
  lo : B ≤ W.heap.size
theorem MW.lat {w : World} {B : Nat} {F : List En} {fa : Option Addr} {fc : Nat} {R : List (List En)} {lv : Value} {W W' : World} (h : MW w B F fa fc R lv W) (b : Below W.heap.size W W') : MW w B F fa fc R lv W' :=
  ⟨row_kept h.fl (F := fun _ => False) (.below b) (fun _ _ h => h), h.dl.lat b, chain h.bw b (Nat.le_refl _), Nat.le_trans h.lo b.size⟩
theorem MW.la {w : World} {B : Nat} {F : List En} {fa : Option Addr} {fc : Nat} {R : List (List En)} {lv : Value} {W : World} (h : MW w B F fa fc R lv W) : LAt W fa F := by
  obtain ⟨a, c, e, -, hl⟩ := own_lat h.fl
  cases e
  exact hl
theorem RI.flat {all : List En} {R : List (List En)} (h : RI all all.length R) : R.flatten.Perm all := by
  have := h.perm; rwa [List.take_length] at this
/-- What the fresh entries and the lists are. -/
structure FR (F : List En) (R : List (List En)) : Prop where
  u : Uniq F
  l : F.length ≤ 60
  c : ∀ e ∈ F, e.c.size ≤ 281474976710656
  ri : RI F F.length R
  rl : R.length ≤ F.length
theorem FR.cc {F : List En} {R : List (List En)} (h : FR F R) : ∀ r ∈ R, ∀ e ∈ r, e.c.size ≤ 281474976710656 := fun r hr e he => h.c e (h.ri.flat.mem_iff.1 (List.mem_flatten.2 ⟨r, hr, he⟩))
theorem FR.uu {F : List En} {R : List (List En)} (h : FR F R) : Uniq R.flatten := (Uniq.perm h.ri.flat).2 h.u
theorem FR.short {F : List En} {R : List (List En)} (h : FR F R) : ∀ r ∈ R, r.length ≤ 60 := fun r hr => Nat.le_trans (h.ri.short r hr) h.l
theorem FR.merge {F : List En} {R : List (List En)} (h : FR F R) {w : World} {B : Nat} {fa a : Option Addr} {fc c : Nat} {W : World} (k : MW w B F fa fc R (.slice a R.length c) W) (bottom : Bool) : Calls Try.prog 24 #[.slice a R.length c, .bool bottom] W (MgO R bottom W) :=
  merge_told R a c bottom W (k.dl.ll h.short) (by have := h.rl; have := h.l; omega) h.cc (by rw [h.ri.flat.length_eq]; have := h.l; omega) h.ri.up h.uu
/-- One entry more, that is there already: refused. -/
theorem FR.seq {F : List En} {R : List (List En)} (h : FR F R) {x : En} (hx : x ∈ F) {W : World} {B : Nat} {a : Option Addr} {c : Nat} (k : DL B W (.slice a (R.length + 1) c) (R ++ [[x]])) : Calls Try.prog 24 #[.slice a (R.length + 1) c, .bool false] W fun r w' => r = .returned (.tuple #[.slice none 0 0, .int .i64 51]) ∧ Below W.heap.size W w' := by
  have e1 : (R ++ [[x]]).length = R.length + 1 := by simp
  rw [← e1] at k ⊢
  refine merge_seq (R ++ [[x]]) a c false W (k.ll (fun r hr => ?_)) (by rw [e1]; have := h.rl; have := h.l; omega) (fun r hr e he => ?_) (by rw [List.flatten_append, List.length_append, h.ri.flat.length_eq]; simp; have := h.l; omega) (fun r hr => ?_) (fun hu => ?_)
  · rcases List.mem_append.1 hr with q | q
    · exact h.short r q
    · simp at q; subst q; simp
  · rcases List.mem_append.1 hr with q | q
    · exact h.cc r q e he
    · simp at q; subst q; simp at he; subst he; exact h.c _ hx
  · rcases List.mem_append.1 hr with q | q
    · exact h.ri.up r q
    · simp at q; subst q; exact List.pairwise_singleton _ _
  · rw [List.flatten_append] at hu
    exact (List.pairwise_append.1 hu).2.2 x (h.ri.flat.mem_iff.2 hx) x (by simp) (cpE_self x) rfl
end Go.Proofs.Ytchikfabfhjkgaa
set_option linter.unusedVariables false
set_option linter.unusedSimpArgs false
namespace Go.Proofs.Ytchikfabfhjkgaa
open Go.RowKit
set_option maxHeartbeats 8000000 in
set_option maxRecDepth 100000 in
theorem law_lastWord (all : List En) (la : Option Addr) (lc : Nat) (ts : List Int) (ta : Option Addr) (tc : Nat) (w : World) (h : LAt w la all) (hl : all.length < 4611686018427387904) (ht : IAt w ta ts) (htl : ts.length < 4611686018427387904) (hcs : ∀ e ∈ all, e.c.size ≤ 281474976710656) :
    Calls Try.prog 5 #[.slice la all.length lc, .slice ta ts.length tc] w fun r w' => r = .returned (.bool true) ∧ Below w.heap.size w w' := by
  have hbg := begun_any w
  have hfr := fun W (b : Below w.heap.size w W) => fresh_any all la lc W (h.below b) hl
  have HT := Hid.mk (And.intro ht (And.intro htl hcs))
  clear h ht hcs
  go_enter Try.func5, Try.ntmps5
  go_wp2_with fail
  refine hbg.mono ?_
  clear hbg
  rintro r w1 ⟨rfl, b1⟩
  replace hfr := hfr w1 b1
  go_wp2_with fail
  refine hfr.mono ?_
  clear hfr
  rintro r w2 ⟨b2, F, v, hu, hl60, hsub, rfl, ho, hg⟩
  obtain ⟨fa, fc, rfl, hfc⟩ := slice_form ho
  have bw2 := chain b1 b2 (Nat.le_refl _)
  have hL2 : LAt w2 fa F := by
    obtain ⟨a, c, e, -, hl⟩ := own_lat ho
    cases e
    exact hl
  have hde := dealt_any F fa fc ts ta tc w2 hL2 hl60 (HT.out.1.below bw2) HT.out.2.1
  have HO := Hid.mk (And.intro ho (And.intro bw2 (And.intro hu (And.intro hl60 hsub))))
  clear ho bw2 hL2 b1 b2 hg hu hl60 hsub
  go_wp2_with fail
  refine hde.mono ?_
  clear hde
  rintro r w3 ⟨b3, R, lv, hri, hrl, rfl, hdl⟩
  obtain ⟨ga, gc, rfl, hgc⟩ := hdl.form
  have fr : FR F R := ⟨HO.out.2.2.1, HO.out.2.2.2.1, fun e he => HT.out.2.2 e (HO.out.2.2.2.2 e he), hri, hrl⟩
  have K3 : MW w w2.heap.size F fa fc R (.slice ga R.length gc) w3 := ⟨row_kept HO.out.1 (F := fun _ => False) (.below b3) (fun _ _ h => h), hdl, chain HO.out.2.1 b3 (Nat.le_refl _), b3.size⟩
  have hm1 := fr.merge K3 false
  have H := Hid.mk (And.intro fr (And.intro K3 HO.out.2.1))
  have hf60 := fr.l
  have hr60 : R.length ≤ 60 := by omega
  clear fr K3 HO HT hri hrl hdl b3
  obtain ⟨fn, hfn⟩ : ∃ n, n = F.length := ⟨_, rfl⟩
  obtain ⟨rn, hrn⟩ : ∃ n, n = R.length := ⟨_, rfl⟩
  have HN := Hid.mk (And.intro hfn hrn)
  rw [← hrn] at hm1
  rw [← hrn] at hr60 hgc
  rw [← hfn] at hf60 hfc
  rw [← hfn, ← hrn]
  clear hfn hrn
  go_wp2_with fail
  refine hm1.mono ?_
  clear hm1
  rintro r w4 ⟨b4, A, aa, ac, tA, rfl, hoA⟩
  have K4 := H.out.2.1.lat b4
  have hm2 := H.out.1.merge K4 true
  have H4 := Hid.mk (And.intro K4 (And.intro tA hoA))
  rw [← HN.out.2] at hm2
  clear b4 K4 tA hoA
  go_wp2_with fail
  refine hm2.mono ?_
  clear hm2
  rintro r w5 ⟨b5, C, ca, cc, tC, rfl, hoC⟩
  have K5 := H4.out.1.lat b5
  have hla1 := last_any F fa fc false w5 K5.la H.out.1.l H.out.1.u
  have H5 := Hid.mk (And.intro K5 (And.intro H4.out.2.1 (And.intro (row_kept H4.out.2.2 (F := fun _ => False) (.below b5) (fun _ _ h => h)) (And.intro tC hoC))))
  rw [← HN.out.1] at hla1
  clear b5 K5 tC hoC H4
  go_wp2_with fail
  refine hla1.mono ?_
  clear hla1
  rintro r w6 ⟨b6, A', v, liA, rfl, hoA', -⟩
  have e1 : A = A' := H5.out.2.1.one (liA.told H.out.1.ri.flat) (fun _ => Iff.rfl)
  subst e1
  obtain ⟨xa, xc, rfl, -⟩ := slice_form hoA'
  have K6 := H5.out.1.lat b6
  have hoA6 := row_kept H5.out.2.2.1 (F := fun _ => False) (.below b6) (fun _ _ h => h)
  have hAl : A.length ≤ 60 := Nat.le_trans liA.len H.out.1.l
  have hs1 := same_any A aa xa ac xc w6 (by obtain ⟨a, c, e, -, hl⟩ := own_lat hoA6; cases e; exact hl) (by obtain ⟨a, c, e, -, hl⟩ := own_lat hoA'; cases e; exact hl) (by omega)
  have H6 := Hid.mk (And.intro K6 (And.intro H5.out.2.1 (And.intro hoA6 (And.intro H5.out.2.2.2.1 (row_kept H5.out.2.2.2.2 (F := fun _ => False) (.below b6) (fun _ _ h => h))))))
  clear b6 K6 hoA6 hoA' liA H5
  go_wp2_with fail
  refine hs1.mono ?_
  clear hs1
  rintro r w7 ⟨rfl, d7⟩
  have b7 : Below w6.heap.size w6 w7 := d7.below _
  have K7 := H6.out.1.lat b7
  have hla2 := last_any F fa fc true w7 K7.la H.out.1.l H.out.1.u
  have H7 := Hid.mk (And.intro K7 (And.intro H6.out.2.1 (And.intro (row_kept H6.out.2.2.1 (F := fun _ => False) (.below b7) (fun _ _ h => h)) (And.intro H6.out.2.2.2.1 (row_kept H6.out.2.2.2.2 (F := fun _ => False) (.below b7) (fun _ _ h => h))))))
  rw [← HN.out.1] at hla2
  clear b7 K7 d7 H6
  go_wp2_with fail
  refine hla2.mono ?_
  clear hla2
  rintro r w8 ⟨b8, C', v, liC, rfl, hoC', -⟩
  have e1 : C = C' := H7.out.2.2.2.1.one (liC.told H.out.1.ri.flat) (fun _ => Iff.rfl)
  subst e1
  obtain ⟨za, zc, rfl, -⟩ := slice_form hoC'
  have K8 := H7.out.1.lat b8
  have hoC8 := row_kept H7.out.2.2.2.2 (F := fun _ => False) (.below b8) (fun _ _ h => h)
  have hCl : C.length ≤ 60 := Nat.le_trans liC.len H.out.1.l
  have hs2 := same_any C ca za cc zc w8 (by obtain ⟨a, c, e, -, hl⟩ := own_lat hoC8; cases e; exact hl) (by obtain ⟨a, c, e, -, hl⟩ := own_lat hoC'; cases e; exact hl) (by omega)
  have H8 := Hid.mk (And.intro K8 (And.intro H7.out.2.1 (row_kept H7.out.2.2.1 (F := fun _ => False) (.below b8) (fun _ _ h => h))))
  clear b8 K8 hoC8 hoC' liC H7
  go_wp2_with fail
  refine hs2.mono ?_
  clear hs2
  rintro r w9 ⟨rfl, d9⟩
  have b9 : Below w8.heap.size w8 w9 := d9.below _
  have hA9 := row_kept H8.out.2.2 (F := fun _ => False) (.below b9) (fun _ _ h => h)
  have hso := sorted_any A aa ac w9 (by obtain ⟨a, c, e, -, hl⟩ := own_lat hA9; cases e; exact hl) (by omega)
  rw [up_rises (show Up A from H8.out.2.1.up)] at hso
  have H9 := Hid.mk (H8.out.1.lat b9)
  clear b9 d9 hA9 H8
  simp only [sE, if_true] at hso
  go_wp2_with fail
  refine hso.mono ?_
  clear hso
  rintro r w10 ⟨rfl, b10⟩
  have H10 := Hid.mk (H9.out.lat b10)
  clear b10 H9
  go_wp2
  go_loopw [13] (fun iv wr => ∃ i : Nat, iv = .int .i64 i ∧ i ≤ rn ∧ MW w w2.heap.size F fa fc R (.slice ga R.length gc) wr) (fun iv _ => rn - (intOf iv).toNat)
  case atStart => exact ⟨0, rfl, Nat.zero_le _, H10.out⟩
  case round =>
    obtain ⟨i, rfl, hi, K⟩ := hrel
    clear H10
    by_cases hlt : i < rn
    · have i1 : (i : Int) < (rn : Int) := by omega
      have i0 : 0 ≤ (i : Int) := by omega
      have hw3 : IntKind.i64.wrap ((i : Int) + 1) = (i : Int) + 1 := by rw [IntKind.wrap_i64]; omega
      obtain ⟨r, hr⟩ : ∃ r, R[i]? = some r := ⟨_, List.getElem?_eq_getElem (by have := HN.out.2; omega)⟩
      obtain ⟨g, la', lc', rfl, hc, -, hcap, hL⟩ := K.dl.at' hr
      have hso := sorted_any r la' lc' wr hL (by have := H.out.1.short r (List.mem_of_getElem? hr); omega)
      rw [up_rises (H.out.1.ri.up r (List.mem_of_getElem? hr))] at hso
      simp only [sE, if_true] at hso
      have HK := Hid.mk K
      clear K hL hr hcap
      go_wp2_with fail
      refine hso.mono ?_
      clear hso
      rintro q w11 ⟨rfl, b11⟩
      have HK2 := Hid.mk (HK.out.lat b11)
      clear b11 hc
      go_wp2
      exact ⟨⟨i + 1, ival (by omega), by omega, HK2.out⟩, by simp only [intOf]; omega⟩
    · have i1 : (rn : Int) ≤ (i : Int) := by omega
      by_cases hf0 : fn = 0
      · have HK := Hid.mk K.bw
        clear K
        subst hf0
        go_wp2
        go_ret
        exact ⟨rfl, HK.out⟩
      · have f1 : ¬ ((fn : Int) = 0) := by omega
        have f2 : 1 ≤ fn := by omega
        have f3 : 1 ≤ fc := by omega
        obtain ⟨x, hx⟩ : ∃ x, F[0]? = some x := ⟨_, List.getElem?_eq_getElem (by have := HN.out.1; omega)⟩
        have hxs : F.take 1 = [x] := by
          obtain ⟨h1, h2⟩ := List.getElem?_eq_some_iff.1 hx
          rw [List.take_succ_eq_append_getElem h1, h2]
          simp
        have hox : wr.ownsRow 0 23 5 (.slice fa 1 fc) [x].length ([x].flatMap enC) := by
          have h := own_take K.fl (m := 1) (by have := HN.out.1; omega) (flat_len5 F)
          have e : (F.flatMap enC).take (1 * 5) = [x].flatMap enC := by
            rw [← hxs]
            have := List.take_append_drop 1 F
            conv => lhs; rw [← this, List.flatMap_append]
            rw [List.take_append_of_le_length (by rw [flat_len5, hxs]; simp), List.take_of_length_le (by rw [flat_len5, hxs]; simp)]
          rw [e] at h
          exact h
        obtain ⟨a5, c5, w12, hap, hdl, hb5⟩ := K.dl.push (Nat.le_trans (Nat.le_refl _) K.lo) (by have := HN.out.2; omega) hox rfl
        have hsq := H.out.1.seq (List.mem_of_getElem? hx) hdl
        have FN := Hid.mk (K.bw.trans (hb5.mono H.out.2.2.size))
        rw [← HN.out.2] at hap hsq
        clear K hox hxs hx hdl hb5
        go_wp2_with (at_builtin; refine wpList_append_eq rfl _ _ _ _ rfl _ _ _ _ rfl rfl hap ?_; clear hap)
        refine hsq.mono ?_
        clear hsq
        rintro q w13 ⟨rfl, b13⟩
        have FN2 := Hid.mk (chain FN.out b13 (Nat.le_refl _))
        clear b13
        go_wp2
        go_ret
        exact ⟨rfl, FN2.out⟩
end Go.Proofs.Ytchikfabfhjkgaa
set_option linter.unusedVariables false
set_option linter.unusedSimpArgs false
namespace Go.Proofs.Ytchikfabfhjkgaa
open Go.RowKit
theorem DL.own {base : Nat} {W : World} {a : Option Addr} {c : Nat} {R : List (List En)} (h : DL base W (.slice a R.length c) R) {k : Nat} {r : List En} (hr : R[k]? = some r) :
    ∃ g la lc, a = some ⟨g, 0, none⟩ ∧ W.cell? ⟨g, k, none⟩ = some (.slice la r.length lc) ∧ W.ownsRow 0 23 5 (.slice la r.length lc) r.length (r.flatMap enC) := by
  obtain ⟨ss, h1, h2, h3⟩ := h.row
  have hk : k < R.length := (List.getElem?_eq_some_iff.1 hr).1
  have hs : ss[k]? = some ss[k] := List.getElem?_eq_getElem (by omega)
  have h4 := h3 k r _ hr hs
  obtain ⟨la, lc, e, hlc⟩ := slice_form h4
  have hg : ∃ g, a = some ⟨g, 0, none⟩ := by
    rcases h2.2 with ⟨e, e2⟩ | ⟨g, cap, cur, e, -⟩
    · omega
    · simp only [Value.slice.injEq] at e
      exact ⟨g, e.1⟩
  obtain ⟨g, rfl⟩ := hg
  refine ⟨g, la, lc, rfl, ?_, by rw [← e]; exact h4⟩
  rw [World.ownsRow.cellAt h2 k (by omega), hs, e]
/-- What turned answers. -/
def TurnO (R : List (List En)) (w : World) (r : Ending) (w' : World) : Prop := Below w.heap.size w w' ∧ ∃ a c, r = .returned (.slice a R.length c) ∧ DL w.heap.size w' (.slice a R.length c) R.reverse
set_option maxHeartbeats 4000000 in
set_option maxRecDepth 100000 in
theorem turned_any (R : List (List En)) (B : Nat) (a : Option Addr) (c : Nat) (w : World) (h : DL B w (.slice a R.length c) R) (hl : R.length ≤ 60) :
    Calls Try.prog 26 #[.slice a R.length c] w (TurnO R w) := by
  obtain ⟨n, hn⟩ : ∃ n, n = R.length := ⟨_, rfl⟩
  have HA := Hid.mk (And.intro h hn)
  rw [← hn] at hl ⊢
  clear h hn
  have hw0 : IntKind.i64.wrap ((n : Int) - 1) = (n : Int) - 1 := by rw [IntKind.wrap_i64]; omega
  go_enter Try.func26, Try.ntmps26
  go_wp2
  go_loopw [3, 4] (fun lv iv wr => ∃ (i : Nat), iv = .int .i64 ((i : Int) - 1) ∧ i ≤ n ∧ DL w.heap.size wr lv (R.drop i).reverse ∧ Below w.heap.size w wr) (fun _ iv _ => ((intOf iv) + 1).toNat)
  case atStart => exact ⟨n, rfl, Nat.le_refl _, by rw [HA.out.2, List.drop_length]; exact DL.nil _ _, Below.refl _ _⟩
  case round =>
    obtain ⟨i, rfl, hi, hD, hb⟩ := hrel
    obtain ⟨va, vc, hv, hvc⟩ := hD.form
    subst hv
    by_cases hlt : 0 < i
    · obtain ⟨j, rfl⟩ : ∃ j, i = j + 1 := ⟨i - 1, by omega⟩
      have e1 : (((j + 1 : Nat) : Int) - 1) = (j : Int) := by omega
      rw [e1]
      clear e1
      have hjn : j < R.length := by have := HA.out.2; omega
      obtain ⟨r, hr⟩ : ∃ r, R[j]? = some r := ⟨_, List.getElem?_eq_getElem hjn⟩
      obtain ⟨g, la, lc, rfl, hc, ho⟩ := (HA.out.1.lat hb).own hr
      obtain ⟨a', c', w', hap, hD', hb'⟩ := hD.push hb.size (by rw [List.length_reverse, List.length_drop]; have := HA.out.2; omega) ho rfl
      have ed : (R.drop (j + 1)).reverse ++ [r] = (R.drop j).reverse := by
        obtain ⟨h1, h2⟩ := List.getElem?_eq_some_iff.1 hr
        rw [List.drop_eq_getElem_cons hjn, List.reverse_cons, h2]
      rw [ed] at hD'
      obtain ⟨m, hm⟩ : ∃ m, m = (R.drop (j + 1)).reverse.length := ⟨_, rfl⟩
      rw [← hm] at hap hD' ⊢
      have FN := Hid.mk (And.intro hD' (hb.trans hb'))
      have j0 : (0 : Int) ≤ (j : Int) := by omega
      have j1 : (j : Int) < (n : Int) := by omega
      have hw1 : IntKind.i64.wrap ((j : Int) - 1) = (j : Int) - 1 := by rw [IntKind.wrap_i64]; omega
      clear hD hb ho hr hD' hb' ed hvc hm hlt
      go_wp2_with (at_builtin; refine wpList_append_eq rfl _ _ _ _ rfl _ _ _ _ rfl rfl hap ?_; clear hap)
      refine ⟨⟨j, rfl, by omega, FN.out.1, FN.out.2⟩, by simp only [intOf]; omega⟩
    · have : i = 0 := by omega
      subst this
      rw [List.drop_zero] at hD
      rw [List.drop_zero]
      have FN := Hid.mk (And.intro hb hD)
      obtain ⟨m, hm⟩ : ∃ m, m = R.reverse.length := ⟨_, rfl⟩
      have HM := Hid.mk hm
      rw [← hm]
      clear hD hb hvc hm
      go_wp2
      go_ret
      refine ⟨FN.out.1, va, vc, ?_, ?_⟩
      · rw [HM.out, List.length_reverse]; rfl
      · have := FN.out.2; rw [List.length_reverse] at this; exact this
theorem LL.take {w : World} {la : Option Addr} {R : List (List En)} (h : LL w la R) (k : Nat) : LL w la (R.take k) := ⟨fun i r hr => by
  rw [List.getElem?_take] at hr
  split at hr
  · exact h.at' i r hr
  · cases hr⟩
theorem LL.drop {w : World} {lb lo : Nat} {R : List (List En)} (h : LL w (some ⟨lb, lo, none⟩) R) (k : Nat) : LL w (some ⟨lb, lo + k, none⟩) (R.drop k) := ⟨fun i r hr => by
  rw [List.getElem?_drop] at hr
  obtain ⟨lb', lo', a, c, e, h2, h3⟩ := h.at' _ r hr
  cases e
  exact ⟨lb, lo + k, a, c, rfl, by rw [Nat.add_assoc]; exact h2, h3⟩⟩
theorem sub_flat : ∀ {P R : List (List En)}, P.Sublist R → P.flatten.Sublist R.flatten
  | _, _, .slnil => List.Sublist.refl _
  | P, a :: R, .cons _ h => by rw [List.flatten_cons]; exact (sub_flat h).trans (List.sublist_append_right a R.flatten)
  | a :: P, _ :: R, .cons_cons _ h => by rw [List.flatten_cons, List.flatten_cons]; exact List.Sublist.append (List.Sublist.refl a) (sub_flat h)
theorem FR.part {F : List En} {R : List (List En)} (h : FR F R) {P : List (List En)} (hs : P.Sublist R) {w : World} {la : Option Addr} (k : LL w la P) (lc : Nat) (bottom : Bool) : Calls Try.prog 24 #[.slice la P.length lc, .bool bottom] w (MgO P bottom w) := by
  have hfl : P.flatten.Sublist R.flatten := sub_flat hs
  refine merge_told P la lc bottom w k (by have := hs.length_le; have := h.rl; have := h.l; omega) (fun r hr => h.cc r (hs.subset hr)) (by have := hfl.length_le; rw [h.ri.flat.length_eq] at this; have := h.l; omega) (fun r hr => h.ri.up r (hs.subset hr)) (List.Pairwise.sublist hfl h.uu)
theorem nd_len : ∀ {l m : List En}, l.Nodup → (∀ x ∈ l, x ∈ m) → l.length ≤ m.length
  | [], m, _, _ => Nat.zero_le _
  | a :: l, m, hn, hs => by
    obtain ⟨h1, h2⟩ := List.nodup_cons.1 hn
    obtain ⟨s, t, rfl⟩ := List.append_of_mem (hs a (by simp))
    have := nd_len (l := l) (m := s ++ t) h2 (fun x hx => by
      have h3 := hs x (List.mem_cons_of_mem _ hx)
      simp only [List.mem_append, List.mem_cons] at h3 ⊢
      rcases h3 with h | rfl | h
      · exact .inl h
      · exact absurd hx h1
      · exact .inr h)
    simp at this ⊢
    omega
theorem Told.len {R : List (List En)} {bottom : Bool} {out : List En} (h : Told R bottom out) : out.length ≤ R.flatten.length := by
  have nd : out.Nodup := h.up.imp (fun {a b} hab e => by subst e; have := cpE_self a; omega)
  exact nd_len nd (fun x hx => ((h.mem x).1 hx).1.1)
theorem both_uniq {A B : List (List En)} {l m : List En} (h : Told A false l) (k : Told B false m) (hu : Uniq (A ++ B).flatten) : Uniq ([l, m] : List (List En)).flatten := by
  rw [List.flatten_append] at hu
  have e1 : ([l, m] : List (List En)).flatten = l ++ m := by simp
  rw [e1]
  refine List.pairwise_append.2 ⟨h.up.imp (fun {a b} hab e => by omega), k.up.imp (fun {a b} hab e => by omega), fun a ha b hb => ?_⟩
  exact (List.pairwise_append.1 hu).2.2 a ((h.mem a).1 ha).1.1 b ((k.mem b).1 hb).1.1
end Go.Proofs.Ytchikfabfhjkgaa
set_option linter.unusedVariables false
set_option linter.unusedSimpArgs false
namespace Go.Proofs.Ytchikfabfhjkgaa
open Go.RowKit
/-- Two lists that are there, as a list of lists. -/
theorem pair_ll {W : World} {p q : List En} {pa qa : Option Addr} {pc qc : Nat} (hp : LAt W pa p) (hq : LAt W qa q) (h1 : p.length ≤ pc) (h2 : q.length ≤ qc) (h3 : p.length ≤ 60) (h4 : q.length ≤ 60) :
    LL (W.alloc (.cells #[.slice pa p.length pc, .slice qa q.length qc] 24)) (some ⟨W.heap.size, 0, none⟩) [p, q] := by
  have b : Below W.heap.size W (W.alloc (.cells #[.slice pa p.length pc, .slice qa q.length qc] 24)) := (Below.refl _ W).alloc (Nat.le_refl _) _
  have c3 := fun j u hu => new_cells W [.slice pa p.length pc, .slice qa q.length qc] 24 j u hu
  have ad : ∀ j, (⟨W.heap.size, 0, none⟩ : Addr).add j = ⟨W.heap.size, 0 + j, none⟩ := fun j => by unfold Addr.add; split <;> simp_all
  refine ⟨fun i r hr => ?_⟩
  match i, hr with
  | 0, hr =>
    cases hr
    have := c3 0 _ rfl
    rw [ad] at this
    exact ⟨_, _, _, _, rfl, this, h1, hp.below b, by omega⟩
  | 1, hr =>
    cases hr
    have := c3 1 _ rfl
    rw [ad] at this
    exact ⟨_, _, _, _, rfl, this, h2, hq.below b, by omega⟩
  | _ + 2, hr => simp at hr
/-- Where a slice from k on lies. -/
def offA (ga : Option Addr) (gc k : Nat) : Option Addr := match ga with
  | none => none
  | some a => if gc = k then some a else some (a.add k)
/-- A list that Merge has told, at a world. -/
structure OL (W : World) (a : Option Addr) (l : List En) (c : Nat) : Prop where
  o : W.ownsRow 0 23 5 (.slice a l.length c) l.length (l.flatMap enC)
theorem OL.lat {W W' : World} {a : Option Addr} {l : List En} {c : Nat} (h : OL W a l c) (b : Below W.heap.size W W') : OL W' a l c := ⟨row_kept h.o (F := fun _ => False) (.below b) (fun _ _ h => h)⟩
theorem OL.la {W : World} {a : Option Addr} {l : List En} {c : Nat} (h : OL W a l c) : LAt W a l := by
  obtain ⟨a', c', e, -, hl⟩ := own_lat h.o
  cases e
  exact hl
theorem OL.cap {W : World} {a : Option Addr} {l : List En} {c : Nat} (h : OL W a l c) : l.length ≤ c := by
  obtain ⟨a', c', e, hc⟩ := slice_form h.o
  cases e
  exact hc
theorem FR.rev {F : List En} {R : List (List En)} (h : FR F R) : R.reverse.flatten.Perm F := (List.Perm.flatten (List.reverse_perm R)).trans h.ri.flat
theorem FR.tl {F : List En} {R P : List (List En)} (h : FR F R) (hs : P.flatten.length ≤ R.flatten.length) {bottom : Bool} {out : List En} (t : Told P bottom out) : out.length ≤ 60 := by
  have := t.len
  rw [h.ri.flat.length_eq] at hs
  have := h.l
  omega
theorem FR.both {F : List En} {R : List (List En)} (h : FR F R) (k : Nat) {p q : List En} (hp : Told (R.take k) false p) (hq : Told (R.drop k) false q) {W : World} {la : Option Addr} (hl : LL W la [p, q]) (lc : Nat) (bottom : Bool) :
    Calls Try.prog 24 #[.slice la 2 lc, .bool bottom] W (MgO [p, q] bottom W) := by
  have e : R.take k ++ R.drop k = R := List.take_append_drop k R
  have hm : ∀ x, (x ∈ p ∨ x ∈ q) → x ∈ F := fun x hx => h.ri.flat.mem_iff.1 (by
    rw [← e, List.flatten_append]
    rcases hx with hx | hx
    · exact List.mem_append_left _ ((hp.mem x).1 hx).1.1
    · exact List.mem_append_right _ ((hq.mem x).1 hx).1.1)
  have s1 : (R.take k).flatten.length + (R.drop k).flatten.length = R.flatten.length := by
    conv => rhs; rw [← e, List.flatten_append, List.length_append]
  have l1 : p.length ≤ 60 := h.tl (by omega) hp
  have l2 : q.length ≤ 60 := h.tl (by omega) hq
  refine merge_told [p, q] la lc bottom W hl (by simp) (fun r hr x hx => ?_) (by simp; omega) (fun r hr => ?_) (both_uniq hp hq (by rw [e]; exact h.uu))
  · simp only [List.mem_cons, List.not_mem_nil, or_false] at hr
    rcases hr with rfl | rfl
    · exact h.c x (hm x (.inl hx))
    · exact h.c x (hm x (.inr hx))
  · simp only [List.mem_cons, List.not_mem_nil, or_false] at hr
    rcases hr with rfl | rfl
    · exact hp.up
    · exact hq.up
set_option maxHeartbeats 8000000 in
set_option maxRecDepth 100000 in
theorem law_groups (all : List En) (la : Option Addr) (lc : Nat) (ts : List Int) (ta : Option Addr) (tc : Nat) (os : List Int) (oa : Option Addr) (oc : Nat) (cut : Int) (bottom : Bool) (w : World) (h : LAt w la all) (hl : all.length < 4611686018427387904) (ht : IAt w ta ts) (htl : ts.length < 4611686018427387904) (hot : IAt w oa os) (hol : os.length < 4611686018427387904) (hcs : ∀ e ∈ all, e.c.size ≤ 281474976710656) :
    Calls Try.prog 6 #[.slice la all.length lc, .slice ta ts.length tc, .slice oa os.length oc, .int .i64 cut, .bool bottom] w fun r w' => r = .returned (.bool true) ∧ Below w.heap.size w w' := by
  have hbg := begun_any w
  have hfr := fun W (b : Below w.heap.size w W) => fresh_any all la lc W (h.below b) hl
  have HT := Hid.mk (And.intro ht (And.intro htl (And.intro hcs (And.intro hot hol))))
  clear h ht hcs hot
  go_enter Try.func6, Try.ntmps6
  go_wp2_with fail
  refine hbg.mono ?_
  clear hbg
  rintro r w1 ⟨rfl, b1⟩
  replace hfr := hfr w1 b1
  go_wp2_with fail
  refine hfr.mono ?_
  clear hfr
  rintro r w2 ⟨b2, F, v, hu, hl60, hsub, rfl, ho, hg⟩
  obtain ⟨fa, fc, rfl, hfc⟩ := slice_form ho
  have bw2 := chain b1 b2 (Nat.le_refl _)
  have hL2 : LAt w2 fa F := by
    obtain ⟨a, c, e, -, hl⟩ := own_lat ho
    cases e
    exact hl
  have hde := dealt_any F fa fc ts ta tc w2 hL2 hl60 (HT.out.1.below bw2) HT.out.2.1
  have HO := Hid.mk (And.intro ho (And.intro bw2 (And.intro hu (And.intro hl60 hsub))))
  clear ho bw2 hL2 b1 b2 hg hu hl60 hsub
  go_wp2_with fail
  refine hde.mono ?_
  clear hde
  rintro r w3 ⟨b3, R, lv, hri, hrl, rfl, hdl⟩
  obtain ⟨ga, gc, rfl, hgc⟩ := hdl.form
  have fr : FR F R := ⟨HO.out.2.2.1, HO.out.2.2.2.1, fun e he => HT.out.2.2.1 e (HO.out.2.2.2.2 e he), hri, hrl⟩
  have K3 : MW w w2.heap.size F fa fc R (.slice ga R.length gc) w3 := ⟨row_kept HO.out.1 (F := fun _ => False) (.below b3) (fun _ _ h => h), hdl, chain HO.out.2.1 b3 (Nat.le_refl _), b3.size⟩
  have hm1 := fr.merge K3 bottom
  have H := Hid.mk (And.intro fr (And.intro K3 (And.intro HO.out.2.1 (And.intro HT.out.2.2.2.1 (And.intro HT.out.2.2.2.2 HT.out.2.2.1)))))
  have hf60 := fr.l
  have hr60 : R.length ≤ 60 := by omega
  clear fr K3 HO HT hri hrl hdl b3
  obtain ⟨fn, hfn⟩ : ∃ n, n = F.length := ⟨_, rfl⟩
  obtain ⟨rn, hrn⟩ : ∃ n, n = R.length := ⟨_, rfl⟩
  have HN := Hid.mk (And.intro hfn hrn)
  rw [← hrn] at hm1
  rw [← hrn] at hr60 hgc
  rw [← hfn] at hf60 hfc
  rw [← hfn, ← hrn]
  clear hfn hrn
  go_wp2_with fail
  refine hm1.mono ?_
  clear hm1
  rintro r w4 ⟨b4, A, aa, ac, tA, rfl, hoA⟩
  have K4 := H.out.2.1.lat b4
  have hAl : A.length ≤ 60 := H.out.1.tl (Nat.le_refl _) tA
  have htu := turned_any R w2.heap.size ga gc w4 K4.dl (by have := HN.out.2; omega)
  have H4 := Hid.mk (And.intro K4 (And.intro tA (OL.mk hoA)))
  rw [← HN.out.2] at htu
  clear b4 K4 tA hoA
  go_wp2_with fail
  refine htu.mono ?_
  clear htu
  rintro r w5 ⟨b5, ba, bc, rfl, hD5⟩
  have hrl : R.reverse.length = R.length := List.length_reverse
  have hm2 := merge_told R.reverse ba bc bottom w5 (by rw [← hrl] at hD5; exact hD5.ll (fun r hr => H.out.1.short r (List.mem_reverse.1 hr))) (by have := HN.out.2; omega) (fun r hr => H.out.1.cc r (List.mem_reverse.1 hr)) (by rw [H.out.1.rev.length_eq]; have := HN.out.1; omega) (fun r hr => H.out.1.ri.up r (List.mem_reverse.1 hr)) ((Uniq.perm H.out.1.rev).2 H.out.1.u)
  rw [hrl] at hm2
  have H5 := Hid.mk (And.intro (H4.out.1.lat b5) (And.intro H4.out.2.1 (H4.out.2.2.lat b5)))
  rw [← HN.out.2] at hm2
  rw [← HN.out.2]
  clear b5 hD5 H4 hrl
  go_wp2_with fail
  refine hm2.mono ?_
  clear hm2
  rintro r w6 ⟨b6, A', xa, xc, tA', rfl, hoA'⟩
  have e1 : A = A' := H5.out.2.1.one tA' (fun x => by rw [Top.perm H.out.1.ri.flat, Top.perm H.out.1.rev])
  subst e1
  have K6 := H5.out.1.lat b6
  have hde := dealt_any F fa fc os oa oc w6 K6.la H.out.1.l (H.out.2.2.2.1.below K6.bw) H.out.2.2.2.2.1
  have H6 := Hid.mk (And.intro K6 (And.intro H5.out.2.1 (And.intro (H5.out.2.2.lat b6) (OL.mk hoA'))))
  rw [← HN.out.1] at hde
  clear b6 K6 tA' hoA' H5
  go_wp2_with fail
  refine hde.mono ?_
  clear hde
  rintro r w7 ⟨b7, S, sv, hri, hrl, rfl, hdl⟩
  obtain ⟨sa, sc, rfl, -⟩ := hdl.form
  have fs : FR F S := ⟨H.out.1.u, H.out.1.l, H.out.1.c, hri, hrl⟩
  have K7 := H6.out.1.lat b7
  have hm3 := fs.part (List.Sublist.refl S) (hdl.ll fs.short) sc bottom
  have H7 := Hid.mk (And.intro K7 (And.intro H6.out.2.1 (And.intro (H6.out.2.2.1.lat b7) (And.intro (H6.out.2.2.2.lat b7) fs))))
  clear b7 K7 hdl hri hrl fs H6
  obtain ⟨sn, hsn⟩ : ∃ n, n = S.length := ⟨_, rfl⟩
  rw [← hsn] at hm3 ⊢
  clear hsn
  go_wp2_with fail
  refine hm3.mono ?_
  clear hm3
  rintro r w8 ⟨b8, A', ya, yc, tA', rfl, hoA'⟩
  have e1 : A = A' := H7.out.2.1.one tA' (fun x => by rw [Top.perm H.out.1.ri.flat, Top.perm H7.out.2.2.2.2.ri.flat])
  subst e1
  have H8 := Hid.mk (And.intro (H7.out.1.lat b8) (And.intro H7.out.2.1 (And.intro (H7.out.2.2.1.lat b8) (And.intro (H7.out.2.2.2.1.lat b8) (OL.mk hoA')))))
  clear b8 tA' hoA' H7
  by_cases hcut : 0 ≤ cut ∧ cut ≤ (rn : Int)
  · obtain ⟨k, rfl⟩ : ∃ k : Nat, cut = (k : Int) := ⟨cut.toNat, by omega⟩
    have hk1 : ¬ ((k : Int) < 0) := by omega
    have hk2 : ¬ ((rn : Int) < (k : Int)) := by omega
    have hk3 : k ≤ rn := by omega
    have hk4 : 0 ≤ (k : Int) := by omega
    have hk5 : (k : Int) ≤ (rn : Int) := by omega
    clear hcut
    have LL8 := H8.out.1.dl.ll H.out.1.short
    have s1 : (R.take k).length = k := by rw [List.length_take]; have := HN.out.2; omega
    have s2 : (R.drop k).length = rn - k := by rw [List.length_drop, HN.out.2]
    have hmL := H.out.1.part (List.take_sublist k R) (LL8.take k) gc false
    rw [s1] at hmL
    clear s1 LL8
    have hkc : k ≤ gc := by omega
    go_wp2_with fail
    refine hmL.mono ?_
    clear hmL
    rintro r w9 ⟨b9, P, pa, pc, tP, rfl, hoP⟩
    have H9 := Hid.mk (And.intro (H8.out.1.lat b9) (And.intro H8.out.2.1 (And.intro (H8.out.2.2.1.lat b9) (And.intro (H8.out.2.2.2.1.lat b9) (And.intro (H8.out.2.2.2.2.lat b9) (And.intro tP (OL.mk hoP)))))))
    clear b9 tP hoP H8
    have LL9 := H9.out.1.dl.ll H.out.1.short
    obtain ⟨d1, hd1⟩ : ∃ d, rn - k = d := ⟨_, rfl⟩
    obtain ⟨d2, hd2⟩ : ∃ d, gc - k = d := ⟨_, rfl⟩
    have hgr : R ≠ [] → ∃ g, ga = some ⟨g, 0, none⟩ := fun hne => by
      obtain ⟨r, hr⟩ : ∃ r, R[0]? = some r := ⟨_, List.getElem?_eq_getElem (List.length_pos_iff.2 hne)⟩
      obtain ⟨g, -, -, e, -⟩ := H9.out.1.dl.at' hr
      exact ⟨g, e⟩
    obtain ⟨a3, ha3, LL3⟩ : ∃ a3, offA ga gc k = a3 ∧ LL w9 a3 (R.drop k) := by
      refine ⟨_, rfl, ?_⟩
      by_cases hne : R.drop k = []
      · rw [hne]; exact ⟨fun i r hr => by simp at hr⟩
      · have hR : R ≠ [] := fun e => hne (by rw [e]; simp)
        obtain ⟨g, rfl⟩ := hgr hR
        have hkr : k < R.length := by
          rcases Nat.lt_or_ge k R.length with q | q
          · exact q
          · exact absurd (List.drop_eq_nil_of_le q) hne
        have hgk : ¬ gc = k := by have := HN.out.2; omega
        simp only [offA, hgk, if_false]
        have e2 : (⟨g, 0, none⟩ : Addr).add k = ⟨g, 0 + k, none⟩ := by unfold Addr.add; split <;> simp_all
        rw [e2]
        exact LL9.drop k
    have hmR := H.out.1.part (List.drop_sublist k R) LL3 d2 false
    rw [s2, hd1] at hmR
    clear LL9 LL3 s2 hgr
    cases ga with
    | none =>
      simp only [offA] at ha3
      subst ha3
      go_wp2_with fail
      refine hmR.mono ?_
      clear hmR hd1 hd2 
      rintro r w10 ⟨b10, Q, qa, qc, tQ, rfl, hoQ⟩
      have oQ := OL.mk hoQ
      have oP := H9.out.2.2.2.2.2.2.lat b10
      have tP := H9.out.2.2.2.2.2.1
      have zz : (R.take k).flatten.length + (R.drop k).flatten.length = R.flatten.length := by
        conv => rhs; rw [← List.take_append_drop k R, List.flatten_append, List.length_append]
      have lP : P.length ≤ 60 := H.out.1.tl (by omega) tP
      have lQ : Q.length ≤ 60 := H.out.1.tl (by omega) tQ
      have hmB := H.out.1.both k tP tQ (pair_ll oP.la oQ.la oP.cap oQ.cap lP lQ) 2 bottom
      have bA : Below w10.heap.size w10 (w10.alloc (.cells #[.slice pa P.length pc, .slice qa Q.length qc] 24)) := (Below.refl _ w10).alloc (Nat.le_refl _) _
      have H10 := Hid.mk (And.intro (chain H9.out.1.bw (chain b10 bA (Nat.le_refl _)) (Nat.le_refl _)) (And.intro H9.out.2.1 (And.intro ((H9.out.2.2.1.lat b10).lat bA) (And.intro ((H9.out.2.2.2.1.lat b10).lat bA) (And.intro ((H9.out.2.2.2.2.1.lat b10).lat bA) (And.intro tP tQ))))))
      clear oQ oP tP tQ zz bA b10 hoQ H9
      obtain ⟨np, hnp⟩ : ∃ n, n = P.length := ⟨_, rfl⟩
      obtain ⟨nq, hnq⟩ : ∃ n, n = Q.length := ⟨_, rfl⟩
      have HPQ := Hid.mk (And.intro hnp hnq)
      rw [← hnp, ← hnq] at hmB H10 ⊢
      clear hnp hnq
      go_wp2_with fail
      refine hmB.mono ?_
      clear hmB
      rintro r w11 ⟨b11, C, ca, cc, tC, rfl, hoC⟩
      have e1 : A = C := H10.out.2.1.one tC (fun x => by rw [H10.out.2.2.2.2.2.1.both H10.out.2.2.2.2.2.2 x, List.take_append_drop])
      subst e1
      have H11 := Hid.mk (And.intro (chain H10.out.1 b11 (Nat.le_refl _)) (And.intro (H10.out.2.2.1.lat b11) (And.intro (H10.out.2.2.2.1.lat b11) (And.intro (H10.out.2.2.2.2.1.lat b11) (OL.mk hoC)))))
      clear b11 tC hoC H10
      have hs1 := same_any A aa xa ac xc w11 H11.out.2.1.la H11.out.2.2.1.la (by omega)
      obtain ⟨an, han⟩ : ∃ n, n = A.length := ⟨_, rfl⟩
      have HAN := Hid.mk han
      rw [← han] at hs1 ⊢
      clear han
      go_wp2_with fail
      refine hs1.mono ?_
      clear hs1
      rintro r w12 ⟨rfl, d12⟩
      have b12 : Below w11.heap.size w11 w12 := d12.below _
      have H12 := Hid.mk (And.intro (chain H11.out.1 b12 (Nat.le_refl _)) (And.intro (H11.out.2.1.lat b12) (And.intro (H11.out.2.2.2.1.lat b12) (H11.out.2.2.2.2.lat b12))))
      have hs2 := same_any A aa ya ac yc w12 H12.out.2.1.la H12.out.2.2.1.la (by omega)
      rw [← HAN.out] at hs2
      clear b12 d12 H11
      go_wp2_with fail
      refine hs2.mono ?_
      clear hs2
      rintro r w13 ⟨rfl, d13⟩
      have b13 : Below w12.heap.size w12 w13 := d13.below _
      have H13 := Hid.mk (And.intro (chain H12.out.1 b13 (Nat.le_refl _)) (And.intro (H12.out.2.1.lat b13) (H12.out.2.2.2.lat b13)))
      have hs3 := same_any A aa ca ac cc w13 H13.out.2.1.la H13.out.2.2.la (by omega)
      rw [← HAN.out] at hs3
      clear b13 d13 H12
      go_wp2_with fail
      refine hs3.mono ?_
      clear hs3
      rintro r w14 ⟨rfl, d14⟩
      have b14 : Below w13.heap.size w13 w14 := d14.below _
      have H14 := Hid.mk (chain H13.out.1 b14 (Nat.le_refl _))
      clear b14 d14 H13
      go_wp2
      go_ret
      exact ⟨rfl, H14.out⟩
    | some a =>
      simp only [offA] at ha3
      go_wp2_with fail
      refine hmR.mono ?_
      clear hmR hd1 hd2 ha3
      rintro r w10 ⟨b10, Q, qa, qc, tQ, rfl, hoQ⟩
      have oQ := OL.mk hoQ
      have oP := H9.out.2.2.2.2.2.2.lat b10
      have tP := H9.out.2.2.2.2.2.1
      have zz : (R.take k).flatten.length + (R.drop k).flatten.length = R.flatten.length := by
        conv => rhs; rw [← List.take_append_drop k R, List.flatten_append, List.length_append]
      have lP : P.length ≤ 60 := H.out.1.tl (by omega) tP
      have lQ : Q.length ≤ 60 := H.out.1.tl (by omega) tQ
      have hmB := H.out.1.both k tP tQ (pair_ll oP.la oQ.la oP.cap oQ.cap lP lQ) 2 bottom
      have bA : Below w10.heap.size w10 (w10.alloc (.cells #[.slice pa P.length pc, .slice qa Q.length qc] 24)) := (Below.refl _ w10).alloc (Nat.le_refl _) _
      have H10 := Hid.mk (And.intro (chain H9.out.1.bw (chain b10 bA (Nat.le_refl _)) (Nat.le_refl _)) (And.intro H9.out.2.1 (And.intro ((H9.out.2.2.1.lat b10).lat bA) (And.intro ((H9.out.2.2.2.1.lat b10).lat bA) (And.intro ((H9.out.2.2.2.2.1.lat b10).lat bA) (And.intro tP tQ))))))
      clear oQ oP tP tQ zz bA b10 hoQ H9
      obtain ⟨np, hnp⟩ : ∃ n, n = P.length := ⟨_, rfl⟩
      obtain ⟨nq, hnq⟩ : ∃ n, n = Q.length := ⟨_, rfl⟩
      have HPQ := Hid.mk (And.intro hnp hnq)
      rw [← hnp, ← hnq] at hmB H10 ⊢
      clear hnp hnq
      go_wp2_with fail
      refine hmB.mono ?_
      clear hmB
      rintro r w11 ⟨b11, C, ca, cc, tC, rfl, hoC⟩
      have e1 : A = C := H10.out.2.1.one tC (fun x => by rw [H10.out.2.2.2.2.2.1.both H10.out.2.2.2.2.2.2 x, List.take_append_drop])
      subst e1
      have H11 := Hid.mk (And.intro (chain H10.out.1 b11 (Nat.le_refl _)) (And.intro (H10.out.2.2.1.lat b11) (And.intro (H10.out.2.2.2.1.lat b11) (And.intro (H10.out.2.2.2.2.1.lat b11) (OL.mk hoC)))))
      clear b11 tC hoC H10
      have hs1 := same_any A aa xa ac xc w11 H11.out.2.1.la H11.out.2.2.1.la (by omega)
      obtain ⟨an, han⟩ : ∃ n, n = A.length := ⟨_, rfl⟩
      have HAN := Hid.mk han
      rw [← han] at hs1 ⊢
      clear han
      go_wp2_with fail
      refine hs1.mono ?_
      clear hs1
      rintro r w12 ⟨rfl, d12⟩
      have b12 : Below w11.heap.size w11 w12 := d12.below _
      have H12 := Hid.mk (And.intro (chain H11.out.1 b12 (Nat.le_refl _)) (And.intro (H11.out.2.1.lat b12) (And.intro (H11.out.2.2.2.1.lat b12) (H11.out.2.2.2.2.lat b12))))
      have hs2 := same_any A aa ya ac yc w12 H12.out.2.1.la H12.out.2.2.1.la (by omega)
      rw [← HAN.out] at hs2
      clear b12 d12 H11
      go_wp2_with fail
      refine hs2.mono ?_
      clear hs2
      rintro r w13 ⟨rfl, d13⟩
      have b13 : Below w12.heap.size w12 w13 := d13.below _
      have H13 := Hid.mk (And.intro (chain H12.out.1 b13 (Nat.le_refl _)) (And.intro (H12.out.2.1.lat b13) (H12.out.2.2.2.lat b13)))
      have hs3 := same_any A aa ca ac cc w13 H13.out.2.1.la H13.out.2.2.la (by omega)
      rw [← HAN.out] at hs3
      clear b13 d13 H12
      go_wp2_with fail
      refine hs3.mono ?_
      clear hs3
      rintro r w14 ⟨rfl, d14⟩
      have b14 : Below w13.heap.size w13 w14 := d14.below _
      have H14 := Hid.mk (chain H13.out.1 b14 (Nat.le_refl _))
      clear b14 d14 H13
      go_wp2
      go_ret
      exact ⟨rfl, H14.out⟩
  · have hcut2 : cut < 0 ∨ (0 ≤ cut ∧ (rn : Int) < cut) := by omega
    rcases hcut2 with c1 | ⟨c1, c2⟩
    · clear hcut
      obtain ⟨k, hkd⟩ : ∃ k : Nat, k = rn / 2 := ⟨_, rfl⟩
      have hdv : (rn : Int).tdiv 2 = (k : Int) := by rw [hkd]; exact (Int.ofNat_tdiv rn 2).symm
      have hdw : IntKind.i64.wrap (k : Int) = (k : Int) := by rw [IntKind.wrap_i64]; omega
      have hk3 : k ≤ rn := by omega
      have hk4 : 0 ≤ (k : Int) := by omega
      have hk5 : (k : Int) ≤ (rn : Int) := by omega
      clear hkd
      have LL8 := H8.out.1.dl.ll H.out.1.short
      have s1 : (R.take k).length = k := by rw [List.length_take]; have := HN.out.2; omega
      have s2 : (R.drop k).length = rn - k := by rw [List.length_drop, HN.out.2]
      have hmL := H.out.1.part (List.take_sublist k R) (LL8.take k) gc false
      rw [s1] at hmL
      clear s1 LL8
      have hkc : k ≤ gc := by omega
      go_wp2_with fail
      refine hmL.mono ?_
      clear hmL
      rintro r w9 ⟨b9, P, pa, pc, tP, rfl, hoP⟩
      have H9 := Hid.mk (And.intro (H8.out.1.lat b9) (And.intro H8.out.2.1 (And.intro (H8.out.2.2.1.lat b9) (And.intro (H8.out.2.2.2.1.lat b9) (And.intro (H8.out.2.2.2.2.lat b9) (And.intro tP (OL.mk hoP)))))))
      clear b9 tP hoP H8
      have LL9 := H9.out.1.dl.ll H.out.1.short
      obtain ⟨d1, hd1⟩ : ∃ d, rn - k = d := ⟨_, rfl⟩
      obtain ⟨d2, hd2⟩ : ∃ d, gc - k = d := ⟨_, rfl⟩
      have hgr : R ≠ [] → ∃ g, ga = some ⟨g, 0, none⟩ := fun hne => by
        obtain ⟨r, hr⟩ : ∃ r, R[0]? = some r := ⟨_, List.getElem?_eq_getElem (List.length_pos_iff.2 hne)⟩
        obtain ⟨g, -, -, e, -⟩ := H9.out.1.dl.at' hr
        exact ⟨g, e⟩
      obtain ⟨a3, ha3, LL3⟩ : ∃ a3, offA ga gc k = a3 ∧ LL w9 a3 (R.drop k) := by
        refine ⟨_, rfl, ?_⟩
        by_cases hne : R.drop k = []
        · rw [hne]; exact ⟨fun i r hr => by simp at hr⟩
        · have hR : R ≠ [] := fun e => hne (by rw [e]; simp)
          obtain ⟨g, rfl⟩ := hgr hR
          have hkr : k < R.length := by
            rcases Nat.lt_or_ge k R.length with q | q
            · exact q
            · exact absurd (List.drop_eq_nil_of_le q) hne
          have hgk : ¬ gc = k := by have := HN.out.2; omega
          simp only [offA, hgk, if_false]
          have e2 : (⟨g, 0, none⟩ : Addr).add k = ⟨g, 0 + k, none⟩ := by unfold Addr.add; split <;> simp_all
          rw [e2]
          exact LL9.drop k
      have hmR := H.out.1.part (List.drop_sublist k R) LL3 d2 false
      rw [s2, hd1] at hmR
      clear LL9 LL3 s2 hgr
      cases ga with
      | none =>
        simp only [offA] at ha3
        subst ha3
        go_wp2_with fail
        refine hmR.mono ?_
        clear hmR hd1 hd2 
        rintro r w10 ⟨b10, Q, qa, qc, tQ, rfl, hoQ⟩
        have oQ := OL.mk hoQ
        have oP := H9.out.2.2.2.2.2.2.lat b10
        have tP := H9.out.2.2.2.2.2.1
        have zz : (R.take k).flatten.length + (R.drop k).flatten.length = R.flatten.length := by
          conv => rhs; rw [← List.take_append_drop k R, List.flatten_append, List.length_append]
        have lP : P.length ≤ 60 := H.out.1.tl (by omega) tP
        have lQ : Q.length ≤ 60 := H.out.1.tl (by omega) tQ
        have hmB := H.out.1.both k tP tQ (pair_ll oP.la oQ.la oP.cap oQ.cap lP lQ) 2 bottom
        have bA : Below w10.heap.size w10 (w10.alloc (.cells #[.slice pa P.length pc, .slice qa Q.length qc] 24)) := (Below.refl _ w10).alloc (Nat.le_refl _) _
        have H10 := Hid.mk (And.intro (chain H9.out.1.bw (chain b10 bA (Nat.le_refl _)) (Nat.le_refl _)) (And.intro H9.out.2.1 (And.intro ((H9.out.2.2.1.lat b10).lat bA) (And.intro ((H9.out.2.2.2.1.lat b10).lat bA) (And.intro ((H9.out.2.2.2.2.1.lat b10).lat bA) (And.intro tP tQ))))))
        clear oQ oP tP tQ zz bA b10 hoQ H9
        obtain ⟨np, hnp⟩ : ∃ n, n = P.length := ⟨_, rfl⟩
        obtain ⟨nq, hnq⟩ : ∃ n, n = Q.length := ⟨_, rfl⟩
        have HPQ := Hid.mk (And.intro hnp hnq)
        rw [← hnp, ← hnq] at hmB H10 ⊢
        clear hnp hnq
        go_wp2_with fail
        refine hmB.mono ?_
        clear hmB
        rintro r w11 ⟨b11, C, ca, cc, tC, rfl, hoC⟩
        have e1 : A = C := H10.out.2.1.one tC (fun x => by rw [H10.out.2.2.2.2.2.1.both H10.out.2.2.2.2.2.2 x, List.take_append_drop])
        subst e1
        have H11 := Hid.mk (And.intro (chain H10.out.1 b11 (Nat.le_refl _)) (And.intro (H10.out.2.2.1.lat b11) (And.intro (H10.out.2.2.2.1.lat b11) (And.intro (H10.out.2.2.2.2.1.lat b11) (OL.mk hoC)))))
        clear b11 tC hoC H10
        have hs1 := same_any A aa xa ac xc w11 H11.out.2.1.la H11.out.2.2.1.la (by omega)
        obtain ⟨an, han⟩ : ∃ n, n = A.length := ⟨_, rfl⟩
        have HAN := Hid.mk han
        rw [← han] at hs1 ⊢
        clear han
        go_wp2_with fail
        refine hs1.mono ?_
        clear hs1
        rintro r w12 ⟨rfl, d12⟩
        have b12 : Below w11.heap.size w11 w12 := d12.below _
        have H12 := Hid.mk (And.intro (chain H11.out.1 b12 (Nat.le_refl _)) (And.intro (H11.out.2.1.lat b12) (And.intro (H11.out.2.2.2.1.lat b12) (H11.out.2.2.2.2.lat b12))))
        have hs2 := same_any A aa ya ac yc w12 H12.out.2.1.la H12.out.2.2.1.la (by omega)
        rw [← HAN.out] at hs2
        clear b12 d12 H11
        go_wp2_with fail
        refine hs2.mono ?_
        clear hs2
        rintro r w13 ⟨rfl, d13⟩
        have b13 : Below w12.heap.size w12 w13 := d13.below _
        have H13 := Hid.mk (And.intro (chain H12.out.1 b13 (Nat.le_refl _)) (And.intro (H12.out.2.1.lat b13) (H12.out.2.2.2.lat b13)))
        have hs3 := same_any A aa ca ac cc w13 H13.out.2.1.la H13.out.2.2.la (by omega)
        rw [← HAN.out] at hs3
        clear b13 d13 H12
        go_wp2_with fail
        refine hs3.mono ?_
        clear hs3
        rintro r w14 ⟨rfl, d14⟩
        have b14 : Below w13.heap.size w13 w14 := d14.below _
        have H14 := Hid.mk (chain H13.out.1 b14 (Nat.le_refl _))
        clear b14 d14 H13
        go_wp2
        go_ret
        exact ⟨rfl, H14.out⟩
      | some a =>
        simp only [offA] at ha3
        go_wp2_with fail
        refine hmR.mono ?_
        clear hmR hd1 hd2 ha3
        rintro r w10 ⟨b10, Q, qa, qc, tQ, rfl, hoQ⟩
        have oQ := OL.mk hoQ
        have oP := H9.out.2.2.2.2.2.2.lat b10
        have tP := H9.out.2.2.2.2.2.1
        have zz : (R.take k).flatten.length + (R.drop k).flatten.length = R.flatten.length := by
          conv => rhs; rw [← List.take_append_drop k R, List.flatten_append, List.length_append]
        have lP : P.length ≤ 60 := H.out.1.tl (by omega) tP
        have lQ : Q.length ≤ 60 := H.out.1.tl (by omega) tQ
        have hmB := H.out.1.both k tP tQ (pair_ll oP.la oQ.la oP.cap oQ.cap lP lQ) 2 bottom
        have bA : Below w10.heap.size w10 (w10.alloc (.cells #[.slice pa P.length pc, .slice qa Q.length qc] 24)) := (Below.refl _ w10).alloc (Nat.le_refl _) _
        have H10 := Hid.mk (And.intro (chain H9.out.1.bw (chain b10 bA (Nat.le_refl _)) (Nat.le_refl _)) (And.intro H9.out.2.1 (And.intro ((H9.out.2.2.1.lat b10).lat bA) (And.intro ((H9.out.2.2.2.1.lat b10).lat bA) (And.intro ((H9.out.2.2.2.2.1.lat b10).lat bA) (And.intro tP tQ))))))
        clear oQ oP tP tQ zz bA b10 hoQ H9
        obtain ⟨np, hnp⟩ : ∃ n, n = P.length := ⟨_, rfl⟩
        obtain ⟨nq, hnq⟩ : ∃ n, n = Q.length := ⟨_, rfl⟩
        have HPQ := Hid.mk (And.intro hnp hnq)
        rw [← hnp, ← hnq] at hmB H10 ⊢
        clear hnp hnq
        go_wp2_with fail
        refine hmB.mono ?_
        clear hmB
        rintro r w11 ⟨b11, C, ca, cc, tC, rfl, hoC⟩
        have e1 : A = C := H10.out.2.1.one tC (fun x => by rw [H10.out.2.2.2.2.2.1.both H10.out.2.2.2.2.2.2 x, List.take_append_drop])
        subst e1
        have H11 := Hid.mk (And.intro (chain H10.out.1 b11 (Nat.le_refl _)) (And.intro (H10.out.2.2.1.lat b11) (And.intro (H10.out.2.2.2.1.lat b11) (And.intro (H10.out.2.2.2.2.1.lat b11) (OL.mk hoC)))))
        clear b11 tC hoC H10
        have hs1 := same_any A aa xa ac xc w11 H11.out.2.1.la H11.out.2.2.1.la (by omega)
        obtain ⟨an, han⟩ : ∃ n, n = A.length := ⟨_, rfl⟩
        have HAN := Hid.mk han
        rw [← han] at hs1 ⊢
        clear han
        go_wp2_with fail
        refine hs1.mono ?_
        clear hs1
        rintro r w12 ⟨rfl, d12⟩
        have b12 : Below w11.heap.size w11 w12 := d12.below _
        have H12 := Hid.mk (And.intro (chain H11.out.1 b12 (Nat.le_refl _)) (And.intro (H11.out.2.1.lat b12) (And.intro (H11.out.2.2.2.1.lat b12) (H11.out.2.2.2.2.lat b12))))
        have hs2 := same_any A aa ya ac yc w12 H12.out.2.1.la H12.out.2.2.1.la (by omega)
        rw [← HAN.out] at hs2
        clear b12 d12 H11
        go_wp2_with fail
        refine hs2.mono ?_
        clear hs2
        rintro r w13 ⟨rfl, d13⟩
        have b13 : Below w12.heap.size w12 w13 := d13.below _
        have H13 := Hid.mk (And.intro (chain H12.out.1 b13 (Nat.le_refl _)) (And.intro (H12.out.2.1.lat b13) (H12.out.2.2.2.lat b13)))
        have hs3 := same_any A aa ca ac cc w13 H13.out.2.1.la H13.out.2.2.la (by omega)
        rw [← HAN.out] at hs3
        clear b13 d13 H12
        go_wp2_with fail
        refine hs3.mono ?_
        clear hs3
        rintro r w14 ⟨rfl, d14⟩
        have b14 : Below w13.heap.size w13 w14 := d14.below _
        have H14 := Hid.mk (chain H13.out.1 b14 (Nat.le_refl _))
        clear b14 d14 H13
        go_wp2
        go_ret
        exact ⟨rfl, H14.out⟩
    · clear hcut
      obtain ⟨k, hkd⟩ : ∃ k : Nat, k = rn / 2 := ⟨_, rfl⟩
      have hdv : (rn : Int).tdiv 2 = (k : Int) := by rw [hkd]; exact (Int.ofNat_tdiv rn 2).symm
      have hdw : IntKind.i64.wrap (k : Int) = (k : Int) := by rw [IntKind.wrap_i64]; omega
      have hk3 : k ≤ rn := by omega
      have hk4 : 0 ≤ (k : Int) := by omega
      have hk5 : (k : Int) ≤ (rn : Int) := by omega
      clear hkd
      have LL8 := H8.out.1.dl.ll H.out.1.short
      have s1 : (R.take k).length = k := by rw [List.length_take]; have := HN.out.2; omega
      have s2 : (R.drop k).length = rn - k := by rw [List.length_drop, HN.out.2]
      have hmL := H.out.1.part (List.take_sublist k R) (LL8.take k) gc false
      rw [s1] at hmL
      clear s1 LL8
      have hkc : k ≤ gc := by omega
      go_wp2_with fail
      refine hmL.mono ?_
      clear hmL
      rintro r w9 ⟨b9, P, pa, pc, tP, rfl, hoP⟩
      have H9 := Hid.mk (And.intro (H8.out.1.lat b9) (And.intro H8.out.2.1 (And.intro (H8.out.2.2.1.lat b9) (And.intro (H8.out.2.2.2.1.lat b9) (And.intro (H8.out.2.2.2.2.lat b9) (And.intro tP (OL.mk hoP)))))))
      clear b9 tP hoP H8
      have LL9 := H9.out.1.dl.ll H.out.1.short
      obtain ⟨d1, hd1⟩ : ∃ d, rn - k = d := ⟨_, rfl⟩
      obtain ⟨d2, hd2⟩ : ∃ d, gc - k = d := ⟨_, rfl⟩
      have hgr : R ≠ [] → ∃ g, ga = some ⟨g, 0, none⟩ := fun hne => by
        obtain ⟨r, hr⟩ : ∃ r, R[0]? = some r := ⟨_, List.getElem?_eq_getElem (List.length_pos_iff.2 hne)⟩
        obtain ⟨g, -, -, e, -⟩ := H9.out.1.dl.at' hr
        exact ⟨g, e⟩
      obtain ⟨a3, ha3, LL3⟩ : ∃ a3, offA ga gc k = a3 ∧ LL w9 a3 (R.drop k) := by
        refine ⟨_, rfl, ?_⟩
        by_cases hne : R.drop k = []
        · rw [hne]; exact ⟨fun i r hr => by simp at hr⟩
        · have hR : R ≠ [] := fun e => hne (by rw [e]; simp)
          obtain ⟨g, rfl⟩ := hgr hR
          have hkr : k < R.length := by
            rcases Nat.lt_or_ge k R.length with q | q
            · exact q
            · exact absurd (List.drop_eq_nil_of_le q) hne
          have hgk : ¬ gc = k := by have := HN.out.2; omega
          simp only [offA, hgk, if_false]
          have e2 : (⟨g, 0, none⟩ : Addr).add k = ⟨g, 0 + k, none⟩ := by unfold Addr.add; split <;> simp_all
          rw [e2]
          exact LL9.drop k
      have hmR := H.out.1.part (List.drop_sublist k R) LL3 d2 false
      rw [s2, hd1] at hmR
      clear LL9 LL3 s2 hgr
      cases ga with
      | none =>
        simp only [offA] at ha3
        subst ha3
        go_wp2_with fail
        refine hmR.mono ?_
        clear hmR hd1 hd2 
        rintro r w10 ⟨b10, Q, qa, qc, tQ, rfl, hoQ⟩
        have oQ := OL.mk hoQ
        have oP := H9.out.2.2.2.2.2.2.lat b10
        have tP := H9.out.2.2.2.2.2.1
        have zz : (R.take k).flatten.length + (R.drop k).flatten.length = R.flatten.length := by
          conv => rhs; rw [← List.take_append_drop k R, List.flatten_append, List.length_append]
        have lP : P.length ≤ 60 := H.out.1.tl (by omega) tP
        have lQ : Q.length ≤ 60 := H.out.1.tl (by omega) tQ
        have hmB := H.out.1.both k tP tQ (pair_ll oP.la oQ.la oP.cap oQ.cap lP lQ) 2 bottom
        have bA : Below w10.heap.size w10 (w10.alloc (.cells #[.slice pa P.length pc, .slice qa Q.length qc] 24)) := (Below.refl _ w10).alloc (Nat.le_refl _) _
        have H10 := Hid.mk (And.intro (chain H9.out.1.bw (chain b10 bA (Nat.le_refl _)) (Nat.le_refl _)) (And.intro H9.out.2.1 (And.intro ((H9.out.2.2.1.lat b10).lat bA) (And.intro ((H9.out.2.2.2.1.lat b10).lat bA) (And.intro ((H9.out.2.2.2.2.1.lat b10).lat bA) (And.intro tP tQ))))))
        clear oQ oP tP tQ zz bA b10 hoQ H9
        obtain ⟨np, hnp⟩ : ∃ n, n = P.length := ⟨_, rfl⟩
        obtain ⟨nq, hnq⟩ : ∃ n, n = Q.length := ⟨_, rfl⟩
        have HPQ := Hid.mk (And.intro hnp hnq)
        rw [← hnp, ← hnq] at hmB H10 ⊢
        clear hnp hnq
        go_wp2_with fail
        refine hmB.mono ?_
        clear hmB
        rintro r w11 ⟨b11, C, ca, cc, tC, rfl, hoC⟩
        have e1 : A = C := H10.out.2.1.one tC (fun x => by rw [H10.out.2.2.2.2.2.1.both H10.out.2.2.2.2.2.2 x, List.take_append_drop])
        subst e1
        have H11 := Hid.mk (And.intro (chain H10.out.1 b11 (Nat.le_refl _)) (And.intro (H10.out.2.2.1.lat b11) (And.intro (H10.out.2.2.2.1.lat b11) (And.intro (H10.out.2.2.2.2.1.lat b11) (OL.mk hoC)))))
        clear b11 tC hoC H10
        have hs1 := same_any A aa xa ac xc w11 H11.out.2.1.la H11.out.2.2.1.la (by omega)
        obtain ⟨an, han⟩ : ∃ n, n = A.length := ⟨_, rfl⟩
        have HAN := Hid.mk han
        rw [← han] at hs1 ⊢
        clear han
        go_wp2_with fail
        refine hs1.mono ?_
        clear hs1
        rintro r w12 ⟨rfl, d12⟩
        have b12 : Below w11.heap.size w11 w12 := d12.below _
        have H12 := Hid.mk (And.intro (chain H11.out.1 b12 (Nat.le_refl _)) (And.intro (H11.out.2.1.lat b12) (And.intro (H11.out.2.2.2.1.lat b12) (H11.out.2.2.2.2.lat b12))))
        have hs2 := same_any A aa ya ac yc w12 H12.out.2.1.la H12.out.2.2.1.la (by omega)
        rw [← HAN.out] at hs2
        clear b12 d12 H11
        go_wp2_with fail
        refine hs2.mono ?_
        clear hs2
        rintro r w13 ⟨rfl, d13⟩
        have b13 : Below w12.heap.size w12 w13 := d13.below _
        have H13 := Hid.mk (And.intro (chain H12.out.1 b13 (Nat.le_refl _)) (And.intro (H12.out.2.1.lat b13) (H12.out.2.2.2.lat b13)))
        have hs3 := same_any A aa ca ac cc w13 H13.out.2.1.la H13.out.2.2.la (by omega)
        rw [← HAN.out] at hs3
        clear b13 d13 H12
        go_wp2_with fail
        refine hs3.mono ?_
        clear hs3
        rintro r w14 ⟨rfl, d14⟩
        have b14 : Below w13.heap.size w13 w14 := d14.below _
        have H14 := Hid.mk (chain H13.out.1 b14 (Nat.le_refl _))
        clear b14 d14 H13
        go_wp2
        go_ret
        exact ⟨rfl, H14.out⟩
      | some a =>
        simp only [offA] at ha3
        go_wp2_with fail
        refine hmR.mono ?_
        clear hmR hd1 hd2 ha3
        rintro r w10 ⟨b10, Q, qa, qc, tQ, rfl, hoQ⟩
        have oQ := OL.mk hoQ
        have oP := H9.out.2.2.2.2.2.2.lat b10
        have tP := H9.out.2.2.2.2.2.1
        have zz : (R.take k).flatten.length + (R.drop k).flatten.length = R.flatten.length := by
          conv => rhs; rw [← List.take_append_drop k R, List.flatten_append, List.length_append]
        have lP : P.length ≤ 60 := H.out.1.tl (by omega) tP
        have lQ : Q.length ≤ 60 := H.out.1.tl (by omega) tQ
        have hmB := H.out.1.both k tP tQ (pair_ll oP.la oQ.la oP.cap oQ.cap lP lQ) 2 bottom
        have bA : Below w10.heap.size w10 (w10.alloc (.cells #[.slice pa P.length pc, .slice qa Q.length qc] 24)) := (Below.refl _ w10).alloc (Nat.le_refl _) _
        have H10 := Hid.mk (And.intro (chain H9.out.1.bw (chain b10 bA (Nat.le_refl _)) (Nat.le_refl _)) (And.intro H9.out.2.1 (And.intro ((H9.out.2.2.1.lat b10).lat bA) (And.intro ((H9.out.2.2.2.1.lat b10).lat bA) (And.intro ((H9.out.2.2.2.2.1.lat b10).lat bA) (And.intro tP tQ))))))
        clear oQ oP tP tQ zz bA b10 hoQ H9
        obtain ⟨np, hnp⟩ : ∃ n, n = P.length := ⟨_, rfl⟩
        obtain ⟨nq, hnq⟩ : ∃ n, n = Q.length := ⟨_, rfl⟩
        have HPQ := Hid.mk (And.intro hnp hnq)
        rw [← hnp, ← hnq] at hmB H10 ⊢
        clear hnp hnq
        go_wp2_with fail
        refine hmB.mono ?_
        clear hmB
        rintro r w11 ⟨b11, C, ca, cc, tC, rfl, hoC⟩
        have e1 : A = C := H10.out.2.1.one tC (fun x => by rw [H10.out.2.2.2.2.2.1.both H10.out.2.2.2.2.2.2 x, List.take_append_drop])
        subst e1
        have H11 := Hid.mk (And.intro (chain H10.out.1 b11 (Nat.le_refl _)) (And.intro (H10.out.2.2.1.lat b11) (And.intro (H10.out.2.2.2.1.lat b11) (And.intro (H10.out.2.2.2.2.1.lat b11) (OL.mk hoC)))))
        clear b11 tC hoC H10
        have hs1 := same_any A aa xa ac xc w11 H11.out.2.1.la H11.out.2.2.1.la (by omega)
        obtain ⟨an, han⟩ : ∃ n, n = A.length := ⟨_, rfl⟩
        have HAN := Hid.mk han
        rw [← han] at hs1 ⊢
        clear han
        go_wp2_with fail
        refine hs1.mono ?_
        clear hs1
        rintro r w12 ⟨rfl, d12⟩
        have b12 : Below w11.heap.size w11 w12 := d12.below _
        have H12 := Hid.mk (And.intro (chain H11.out.1 b12 (Nat.le_refl _)) (And.intro (H11.out.2.1.lat b12) (And.intro (H11.out.2.2.2.1.lat b12) (H11.out.2.2.2.2.lat b12))))
        have hs2 := same_any A aa ya ac yc w12 H12.out.2.1.la H12.out.2.2.1.la (by omega)
        rw [← HAN.out] at hs2
        clear b12 d12 H11
        go_wp2_with fail
        refine hs2.mono ?_
        clear hs2
        rintro r w13 ⟨rfl, d13⟩
        have b13 : Below w12.heap.size w12 w13 := d13.below _
        have H13 := Hid.mk (And.intro (chain H12.out.1 b13 (Nat.le_refl _)) (And.intro (H12.out.2.1.lat b13) (H12.out.2.2.2.lat b13)))
        have hs3 := same_any A aa ca ac cc w13 H13.out.2.1.la H13.out.2.2.la (by omega)
        rw [← HAN.out] at hs3
        clear b13 d13 H12
        go_wp2_with fail
        refine hs3.mono ?_
        clear hs3
        rintro r w14 ⟨rfl, d14⟩
        have b14 : Below w13.heap.size w13 w14 := d14.below _
        have H14 := Hid.mk (chain H13.out.1 b14 (Nat.le_refl _))
        clear b14 d14 H13
        go_wp2
        go_ret
        exact ⟨rfl, H14.out⟩
end Go.Proofs.Ytchikfabfhjkgaa
set_option linter.unusedVariables false
set_option linter.unusedSimpArgs false
namespace Go.Proofs.Ytchikfabfhjkgaa.Fd
open Go.RowKit
/-- A merger over feeds that has not begun. -/
theorem MQ.start {w0 W : World} {B m : Nat} {bxs : List (Nat × List En)} {c0 c2 c3 : Value} {R : List (List En)} (hb : Below B w0 W) (hmB : B ≤ m) (hm : Mb W m c0 (.slice none 0 0) c2 c3) (hlen : R.length = bxs.length)
    (hsrc : ∀ (i : Nat) (b : Nat × List En), bxs[i]? = some b → R[i]? = some b.2 ∧ FdAt w0 B W b.1 b.2 0) (hnd : (bxs.map Prod.fst).Nodup) (hup : ∀ r ∈ R, rises r = true) (hs : bxs.length ≤ 1024) (hkp : KeepT 49 w0 W) :
    MQ w0 B m bxs c0 c2 c3 (.slice none 0 0) [] [] [] (R.map some) W :=
  { below := hb, mB := hmB, hm := ⟨_, hm, ⟨⟨rfl, .inl ⟨rfl, rfl⟩⟩, fun _ h => by simp at h⟩, Nat.zero_le _⟩
    rowB := fun u k h1 h2 => by
      rw [hm.cell.1] at h1; cases h1; cases h2
    heap := fun j _ hj => by simp at hj
    len := by rw [List.length_map]; exact hlen
    src := fun i b r h1 h2 => by
      obtain ⟨k1, k2⟩ := hsrc i b h1
      rw [List.getElem?_map, k1] at h2
      cases h2
      have e : usd b.2 (some b.2) = 0 := by simp [usd]
      exact ⟨e ▸ k2, fun l hl => by cases hl; simp⟩
    inj := fun i j b c h1 h2 e => nd_inj hnd (x := b.1) (by rw [List.getElem?_map, h1]; rfl) (by rw [List.getElem?_map, h2, e]; rfl)
    st := fun _ h => by simp at h
    gvt := fun _ h => by simp at h
    stP := fun _ h => by simp at h
    adr := by simp
    nums := by simp
    up := fun _ h => by simp at h
    ups := fun r hr => by
      obtain ⟨x, hx, e⟩ := List.mem_map.1 hr
      cases e; exact hup r hx
    row := ⟨rfl, .inl ⟨rfl, rfl⟩⟩
    apart := fun _ _ _ h => by cases h
    small := hs
    lvB := fun _ h => by cases h
    kp := hkp }
/-- A list that is given: where it lies, and its entries. -/
abbrev Gv := Option Addr × Nat × List En
def gC (p : Gv) : List Value := [.slice p.1 p.2.2.length p.2.1, .int .i64 0, .bool false, .int .i64 0, .bool false]
theorem infoRl : (Try.prog.info? 34).map (fun i => (i.zero, i.size, i.bytes)) = some (some (.agg #[.slice none 0 0, .int .i64 0, .bool false, .int .i64 0, .bool false]), 5, 56) := by kernel_rfl
/-- So far these lists are given. -/
structure GivI (w : World) (ps : List Gv) (gv : Value) (W : World) : Prop where
  row : W.ownsRow 0 34 5 gv ps.length (ps.flatMap gC)
  new : ∀ k, gv.ownBlock = some k → w.heap.size ≤ k
  at' : ∀ p ∈ ps, LAt w p.1 p.2.2 ∧ p.2.2.length < 4611686018427387904
  bl : Below w.heap.size w W
theorem gC_len (ps : List Gv) : (ps.flatMap gC).length = ps.length * 5 := by
  induction ps with
  | nil => rfl
  | cons p ps ih => simp [List.flatMap_cons, ih, gC]; omega
theorem gC_at (ps : List Gv) (i : Nat) (p : Gv) (h : ps[i]? = some p) (k : Nat) (v : Value) (hv : (gC p)[k]? = some v) : (ps.flatMap gC)[i * 5 + k]? = some v := by
  induction ps generalizing i with
  | nil => simp at h
  | cons q ps ih =>
    have hq : (gC q).length = 5 := rfl
    have hk : k < 5 := by have := (List.getElem?_eq_some_iff.1 hv).1; simpa [gC] using this
    rw [List.flatMap_cons]
    cases i with
    | zero =>
      simp at h; subst h
      rw [List.getElem?_append_left (by rw [hq]; omega), Nat.zero_mul, Nat.zero_add]; exact hv
    | succ i =>
      rw [List.getElem?_append_right (by rw [hq]; omega), hq, show (i + 1) * 5 + k - 5 = i * 5 + k by omega]
      exact ih i (by simpa using h)
theorem GivI.gl {w W : World} {ps : List Gv} {gv : Value} (h : GivI w ps gv W) : ∃ a c, gv = .slice a ps.length c ∧ GL W a (ps.map fun p => p.2.2) := by
  obtain ⟨a, c, rfl, -⟩ := slice_form h.row
  refine ⟨a, c, rfl, ⟨fun i r hr => ?_⟩⟩
  rw [List.getElem?_map] at hr
  obtain ⟨p, hp, rfl⟩ : ∃ p, ps[i]? = some p ∧ p.2.2 = r := by
    cases hp : ps[i]? with
    | none => rw [hp] at hr; cases hr
    | some p => rw [hp] at hr; cases hr; exact ⟨p, rfl, rfl⟩
  obtain ⟨h1, h2⟩ := h.at' p (List.mem_of_getElem? hp)
  rcases h.row.2 with ⟨e, e0⟩ | ⟨g, cap, cur, e, -⟩
  · have := (List.getElem?_eq_some_iff.1 hp).1
    omega
  · simp only [Value.slice.injEq] at e
    obtain ⟨rfl, -, rfl⟩ := e
    have cl : ∀ k v, (gC p)[k]? = some v → W.cell? ⟨g, 0 + i * 5 + k, none⟩ = some v := fun k v hv => by
      have := World.ownsRow.cells h.row (g := g) rfl (i * 5 + k) v (gC_at ps i p hp k v hv)
      have e1 : (⟨g, 0, none⟩ : Addr).add (i * 5 + k) = ⟨g, 0 + (i * 5 + k), none⟩ := by unfold Addr.add; split <;> simp_all
      rw [e1, ← Nat.add_assoc] at this; exact this
    exact ⟨g, 0, p.1, p.2.1, rfl, ⟨cl 0 _ rfl, cl 1 _ rfl, cl 2 _ rfl, cl 3 _ rfl, cl 4 _ rfl⟩, h1.below h.bl, h2⟩
/-- One more list is given. -/
theorem GivI.more {w W : World} {ps : List Gv} {gv : Value} (h : GivI w ps gv W) (p : Gv) (hp : LAt w p.1 p.2.2) (hl : p.2.2.length < 4611686018427387904) (hk : ps.length < 1024) :
    ∃ a' c' w', (Builtin.append_ #[32, 32] 32 #[gv, .slice (some ⟨W.heap.size, 0, none⟩) 1 1]).run Try.prog (W.alloc (.cells #[.slice p.1 p.2.2.length p.2.1, .int .i64 0, .bool false, .int .i64 0, .bool false] 34)) = .ok (.slice a' (ps.length + 1) c') w' ∧ GivI w (ps ++ [p]) (.slice a' (ps.length + 1) c') w' := by
  obtain ⟨i0, hi0, hz0, hz1, hz2⟩ := info_parts infoRl
  have bA : Below W.heap.size W (W.alloc (.cells (gC p).toArray 34)) := (Below.refl _ W).alloc (Nat.le_refl _) _
  have ho2 := row_kept h.row (F := fun _ => False) (.below bA) (fun _ _ h => h)
  obtain ⟨v', w', hap, ho', hg, -, hloc⟩ := run_append_own_at (P := Try.prog) (W.alloc (.cells (gC p).toArray 34)) 0 32 32 34 i0 _ 5 56 Try.underlying32 hi0 hz0 hz1 hz2 rfl (by decide) _ ps.length _ ho2 ⟨W.heap.size, 0, none⟩ 1 1 (gC p) rfl (fun j u hu => new_cells W (gC p) 34 j u hu) (fun u hu => by simp [gC] at hu; rcases hu with rfl | rfl | rfl | rfl | rfl <;> rfl) (by unfold maxLen; omega) (by omega) (Nat.zero_le _)
  have st : Stay (fun k => gv.ownBlock = some k) (W.alloc (.cells (gC p).toArray 34)) w' := .grown hg (fun k hk => hk)
  obtain ⟨a', c', rfl, -⟩ := slice_form ho'
  have hB0 : w.heap.size ≤ W.heap.size := h.bl.size
  refine ⟨a', c', w', hap, ?_, fun k hk => ?_, fun q hq => ?_, ?_⟩
  · have : (ps ++ [p]).length = ps.length + 1 := by simp
    rw [this, List.flatMap_append]
    simpa using ho'
  · rcases hloc with e | e
    · exact h.new k (e.symm.trans hk)
    · rw [e] at hk; cases hk
      exact Nat.le_trans hB0 bA.size
  · rcases List.mem_append.1 hq with k | k
    · exact h.at' q k
    · simp at k; subst k; exact ⟨hp, hl⟩
  · exact (chain h.bl bA (Nat.le_refl _)).trans (st.toBelow (fun k hk e => by have := h.new k e; omega) (Nat.le_trans hB0 bA.size))
end Go.Proofs.Ytchikfabfhjkgaa.Fd
set_option linter.unusedVariables false
set_option linter.unusedSimpArgs false
namespace Go.Proofs.Ytchikfabfhjkgaa.Fd
open Go.RowKit
/-- A merger that has begun, with so much still to be told. -/
structure Bg (w0 : World) (B m : Nat) (bxs : List (Nat × List En)) (bottom : Bool) (R : List (List En)) (l : List En) (ys : List St) (rs : List (Option (List En))) (W : World) : Prop where
  mq : MQ w0 B m bxs (.slice none 0 0) (.bool bottom) (.int .i64 0) (.slice none 0 0) [] ys [] rs W
  yl : ys.length ≤ 1024
  pi : PI R ys rs
  tl : Tl bottom ys rs l
/-- One that has not. -/
structure Nb (w0 : World) (B m : Nat) (bxs : List (Nat × List En)) (bottom : Bool) (R : List (List En)) (l : List En) (W : World) : Prop where
  mq : ∃ sb sc cur, MQ w0 B m bxs (.slice (some ⟨sb, 0, none⟩) bxs.length sc) (.bool bottom) (.int .i64 0) (.slice none 0 0) [] [] [] (R.map some) W ∧ W.heap[sb]? = some (.cells cur 46 (0, 0)) ∧ ∀ (i : Nat) (b : Nat × List En), bxs[i]? = some b → cur[i]? = some (fdV b.1)
  len : R.length = bxs.length
  uq : Uniq R.flatten
  told : Told R bottom l
  up : ∀ r ∈ R, rises r = true
  cs : ∀ r ∈ R, ∀ e ∈ r, e.c.size ≤ 281474976710656
/-- What Next answers then. -/
def NxO (w0 : World) (B m : Nat) (bxs : List (Nat × List En)) (bottom : Bool) (R : List (List En)) (l : List En) (W : World) (r : Ending) (W' : World) : Prop :=
  KeepEn W W' ∧ ∃ ys rs, (l = [] ∧ r = .returned (.tuple #[zeroE, .bool false, .int .i64 0]) ∧ ys = [] ∧ Bg w0 B m bxs bottom R [] ys rs W') ∨
    ∃ e l', l = e :: l' ∧ r = .returned (.tuple #[.agg (enC e).toArray, .bool true, .int .i64 0]) ∧ Bg w0 B m bxs bottom R l' ys rs W' ∧ Low R rs (fun x => cpE x e ≤ 0)
theorem pool_end {rs : List (Option (List En))} (c : Cov [] rs) : pool [] (dn rs) = [] := by
  unfold pool
  simp only [List.map_nil, List.nil_append, List.flatten_eq_nil_iff]
  intro r hr
  obtain ⟨o, ho, rfl⟩ := List.mem_map.1 hr
  obtain ⟨j, hj, e⟩ := List.getElem_of_mem ho
  rcases c j hj with k | ⟨y, hy, -⟩
  · rw [List.getElem?_eq_getElem hj, e] at k
    cases k; rfl
  · simp at hy
theorem NextO.nx {w0 : World} {B m : Nat} {bxs : List (Nat × List En)} {bottom : Bool} {R : List (List En)} {l : List En} {ys : List St} {rs : List (Option (List En))} {W W' : World} {r : Ending} (h : NextO w0 B m bxs bottom ys rs W r W') (p : PI R ys rs) (t : Tl bottom ys rs l) : NxO w0 B m bxs bottom R l W r W' := by
  obtain ⟨hk, ⟨ys2, rs2, k, rfl, q, hl⟩ | ⟨e, ys2, rs2, k, rfl, q, hl⟩ | ⟨ys2, rs2, k, rfl, -⟩⟩ := h
  · rcases t.next p.inv k with ⟨h1, -⟩ | ⟨e, l', -, h2, -⟩
    · have he := k.end'
      have p2 := (k.pi p).1 (fun h => by cases h)
      subst he
      have hp := pool_end p2.cov
      exact ⟨hk, [], rs2, .inl ⟨h1, rfl, rfl, q, hl, p2, ⟨by rw [hp]; exact List.Pairwise.nil, List.Pairwise.nil, fun x => by
        rw [hp]
        constructor
        · intro hx; simp at hx
        · intro hx; have := hx.1.1; simp at this⟩⟩⟩
    · cases h2
  · rcases t.next p.inv k with ⟨-, h1⟩ | ⟨e', l', h1, h2, h3⟩
    · cases h1
    · cases h2
      exact ⟨hk, ys2, rs2, .inr ⟨e, l', h1, rfl, ⟨q, hl, (k.pi p).1 (fun h => by cases h), h3⟩, (k.pi p).2 e rfl⟩⟩
  · rcases t.next p.inv k with ⟨-, h1⟩ | ⟨e', l', h1, h2, h3⟩
    · cases h1
    · cases h2
theorem Bg.next {w0 : World} {B m : Nat} {bxs : List (Nat × List En)} {bottom : Bool} {R : List (List En)} {l : List En} {ys : List St} {rs : List (Option (List En))} {W : World} (h : Bg w0 B m bxs bottom R l ys rs W) :
    Calls Try.prog 19 #[.pointer (some ⟨m, 0, none⟩)] W (NxO w0 B m bxs bottom R l W) :=
  (next_any h.mq h.yl).mono fun r W' hO => hO.nx h.pi h.tl
theorem Nb.next {w0 : World} {B m : Nat} {bxs : List (Nat × List En)} {bottom : Bool} {R : List (List En)} {l : List En} {W : World} (h : Nb w0 B m bxs bottom R l W) :
    Calls Try.prog 19 #[.pointer (some ⟨m, 0, none⟩)] W (NxO w0 B m bxs bottom R l W) := by
  obtain ⟨sb, sc, cur, q, hsb, hcur⟩ := h.mq
  have bA : Below W.heap.size W (W.alloc (.cells #[.int .i64 0, .string ⟨#[]⟩, .int .i64 0, .int .i64 0, .bool false] 23)) := (Below.refl _ W).alloc (Nat.le_refl _) _
  have hBW : B ≤ W.heap.size := by
    obtain ⟨av, hm, -⟩ := q.hm
    have h2 : m < W.heap.size := (Array.getElem?_eq_some_iff.1 hm).1
    have := q.mB
    omega
  refine (next_gen (Q := fun ys rs => PI R ys rs ∧ Tl bottom ys rs l) hBW ((begin_any sb sc cur (q.later bA) ((bA.block sb (Array.getElem?_eq_some_iff.1 hsb).1).trans hsb) hcur).mono fun r W1 ⟨h1, ys, rs, h2, h3, h4, h5, h6⟩ => ?_)).mono fun r W' ⟨ys, rs, ⟨hp, ht⟩, hO⟩ => hO.nx hp ht
  have hnn : (ys.map St.num).Nodup := by have := h2.nums; rwa [List.append_nil] at this
  have hll : ∀ y ∈ ys, y.num < R.length := fun y hy => by
    obtain ⟨-, ⟨b, hb2, -⟩, -⟩ := h2.st y (List.mem_append_left _ hy)
    rw [h.len]; exact (List.getElem?_eq_some_iff.1 hb2).1
  rw [← h.len] at h3
  exact ⟨h1, ys, rs, h2, h4, Nat.le_trans h5 q.small, pi_of h3 hnn hll h6 h.cs h.up h.uq h.told⟩
/-- How often a feed was asked. -/
theorem Bg.used {w0 : World} {B m : Nat} {bxs : List (Nat × List En)} {bottom : Bool} {R : List (List En)} {l : List En} {ys : List St} {rs : List (Option (List En))} {W : World} (h : Bg w0 B m bxs bottom R l ys rs W) (i : Nat) (b : Nat × List En) (hb : bxs[i]? = some b) :
    ∃ o, rs[i]? = some o ∧ W.cell? ⟨b.1, 5, none⟩ = some (.int .i64 (usd b.2 o : Nat)) ∧ usd b.2 o ≤ b.2.length + 1 ∧ (ys = [] → usd b.2 o = b.2.length + 1) := by
  have hlt : i < rs.length := by rw [h.mq.len]; exact (List.getElem?_eq_some_iff.1 hb).1
  have hr : rs[i]? = some rs[i] := List.getElem?_eq_getElem hlt
  obtain ⟨la, cap, u, hx, hu⟩ := (h.mq.src i b _ hb hr).ex
  refine ⟨_, hr, by rw [cell_of_row _ _ 5 _ _ (0, 0) hx, ← hu]; rfl, ?_, fun hy => ?_⟩
  · cases rs[i] with
    | none => simp [usd]
    | some l => simp only [usd]; omega
  · subst hy
    rcases h.pi.cov i hlt with k | ⟨y, hy, -⟩
    · rw [hr, Option.some.injEq] at k
      rw [k]; rfl
    · simp at hy
end Go.Proofs.Ytchikfabfhjkgaa.Fd
set_option linter.unusedVariables false
set_option linter.unusedSimpArgs false
namespace Go.Proofs.Ytchikfabfhjkgaa.Fd
open Go.RowKit
def sndC : Code → Code
  | .seq _ b => b
  | c => c
def dropC : Nat → Code → Code
  | 0, c => c
  | n + 1, c => dropC n (sndC c)
theorem Bg.later {w0 : World} {B m : Nat} {bxs : List (Nat × List En)} {bottom : Bool} {R : List (List En)} {l : List En} {ys : List St} {rs : List (Option (List En))} {W W' : World} (h : Bg w0 B m bxs bottom R l ys rs W) (b : Below W.heap.size W W') : Bg w0 B m bxs bottom R l ys rs W' := ⟨h.mq.later b, h.yl, h.pi, h.tl⟩
theorem Nb.later {w0 : World} {B m : Nat} {bxs : List (Nat × List En)} {bottom : Bool} {R : List (List En)} {l : List En} {W W' : World} (h : Nb w0 B m bxs bottom R l W) (b : Below W.heap.size W W') : Nb w0 B m bxs bottom R l W' := by
  obtain ⟨sb, sc, cur, q, h1, h2⟩ := h.mq
  exact ⟨⟨sb, sc, cur, q.later b, (b.block sb (Array.getElem?_eq_some_iff.1 h1).1).trans h1, h2⟩, h.len, h.uq, h.told, h.up, h.cs⟩
/-- A merger of which so much is still to be told, whether it has begun or not. -/
def Mg (w0 : World) (B m : Nat) (bxs : List (Nat × List En)) (bottom : Bool) (R : List (List En)) (l : List En) (W : World) : Prop := Nb w0 B m bxs bottom R l W ∨ ∃ ys rs, Bg w0 B m bxs bottom R l ys rs W
theorem Mg.later {w0 : World} {B m : Nat} {bxs : List (Nat × List En)} {bottom : Bool} {R : List (List En)} {l : List En} {W W' : World} (h : Mg w0 B m bxs bottom R l W) (b : Below W.heap.size W W') : Mg w0 B m bxs bottom R l W' := by
  rcases h with h | ⟨ys, rs, h⟩
  · exact .inl (h.later b)
  · exact .inr ⟨ys, rs, h.later b⟩
theorem Mg.next {w0 : World} {B m : Nat} {bxs : List (Nat × List En)} {bottom : Bool} {R : List (List En)} {l : List En} {W : World} (h : Mg w0 B m bxs bottom R l W) :
    Calls Try.prog 19 #[.pointer (some ⟨m, 0, none⟩)] W (NxO w0 B m bxs bottom R l W) := by
  rcases h with h | ⟨ys, rs, h⟩
  · exact h.next
  · exact h.next
theorem own_keep {w0 W : World} {t sz n : Nat} {v : Value} {xs : List Value} (h : w0.ownsRow 0 t sz v n xs) (k : KeepT t w0 W) : W.ownsRow 0 t sz v n xs := by
  rcases h with ⟨h1, h2 | ⟨g, cap, cur, h2, h3, h4, h5⟩⟩
  · exact ⟨h1, .inl h2⟩
  · exact ⟨h1, .inr ⟨g, cap, cur, h2, h3, k g cur _ h4, h5⟩⟩
theorem lat_at {W : World} {la : Option Addr} {l : List En} (h : LAt W la l) {k : Nat} {e : En} (hk : l[k]? = some e) : ∃ g off, la = some ⟨g, off, none⟩ ∧ W.cell? ⟨g, off + k * 5, none⟩ = some (.int .i64 e.v) ∧ W.cell? ⟨g, off + k * 5 + 1, none⟩ = some (.string e.c) ∧ W.cell? ⟨g, off + k * 5 + 2, none⟩ = some (.int .i64 e.i) ∧ W.cell? ⟨g, off + k * 5 + 3, none⟩ = some (.int .i64 e.s) ∧ W.cell? ⟨g, off + k * 5 + 4, none⟩ = some (.bool e.d) := by
  obtain ⟨hlt, rfl⟩ := List.getElem?_eq_some_iff.1 hk
  obtain ⟨g, off, e1, hr⟩ := h.at' (fun e => by rw [e] at hlt; simp at hlt)
  exact ⟨g, off, e1, row_en hr rfl k hlt⟩
/-- What lies beside a merger: the lists, Merge's list, the row of feeds. -/
structure TS (w wG w0 : World) (bxs : List (Nat × List En)) (fa : Option Addr) (fc : Nat) (ga : Option Addr) (gc : Nat) (wa : Option Addr) (wc : Nat) (R : List (List En)) (want : List En) : Prop where
  bw : Below w.heap.size w wG
  bl : Below wG.heap.size wG w0
  dl : DL 0 wG (.slice ga R.length gc) R
  ol : OL wG wa want wc
  fo : w0.ownsRow 0 49 1 (.slice fa bxs.length fc) bxs.length (bxs.map fun b => .pointer (some ⟨b.1, 0, none⟩))
  bx : ∀ (i : Nat) (b : Nat × List En), bxs[i]? = some b → R[i]? = some b.2
  len : bxs.length = R.length
  sh : ∀ r ∈ R, r.length ≤ 60
  n60 : R.length ≤ 60
  w60 : want.length ≤ 60
theorem TS.wantAt {w wG w0 : World} {bxs : List (Nat × List En)} {fa ga wa : Option Addr} {fc gc wc : Nat} {R : List (List En)} {want : List En} (h : TS w wG w0 bxs fa fc ga gc wa wc R want) {W : World} (b : Below wG.heap.size w0 W) {k : Nat} {e : En} (hk : want[k]? = some e) : ∃ g off, wa = some ⟨g, off, none⟩ ∧ W.cell? ⟨g, off + k * 5, none⟩ = some (.int .i64 e.v) ∧ W.cell? ⟨g, off + k * 5 + 1, none⟩ = some (.string e.c) ∧ W.cell? ⟨g, off + k * 5 + 2, none⟩ = some (.int .i64 e.i) ∧ W.cell? ⟨g, off + k * 5 + 3, none⟩ = some (.int .i64 e.s) ∧ W.cell? ⟨g, off + k * 5 + 4, none⟩ = some (.bool e.d) :=
  lat_at (h.ol.lat (h.bl.trans b)).la hk
theorem TS.feedAt {w wG w0 : World} {bxs : List (Nat × List En)} {fa ga wa : Option Addr} {fc gc wc : Nat} {R : List (List En)} {want : List En} (h : TS w wG w0 bxs fa fc ga gc wa wc R want) {W : World} (k : KeepT 49 w0 W) {i : Nat} {b : Nat × List En} (hb : bxs[i]? = some b) : ∃ g, fa = some ⟨g, 0, none⟩ ∧ W.cell? ⟨g, i, none⟩ = some (.pointer (some ⟨b.1, 0, none⟩)) := by
  have ho := own_keep h.fo k
  rcases ho.2 with ⟨e, e0⟩ | ⟨g, cap, cur, e, -⟩
  · have := (List.getElem?_eq_some_iff.1 hb).1
    omega
  · simp only [Value.slice.injEq] at e
    obtain ⟨rfl, -, rfl⟩ := e
    refine ⟨g, rfl, ?_⟩
    have := World.ownsRow.cells ho (g := g) rfl i (.pointer (some ⟨b.1, 0, none⟩)) (by rw [List.getElem?_map, hb]; rfl)
    have e1 : (⟨g, 0, none⟩ : Addr).add i = ⟨g, 0 + i, none⟩ := by unfold Addr.add; split <;> simp_all
    rw [e1, Nat.zero_add] at this
    exact this
theorem TS.listAt {w wG w0 : World} {bxs : List (Nat × List En)} {fa ga wa : Option Addr} {fc gc wc : Nat} {R : List (List En)} {want : List En} (h : TS w wG w0 bxs fa fc ga gc wa wc R want) {W : World} (b : Below wG.heap.size w0 W) {i : Nat} {r : List En} (hr : R[i]? = some r) : ∃ g la lc, ga = some ⟨g, 0, none⟩ ∧ W.cell? ⟨g, i, none⟩ = some (.slice la r.length lc) ∧ r.length ≤ lc ∧ LAt W la r := by
  obtain ⟨g, la, lc, h1, h2, -, h4, h5⟩ := (h.dl.lat (h.bl.trans b)).at' hr
  exact ⟨g, la, lc, h1, h2, h4, h5⟩
theorem FdAt.base {w w' : World} {B : Nat} {W : World} {bx : Nat} {X : List En} {u : Nat} (h : FdAt w B W bx X u) (b : Below B w w') : FdAt w' B W bx X u := by
  obtain ⟨la, cap, h1, h3, h4⟩ := h.ex
  exact ⟨⟨la, cap, h1, fun hn => by
    obtain ⟨g, off, e, hg, hr⟩ := h3 hn
    exact ⟨g, off, e, hg, fun j x hx => (b.cell (p := ⟨g, off + j, none⟩) hg).trans (hr j x hx)⟩, h4⟩, h.hi⟩
/-- A merger over the feeds that were made, where there is one at least. -/
theorem mg_new {wG w0 W : World} {m : Nat} {bs : List (Nat × List En)} {fv sv v' : Value} {bottom : Bool} {R : List (List En)} {want : List En} (hf : FedI R wG bs bs fv sv w0) (hlen : bs.length = R.length) (h60 : R.length ≤ 1024) (hne : R ≠ [])
    (hm : Mb W m v' (.slice none 0 0) (.bool bottom) (.int .i64 0)) (ho : W.ownsRow 0 46 1 v' bs.length (bs.map fun b => fdV b.1)) (hmb : w0.heap.size ≤ m) (b : Below w0.heap.size w0 W)
    (hup : ∀ r ∈ R, rises r = true) (huq : Uniq R.flatten) (ht : Told R bottom want) (hcs : ∀ r ∈ R, ∀ e ∈ r, e.c.size ≤ 281474976710656) : Mg w0 wG.heap.size m bs bottom R want W := by
  have hB := hf.bl.size
  have q : MQ w0 wG.heap.size m bs v' (.bool bottom) (.int .i64 0) (.slice none 0 0) [] [] [] (R.map some) W :=
    MQ.start (b.mono hB) (Nat.le_trans hB hmb) hm hlen.symm (fun i x hx => ⟨(hf.fd i x hx).1, ((hf.fd i x hx).2.below b).base hf.bl⟩) hf.nd hup (by omega) (KeepT.below b)
  have hl0 : bs.length ≠ 0 := fun e => hne (List.length_eq_zero_iff.1 (by omega))
  obtain ⟨sb, sc, cur, hv, hsb, hcur⟩ : ∃ sb sc cur, v' = .slice (some ⟨sb, 0, none⟩) bs.length sc ∧ W.heap[sb]? = some (.cells cur 46 (0, 0)) ∧ ∀ (i : Nat) (b : Nat × List En), bs[i]? = some b → cur[i]? = some (fdV b.1) := by
    have ho' := ho
    rcases ho.2 with ⟨e, e0⟩ | ⟨g, cap, cur, e, -, hg, -⟩
    · exact absurd e0 hl0
    · subst e
      refine ⟨g, cap, cur, rfl, hg, fun i x hx => ?_⟩
      have := World.ownsRow.cells ho' (g := g) rfl i (fdV x.1) (by rw [List.getElem?_map, hx]; rfl)
      have e1 : (⟨g, 0, none⟩ : Addr).add i = ⟨g, 0 + i, none⟩ := by unfold Addr.add; split <;> simp_all
      rw [e1, Nat.zero_add, cell_of_row _ _ i _ _ (0, 0) hg] at this
      exact this
  subst hv
  exact .inl ⟨⟨sb, sc, cur, q, hsb, hcur⟩, hlen.symm, huq, ht, hup, hcs⟩
/-- And where there is none. -/
theorem mg_none {wG w0 W : World} {m : Nat} {bottom : Bool} {want : List En} (hB : wG.heap.size ≤ w0.heap.size) (hm : Mb W m (.slice none 0 0) (.slice none 0 0) (.bool bottom) (.int .i64 0)) (hmb : w0.heap.size ≤ m) (b : Below w0.heap.size w0 W) (ht : Told [] bottom want) : Mg w0 wG.heap.size m [] bottom [] want W := by
  have q : MQ w0 wG.heap.size m [] (.slice none 0 0) (.bool bottom) (.int .i64 0) (.slice none 0 0) [] [] [] (([] : List (List En)).map some) W :=
    MQ.start (b.mono hB) (Nat.le_trans hB hmb) hm rfl (fun i x hx => by simp at hx) (by simp) (fun r hr => by simp at hr) (Nat.zero_le _) (KeepT.below b)
  exact .inr ⟨[], [], q, Nat.zero_le _, ⟨⟨by simp, fun y hy => by simp at hy, fun j r h => by simp [dn] at h, fun y hy => by simp at hy⟩, fun y hy => by simp at hy, fun z hz => by simp [pool, dn] at hz, fun j hj => by simp at hj⟩, ⟨List.Pairwise.nil, ht.up, ht.mem⟩⟩
end Go.Proofs.Ytchikfabfhjkgaa.Fd
set_option linter.unusedVariables false
set_option linter.unusedSimpArgs false
namespace Go.Proofs.Ytchikfabfhjkgaa.Fd
open Go.RowKit
theorem drop_cons {l : List En} {k : Nat} {e x : En} {l' : List En} (h : l[k]? = some e) (h2 : l.drop k = x :: l') : x = e ∧ l' = l.drop (k + 1) := by
  obtain ⟨hlt, rfl⟩ := List.getElem?_eq_some_iff.1 h
  rw [List.drop_eq_getElem_cons hlt] at h2
  injection h2 with h3 h4
  exact ⟨h3.symm, h4.symm⟩
theorem Bg.blw {w0 : World} {B m : Nat} {bxs : List (Nat × List En)} {bottom : Bool} {R : List (List En)} {l : List En} {ys : List St} {rs : List (Option (List En))} {W : World} (h : Bg w0 B m bxs bottom R l ys rs W) : Below B w0 W ∧ KeepT 49 w0 W := ⟨h.mq.below, h.mq.kp⟩
/-- What is read in a round over the feeds. -/
theorem round_at {w wG w0 : World} {bxs : List (Nat × List En)} {fa ga wa : Option Addr} {fc gc wc : Nat} {R : List (List En)} {want : List En} (h : TS w wG w0 bxs fa fc ga gc wa wc R want) {W : World} {m : Nat} {bottom : Bool} {l : List En} {ys : List St} {rs : List (Option (List En))} (q : Bg w0 wG.heap.size m bxs bottom R l ys rs W) {i : Nat} (hi : i < R.length) :
    ∃ (fg b g : Nat) (la : Option Addr) (lc : Nat) (r : List En) (o : Option (List En)), fa = some ⟨fg, 0, none⟩ ∧ ga = some ⟨g, 0, none⟩ ∧ R[i]? = some r ∧ r.length ≤ 60 ∧ r.length ≤ lc ∧ rs[i]? = some o ∧ W.cell? ⟨fg, i, none⟩ = some (.pointer (some ⟨b, 0, none⟩)) ∧ W.cell? ⟨b, 5, none⟩ = some (.int .i64 (usd r o : Nat)) ∧ W.cell? ⟨g, i, none⟩ = some (.slice la r.length lc) ∧ LAt W la r ∧ usd r o ≤ r.length + 1 ∧ (ys = [] → usd r o = r.length + 1) := by
  obtain ⟨b, hb⟩ : ∃ b, bxs[i]? = some b := ⟨_, List.getElem?_eq_getElem (by rw [h.len]; exact hi)⟩
  have hR := h.bx i b hb
  obtain ⟨fg, e1, k1⟩ := h.feedAt q.mq.kp hb
  obtain ⟨g, la, lc, e2, k2, k3, k4⟩ := h.listAt q.mq.below hR
  obtain ⟨o, k5, k6, k7, k8⟩ := q.used i b hb
  exact ⟨fg, b.1, g, la, lc, b.2, o, e1, e2, hR, h.sh _ (List.mem_of_getElem? hR), k3, k5, k1, k6, k2, k4, k7, k8⟩
set_option maxHeartbeats 8000000 in
set_option maxRecDepth 100000 in
theorem one_tail {t0 t1 t2 t3 t4 t5 t6 t11 t12 t14 t16 t17 t18 t19 t20 t21 t22 t23 t24 t25 t26 t27 t28 t29 t30 t31 t32 t33 t34 t35 t36 t37 t38 t39 t40 t41 t42 t43 t44 t45 t46 t47 t48 t49 t50 t51 t52 t53 t54 t55 t56 t57 t58 t59 t60 t61 t62 t63 t64 t65 t66 t67 t68 t69 t70 t71 t72 t73 t74 t75 t76 t77 t78 t79 t80 t81 t82 t83 t84 t85 t86 t87 t88 t89 t90 t91 t92 t93 t94 t95 t96 t97 t98 t99 t100 t101 t102 t103 t104 t105 t106 t107 t108 t109 t110 t111 t112 t113 t114 t115 t116 t117 t118 t119 t120 t121 t122 t123 t124 t125 t126 t127 t128 t129 t130 t131 t132 t133 t134 t135 t136 t137 t138 t139 t140 t141 t142 t143 t144 t145 t146 t147 t148 t149 t150 t151 t152 t153 t154 t155 t156 t157 t158 t159 t160 t161 t162 t163 t164 t165 t166 t167 t168 : Value} (w wG w0 W : World) (m n K : Nat) (bxs : List (Nat × List En)) (fa ga wa : Option Addr) (fc gc wc : Nat) (bottom : Bool) (R : List (List En)) (want : List En) (h : TS w wG w0 bxs fa fc ga gc wa wc R want) (hn : n = R.length) (hK : K = want.length) (hm : Mg w0 wG.heap.size m bxs bottom R want W) :
    Code.wp Try.prog (dropC 9 (Try.f7.body.getD .skip)) (bodyPost Try.prog Try.f7 fun e w' => e = .returned (.bool true) ∧ Below w.heap.size w w') { tmps := #[t0, t1, t2, t3, t4, t5, t6, .bool true, .slice ga n gc, .slice wa K wc, .int .i64 0, t11, t12, .slice fa n fc, t14, .pointer (some ⟨m, 0, none⟩), t16, t17, t18, t19, t20, t21, t22, t23, t24, t25, t26, t27, t28, t29, t30, t31, t32, t33, t34, t35, t36, t37, t38, t39, t40, t41, t42, t43, t44, t45, t46, t47, t48, t49, t50, t51, t52, t53, t54, t55, t56, t57, t58, t59, t60, t61, t62, t63, t64, t65, t66, t67, t68, t69, t70, t71, t72, t73, t74, t75, t76, t77, t78, t79, t80, t81, t82, t83, t84, t85, t86, t87, t88, t89, t90, t91, t92, t93, t94, t95, t96, t97, t98, t99, t100, t101, t102, t103, t104, t105, t106, t107, t108, t109, t110, t111, t112, t113, t114, t115, t116, t117, t118, t119, t120, t121, t122, t123, t124, t125, t126, t127, t128, t129, t130, t131, t132, t133, t134, t135, t136, t137, t138, t139, t140, t141, t142, t143, t144, t145, t146, t147, t148, t149, t150, t151, t152, t153, t154, t155, t156, t157, t158, t159, t160, t161, t162, t163, t164, t165, t166, t167, t168], defers := [] } W := by
  have hn60 : n ≤ 60 := by rw [hn]; exact h.n60
  have hK60 : K ≤ 60 := by rw [hK]; exact h.w60
  have HT := Hid.mk (And.intro h (And.intro hn hK))
  have H0 : Hid (Mg w0 wG.heap.size m bxs bottom R (want.drop 0) W) := Hid.mk (by rw [List.drop_zero]; exact hm)
  clear h hm hn hK
  simp only [dropC, sndC, Try.f7, Option.getD_some]
  go_wp2
  go_loopw [16, 17, 18, 19, 20, 21] (fun u _ _ _ _ _ wr => ∃ k : Nat, u = .int .i64 k ∧ k ≤ K ∧ Hid (Mg w0 wG.heap.size m bxs bottom R (want.drop k) wr)) (fun u _ _ _ _ _ _ => K - (intOf u).toNat)
  case atStart => exact ⟨0, rfl, Nat.zero_le _, H0⟩
  case round =>
    clear H0
    obtain ⟨k, rfl, hk, HI⟩ := hrel
    by_cases hlt : k < K
    · obtain ⟨e, he⟩ : ∃ e, want[k]? = some e := ⟨_, List.getElem?_eq_getElem (by rw [← HT.out.2.2]; exact hlt)⟩
      have hnx := HI.out.next
      have HE := Hid.mk he
      have j1 : (k : Int) < (K : Int) := by omega
      have j0 : 0 ≤ (k : Int) := by omega
      have wk : IntKind.i64.wrap ((k : Int) + 1) = (k : Int) + 1 := by rw [IntKind.wrap_i64]; omega
      clear HI he
      go_wp2_with fail
      refine hnx.mono ?_
      clear hnx
      rintro r W2 ⟨-, ys, rs, ⟨hl, -⟩ | ⟨e2, l', hl, rfl, hbg, hlow⟩⟩
      · exfalso
        have := congrArg List.length hl
        rw [List.length_drop, ← HT.out.2.2, List.length_nil] at this
        omega
      · obtain ⟨q1, q2⟩ := drop_cons HE.out hl
        subst q1
        subst q2
        clear hl
        obtain ⟨W3, hW3⟩ : ∃ W3, W3 = W2.alloc (.cells #[.int .i64 e2.v, .string e2.c, .int .i64 e2.i, .int .i64 e2.s, .bool e2.d] 23) := ⟨_, rfl⟩
        have bA : Below W2.heap.size W2 W3 := by rw [hW3]; exact (Below.refl _ W2).alloc (Nat.le_refl _) _
        have hX : W3.heap[W2.heap.size]? = some (.cells #[.int .i64 e2.v, .string e2.c, .int .i64 e2.i, .int .i64 e2.s, .bool e2.d] 23 (0, 0)) := by rw [hW3]; exact heap_alloc_last W2 _
        obtain ⟨X, hXe⟩ : ∃ X, X = W2.heap.size := ⟨_, rfl⟩
        rw [← hXe] at hX
        have x0 : W3.cell? ⟨X, 0, none⟩ = some (.int .i64 e2.v) := by rw [cell_of_row _ _ 0 _ _ (0, 0) hX]; rfl
        have x1 : W3.cell? ⟨X, 1, none⟩ = some (.string e2.c) := by rw [cell_of_row _ _ 1 _ _ (0, 0) hX]; rfl
        have x2 : W3.cell? ⟨X, 2, none⟩ = some (.int .i64 e2.i) := by rw [cell_of_row _ _ 2 _ _ (0, 0) hX]; rfl
        have x3 : W3.cell? ⟨X, 3, none⟩ = some (.int .i64 e2.s) := by rw [cell_of_row _ _ 3 _ _ (0, 0) hX]; rfl
        have x4 : W3.cell? ⟨X, 4, none⟩ = some (.bool e2.d) := by rw [cell_of_row _ _ 4 _ _ (0, 0) hX]; rfl
        have hb3 := hbg.later bA
        obtain ⟨g, off, hwa, y0, y1, y2, y3, y4⟩ := HT.out.1.wantAt hb3.mq.below HE.out
        subst hwa
        have HB := Hid.mk (And.intro hb3 hlow)
        simp only [enC]
        clear hX bA hbg hb3 hlow HE
        go_upto_region 18 with fail
        rw [← hW3, ← hXe]
        clear hW3 hXe W2
        go_quiet (fail)
        obtain ⟨W4, hW4⟩ : ∃ W4, W4 = W3.drewN nq := ⟨_, rfl⟩
        have b4 : Below W3.heap.size W3 W4 := by rw [hW4]; exact ((Drew.refl W3).more nq).below _
        replace x0 := cell_lat b4 x0
        replace x1 := cell_lat b4 x1
        replace x2 := cell_lat b4 x2
        replace x3 := cell_lat b4 x3
        replace x4 := cell_lat b4 x4
        have HB4 := Hid.mk (And.intro (HB.out.1.later b4) HB.out.2)
        have HK : Hid (∀ W', Below W4.heap.size W4 W' → Mg w0 wG.heap.size m bxs bottom R (want.drop (k + 1)) W') := Hid.mk (fun W' b => .inr ⟨_, _, HB4.out.1.later b⟩)
        rw [← hW4]
        clear hW4 y0 y1 y2 y3 y4 b4 HB
        go_wp2
        go_loopw [20, 21] (fun u _ wr => ∃ i : Nat, u = .int .i64 i ∧ i ≤ n ∧ Hid (Below W4.heap.size W4 wr)) (fun u _ _ => n - (intOf u).toNat)
        case atStart => exact ⟨0, rfl, Nat.zero_le _, Hid.mk (Below.refl _ _)⟩
        case round =>
          obtain ⟨i, rfl, hi, HJ⟩ := hrel
          by_cases hil : i < n
          · obtain ⟨fg, b, g2, la, lc, r, o, hfa, hga, hr, hr60, hrc, hro, c1, c2, c3, hla, hu, -⟩ := round_at HT.out.1 (HB4.out.1.later HJ.out) (by rw [← HT.out.2.1]; exact hil)
            subst hfa
            subst hga
            obtain ⟨q, hqe⟩ : ∃ q, q = usd r o := ⟨_, rfl⟩
            obtain ⟨rl, hrl⟩ : ∃ rl, rl = r.length := ⟨_, rfl⟩
            rw [← hqe] at c2 hu
            rw [← hrl] at c3 hu hr60 hrc
            have i1 : (i : Int) < (n : Int) := by omega
            have i0 : 0 ≤ (i : Int) := by omega
            have wi : IntKind.i64.wrap ((i : Int) + 1) = (i : Int) + 1 := by rw [IntKind.wrap_i64]; omega
            have wl : IntKind.i64.wrap ((rl : Int) + 1) = (rl : Int) + 1 := by rw [IntKind.wrap_i64]; omega
            have u1 : ¬ ((rl : Int) + 1 < (q : Int)) := by omega
            by_cases hq1 : q ≤ 1
            · have v1 : ¬ ((1 : Int) < (q : Int)) := by omega
              have HN : ∀ nq, Hid (Below W4.heap.size W4 (wr.drewN nq)) := fun nq => Hid.mk (chain HJ.out (((Drew.refl wr).more nq).below _) (Nat.le_refl _))
              clear hqe hrl hla hro hr hu hq1 hil hrc hr60 HJ
              go_upto_region 24 with fail
              go_quiet (fail)
              go_wp2
              go_roundw
              case rel => exact ⟨i + 1, by go_num, by omega, HN _⟩
              case measure => simp [intOf]; omega
            · obtain ⟨p, hp⟩ : ∃ p : Nat, q = p + 2 := ⟨q - 2, by omega⟩
              obtain ⟨y, hy⟩ : ∃ y, r[p]? = some y := ⟨_, List.getElem?_eq_getElem (by omega)⟩
              obtain ⟨g3, off3, hla3, z0, z1, z2, z3, z4⟩ := lat_at hla hy
              subst hla3
              have hle : cpE y e2 ≤ 0 := HB4.out.2 i r o p y hr hro (by omega) hy
              have hless := lessE_any e2 y
              have hdf : decide (cpE e2 y < 0) = false := decide_eq_false (by have := cpE_rev y e2; omega)
              rw [hdf] at hless
              simp only [enC] at hless
              have X0 := cell_lat HJ.out x0
              have X1 := cell_lat HJ.out x1
              have X2 := cell_lat HJ.out x2
              have X3 := cell_lat HJ.out x3
              have X4 := cell_lat HJ.out x4
              have v1 : (1 : Int) < (q : Int) := by omega
              have wq : IntKind.i64.wrap ((q : Int) - 2) = (p : Int) := by rw [IntKind.wrap_i64]; omega
              have p1 : (p : Int) < (rl : Int) := by omega
              have p0 : 0 ≤ (p : Int) := by omega
              clear hqe hrl hla hro hr hu hq1 hil hrc hr60 hp hy hle hdf
              go_upto_region 24 with fail
              go_region_held (fun w' => Below wr.heap.size wr w' ∧ w'.cell? ⟨X, 0, none⟩ = some (.int .i64 e2.v) ∧ w'.cell? ⟨X, 1, none⟩ = some (.string e2.c) ∧ w'.cell? ⟨X, 2, none⟩ = some (.int .i64 e2.i) ∧ w'.cell? ⟨X, 3, none⟩ = some (.int .i64 e2.s) ∧ w'.cell? ⟨X, 4, none⟩ = some (.bool e2.d) ∧ w'.cell? ⟨g3, off3 + p * 5, none⟩ = some (.int .i64 y.v) ∧ w'.cell? ⟨g3, off3 + p * 5 + 1, none⟩ = some (.string y.c) ∧ w'.cell? ⟨g3, off3 + p * 5 + 2, none⟩ = some (.int .i64 y.i) ∧ w'.cell? ⟨g3, off3 + p * 5 + 3, none⟩ = some (.int .i64 y.s) ∧ w'.cell? ⟨g3, off3 + p * 5 + 4, none⟩ = some (.bool y.d) ∧ w'.cell? ⟨g2, i, none⟩ = some (.slice (some ⟨g3, off3, none⟩) rl lc))
                ((refine (fun hb => ⟨hb, cell_lat hb X0, cell_lat hb X1, cell_lat hb X2, cell_lat hb X3, cell_lat hb X4, cell_lat hb z0, cell_lat hb z1, cell_lat hb z2, cell_lat hb z3, cell_lat hb z4, cell_lat hb c3⟩) ?_; first | exact bb | exact b_drew wr))
                ((go_at_call 27; refine (hless _).mono ?_; clear hless; rintro r w4 ⟨rfl, b4⟩; have bb : Below wr.heap.size wr w4 := below_d b4))
              all_goals
                go_wp2
                exact ⟨⟨i + 1, ival (by omega), by omega, Hid.mk (chain HJ.out bb (Nat.le_refl _))⟩, by simp only [intOf]; omega⟩
          · have i1 : ¬ (i : Int) < (n : Int) := by omega
            have HN := Hid.mk (HK.out _ HJ.out)
            clear hil HJ
            go_wp2
            go_roundw
            case rel => exact ⟨k + 1, by go_num, by omega, HN⟩
            case measure => simp [intOf]; omega
    · have j1 : ¬ (k : Int) < (K : Int) := by omega
      have hd : want.drop k = [] := List.drop_eq_nil_of_le (by rw [← HT.out.2.2]; omega)
      have H3 : Hid (Mg w0 wG.heap.size m bxs bottom R [] wr ∧ (0 < 0 → ∃ rs, Bg w0 wG.heap.size m bxs bottom R [] [] rs wr)) := Hid.mk ⟨by rw [← hd]; exact HI.out, fun h => absurd h (Nat.lt_irrefl 0)⟩
      clear hd HI hlt
      go_wp2
      go_loopw [22, 23, 24, 25] (fun u _ _ _ wr => ∃ c : Nat, u = .int .i64 c ∧ c ≤ 3 ∧ Hid (Mg w0 wG.heap.size m bxs bottom R [] wr ∧ (0 < c → ∃ rs, Bg w0 wG.heap.size m bxs bottom R [] [] rs wr))) (fun u _ _ _ _ => 3 - (intOf u).toNat)
      case atStart => exact ⟨0, rfl, Nat.zero_le _, H3⟩
      case round =>
        clear H3
        obtain ⟨c, rfl, hc, HC⟩ := hrel
        by_cases hc3 : c < 3
        · have hnx := HC.out.1.next
          have d1 : (c : Int) < 3 := by omega
          have wc' : IntKind.i64.wrap ((c : Int) + 1) = (c : Int) + 1 := by rw [IntKind.wrap_i64]; omega
          clear HC
          go_wp2_with fail
          refine hnx.mono ?_
          clear hnx
          rintro r W2 ⟨-, ys, rs, ⟨-, rfl, rfl, hbg⟩ | ⟨e2, l', hl, -⟩⟩
          · have bA : Below W2.heap.size W2 (W2.alloc (.cells #[.int .i64 0, .string ⟨#[]⟩, .int .i64 0, .int .i64 0, .bool false] 23)) := (Below.refl _ W2).alloc (Nat.le_refl _) _
            have HN := Hid.mk (hbg.later bA)
            simp only [zeroE]
            clear hbg bA
            go_wp2
            go_roundw
            case rel => exact ⟨c + 1, by go_num, by omega, Hid.mk ⟨.inr ⟨_, _, HN.out⟩, fun _ => ⟨_, HN.out⟩⟩⟩
            case measure => simp [intOf]; omega
          · cases hl
        · have d1 : ¬ (c : Int) < 3 := by omega
          obtain ⟨rs, hbg⟩ := HC.out.2 (by omega)
          obtain ⟨W5, hW5⟩ : ∃ W5, W5 = wr := ⟨_, rfl⟩
          rw [← hW5] at hbg ⊢
          have HB := Hid.mk hbg
          clear hW5 HC hbg hc3
          go_wp2
          go_loopw [26] (fun u wr => ∃ i : Nat, u = .int .i64 i ∧ i ≤ n ∧ Hid (Below W5.heap.size W5 wr)) (fun u _ => n - (intOf u).toNat)
          case atStart => exact ⟨0, rfl, Nat.zero_le _, Hid.mk (Below.refl _ _)⟩
          case round =>
            obtain ⟨i, rfl, hi, HJ⟩ := hrel
            by_cases hil : i < n
            · obtain ⟨fg, b, g2, la, lc, r, o, hfa, hga, hr, hr60, hrc, hro, c1, c2, c3, hla, -, hu⟩ := round_at HT.out.1 (HB.out.later HJ.out) (by rw [← HT.out.2.1]; exact hil)
              subst hfa
              subst hga
              rw [hu rfl] at c2
              obtain ⟨rl, hrl⟩ : ∃ rl, rl = r.length := ⟨_, rfl⟩
              rw [← hrl] at c2 c3 hr60 hrc
              rw [Int.natCast_add, Int.natCast_one] at c2
              have i1 : (i : Int) < (n : Int) := by omega
              have i0 : 0 ≤ (i : Int) := by omega
              have wi : IntKind.i64.wrap ((i : Int) + 1) = (i : Int) + 1 := by rw [IntKind.wrap_i64]; omega
              have wl : IntKind.i64.wrap ((rl : Int) + 1) = (rl : Int) + 1 := by rw [IntKind.wrap_i64]; omega
              have HN : ∀ nq, Hid (Below W5.heap.size W5 (wr.drewN nq)) := fun nq => Hid.mk (chain HJ.out (((Drew.refl wr).more nq).below _) (Nat.le_refl _))
              clear hu hrl hr hro hla hr60 hrc HJ hil
              go_upto_region 35 with fail
              go_quiet (fail)
              go_wp2
              go_roundw
              case rel => exact ⟨i + 1, by go_num, by omega, HN _⟩
              case measure => simp [intOf]; omega
            · have i1 : ¬ (i : Int) < (n : Int) := by omega
              have HF := Hid.mk (chain (chain HT.out.1.bw (HT.out.1.bl.trans HB.out.mq.below) (Nat.le_refl _)) HJ.out (Nat.le_refl _))
              clear hil HJ
              go_wp2
              go_ret
              exact ⟨rfl, HF.out⟩
end Go.Proofs.Ytchikfabfhjkgaa.Fd
set_option linter.unusedVariables false
set_option linter.unusedSimpArgs false
namespace Go.Proofs.Ytchikfabfhjkgaa.Fd
open Go.RowKit
/-- The lists that are given so far. -/
structure GS (w4 : World) (R : List (List En)) (k : Nat) (ps : List Gv) (gv : Value) (W : World) : Prop where
  len : ps.length = k
  ls : (ps.map fun p => p.2.2) = R.take k
  gi : GivI w4 ps gv W
theorem GS.form {w4 : World} {R : List (List En)} {k : Nat} {ps : List Gv} {gv : Value} {W : World} (h : GS w4 R k ps gv W) : ∃ a c, gv = .slice a k c := by
  obtain ⟨a, c, e, -⟩ := slice_form h.gi.row
  rw [h.len] at e
  exact ⟨a, c, e⟩
theorem GS.more {w4 : World} {R : List (List En)} {k : Nat} {ps : List Gv} {a : Option Addr} {c : Nat} {W : World} (h : GS w4 R k ps (.slice a k c) W) {la : Option Addr} (lc : Nat) {r : List En} (hr : R[k]? = some r) (hL : LAt w4 la r) (hl : r.length ≤ 60) (hk : k < 60) :
    ∃ a' c' w', (Builtin.append_ #[32, 32] 32 #[.slice a k c, .slice (some ⟨W.heap.size, 0, none⟩) 1 1]).run Try.prog (W.alloc (.cells #[.slice la r.length lc, .int .i64 0, .bool false, .int .i64 0, .bool false] 34)) = .ok (.slice a' (k + 1) c') w' ∧ GS w4 R (k + 1) (ps ++ [(la, lc, r)]) (.slice a' (k + 1) c') w' := by
  obtain ⟨a', c', w', h1, h2⟩ := h.gi.more (la, lc, r) hL (by show r.length < _; omega) (by rw [h.len]; omega)
  rw [h.len] at h1 h2
  exact ⟨a', c', w', h1, by simp [h.len], by rw [List.map_append, h.ls, List.take_add_one, hr]; rfl, h2⟩
theorem GS.gl {w4 : World} {R : List (List En)} {k : Nat} {ps : List Gv} {a : Option Addr} {c : Nat} {W : World} (h : GS w4 R k ps (.slice a k c) W) (hk : k = R.length) : GL W a R := by
  obtain ⟨a', c', e, g⟩ := h.gi.gl
  cases e
  rw [h.ls, hk, List.take_length] at g
  exact g
/-- Sources as New takes them. -/
theorem src_form {R : List (List En)} {w W : World} {bs : List (Nat × List En)} {fv sv : Value} (h : FedI R w bs bs fv sv W) : (bs.length = 0 ∧ sv = .slice none 0 0) ∨ ∃ sb c, sv = .slice (some ⟨sb, 0, none⟩) bs.length c := by
  rcases h.so.2 with ⟨e, e0⟩ | ⟨g, cap, cur, e, -⟩
  · exact .inl ⟨e0, e⟩
  · exact .inr ⟨g, cap, e⟩
theorem mg_any {wG w0 W : World} {m : Nat} {bs : List (Nat × List En)} {fv sv v' : Value} {bottom : Bool} {R : List (List En)} {want : List En} (hf : FedI R wG bs bs fv sv w0) (hlen : bs.length = R.length) (h60 : R.length ≤ 1024)
    (hm : Mb W m v' (.slice none 0 0) (.bool bottom) (.int .i64 0)) (ho : W.ownsRow 0 46 1 v' bs.length (bs.map fun b => fdV b.1)) (hmb : w0.heap.size ≤ m) (b : Below w0.heap.size w0 W)
    (hup : ∀ r ∈ R, rises r = true) (huq : Uniq R.flatten) (ht : Told R bottom want) (hcs : ∀ r ∈ R, ∀ e ∈ r, e.c.size ≤ 281474976710656) : Mg w0 wG.heap.size m bs bottom R want W := by
  have ho' := ho
  rcases ho.2 with ⟨e, e0⟩ | ⟨g, cap, cur, e, -, hg, -⟩
  · have h1 : bs = [] := List.length_eq_zero_iff.1 e0
    have h2 : R = [] := List.length_eq_zero_iff.1 (by omega)
    subst h1
    subst h2
    subst e
    exact mg_none hf.bl.size hm hmb b ht
  · have hB := hf.bl.size
    have q : MQ w0 wG.heap.size m bs v' (.bool bottom) (.int .i64 0) (.slice none 0 0) [] [] [] (R.map some) W :=
      MQ.start (b.mono hB) (Nat.le_trans hB hmb) hm hlen.symm (fun i x hx => ⟨(hf.fd i x hx).1, ((hf.fd i x hx).2.below b).base hf.bl⟩) hf.nd hup (by omega) (KeepT.below b)
    subst e
    refine .inl ⟨⟨g, cap, cur, q, hg, fun i x hx => ?_⟩, hlen.symm, huq, ht, hup, hcs⟩
    have := World.ownsRow.cells ho' (g := g) rfl i (fdV x.1) (by rw [List.getElem?_map, hx]; rfl)
    have e1 : (⟨g, 0, none⟩ : Addr).add i = ⟨g, 0 + i, none⟩ := by unfold Addr.add; split <;> simp_all
    rw [e1, Nat.zero_add, cell_of_row _ _ i _ _ (0, 0) hg] at this
    exact this
set_option maxHeartbeats 8000000 in
set_option maxRecDepth 100000 in
theorem law_one (all : List En) (la : Option Addr) (lc : Nat) (ts : List Int) (ta : Option Addr) (tc : Nat) (bottom : Bool) (w : World) (h : LAt w la all) (hl : all.length < 4611686018427387904) (ht : IAt w ta ts) (htl : ts.length < 4611686018427387904) (hcs : ∀ e ∈ all, e.c.size ≤ 281474976710656) :
    Calls Try.prog 7 #[.slice la all.length lc, .slice ta ts.length tc, .bool bottom] w fun r w' => r = .returned (.bool true) ∧ Below w.heap.size w w' := by
  have hbg := begun_any w
  have hfr := fun W (b : Below w.heap.size w W) => fresh_any all la lc W (h.below b) hl
  have HT := Hid.mk (And.intro ht (And.intro htl hcs))
  clear h ht hcs
  go_enter Try.func7, Try.ntmps7
  go_wp2_with fail
  refine hbg.mono ?_
  clear hbg
  rintro r w1 ⟨rfl, b1⟩
  replace hfr := hfr w1 b1
  go_wp2_with fail
  refine hfr.mono ?_
  clear hfr
  rintro r w2 ⟨b2, F, v, hu, hl60, hsub, rfl, ho, hg⟩
  obtain ⟨fa, fc, rfl, hfc⟩ := slice_form ho
  have bw2 := chain b1 b2 (Nat.le_refl _)
  have hL2 : LAt w2 fa F := by
    obtain ⟨a, c, e, -, hl⟩ := own_lat ho
    cases e
    exact hl
  have hde := dealt_any F fa fc ts ta tc w2 hL2 hl60 (HT.out.1.below bw2) HT.out.2.1
  have HO := Hid.mk (And.intro ho (And.intro bw2 (And.intro hu (And.intro hl60 hsub))))
  clear ho bw2 hL2 b1 b2 hg hu hl60 hsub
  go_wp2_with fail
  refine hde.mono ?_
  clear hde
  rintro r w3 ⟨b3, R, lv, hri, hrl, rfl, hdl⟩
  obtain ⟨ga, gc, rfl, hgc⟩ := hdl.form
  have fr : FR F R := ⟨HO.out.2.2.1, HO.out.2.2.2.1, fun e he => HT.out.2.2 e (HO.out.2.2.2.2 e he), hri, hrl⟩
  have K3 : MW w w2.heap.size F fa fc R (.slice ga R.length gc) w3 := ⟨row_kept HO.out.1 (F := fun _ => False) (.below b3) (fun _ _ h => h), hdl, chain HO.out.2.1 b3 (Nat.le_refl _), b3.size⟩
  have hm1 := fr.merge K3 bottom
  have hf60 := fr.l
  have hr60 : R.length ≤ 60 := by omega
  have H := Hid.mk (And.intro fr K3)
  clear fr K3 HO HT hri hrl hdl b3
  obtain ⟨fn, hfn⟩ : ∃ n, n = F.length := ⟨_, rfl⟩
  obtain ⟨rn, hrn⟩ : ∃ n, n = R.length := ⟨_, rfl⟩
  have HN := Hid.mk hrn
  rw [← hrn] at hm1
  rw [← hrn] at hr60 hgc
  rw [← hfn, ← hrn]
  clear hfn hrn hfc hf60
  go_wp2_with fail
  refine hm1.mono ?_
  clear hm1
  rintro r w4 ⟨b4, A, aa, ac, tA, rfl, hoA⟩
  have hAl : A.length ≤ 60 := H.out.1.tl (Nat.le_refl _) tA
  have H4 := Hid.mk (And.intro H.out.1 (And.intro (H.out.2.lat b4) (And.intro tA (And.intro (OL.mk hoA) HN.out))))
  obtain ⟨an, han⟩ : ∃ n, n = A.length := ⟨_, rfl⟩
  have HA := Hid.mk han
  rw [← han] at hAl ⊢
  clear b4 tA hoA H HN han
  go_wp2
  go_loopw [11, 12] (fun gv iv wr => ∃ (k : Nat) (ps : List Gv), iv = .int .i64 k ∧ k ≤ rn ∧ Hid (GS w4 R k ps gv wr)) (fun _ iv _ => rn - (intOf iv).toNat)
  case atStart => exact ⟨0, [], rfl, Nat.zero_le _, Hid.mk ⟨rfl, rfl, ⟨⟨rfl, .inl ⟨rfl, rfl⟩⟩, (fun k hk => by cases hk), (fun p hp => by cases hp), Below.refl _ _⟩⟩⟩
  case round =>
    obtain ⟨k, ps, rfl, hk, HG⟩ := hrel
    obtain ⟨xa, xc, hgv⟩ := HG.out.form
    subst hgv
    by_cases hlt : k < rn
    · obtain ⟨r, hr⟩ : ∃ r, R[k]? = some r := ⟨_, List.getElem?_eq_getElem (by rw [← H4.out.2.2.2.2]; exact hlt)⟩
      obtain ⟨g, la', lc', hga, c0, -, hrc, hL⟩ := H4.out.2.1.dl.at' hr
      subst hga
      have c1 := cell_lat HG.out.gi.bl c0
      obtain ⟨a', c', w', hap, hG⟩ := HG.out.more lc' hr hL (H4.out.1.short r (List.mem_of_getElem? hr)) (by omega)
      have HG2 := Hid.mk hG
      have j1 : (k : Int) < (rn : Int) := by omega
      have j0 : 0 ≤ (k : Int) := by omega
      have wk : IntKind.i64.wrap ((k : Int) + 1) = (k : Int) + 1 := by rw [IntKind.wrap_i64]; omega
      clear hr hrc hL c0 hG HG
      go_wp2_with (at_builtin; refine wpList_append_eq rfl _ _ _ _ rfl _ _ _ _ rfl rfl hap ?_; clear hap)
      exact ⟨⟨k + 1, _, ival (by omega), by omega, HG2⟩, by simp only [intOf]; omega⟩
    · have hkr : k = rn := by omega
      subst hkr
      have j1 : ¬ (k : Int) < (k : Int) := by omega
      have hfd := fed_any R xa xc wr (HG.out.gl H4.out.2.2.2.2) (by rw [← H4.out.2.2.2.2]; omega)
      rw [← H4.out.2.2.2.2] at hfd
      obtain ⟨wG, hwG⟩ : ∃ wG, wG = wr := ⟨_, rfl⟩
      have HB := Hid.mk HG.out.gi.bl
      rw [← hwG] at hfd HB ⊢
      clear HG hlt hk hwG
      go_wp2_with fail
      refine hfd.mono ?_
      clear hfd
      rintro r w5 ⟨bs, fv, sv, rfl, hbl, hF⟩
      obtain ⟨f1, f2, hfv, -⟩ := slice_form hF.fo
      subst hfv
      have hsv := src_form hF
      have HTS : Hid (TS w wG w5 bs f1 f2 ga gc aa ac R A) := Hid.mk ⟨chain H4.out.2.1.bw HB.out (Nat.le_refl _), hF.bl, ⟨(H4.out.2.1.dl.lat HB.out).row, fun g h => Nat.zero_le _⟩, H4.out.2.2.2.1.lat HB.out, hF.fo, fun i b hb => (hF.fd i b hb).1, hbl.trans H4.out.2.2.2.2, H4.out.1.short, by rw [← H4.out.2.2.2.2]; exact hr60, by rw [← HA.out]; exact hAl⟩
      have HMG : Hid (∀ (m : Nat) (v' : Value) (W : World), Mb W m v' (.slice none 0 0) (.bool bottom) (.int .i64 0) → W.ownsRow 0 46 1 v' bs.length (bs.map fun b => fdV b.1) → w5.heap.size ≤ m → Below w5.heap.size w5 W → Mg w5 wG.heap.size m bs bottom R A W) := Hid.mk (fun m v' W h1 h2 h3 h4 => mg_any hF (hbl.trans H4.out.2.2.2.2) (by rw [← H4.out.2.2.2.2]; omega) h1 h2 h3 h4 (fun r hr => up_rises (H4.out.1.ri.up r hr)) H4.out.1.uu H4.out.2.2.1 H4.out.1.cc)
      have HL := Hid.mk hbl
      rcases hsv with ⟨h0, rfl⟩ | ⟨sb, sc, rfl⟩
      · have hnw := new_none bottom w5
        have HZ := Hid.mk h0
        rw [hbl]
        clear hbl hF h0
        go_upto_region 11 with fail
        rename_i K3 a3
        have HC := Hid.mk a3
        clear a3
        go_wp2_with fail
        refine hnw.mono ?_
        clear hnw
        rintro r w6 ⟨m, rfl, hMb, hmb, b6⟩
        have HM := Hid.mk (HMG.out m _ w6 hMb ⟨by rw [List.length_map, HZ.out], .inl ⟨rfl, HZ.out⟩⟩ hmb b6)
        clear hMb hmb b6
        go_wp2
        exact HC.out _ _ (one_tail w wG w5 w6 m k an bs f1 ga aa f2 gc ac bottom R A HTS.out H4.out.2.2.2.2 HA.out HM.out)
      · have hnw := new_any sb bs.length sc bottom (bs.map fun b => fdV b.1) w5 (by rw [hbl]; omega) hF.so (fun u hu => by obtain ⟨b, -, rfl⟩ := List.mem_map.1 hu; rfl)
        rw [hbl] at hnw ⊢
        clear hbl hF
        go_upto_region 11 with fail
        rename_i K3 a3
        have HC := Hid.mk a3
        clear a3
        go_wp2_with fail
        refine hnw.mono ?_
        clear hnw
        rintro r w6 ⟨m, v', rfl, hMb, ho', -, hmb, b6⟩
        have HM := Hid.mk (HMG.out m _ w6 hMb (by rw [HL.out]; exact ho') hmb b6)
        clear hMb hmb b6 ho'
        go_wp2
        exact HC.out _ _ (one_tail w wG w5 w6 m k an bs f1 ga aa f2 gc ac bottom R A HTS.out H4.out.2.2.2.2 HA.out HM.out)
end Go.Proofs.Ytchikfabfhjkgaa.Fd
set_option linter.unusedVariables false
set_option linter.unusedSimpArgs false
namespace Go.Proofs.Ytchikfabfhjkgaa
open Go.RowKit Go.ChangeShapes Go.WideShapes Go.Deep
set_option maxRecDepth 100000 in
/-- What an entry reads as, with its data. -/
theorem en_trod2 {H : Type} {enc : TypeId × Value → H} {W : World} {base : Nat} {spare : Nat → Bool} {held : Bool} {fuel : Nat} {cs : List Value} {x : DataW H × List MemPlace}
    (h : DataW.trod enc Try.prog W base spare held fuel 23 cs = some x) : ∃ e : En, cs = enC e ∧ ∃ y0 y2 y3 y4, x.1 = .agg [y0, .lit (.string e.c.data.toList), y2, y3, y4] := by
  obtain ⟨xs, k, hk, hxy, hlen, hxl, hf⟩ := DataW.trod_struct Try.underlying23 h
  rw [cellsEn] at hlen
  match xs, hxl, cs, hlen with
  | [y0, y1, y2, y3, y4], _, [v0, v1, v2, v3, v4], _ =>
    have g0 := hf 0 _ rfl
    have g1 := hf 1 _ rfl
    have g2 := hf 2 _ rfl
    have g3 := hf 3 _ rfl
    have g4 := hf 4 _ rfl
    simp [cells3] at g0 g2 g3
    simp [cells9] at g1
    simp [cells4] at g4
    obtain ⟨z0, hz0, _⟩ := DataW.trod_int Try.underlying3 g0
    obtain ⟨z1, hz1, hd1, _⟩ := DataW.trod_string Try.underlying9 g1
    obtain ⟨z2, hz2, _⟩ := DataW.trod_int Try.underlying3 g2
    obtain ⟨z3, hz3, _⟩ := DataW.trod_int Try.underlying3 g3
    obtain ⟨z4, hz4, _⟩ := DataW.trod_bool Try.underlying4 g4
    simp at hz0 hz1 hz2 hz3 hz4
    subst hz0 hz1 hz2 hz3 hz4
    exact ⟨⟨z0, z1, z2, z3, z4⟩, rfl, y0.1, y2.1, y3.1, y4.1, by rw [hxy]; simp [hd1]⟩
theorem weights_in {H : Type} {P : Program} {e : TypeId} : ∀ {ds : List (DataW H)} {d : DataW H} {n : Nat}, d ∈ ds → n ∈ d.weights P e → n ∈ DataW.weightsAll P e ds
  | d' :: ds, d, n, hd, hn => by
    unfold DataW.weightsAll
    rcases List.mem_cons.1 hd with rfl | h
    · exact List.mem_append_left _ hn
    · exact List.mem_append_right _ (weights_in h hn)
set_option maxRecDepth 100000 in
theorem open_ens2 {H : Type} {enc : TypeId × Value → H} {W : World} {base : Nat} {spare : Nat → Bool} {held : Bool} {fuel : Nat} {a0 : Option Addr} {len cap : Nat} {d : DataW H} {ps : List MemPlace}
    (h : DataW.trod enc Try.prog W base spare held fuel 24 [.slice a0 len cap] = some (d, ps)) (hsz : ∀ n ∈ d.weights Try.prog 24, n ≤ reachBytes) :
    ∃ l : List En, l.length = len ∧ LAt W a0 l ∧ l.length < 4611686018427387904 ∧ ∀ e ∈ l, e.c.size ≤ 281474976710656 := by
  rcases open_slice Try.underlying24 h with ⟨hcs, _⟩ | ⟨a, len', cap', m, n, D, Pl, hcs, _, _, _, hm, hx, hel⟩
  · simp at hcs
    obtain ⟨rfl, rfl, rfl⟩ := hcs
    exact ⟨[], rfl, ⟨fun h => absurd rfl h⟩, by simp, fun e he => by cases he⟩
  · simp at hcs
    obtain ⟨rfl, rfl, rfl⟩ := hcs
    have hlm : len ≤ m := by rw [hm]; split <;> omega
    simp only [Prod.mk.injEq] at hx
    obtain ⟨hd, hps⟩ := hx
    have each : ∀ i, i < len → ∃ e : En, (∀ j v, (enC e)[j]? = some v → W.cell? ((a.add (i * 5)).add j) = some v) ∧ e.c.size ≤ 281474976710656 := by
      intro i hi
      obtain ⟨cs', h1, h2⟩ := hel i (by omega)
      rw [cellsEn] at h1
      obtain ⟨_, hlen, hcell⟩ := World.cells?_some h1
      obtain ⟨e, rfl, y0, y2, y3, y4, hD⟩ := en_trod2 h2
      refine ⟨e, fun j v hv => ?_, ?_⟩
      · have hj : j < 5 := by have := (List.getElem?_eq_some_iff.1 hv).1; simpa [enC] using this
        rw [hcell j hj, hv]
      · have hw := hsz e.c.data.toList.length (by
          rw [hd]
          unfold DataW.weights
          rw [Try.underlying24]
          refine List.mem_cons_of_mem _ (List.mem_append_left _ (weights_in (d := D i) (List.mem_map.2 ⟨i, List.mem_range.2 hi, rfl⟩) ?_))
          have hD' : D i = .agg [y0, .lit (.string e.c.data.toList), y2, y3, y4] := hD
          rw [hD']
          unfold DataW.weights
          rw [Try.underlying23]
          show _ ∈ DataW.weightsEach Try.prog (3 :: 9 :: _) (y0 :: .lit (.string e.c.data.toList) :: _)
          unfold DataW.weightsEach
          refine List.mem_append_right _ ?_
          unfold DataW.weightsEach
          refine List.mem_append_left _ ?_
          unfold DataW.weights
          exact List.mem_singleton.2 rfl)
        rw [nm_size] at hw
        have : reachBytes = 140737488351232 := by decide
        omega
    haveI : Inhabited En := ⟨e0⟩
    obtain ⟨F, hF⟩ := choose_lt each
    have hlen : len < 4611686018427387904 := by
      have hw := hsz ((((List.range len).map D).length + ((List.range (m - len)).map fun j => D (len + j)).length) * Try.prog.bytesOf 23) (by
        rw [hd]
        unfold DataW.weights
        rw [Try.underlying24]
        exact List.mem_cons_self)
      rw [bytesEn] at hw
      simp at hw
      have : reachBytes = 140737488351232 := by decide
      omega
    refine ⟨(List.range len).map F, by simp, ⟨fun hne => ?_⟩, by simpa using hlen, fun e he => ?_⟩
    · have hl0 : 0 < len := by
        rcases Nat.eq_zero_or_pos len with h0 | h0
        · subst h0; simp at hne
        · exact h0
      obtain ⟨b, off, spot⟩ := a
      have hsp : spot = none := by
        have := World.cell?_spot ((hF 0 hl0).1 0 _ rfl)
        simpa [Addr.add] using this
      subst hsp
      refine ⟨b, off, rfl, flat_to fun i hi j v hv => ?_⟩
      have hi' : i < len := by simpa using hi
      have h1 := (hF i hi').1 j v (by simpa using hv)
      rw [add_plain, add_plain, Nat.add_assoc] at h1
      exact h1
    · obtain ⟨i, hi, rfl⟩ := List.mem_map.1 he
      exact (hF i (List.mem_range.1 hi)).2
theorem open_ints2 {H : Type} {enc : TypeId × Value → H} {W : World} {base : Nat} {spare : Nat → Bool} {held : Bool} {fuel : Nat} {a0 : Option Addr} {len cap : Nat} {d : DataW H} {ps : List MemPlace}
    (h : DataW.trod enc Try.prog W base spare held fuel 56 [.slice a0 len cap] = some (d, ps)) (hsz : ∀ n ∈ d.weights Try.prog 56, n ≤ reachBytes) :
    ∃ l : List Int, l.length = len ∧ IAt W a0 l ∧ l.length < 4611686018427387904 := by
  rcases open_ints Try.underlying56 Try.underlying3 cells3 h with ⟨hcs, hx⟩ | ⟨a, len', cap', zs, hcs, _, hl, hm, hz, hx, hcell, hwz⟩
  · simp at hcs
    obtain ⟨rfl, rfl, rfl⟩ := hcs
    exact ⟨[], rfl, fun j q hq => by simp at hq, by simp⟩
  · simp at hcs
    obtain ⟨rfl, rfl, rfl⟩ := hcs
    have hlz : len ≤ zs.length := by rw [hz]; split <;> omega
    simp only [Prod.mk.injEq] at hx
    have hb : Try.prog.bytesOf 3 = 8 := by kernel_rfl
    have hlen : len < 4611686018427387904 := by
      have hw := hsz (((lits .i64 (zs.take len) : List (DataW H)).length + (lits .i64 (zs.drop len) : List (DataW H)).length) * Try.prog.bytesOf 3) (by
        rw [hx.1]
        unfold DataW.weights
        rw [Try.underlying56]
        exact List.mem_cons_self)
      rw [hb] at hw
      have h1 : (lits .i64 (zs.take len) : List (DataW H)).length = len := by simp [lits]; omega
      rw [h1] at hw
      have : reachBytes = 140737488351232 := by decide
      omega
    refine ⟨zs.take len, by simp; omega, fun j q hq => ?_, by simp; omega⟩
    obtain ⟨hj, hjq⟩ := List.getElem?_eq_some_iff.1 hq
    have hj' : j < zs.length := by rw [List.length_take] at hj; omega
    obtain ⟨b, off, spot⟩ := a
    have hspot : spot = none := by simpa [Addr.add] using World.cell?_spot (hcell 0 (by omega))
    subst hspot
    refine ⟨b, off, rfl, ?_⟩
    have := hcell j hj'
    rw [add_plain, List.getD_eq_getElem?_getD, List.getElem?_eq_getElem hj'] at this
    rw [List.getElem_take] at hjq
    rw [← hjq]
    simpa using this
end Go.Proofs.Ytchikfabfhjkgaa
set_option linter.unusedSimpArgs false
set_option linter.unusedVariables false
namespace Go.Proofs.Ytchikfabfhjkgaa
open Go.ChangeMaps (open_string shut_string)
open Go.ChangeShapes Go.WideShapes Go.ChangeAt Go.WideMaps Go.WideElems Go.RowKit
theorem one_own : ownKnob Try.prog.godebug = none := by kernel_rfl
set_option maxRecDepth 100000 in
theorem one_lifted (os : Os) (started : os.Started) (H : Type) (enc : TypeId × Value → H) :
    ReturnsInHanded {} Try.checked os 7 .any (Rows.mergeOneByOneSpec.pre6 enc Try.prog Try.f7 Rows.mergeOneByOneRow.domain false)
      (Rows.mergeOneByOneSpec.post enc Try.prog Try.f7 false true false false) := by
  refine returnsInHanded_of_change_sized (C := Try.checked) one_own started (by kernel_rfl) Try.func7
    (ChangeSpec.witness6 (enc := enc) (C := Try.checked) false ⟨#[], #[.slice none 0 0, .slice none 0 0, .bool false], []⟩ 8 (by kernel_rfl) (by kernel_rfl) (by kernel_rfl) (by kernel_rfl)) ?_
  intro W base args ds gs before hval0 hW _ hsz0 _
  have hsz : (DataW.weightsEach Try.prog (Try.f7.params.toList ++ Rows.mergeOneByOneSpec.plain.varTypes Try.prog) (ds ++ gs)).all (· ≤ reachBytes) = true := hsz0
  clear hsz0
  have hval : ∀ (j : Nat) t v, Try.f7.params[j]? = some t → args[j]? = some v → Value.okWide Try.prog W .any base t v := hval0
  have hW' := hW
  obtain ⟨p, q, hA0, hV, rfl, hfz, hnd⟩ := hW
  have hA : DataW.TrodAll enc Try.prog W 0 (fun _ => true) true Try.f7.params.toList args.toList ds p := hA0
  rw [Try.params7] at hA hval hsz
  obtain ⟨v0, v1, v2, d0, d1, d2, p0, p1, p2, rfl, rfl, rfl, h0, h1, h2⟩ := trodAll_three hA
  obtain ⟨rfl, rfl⟩ := trodVars_none hV
  obtain ⟨a0, len0, cap0, rfl⟩ := okWide_slice Try.underlying24 (hval 0 24 v0 rfl rfl)
  have h0k := h0
  obtain ⟨fuel0, hf0⟩ := h0
  have hs0 : ∀ n ∈ d0.weights Try.prog 24, n ≤ reachBytes := fun n hn => by simpa using List.all_eq_true.1 hsz n (DataW.weights_mem_each (j := 0) (t := 24) rfl rfl n hn)
  obtain ⟨l, hl0, hL0, hB0, hC0⟩ := open_ens2 (by simpa [Value.cells] using hf0) hs0
  subst hl0
  obtain ⟨a1, len1, cap1, rfl⟩ := okWide_slice Try.underlying56 (hval 1 56 v1 rfl rfl)
  have h1k := h1
  obtain ⟨fuel1, hf1⟩ := h1
  have hs1 : ∀ n ∈ d1.weights Try.prog 56, n ≤ reachBytes := fun n hn => by simpa using List.all_eq_true.1 hsz n (DataW.weights_mem_each (j := 1) (t := 56) rfl rfl n hn)
  obtain ⟨t, hl1, hL1, hB1⟩ := open_ints2 (by simpa [Value.cells] using hf1) hs1
  subst hl1
  obtain ⟨b, rfl, rfl, rfl⟩ := open_bool Try.underlying4 (hval 2 4 v2 rfl rfl) h2
  clear hA0 hval0
  simp only [List.append_nil, List.nil_append] at hW'
  have hlt0 : ∀ x ∈ p0, x.block < W.heap.size := fun x hx => hW'.lt x (by simp [hx])
  have hlt1 : ∀ x ∈ p1, x.block < W.heap.size := fun x hx => hW'.lt x (by simp [hx])
  have e1 : Rows.mergeOneByOneSpec.fn H ([d0, d1, .lit (.bool b)] ++ []) = { results := [.lit (.bool true)], args := [d0, d1, .lit (.bool b)] } := by simp [Rows.mergeOneByOneSpec]
  have fin : ∀ (e : Ending) (W' : World), (e = .returned (.bool true) ∧ Below W.heap.size W W') → ∃ v, e = .returned v ∧ Rows.mergeOneByOneSpec.post enc Try.prog Try.f7 false true false false W #[.slice a0 l.length cap0, .slice a1 t.length cap1, .bool b] v W' := by
    rintro e W' ⟨rfl, hbl⟩
    refine ⟨_, rfl, _, _, _, [], p0 ++ p1, [], hW', ?_, ?_, ?_, hbl.frame _, fun h => by cases h⟩
    · rw [e1]; exact trodAll_mk1 (shut_bool Try.underlying4 true)
    · rw [e1]; have h5 := trodAll_mk3 (Below.trod laidOut (by kernel_rfl) (of_decide_eq_true (by kernel_rfl)) h0k hbl hlt0) (Below.trod laidOut (by kernel_rfl) (of_decide_eq_true (by kernel_rfl)) h1k hbl hlt1) (shut_bool Try.underlying4 b); simp only [List.append_nil] at h5; exact h5
    · rw [e1]; rfl
  exact (Fd.law_one l a0 cap0 t a1 cap1 b W hL0 hB0 hL1 hB1 hC0).mono fin

theorem one_row : Rows.MergeOneByOneSaid :=
  OpenClaim.holds_of_wide 7 Try.f7 rfl rfl rfl rfl rfl rfl rfl ⟨rfl, rfl, rfl, rfl, rfl⟩ rfl rfl rfl rfl rfl (by kernel_rfl) Try.func7 (by kernel_rfl)
    (of_decide_eq_true (by kernel_rfl)) (by unfold Func.isWrapper; rw [if_neg (of_decide_eq_false (by kernel_rfl))]; exact ⟨rfl, rfl⟩)
    (fun os started H enc _ => one_lifted os started H enc)
#print axioms one_row
end Go.Proofs.Ytchikfabfhjkgaa
