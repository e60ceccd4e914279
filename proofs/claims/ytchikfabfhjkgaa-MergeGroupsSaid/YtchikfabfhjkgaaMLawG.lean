/-
  DERIVED. MergeGroups: the walk.
-/
import Derived.Test.YtchikfabfhjkgaaMTurned
set_option linter.unusedVariables false
set_option linter.unusedSimpArgs false
namespace Go.Proofs.Ytchikfabfhjkgaa
open Go.RowKit
/-- Two lists that are there, as a list of lists. -/
theorem pair_ll {W : World} {p q : List En} {pa qa : Option Addr} {pc qc : Nat} (hp : LAt W pa p) (hq : LAt W qa q) (h1 : p.length ≤ pc) (h2 : q.length ≤ qc) (h3 : p.length ≤ 60) (h4 : q.length ≤ 60) :
    LL (W.alloc (.cells #[.slice pa p.length pc, .slice qa q.length qc] 24)) (some ⟨W.heap.size, 0, none⟩) [p, q] := by
  have b : Below W.heap.size W (W.alloc (.cells #[.slice pa p.length pc, .slice qa q.length qc] 24)) := (Below.refl _ W).alloc (Nat.le_refl _) _
  have c3 := fun j u hu => new_cells W [.slice pa p.length pc, .slice qa q.length qc] 24 j u hu
  have ad : ∀ j, (⟨W.heap.size, 0, none⟩ : Addr).add j = ⟨W.heap.size, 0 + j, none⟩ := fun j => by unfold Addr.add; split <;> simp_all
  refine ⟨fun i r hr => ?_⟩
  match i, hr with
  | 0, hr =>
    cases hr
    have := c3 0 _ rfl
    rw [ad] at this
    exact ⟨_, _, _, _, rfl, this, h1, hp.below b, by omega⟩
  | 1, hr =>
    cases hr
    have := c3 1 _ rfl
    rw [ad] at this
    exact ⟨_, _, _, _, rfl, this, h2, hq.below b, by omega⟩
  | _ + 2, hr => simp at hr
/-- Where a slice from k on lies. -/
def offA (ga : Option Addr) (gc k : Nat) : Option Addr := match ga with
  | none => none
  | some a => if gc = k then some a else some (a.add k)
/-- A list that Merge has told, at a world. -/
structure OL (W : World) (a : Option Addr) (l : List En) (c : Nat) : Prop where
  o : W.ownsRow 0 23 5 (.slice a l.length c) l.length (l.flatMap enC)
theorem OL.lat {W W' : World} {a : Option Addr} {l : List En} {c : Nat} (h : OL W a l c) (b : Below W.heap.size W W') : OL W' a l c := ⟨row_kept h.o (F := fun _ => False) (.below b) (fun _ _ h => h)⟩
theorem OL.la {W : World} {a : Option Addr} {l : List En} {c : Nat} (h : OL W a l c) : LAt W a l := by
  obtain ⟨a', c', e, -, hl⟩ := own_lat h.o
  cases e
  exact hl
theorem OL.cap {W : World} {a : Option Addr} {l : List En} {c : Nat} (h : OL W a l c) : l.length ≤ c := by
  obtain ⟨a', c', e, hc⟩ := slice_form h.o
  cases e
  exact hc
theorem FR.rev {F : List En} {R : List (List En)} (h : FR F R) : R.reverse.flatten.Perm F := (List.Perm.flatten (List.reverse_perm R)).trans h.ri.flat
theorem FR.tl {F : List En} {R P : List (List En)} (h : FR F R) (hs : P.flatten.length ≤ R.flatten.length) {bottom : Bool} {out : List En} (t : Told P bottom out) : out.length ≤ 60 := by
  have := t.len
  rw [h.ri.flat.length_eq] at hs
  have := h.l
  omega
theorem FR.both {F : List En} {R : List (List En)} (h : FR F R) (k : Nat) {p q : List En} (hp : Told (R.take k) false p) (hq : Told (R.drop k) false q) {W : World} {la : Option Addr} (hl : LL W la [p, q]) (lc : Nat) (bottom : Bool) :
    Calls Try.prog 24 #[.slice la 2 lc, .bool bottom] W (MgO [p, q] bottom W) := by
  have e : R.take k ++ R.drop k = R := List.take_append_drop k R
  have hm : ∀ x, (x ∈ p ∨ x ∈ q) → x ∈ F := fun x hx => h.ri.flat.mem_iff.1 (by
    rw [← e, List.flatten_append]
    rcases hx with hx | hx
    · exact List.mem_append_left _ ((hp.mem x).1 hx).1.1
    · exact List.mem_append_right _ ((hq.mem x).1 hx).1.1)
  have s1 : (R.take k).flatten.length + (R.drop k).flatten.length = R.flatten.length := by
    conv => rhs; rw [← e, List.flatten_append, List.length_append]
  have l1 : p.length ≤ 60 := h.tl (by omega) hp
  have l2 : q.length ≤ 60 := h.tl (by omega) hq
  refine merge_told [p, q] la lc bottom W hl (by simp) (fun r hr x hx => ?_) (by simp; omega) (fun r hr => ?_) (both_uniq hp hq (by rw [e]; exact h.uu))
  · simp only [List.mem_cons, List.not_mem_nil, or_false] at hr
    rcases hr with rfl | rfl
    · exact h.c x (hm x (.inl hx))
    · exact h.c x (hm x (.inr hx))
  · simp only [List.mem_cons, List.not_mem_nil, or_false] at hr
    rcases hr with rfl | rfl
    · exact hp.up
    · exact hq.up
set_option maxHeartbeats 8000000 in
set_option maxRecDepth 100000 in
theorem law_groups (all : List En) (la : Option Addr) (lc : Nat) (ts : List Int) (ta : Option Addr) (tc : Nat) (os : List Int) (oa : Option Addr) (oc : Nat) (cut : Int) (bottom : Bool) (w : World) (h : LAt w la all) (hl : all.length < 4611686018427387904) (ht : IAt w ta ts) (htl : ts.length < 4611686018427387904) (hot : IAt w oa os) (hol : os.length < 4611686018427387904) (hcs : ∀ e ∈ all, e.c.size ≤ 281474976710656) :
    Calls Try.prog 6 #[.slice la all.length lc, .slice ta ts.length tc, .slice oa os.length oc, .int .i64 cut, .bool bottom] w fun r w' => r = .returned (.bool true) ∧ Below w.heap.size w w' := by
  have hbg := begun_any w
  have hfr := fun W (b : Below w.heap.size w W) => fresh_any all la lc W (h.below b) hl
  have HT := Hid.mk (And.intro ht (And.intro htl (And.intro hcs (And.intro hot hol))))
  clear h ht hcs hot
  go_enter Try.func6, Try.ntmps6
  go_wp2_with fail
  refine hbg.mono ?_
  clear hbg
  rintro r w1 ⟨rfl, b1⟩
  replace hfr := hfr w1 b1
  go_wp2_with fail
  refine hfr.mono ?_
  clear hfr
  rintro r w2 ⟨b2, F, v, hu, hl60, hsub, rfl, ho, hg⟩
  obtain ⟨fa, fc, rfl, hfc⟩ := slice_form ho
  have bw2 := chain b1 b2 (Nat.le_refl _)
  have hL2 : LAt w2 fa F := by
    obtain ⟨a, c, e, -, hl⟩ := own_lat ho
    cases e
    exact hl
  have hde := dealt_any F fa fc ts ta tc w2 hL2 hl60 (HT.out.1.below bw2) HT.out.2.1
  have HO := Hid.mk (And.intro ho (And.intro bw2 (And.intro hu (And.intro hl60 hsub))))
  clear ho bw2 hL2 b1 b2 hg hu hl60 hsub
  go_wp2_with fail
  refine hde.mono ?_
  clear hde
  rintro r w3 ⟨b3, R, lv, hri, hrl, rfl, hdl⟩
  obtain ⟨ga, gc, rfl, hgc⟩ := hdl.form
  have fr : FR F R := ⟨HO.out.2.2.1, HO.out.2.2.2.1, fun e he => HT.out.2.2.1 e (HO.out.2.2.2.2 e he), hri, hrl⟩
  have K3 : MW w w2.heap.size F fa fc R (.slice ga R.length gc) w3 := ⟨row_kept HO.out.1 (F := fun _ => False) (.below b3) (fun _ _ h => h), hdl, chain HO.out.2.1 b3 (Nat.le_refl _), b3.size⟩
  have hm1 := fr.merge K3 bottom
  have H := Hid.mk (And.intro fr (And.intro K3 (And.intro HO.out.2.1 (And.intro HT.out.2.2.2.1 (And.intro HT.out.2.2.2.2 HT.out.2.2.1)))))
  have hf60 := fr.l
  have hr60 : R.length ≤ 60 := by omega
  clear fr K3 HO HT hri hrl hdl b3
  obtain ⟨fn, hfn⟩ : ∃ n, n = F.length := ⟨_, rfl⟩
  obtain ⟨rn, hrn⟩ : ∃ n, n = R.length := ⟨_, rfl⟩
  have HN := Hid.mk (And.intro hfn hrn)
  rw [← hrn] at hm1
  rw [← hrn] at hr60 hgc
  rw [← hfn] at hf60 hfc
  rw [← hfn, ← hrn]
  clear hfn hrn
  go_wp2_with fail
  refine hm1.mono ?_
  clear hm1
  rintro r w4 ⟨b4, A, aa, ac, tA, rfl, hoA⟩
  have K4 := H.out.2.1.lat b4
  have hAl : A.length ≤ 60 := H.out.1.tl (Nat.le_refl _) tA
  have htu := turned_any R w2.heap.size ga gc w4 K4.dl (by have := HN.out.2; omega)
  have H4 := Hid.mk (And.intro K4 (And.intro tA (OL.mk hoA)))
  rw [← HN.out.2] at htu
  clear b4 K4 tA hoA
  go_wp2_with fail
  refine htu.mono ?_
  clear htu
  rintro r w5 ⟨b5, ba, bc, rfl, hD5⟩
  have hrl : R.reverse.length = R.length := List.length_reverse
  have hm2 := merge_told R.reverse ba bc bottom w5 (by rw [← hrl] at hD5; exact hD5.ll (fun r hr => H.out.1.short r (List.mem_reverse.1 hr))) (by have := HN.out.2; omega) (fun r hr => H.out.1.cc r (List.mem_reverse.1 hr)) (by rw [H.out.1.rev.length_eq]; have := HN.out.1; omega) (fun r hr => H.out.1.ri.up r (List.mem_reverse.1 hr)) ((Uniq.perm H.out.1.rev).2 H.out.1.u)
  rw [hrl] at hm2
  have H5 := Hid.mk (And.intro (H4.out.1.lat b5) (And.intro H4.out.2.1 (H4.out.2.2.lat b5)))
  rw [← HN.out.2] at hm2
  rw [← HN.out.2]
  clear b5 hD5 H4 hrl
  go_wp2_with fail
  refine hm2.mono ?_
  clear hm2
  rintro r w6 ⟨b6, A', xa, xc, tA', rfl, hoA'⟩
  have e1 : A = A' := H5.out.2.1.one tA' (fun x => by rw [Top.perm H.out.1.ri.flat, Top.perm H.out.1.rev])
  subst e1
  have K6 := H5.out.1.lat b6
  have hde := dealt_any F fa fc os oa oc w6 K6.la H.out.1.l (H.out.2.2.2.1.below K6.bw) H.out.2.2.2.2.1
  have H6 := Hid.mk (And.intro K6 (And.intro H5.out.2.1 (And.intro (H5.out.2.2.lat b6) (OL.mk hoA'))))
  rw [← HN.out.1] at hde
  clear b6 K6 tA' hoA' H5
  go_wp2_with fail
  refine hde.mono ?_
  clear hde
  rintro r w7 ⟨b7, S, sv, hri, hrl, rfl, hdl⟩
  obtain ⟨sa, sc, rfl, -⟩ := hdl.form
  have fs : FR F S := ⟨H.out.1.u, H.out.1.l, H.out.1.c, hri, hrl⟩
  have K7 := H6.out.1.lat b7
  have hm3 := fs.part (List.Sublist.refl S) (hdl.ll fs.short) sc bottom
  have H7 := Hid.mk (And.intro K7 (And.intro H6.out.2.1 (And.intro (H6.out.2.2.1.lat b7) (And.intro (H6.out.2.2.2.lat b7) fs))))
  clear b7 K7 hdl hri hrl fs H6
  obtain ⟨sn, hsn⟩ : ∃ n, n = S.length := ⟨_, rfl⟩
  rw [← hsn] at hm3 ⊢
  clear hsn
  go_wp2_with fail
  refine hm3.mono ?_
  clear hm3
  rintro r w8 ⟨b8, A', ya, yc, tA', rfl, hoA'⟩
  have e1 : A = A' := H7.out.2.1.one tA' (fun x => by rw [Top.perm H.out.1.ri.flat, Top.perm H7.out.2.2.2.2.ri.flat])
  subst e1
  have H8 := Hid.mk (And.intro (H7.out.1.lat b8) (And.intro H7.out.2.1 (And.intro (H7.out.2.2.1.lat b8) (And.intro (H7.out.2.2.2.1.lat b8) (OL.mk hoA')))))
  clear b8 tA' hoA' H7
  by_cases hcut : 0 ≤ cut ∧ cut ≤ (rn : Int)
  · obtain ⟨k, rfl⟩ : ∃ k : Nat, cut = (k : Int) := ⟨cut.toNat, by omega⟩
    have hk1 : ¬ ((k : Int) < 0) := by omega
    have hk2 : ¬ ((rn : Int) < (k : Int)) := by omega
    have hk3 : k ≤ rn := by omega
    have hk4 : 0 ≤ (k : Int) := by omega
    have hk5 : (k : Int) ≤ (rn : Int) := by omega
    clear hcut
    have LL8 := H8.out.1.dl.ll H.out.1.short
    have s1 : (R.take k).length = k := by rw [List.length_take]; have := HN.out.2; omega
    have s2 : (R.drop k).length = rn - k := by rw [List.length_drop, HN.out.2]
    have hmL := H.out.1.part (List.take_sublist k R) (LL8.take k) gc false
    rw [s1] at hmL
    clear s1 LL8
    have hkc : k ≤ gc := by omega
    go_wp2_with fail
    refine hmL.mono ?_
    clear hmL
    rintro r w9 ⟨b9, P, pa, pc, tP, rfl, hoP⟩
    have H9 := Hid.mk (And.intro (H8.out.1.lat b9) (And.intro H8.out.2.1 (And.intro (H8.out.2.2.1.lat b9) (And.intro (H8.out.2.2.2.1.lat b9) (And.intro (H8.out.2.2.2.2.lat b9) (And.intro tP (OL.mk hoP)))))))
    clear b9 tP hoP H8
    have LL9 := H9.out.1.dl.ll H.out.1.short
    obtain ⟨d1, hd1⟩ : ∃ d, rn - k = d := ⟨_, rfl⟩
    obtain ⟨d2, hd2⟩ : ∃ d, gc - k = d := ⟨_, rfl⟩
    have hgr : R ≠ [] → ∃ g, ga = some ⟨g, 0, none⟩ := fun hne => by
      obtain ⟨r, hr⟩ : ∃ r, R[0]? = some r := ⟨_, List.getElem?_eq_getElem (List.length_pos_iff.2 hne)⟩
      obtain ⟨g, -, -, e, -⟩ := H9.out.1.dl.at' hr
      exact ⟨g, e⟩
    obtain ⟨a3, ha3, LL3⟩ : ∃ a3, offA ga gc k = a3 ∧ LL w9 a3 (R.drop k) := by
      refine ⟨_, rfl, ?_⟩
      by_cases hne : R.drop k = []
      · rw [hne]; exact ⟨fun i r hr => by simp at hr⟩
      · have hR : R ≠ [] := fun e => hne (by rw [e]; simp)
        obtain ⟨g, rfl⟩ := hgr hR
        have hkr : k < R.length := by
          rcases Nat.lt_or_ge k R.length with q | q
          · exact q
          · exact absurd (List.drop_eq_nil_of_le q) hne
        have hgk : ¬ gc = k := by have := HN.out.2; omega
        simp only [offA, hgk, if_false]
        have e2 : (⟨g, 0, none⟩ : Addr).add k = ⟨g, 0 + k, none⟩ := by unfold Addr.add; split <;> simp_all
        rw [e2]
        exact LL9.drop k
    have hmR := H.out.1.part (List.drop_sublist k R) LL3 d2 false
    rw [s2, hd1] at hmR
    clear LL9 LL3 s2 hgr
    cases ga with
    | none =>
      simp only [offA] at ha3
      subst ha3
      go_wp2_with fail
      refine hmR.mono ?_
      clear hmR hd1 hd2 
      rintro r w10 ⟨b10, Q, qa, qc, tQ, rfl, hoQ⟩
      have oQ := OL.mk hoQ
      have oP := H9.out.2.2.2.2.2.2.lat b10
      have tP := H9.out.2.2.2.2.2.1
      have zz : (R.take k).flatten.length + (R.drop k).flatten.length = R.flatten.length := by
        conv => rhs; rw [← List.take_append_drop k R, List.flatten_append, List.length_append]
      have lP : P.length ≤ 60 := H.out.1.tl (by omega) tP
      have lQ : Q.length ≤ 60 := H.out.1.tl (by omega) tQ
      have hmB := H.out.1.both k tP tQ (pair_ll oP.la oQ.la oP.cap oQ.cap lP lQ) 2 bottom
      have bA : Below w10.heap.size w10 (w10.alloc (.cells #[.slice pa P.length pc, .slice qa Q.length qc] 24)) := (Below.refl _ w10).alloc (Nat.le_refl _) _
      have H10 := Hid.mk (And.intro (chain H9.out.1.bw (chain b10 bA (Nat.le_refl _)) (Nat.le_refl _)) (And.intro H9.out.2.1 (And.intro ((H9.out.2.2.1.lat b10).lat bA) (And.intro ((H9.out.2.2.2.1.lat b10).lat bA) (And.intro ((H9.out.2.2.2.2.1.lat b10).lat bA) (And.intro tP tQ))))))
      clear oQ oP tP tQ zz bA b10 hoQ H9
      obtain ⟨np, hnp⟩ : ∃ n, n = P.length := ⟨_, rfl⟩
      obtain ⟨nq, hnq⟩ : ∃ n, n = Q.length := ⟨_, rfl⟩
      have HPQ := Hid.mk (And.intro hnp hnq)
      rw [← hnp, ← hnq] at hmB H10 ⊢
      clear hnp hnq
      go_wp2_with fail
      refine hmB.mono ?_
      clear hmB
      rintro r w11 ⟨b11, C, ca, cc, tC, rfl, hoC⟩
      have e1 : A = C := H10.out.2.1.one tC (fun x => by rw [H10.out.2.2.2.2.2.1.both H10.out.2.2.2.2.2.2 x, List.take_append_drop])
      subst e1
      have H11 := Hid.mk (And.intro (chain H10.out.1 b11 (Nat.le_refl _)) (And.intro (H10.out.2.2.1.lat b11) (And.intro (H10.out.2.2.2.1.lat b11) (And.intro (H10.out.2.2.2.2.1.lat b11) (OL.mk hoC)))))
      clear b11 tC hoC H10
      have hs1 := same_any A aa xa ac xc w11 H11.out.2.1.la H11.out.2.2.1.la (by omega)
      obtain ⟨an, han⟩ : ∃ n, n = A.length := ⟨_, rfl⟩
      have HAN := Hid.mk han
      rw [← han] at hs1 ⊢
      clear han
      go_wp2_with fail
      refine hs1.mono ?_
      clear hs1
      rintro r w12 ⟨rfl, d12⟩
      have b12 : Below w11.heap.size w11 w12 := d12.below _
      have H12 := Hid.mk (And.intro (chain H11.out.1 b12 (Nat.le_refl _)) (And.intro (H11.out.2.1.lat b12) (And.intro (H11.out.2.2.2.1.lat b12) (H11.out.2.2.2.2.lat b12))))
      have hs2 := same_any A aa ya ac yc w12 H12.out.2.1.la H12.out.2.2.1.la (by omega)
      rw [← HAN.out] at hs2
      clear b12 d12 H11
      go_wp2_with fail
      refine hs2.mono ?_
      clear hs2
      rintro r w13 ⟨rfl, d13⟩
      have b13 : Below w12.heap.size w12 w13 := d13.below _
      have H13 := Hid.mk (And.intro (chain H12.out.1 b13 (Nat.le_refl _)) (And.intro (H12.out.2.1.lat b13) (H12.out.2.2.2.lat b13)))
      have hs3 := same_any A aa ca ac cc w13 H13.out.2.1.la H13.out.2.2.la (by omega)
      rw [← HAN.out] at hs3
      clear b13 d13 H12
      go_wp2_with fail
      refine hs3.mono ?_
      clear hs3
      rintro r w14 ⟨rfl, d14⟩
      have b14 : Below w13.heap.size w13 w14 := d14.below _
      have H14 := Hid.mk (chain H13.out.1 b14 (Nat.le_refl _))
      clear b14 d14 H13
      go_wp2
      go_ret
      exact ⟨rfl, H14.out⟩
    | some a =>
      simp only [offA] at ha3
      go_wp2_with fail
      refine hmR.mono ?_
      clear hmR hd1 hd2 ha3
      rintro r w10 ⟨b10, Q, qa, qc, tQ, rfl, hoQ⟩
      have oQ := OL.mk hoQ
      have oP := H9.out.2.2.2.2.2.2.lat b10
      have tP := H9.out.2.2.2.2.2.1
      have zz : (R.take k).flatten.length + (R.drop k).flatten.length = R.flatten.length := by
        conv => rhs; rw [← List.take_append_drop k R, List.flatten_append, List.length_append]
      have lP : P.length ≤ 60 := H.out.1.tl (by omega) tP
      have lQ : Q.length ≤ 60 := H.out.1.tl (by omega) tQ
      have hmB := H.out.1.both k tP tQ (pair_ll oP.la oQ.la oP.cap oQ.cap lP lQ) 2 bottom
      have bA : Below w10.heap.size w10 (w10.alloc (.cells #[.slice pa P.length pc, .slice qa Q.length qc] 24)) := (Below.refl _ w10).alloc (Nat.le_refl _) _
      have H10 := Hid.mk (And.intro (chain H9.out.1.bw (chain b10 bA (Nat.le_refl _)) (Nat.le_refl _)) (And.intro H9.out.2.1 (And.intro ((H9.out.2.2.1.lat b10).lat bA) (And.intro ((H9.out.2.2.2.1.lat b10).lat bA) (And.intro ((H9.out.2.2.2.2.1.lat b10).lat bA) (And.intro tP tQ))))))
      clear oQ oP tP tQ zz bA b10 hoQ H9
      obtain ⟨np, hnp⟩ : ∃ n, n = P.length := ⟨_, rfl⟩
      obtain ⟨nq, hnq⟩ : ∃ n, n = Q.length := ⟨_, rfl⟩
      have HPQ := Hid.mk (And.intro hnp hnq)
      rw [← hnp, ← hnq] at hmB H10 ⊢
      clear hnp hnq
      go_wp2_with fail
      refine hmB.mono ?_
      clear hmB
      rintro r w11 ⟨b11, C, ca, cc, tC, rfl, hoC⟩
      have e1 : A = C := H10.out.2.1.one tC (fun x => by rw [H10.out.2.2.2.2.2.1.both H10.out.2.2.2.2.2.2 x, List.take_append_drop])
      subst e1
      have H11 := Hid.mk (And.intro (chain H10.out.1 b11 (Nat.le_refl _)) (And.intro (H10.out.2.2.1.lat b11) (And.intro (H10.out.2.2.2.1.lat b11) (And.intro (H10.out.2.2.2.2.1.lat b11) (OL.mk hoC)))))
      clear b11 tC hoC H10
      have hs1 := same_any A aa xa ac xc w11 H11.out.2.1.la H11.out.2.2.1.la (by omega)
      obtain ⟨an, han⟩ : ∃ n, n = A.length := ⟨_, rfl⟩
      have HAN := Hid.mk han
      rw [← han] at hs1 ⊢
      clear han
      go_wp2_with fail
      refine hs1.mono ?_
      clear hs1
      rintro r w12 ⟨rfl, d12⟩
      have b12 : Below w11.heap.size w11 w12 := d12.below _
      have H12 := Hid.mk (And.intro (chain H11.out.1 b12 (Nat.le_refl _)) (And.intro (H11.out.2.1.lat b12) (And.intro (H11.out.2.2.2.1.lat b12) (H11.out.2.2.2.2.lat b12))))
      have hs2 := same_any A aa ya ac yc w12 H12.out.2.1.la H12.out.2.2.1.la (by omega)
      rw [← HAN.out] at hs2
      clear b12 d12 H11
      go_wp2_with fail
      refine hs2.mono ?_
      clear hs2
      rintro r w13 ⟨rfl, d13⟩
      have b13 : Below w12.heap.size w12 w13 := d13.below _
      have H13 := Hid.mk (And.intro (chain H12.out.1 b13 (Nat.le_refl _)) (And.intro (H12.out.2.1.lat b13) (H12.out.2.2.2.lat b13)))
      have hs3 := same_any A aa ca ac cc w13 H13.out.2.1.la H13.out.2.2.la (by omega)
      rw [← HAN.out] at hs3
      clear b13 d13 H12
      go_wp2_with fail
      refine hs3.mono ?_
      clear hs3
      rintro r w14 ⟨rfl, d14⟩
      have b14 : Below w13.heap.size w13 w14 := d14.below _
      have H14 := Hid.mk (chain H13.out.1 b14 (Nat.le_refl _))
      clear b14 d14 H13
      go_wp2
      go_ret
      exact ⟨rfl, H14.out⟩
  · have hcut2 : cut < 0 ∨ (0 ≤ cut ∧ (rn : Int) < cut) := by omega
    rcases hcut2 with c1 | ⟨c1, c2⟩
    · clear hcut
      obtain ⟨k, hkd⟩ : ∃ k : Nat, k = rn / 2 := ⟨_, rfl⟩
      have hdv : (rn : Int).tdiv 2 = (k : Int) := by rw [hkd]; exact (Int.ofNat_tdiv rn 2).symm
      have hdw : IntKind.i64.wrap (k : Int) = (k : Int) := by rw [IntKind.wrap_i64]; omega
      have hk3 : k ≤ rn := by omega
      have hk4 : 0 ≤ (k : Int) := by omega
      have hk5 : (k : Int) ≤ (rn : Int) := by omega
      clear hkd
      have LL8 := H8.out.1.dl.ll H.out.1.short
      have s1 : (R.take k).length = k := by rw [List.length_take]; have := HN.out.2; omega
      have s2 : (R.drop k).length = rn - k := by rw [List.length_drop, HN.out.2]
      have hmL := H.out.1.part (List.take_sublist k R) (LL8.take k) gc false
      rw [s1] at hmL
      clear s1 LL8
      have hkc : k ≤ gc := by omega
      go_wp2_with fail
      refine hmL.mono ?_
      clear hmL
      rintro r w9 ⟨b9, P, pa, pc, tP, rfl, hoP⟩
      have H9 := Hid.mk (And.intro (H8.out.1.lat b9) (And.intro H8.out.2.1 (And.intro (H8.out.2.2.1.lat b9) (And.intro (H8.out.2.2.2.1.lat b9) (And.intro (H8.out.2.2.2.2.lat b9) (And.intro tP (OL.mk hoP)))))))
      clear b9 tP hoP H8
      have LL9 := H9.out.1.dl.ll H.out.1.short
      obtain ⟨d1, hd1⟩ : ∃ d, rn - k = d := ⟨_, rfl⟩
      obtain ⟨d2, hd2⟩ : ∃ d, gc - k = d := ⟨_, rfl⟩
      have hgr : R ≠ [] → ∃ g, ga = some ⟨g, 0, none⟩ := fun hne => by
        obtain ⟨r, hr⟩ : ∃ r, R[0]? = some r := ⟨_, List.getElem?_eq_getElem (List.length_pos_iff.2 hne)⟩
        obtain ⟨g, -, -, e, -⟩ := H9.out.1.dl.at' hr
        exact ⟨g, e⟩
      obtain ⟨a3, ha3, LL3⟩ : ∃ a3, offA ga gc k = a3 ∧ LL w9 a3 (R.drop k) := by
        refine ⟨_, rfl, ?_⟩
        by_cases hne : R.drop k = []
        · rw [hne]; exact ⟨fun i r hr => by simp at hr⟩
        · have hR : R ≠ [] := fun e => hne (by rw [e]; simp)
          obtain ⟨g, rfl⟩ := hgr hR
          have hkr : k < R.length := by
            rcases Nat.lt_or_ge k R.length with q | q
            · exact q
            · exact absurd (List.drop_eq_nil_of_le q) hne
          have hgk : ¬ gc = k := by have := HN.out.2; omega
          simp only [offA, hgk, if_false]
          have e2 : (⟨g, 0, none⟩ : Addr).add k = ⟨g, 0 + k, none⟩ := by unfold Addr.add; split <;> simp_all
          rw [e2]
          exact LL9.drop k
      have hmR := H.out.1.part (List.drop_sublist k R) LL3 d2 false
      rw [s2, hd1] at hmR
      clear LL9 LL3 s2 hgr
      cases ga with
      | none =>
        simp only [offA] at ha3
        subst ha3
        go_wp2_with fail
        refine hmR.mono ?_
        clear hmR hd1 hd2 
        rintro r w10 ⟨b10, Q, qa, qc, tQ, rfl, hoQ⟩
        have oQ := OL.mk hoQ
        have oP := H9.out.2.2.2.2.2.2.lat b10
        have tP := H9.out.2.2.2.2.2.1
        have zz : (R.take k).flatten.length + (R.drop k).flatten.length = R.flatten.length := by
          conv => rhs; rw [← List.take_append_drop k R, List.flatten_append, List.length_append]
        have lP : P.length ≤ 60 := H.out.1.tl (by omega) tP
        have lQ : Q.length ≤ 60 := H.out.1.tl (by omega) tQ
        have hmB := H.out.1.both k tP tQ (pair_ll oP.la oQ.la oP.cap oQ.cap lP lQ) 2 bottom
        have bA : Below w10.heap.size w10 (w10.alloc (.cells #[.slice pa P.length pc, .slice qa Q.length qc] 24)) := (Below.refl _ w10).alloc (Nat.le_refl _) _
        have H10 := Hid.mk (And.intro (chain H9.out.1.bw (chain b10 bA (Nat.le_refl _)) (Nat.le_refl _)) (And.intro H9.out.2.1 (And.intro ((H9.out.2.2.1.lat b10).lat bA) (And.intro ((H9.out.2.2.2.1.lat b10).lat bA) (And.intro ((H9.out.2.2.2.2.1.lat b10).lat bA) (And.intro tP tQ))))))
        clear oQ oP tP tQ zz bA b10 hoQ H9
        obtain ⟨np, hnp⟩ : ∃ n, n = P.length := ⟨_, rfl⟩
        obtain ⟨nq, hnq⟩ : ∃ n, n = Q.length := ⟨_, rfl⟩
        have HPQ := Hid.mk (And.intro hnp hnq)
        rw [← hnp, ← hnq] at hmB H10 ⊢
        clear hnp hnq
        go_wp2_with fail
        refine hmB.mono ?_
        clear hmB
        rintro r w11 ⟨b11, C, ca, cc, tC, rfl, hoC⟩
        have e1 : A = C := H10.out.2.1.one tC (fun x => by rw [H10.out.2.2.2.2.2.1.both H10.out.2.2.2.2.2.2 x, List.take_append_drop])
        subst e1
        have H11 := Hid.mk (And.intro (chain H10.out.1 b11 (Nat.le_refl _)) (And.intro (H10.out.2.2.1.lat b11) (And.intro (H10.out.2.2.2.1.lat b11) (And.intro (H10.out.2.2.2.2.1.lat b11) (OL.mk hoC)))))
        clear b11 tC hoC H10
        have hs1 := same_any A aa xa ac xc w11 H11.out.2.1.la H11.out.2.2.1.la (by omega)
        obtain ⟨an, han⟩ : ∃ n, n = A.length := ⟨_, rfl⟩
        have HAN := Hid.mk han
        rw [← han] at hs1 ⊢
        clear han
        go_wp2_with fail
        refine hs1.mono ?_
        clear hs1
        rintro r w12 ⟨rfl, d12⟩
        have b12 : Below w11.heap.size w11 w12 := d12.below _
        have H12 := Hid.mk (And.intro (chain H11.out.1 b12 (Nat.le_refl _)) (And.intro (H11.out.2.1.lat b12) (And.intro (H11.out.2.2.2.1.lat b12) (H11.out.2.2.2.2.lat b12))))
        have hs2 := same_any A aa ya ac yc w12 H12.out.2.1.la H12.out.2.2.1.la (by omega)
        rw [← HAN.out] at hs2
        clear b12 d12 H11
        go_wp2_with fail
        refine hs2.mono ?_
        clear hs2
        rintro r w13 ⟨rfl, d13⟩
        have b13 : Below w12.heap.size w12 w13 := d13.below _
        have H13 := Hid.mk (And.intro (chain H12.out.1 b13 (Nat.le_refl _)) (And.intro (H12.out.2.1.lat b13) (H12.out.2.2.2.lat b13)))
        have hs3 := same_any A aa ca ac cc w13 H13.out.2.1.la H13.out.2.2.la (by omega)
        rw [← HAN.out] at hs3
        clear b13 d13 H12
        go_wp2_with fail
        refine hs3.mono ?_
        clear hs3
        rintro r w14 ⟨rfl, d14⟩
        have b14 : Below w13.heap.size w13 w14 := d14.below _
        have H14 := Hid.mk (chain H13.out.1 b14 (Nat.le_refl _))
        clear b14 d14 H13
        go_wp2
        go_ret
        exact ⟨rfl, H14.out⟩
      | some a =>
        simp only [offA] at ha3
        go_wp2_with fail
        refine hmR.mono ?_
        clear hmR hd1 hd2 ha3
        rintro r w10 ⟨b10, Q, qa, qc, tQ, rfl, hoQ⟩
        have oQ := OL.mk hoQ
        have oP := H9.out.2.2.2.2.2.2.lat b10
        have tP := H9.out.2.2.2.2.2.1
        have zz : (R.take k).flatten.length + (R.drop k).flatten.length = R.flatten.length := by
          conv => rhs; rw [← List.take_append_drop k R, List.flatten_append, List.length_append]
        have lP : P.length ≤ 60 := H.out.1.tl (by omega) tP
        have lQ : Q.length ≤ 60 := H.out.1.tl (by omega) tQ
        have hmB := H.out.1.both k tP tQ (pair_ll oP.la oQ.la oP.cap oQ.cap lP lQ) 2 bottom
        have bA : Below w10.heap.size w10 (w10.alloc (.cells #[.slice pa P.length pc, .slice qa Q.length qc] 24)) := (Below.refl _ w10).alloc (Nat.le_refl _) _
        have H10 := Hid.mk (And.intro (chain H9.out.1.bw (chain b10 bA (Nat.le_refl _)) (Nat.le_refl _)) (And.intro H9.out.2.1 (And.intro ((H9.out.2.2.1.lat b10).lat bA) (And.intro ((H9.out.2.2.2.1.lat b10).lat bA) (And.intro ((H9.out.2.2.2.2.1.lat b10).lat bA) (And.intro tP tQ))))))
        clear oQ oP tP tQ zz bA b10 hoQ H9
        obtain ⟨np, hnp⟩ : ∃ n, n = P.length := ⟨_, rfl⟩
        obtain ⟨nq, hnq⟩ : ∃ n, n = Q.length := ⟨_, rfl⟩
        have HPQ := Hid.mk (And.intro hnp hnq)
        rw [← hnp, ← hnq] at hmB H10 ⊢
        clear hnp hnq
        go_wp2_with fail
        refine hmB.mono ?_
        clear hmB
        rintro r w11 ⟨b11, C, ca, cc, tC, rfl, hoC⟩
        have e1 : A = C := H10.out.2.1.one tC (fun x => by rw [H10.out.2.2.2.2.2.1.both H10.out.2.2.2.2.2.2 x, List.take_append_drop])
        subst e1
        have H11 := Hid.mk (And.intro (chain H10.out.1 b11 (Nat.le_refl _)) (And.intro (H10.out.2.2.1.lat b11) (And.intro (H10.out.2.2.2.1.lat b11) (And.intro (H10.out.2.2.2.2.1.lat b11) (OL.mk hoC)))))
        clear b11 tC hoC H10
        have hs1 := same_any A aa xa ac xc w11 H11.out.2.1.la H11.out.2.2.1.la (by omega)
        obtain ⟨an, han⟩ : ∃ n, n = A.length := ⟨_, rfl⟩
        have HAN := Hid.mk han
        rw [← han] at hs1 ⊢
        clear han
        go_wp2_with fail
        refine hs1.mono ?_
        clear hs1
        rintro r w12 ⟨rfl, d12⟩
        have b12 : Below w11.heap.size w11 w12 := d12.below _
        have H12 := Hid.mk (And.intro (chain H11.out.1 b12 (Nat.le_refl _)) (And.intro (H11.out.2.1.lat b12) (And.intro (H11.out.2.2.2.1.lat b12) (H11.out.2.2.2.2.lat b12))))
        have hs2 := same_any A aa ya ac yc w12 H12.out.2.1.la H12.out.2.2.1.la (by omega)
        rw [← HAN.out] at hs2
        clear b12 d12 H11
        go_wp2_with fail
        refine hs2.mono ?_
        clear hs2
        rintro r w13 ⟨rfl, d13⟩
        have b13 : Below w12.heap.size w12 w13 := d13.below _
        have H13 := Hid.mk (And.intro (chain H12.out.1 b13 (Nat.le_refl _)) (And.intro (H12.out.2.1.lat b13) (H12.out.2.2.2.lat b13)))
        have hs3 := same_any A aa ca ac cc w13 H13.out.2.1.la H13.out.2.2.la (by omega)
        rw [← HAN.out] at hs3
        clear b13 d13 H12
        go_wp2_with fail
        refine hs3.mono ?_
        clear hs3
        rintro r w14 ⟨rfl, d14⟩
        have b14 : Below w13.heap.size w13 w14 := d14.below _
        have H14 := Hid.mk (chain H13.out.1 b14 (Nat.le_refl _))
        clear b14 d14 H13
        go_wp2
        go_ret
        exact ⟨rfl, H14.out⟩
    · clear hcut
      obtain ⟨k, hkd⟩ : ∃ k : Nat, k = rn / 2 := ⟨_, rfl⟩
      have hdv : (rn : Int).tdiv 2 = (k : Int) := by rw [hkd]; exact (Int.ofNat_tdiv rn 2).symm
      have hdw : IntKind.i64.wrap (k : Int) = (k : Int) := by rw [IntKind.wrap_i64]; omega
      have hk3 : k ≤ rn := by omega
      have hk4 : 0 ≤ (k : Int) := by omega
      have hk5 : (k : Int) ≤ (rn : Int) := by omega
      clear hkd
      have LL8 := H8.out.1.dl.ll H.out.1.short
      have s1 : (R.take k).length = k := by rw [List.length_take]; have := HN.out.2; omega
      have s2 : (R.drop k).length = rn - k := by rw [List.length_drop, HN.out.2]
      have hmL := H.out.1.part (List.take_sublist k R) (LL8.take k) gc false
      rw [s1] at hmL
      clear s1 LL8
      have hkc : k ≤ gc := by omega
      go_wp2_with fail
      refine hmL.mono ?_
      clear hmL
      rintro r w9 ⟨b9, P, pa, pc, tP, rfl, hoP⟩
      have H9 := Hid.mk (And.intro (H8.out.1.lat b9) (And.intro H8.out.2.1 (And.intro (H8.out.2.2.1.lat b9) (And.intro (H8.out.2.2.2.1.lat b9) (And.intro (H8.out.2.2.2.2.lat b9) (And.intro tP (OL.mk hoP)))))))
      clear b9 tP hoP H8
      have LL9 := H9.out.1.dl.ll H.out.1.short
      obtain ⟨d1, hd1⟩ : ∃ d, rn - k = d := ⟨_, rfl⟩
      obtain ⟨d2, hd2⟩ : ∃ d, gc - k = d := ⟨_, rfl⟩
      have hgr : R ≠ [] → ∃ g, ga = some ⟨g, 0, none⟩ := fun hne => by
        obtain ⟨r, hr⟩ : ∃ r, R[0]? = some r := ⟨_, List.getElem?_eq_getElem (List.length_pos_iff.2 hne)⟩
        obtain ⟨g, -, -, e, -⟩ := H9.out.1.dl.at' hr
        exact ⟨g, e⟩
      obtain ⟨a3, ha3, LL3⟩ : ∃ a3, offA ga gc k = a3 ∧ LL w9 a3 (R.drop k) := by
        refine ⟨_, rfl, ?_⟩
        by_cases hne : R.drop k = []
        · rw [hne]; exact ⟨fun i r hr => by simp at hr⟩
        · have hR : R ≠ [] := fun e => hne (by rw [e]; simp)
          obtain ⟨g, rfl⟩ := hgr hR
          have hkr : k < R.length := by
            rcases Nat.lt_or_ge k R.length with q | q
            · exact q
            · exact absurd (List.drop_eq_nil_of_le q) hne
          have hgk : ¬ gc = k := by have := HN.out.2; omega
          simp only [offA, hgk, if_false]
          have e2 : (⟨g, 0, none⟩ : Addr).add k = ⟨g, 0 + k, none⟩ := by unfold Addr.add; split <;> simp_all
          rw [e2]
          exact LL9.drop k
      have hmR := H.out.1.part (List.drop_sublist k R) LL3 d2 false
      rw [s2, hd1] at hmR
      clear LL9 LL3 s2 hgr
      cases ga with
      | none =>
        simp only [offA] at ha3
        subst ha3
        go_wp2_with fail
        refine hmR.mono ?_
        clear hmR hd1 hd2 
        rintro r w10 ⟨b10, Q, qa, qc, tQ, rfl, hoQ⟩
        have oQ := OL.mk hoQ
        have oP := H9.out.2.2.2.2.2.2.lat b10
        have tP := H9.out.2.2.2.2.2.1
        have zz : (R.take k).flatten.length + (R.drop k).flatten.length = R.flatten.length := by
          conv => rhs; rw [← List.take_append_drop k R, List.flatten_append, List.length_append]
        have lP : P.length ≤ 60 := H.out.1.tl (by omega) tP
        have lQ : Q.length ≤ 60 := H.out.1.tl (by omega) tQ
        have hmB := H.out.1.both k tP tQ (pair_ll oP.la oQ.la oP.cap oQ.cap lP lQ) 2 bottom
        have bA : Below w10.heap.size w10 (w10.alloc (.cells #[.slice pa P.length pc, .slice qa Q.length qc] 24)) := (Below.refl _ w10).alloc (Nat.le_refl _) _
        have H10 := Hid.mk (And.intro (chain H9.out.1.bw (chain b10 bA (Nat.le_refl _)) (Nat.le_refl _)) (And.intro H9.out.2.1 (And.intro ((H9.out.2.2.1.lat b10).lat bA) (And.intro ((H9.out.2.2.2.1.lat b10).lat bA) (And.intro ((H9.out.2.2.2.2.1.lat b10).lat bA) (And.intro tP tQ))))))
        clear oQ oP tP tQ zz bA b10 hoQ H9
        obtain ⟨np, hnp⟩ : ∃ n, n = P.length := ⟨_, rfl⟩
        obtain ⟨nq, hnq⟩ : ∃ n, n = Q.length := ⟨_, rfl⟩
        have HPQ := Hid.mk (And.intro hnp hnq)
        rw [← hnp, ← hnq] at hmB H10 ⊢
        clear hnp hnq
        go_wp2_with fail
        refine hmB.mono ?_
        clear hmB
        rintro r w11 ⟨b11, C, ca, cc, tC, rfl, hoC⟩
        have e1 : A = C := H10.out.2.1.one tC (fun x => by rw [H10.out.2.2.2.2.2.1.both H10.out.2.2.2.2.2.2 x, List.take_append_drop])
        subst e1
        have H11 := Hid.mk (And.intro (chain H10.out.1 b11 (Nat.le_refl _)) (And.intro (H10.out.2.2.1.lat b11) (And.intro (H10.out.2.2.2.1.lat b11) (And.intro (H10.out.2.2.2.2.1.lat b11) (OL.mk hoC)))))
        clear b11 tC hoC H10
        have hs1 := same_any A aa xa ac xc w11 H11.out.2.1.la H11.out.2.2.1.la (by omega)
        obtain ⟨an, han⟩ : ∃ n, n = A.length := ⟨_, rfl⟩
        have HAN := Hid.mk han
        rw [← han] at hs1 ⊢
        clear han
        go_wp2_with fail
        refine hs1.mono ?_
        clear hs1
        rintro r w12 ⟨rfl, d12⟩
        have b12 : Below w11.heap.size w11 w12 := d12.below _
        have H12 := Hid.mk (And.intro (chain H11.out.1 b12 (Nat.le_refl _)) (And.intro (H11.out.2.1.lat b12) (And.intro (H11.out.2.2.2.1.lat b12) (H11.out.2.2.2.2.lat b12))))
        have hs2 := same_any A aa ya ac yc w12 H12.out.2.1.la H12.out.2.2.1.la (by omega)
        rw [← HAN.out] at hs2
        clear b12 d12 H11
        go_wp2_with fail
        refine hs2.mono ?_
        clear hs2
        rintro r w13 ⟨rfl, d13⟩
        have b13 : Below w12.heap.size w12 w13 := d13.below _
        have H13 := Hid.mk (And.intro (chain H12.out.1 b13 (Nat.le_refl _)) (And.intro (H12.out.2.1.lat b13) (H12.out.2.2.2.lat b13)))
        have hs3 := same_any A aa ca ac cc w13 H13.out.2.1.la H13.out.2.2.la (by omega)
        rw [← HAN.out] at hs3
        clear b13 d13 H12
        go_wp2_with fail
        refine hs3.mono ?_
        clear hs3
        rintro r w14 ⟨rfl, d14⟩
        have b14 : Below w13.heap.size w13 w14 := d14.below _
        have H14 := Hid.mk (chain H13.out.1 b14 (Nat.le_refl _))
        clear b14 d14 H13
        go_wp2
        go_ret
        exact ⟨rfl, H14.out⟩
      | some a =>
        simp only [offA] at ha3
        go_wp2_with fail
        refine hmR.mono ?_
        clear hmR hd1 hd2 ha3
        rintro r w10 ⟨b10, Q, qa, qc, tQ, rfl, hoQ⟩
        have oQ := OL.mk hoQ
        have oP := H9.out.2.2.2.2.2.2.lat b10
        have tP := H9.out.2.2.2.2.2.1
        have zz : (R.take k).flatten.length + (R.drop k).flatten.length = R.flatten.length := by
          conv => rhs; rw [← List.take_append_drop k R, List.flatten_append, List.length_append]
        have lP : P.length ≤ 60 := H.out.1.tl (by omega) tP
        have lQ : Q.length ≤ 60 := H.out.1.tl (by omega) tQ
        have hmB := H.out.1.both k tP tQ (pair_ll oP.la oQ.la oP.cap oQ.cap lP lQ) 2 bottom
        have bA : Below w10.heap.size w10 (w10.alloc (.cells #[.slice pa P.length pc, .slice qa Q.length qc] 24)) := (Below.refl _ w10).alloc (Nat.le_refl _) _
        have H10 := Hid.mk (And.intro (chain H9.out.1.bw (chain b10 bA (Nat.le_refl _)) (Nat.le_refl _)) (And.intro H9.out.2.1 (And.intro ((H9.out.2.2.1.lat b10).lat bA) (And.intro ((H9.out.2.2.2.1.lat b10).lat bA) (And.intro ((H9.out.2.2.2.2.1.lat b10).lat bA) (And.intro tP tQ))))))
        clear oQ oP tP tQ zz bA b10 hoQ H9
        obtain ⟨np, hnp⟩ : ∃ n, n = P.length := ⟨_, rfl⟩
        obtain ⟨nq, hnq⟩ : ∃ n, n = Q.length := ⟨_, rfl⟩
        have HPQ := Hid.mk (And.intro hnp hnq)
        rw [← hnp, ← hnq] at hmB H10 ⊢
        clear hnp hnq
        go_wp2_with fail
        refine hmB.mono ?_
        clear hmB
        rintro r w11 ⟨b11, C, ca, cc, tC, rfl, hoC⟩
        have e1 : A = C := H10.out.2.1.one tC (fun x => by rw [H10.out.2.2.2.2.2.1.both H10.out.2.2.2.2.2.2 x, List.take_append_drop])
        subst e1
        have H11 := Hid.mk (And.intro (chain H10.out.1 b11 (Nat.le_refl _)) (And.intro (H10.out.2.2.1.lat b11) (And.intro (H10.out.2.2.2.1.lat b11) (And.intro (H10.out.2.2.2.2.1.lat b11) (OL.mk hoC)))))
        clear b11 tC hoC H10
        have hs1 := same_any A aa xa ac xc w11 H11.out.2.1.la H11.out.2.2.1.la (by omega)
        obtain ⟨an, han⟩ : ∃ n, n = A.length := ⟨_, rfl⟩
        have HAN := Hid.mk han
        rw [← han] at hs1 ⊢
        clear han
        go_wp2_with fail
        refine hs1.mono ?_
        clear hs1
        rintro r w12 ⟨rfl, d12⟩
        have b12 : Below w11.heap.size w11 w12 := d12.below _
        have H12 := Hid.mk (And.intro (chain H11.out.1 b12 (Nat.le_refl _)) (And.intro (H11.out.2.1.lat b12) (And.intro (H11.out.2.2.2.1.lat b12) (H11.out.2.2.2.2.lat b12))))
        have hs2 := same_any A aa ya ac yc w12 H12.out.2.1.la H12.out.2.2.1.la (by omega)
        rw [← HAN.out] at hs2
        clear b12 d12 H11
        go_wp2_with fail
        refine hs2.mono ?_
        clear hs2
        rintro r w13 ⟨rfl, d13⟩
        have b13 : Below w12.heap.size w12 w13 := d13.below _
        have H13 := Hid.mk (And.intro (chain H12.out.1 b13 (Nat.le_refl _)) (And.intro (H12.out.2.1.lat b13) (H12.out.2.2.2.lat b13)))
        have hs3 := same_any A aa ca ac cc w13 H13.out.2.1.la H13.out.2.2.la (by omega)
        rw [← HAN.out] at hs3
        clear b13 d13 H12
        go_wp2_with fail
        refine hs3.mono ?_
        clear hs3
        rintro r w14 ⟨rfl, d14⟩
        have b14 : Below w13.heap.size w13 w14 := d14.below _
        have H14 := Hid.mk (chain H13.out.1 b14 (Nat.le_refl _))
        clear b14 d14 H13
        go_wp2
        go_ret
        exact ⟨rfl, H14.out⟩
end Go.Proofs.Ytchikfabfhjkgaa
