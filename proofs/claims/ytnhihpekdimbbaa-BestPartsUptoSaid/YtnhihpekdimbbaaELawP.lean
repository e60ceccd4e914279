/-
  DERIVED. BestParts: First of lists, of parts' firsts.
-/
import Derived.Test.YtnhihpekdimbbaaEFirstF
import Derived.Test.YtnhihpekdimbbaaELawS
set_option linter.unusedVariables false
set_option linter.unusedSimpArgs false
namespace Go.Proofs.Ytnhihpekdimbbaa
open Go.RowKit
def RP1 (w : World) (R : List (List Ht)) (uv ui : Value) (wr : World) : Prop := ∃ (i : Nat) (a : Option Addr) (m c : Nat), uv = .slice a m c ∧ ui = .int .i64 i ∧ i ≤ R.length ∧ Hid (m = (R.take i).flatten.length ∧ HRow wr (.slice a m c) (R.take i).flatten ∧ (∀ j, (Value.slice a m c).ownBlock = some j → w.heap.size ≤ j) ∧ Below w.heap.size w wr)
def RP2 (w : World) (k : Nat) (R : List (List Ht)) (uv ui : Value) (wr : World) : Prop := ∃ (i : Nat) (a : Option Addr) (m c : Nat), uv = .slice a m c ∧ ui = .int .i64 i ∧ i ≤ R.length ∧ Hid (m = i ∧ DL w.heap.size wr (.slice a m c) ((R.take i).map (topL k)) ∧ Below w.heap.size w wr)
theorem flat_step {R : List (List Ht)} {i : Nat} {r : List Ht} (hr : R[i]? = some r) : (R.take (i + 1)).flatten = (R.take i).flatten ++ r := by
  obtain ⟨h1, h2⟩ := List.getElem?_eq_some_iff.1 hr
  rw [List.take_succ_eq_append_getElem h1, h2]; simp
theorem flat_le {R : List (List Ht)} (i : Nat) : (R.take i).flatten.length ≤ R.flatten.length := by
  conv => rhs; rw [← List.take_append_drop i R, List.flatten_append, List.length_append]
  omega
theorem map_step {R : List (List Ht)} {i k : Nat} {r : List Ht} (hr : R[i]? = some r) : (R.take (i + 1)).map (topL k) = (R.take i).map (topL k) ++ [topL k r] := by
  obtain ⟨h1, h2⟩ := List.getElem?_eq_some_iff.1 hr
  rw [List.take_succ_eq_append_getElem h1, h2]; simp
set_option maxHeartbeats 4000000 in
set_option maxRecDepth 100000 in
theorem law_parts (k : Int) (hk : I64 k) (R : List (List Ht)) (hR : ∀ r ∈ R, ∀ x ∈ r, HtW x) (la : Option Addr) (ca : Nat) (w : World) (ha : LL w la R) (hl : R.length ≤ 1048576) (hf : R.flatten.length ≤ 1048576) (hca : R.length ≤ ca) :
    Calls Try.prog 5 #[.int .i64 k, .slice la R.length ca] w fun e w' => e = .returned (.bool true) ∧ Below w.heap.size w w' := by
  have hb := begun_any w
  have hfi := fun W => fit_any k hk W
  have hK := fitK_le k
  obtain ⟨K, hKe⟩ : ∃ K, K = fitK k := ⟨_, rfl⟩
  rw [← hKe] at hfi hK
  clear hKe
  have hrl : ∀ r ∈ R, r.length ≤ 1048576 := fun r hr => by
    obtain ⟨i, hi, rfl⟩ := List.getElem_of_mem hr
    have h1 := flat_step (List.getElem?_eq_getElem hi)
    have h2 := flat_le (R := R) (i + 1)
    rw [h1, List.length_append] at h2
    omega
  obtain ⟨n, hn⟩ : ∃ n, n = R.length := ⟨_, rfl⟩
  have HA := Hid.mk (And.intro ha (And.intro (show ∀ r ∈ R, r.length < 4611686018427387904 ∧ ∀ x ∈ r, HtW x from fun r hr => ⟨by have := hrl r hr; omega, hR r hr⟩) (And.intro hn (And.intro hf (And.intro hl hrl)))))
  rw [← hn] at hca ⊢
  have hnl : n ≤ 1048576 := by omega
  clear ha hR hn hl hf hrl
  go_enter Try.func5, Try.ntmps5
  go_wp2_with fail
  refine hb.mono ?_
  clear hb
  rintro e w1 ⟨rfl, b1⟩
  go_wp2_with fail
  refine (hfi _).mono ?_
  clear hfi
  rintro e w1' ⟨rfl, e1⟩
  subst e1
  go_wp2_with fail
  go_loopw [6, 7] (fun uv ui wr => RP1 w1' R uv ui wr) (fun _ u _ => n - (intOf u).toNat)
  case atStart => exact ⟨0, none, 0, 0, rfl, rfl, Nat.zero_le _, rfl, ⟨rfl, .inl ⟨rfl, rfl⟩⟩, fun j hj => (by cases hj), Below.refl _ _⟩
  case round =>
    obtain ⟨i, a, m, c, rfl, rfl, hi, HP⟩ := hrel
    have bwr : Hid (Below w.heap.size w wr) := b1.trans (HP.out.2.2.2.mono b1.size)
    by_cases hlt : i < n
    · have i1 : (i : Int) < (n : Int) := by omega
      have i2 : (0 : Int) ≤ (i : Int) := by omega
      have hiR : i < R.length := by have := HA.out.2.2.1; omega
      obtain ⟨r, hr⟩ : ∃ r, R[i]? = some r := ⟨_, List.getElem?_eq_getElem hiR⟩
      obtain ⟨g, off, a1, c1, e1, x0, hLr⟩ := (HA.out.1.below bwr.out).at' i r hr
      subst e1
      have hst := flat_step hr
      have hle := flat_le (R := R) (i + 1)
      have hfl := HA.out.2.2.2.1
      rw [hst, List.length_append] at hle
      have hm := HP.out.1
      obtain ⟨v', w6, hap, ho, s6, hloc⟩ := ent_app wr (R.take i).flatten r (.slice a m c) (by have h0 := HP.out.2.1; exact h0) a1 c1 hLr.at' (by omega)
      obtain ⟨a', c', hv', -⟩ := slice_form ho
      subst hv'
      have HN : Hid (RP1 w1' R (.slice a' ((R.take i).flatten ++ r).length c') (.int .i64 ((i + 1 : Nat) : Int)) w6) := by
        refine ⟨i + 1, a', _, c', rfl, rfl, hiR, by rw [hst], by rw [hst]; exact ho, fun j hj => ?_, ?_⟩
        · rcases hloc j hj with h1 | h1
          · exact HP.out.2.2.1 j h1
          · exact Nat.le_trans HP.out.2.2.2.size h1
        · exact HP.out.2.2.2.trans (s6.toBelow (fun j hj hF => by have := HP.out.2.2.1 j hF; omega) HP.out.2.2.2.size)
      obtain ⟨m', hm'⟩ : ∃ m', m' = ((R.take i).flatten ++ r).length := ⟨_, rfl⟩
      rw [← hm'] at HN hap
      obtain ⟨mr, hmr⟩ : ∃ mr, mr = r.length := ⟨_, rfl⟩
      rw [← hmr] at hap x0
      have hwi : IntKind.i64.wrap ((i : Int) + 1) = ((i + 1 : Nat) : Int) := by rw [IntKind.wrap_i64]; omega
      clear hst hle hfl hm ho s6 hloc hm' hmr HP bwr hr hLr
      go_wp2_with (at_builtin; refine wpList_append_eq rfl _ _ _ _ rfl _ _ _ _ rfl rfl hap ?_; clear hap)
      exact ⟨HN.out, by simp only [intOf]; omega⟩
    · have i1 : ¬ (i : Int) < (n : Int) := by omega
      have htk : R.take i = R := List.take_of_length_le (by have := HA.out.2.2.1; omega)
      rw [htk] at HP
      have hm := HP.out.1
      have hF1 := firstF_any K hK R HA.out.2.1 la ca wr (HA.out.1.below bwr.out) (by have := HA.out.2.2.2.2.1; omega)
      rw [← HA.out.2.2.1] at hF1
      obtain ⟨w2, rfl⟩ : ∃ w2, w2 = wr := ⟨_, rfl⟩
      replace hm := Hid.mk hm
      clear htk hi hlt
      go_wp2_with fail
      refine hF1.mono ?_
      clear hF1
      rintro e w3 ⟨va, rfl, t3⟩
      have b3 : Hid (Below w.heap.size w w3) := bwr.out.trans (t3.2.2.mono bwr.out.size)
      replace t3 := Hid.mk t3
      clear i1
      go_wp2_with fail
      go_loopw [10, 11] (fun uv ui wr => RP2 w3 K R uv ui wr) (fun _ u _ => n - (intOf u).toNat)
      case atStart => exact ⟨0, none, 0, 0, rfl, rfl, Nat.zero_le _, rfl, DL.nil _ _, Below.refl _ _⟩
      case round =>
        obtain ⟨i, ap, mp, cp, rfl, rfl, hi, HD⟩ := hrel
        obtain ⟨rfl, hDL, hbl⟩ := HD.out
        have b4 : Hid (Below w.heap.size w wr) := b3.out.trans (hbl.mono b3.out.size)
        by_cases hlt : mp < n
        · have i1 : (mp : Int) < (n : Int) := by omega
          have i2 : (0 : Int) ≤ (mp : Int) := by omega
          have hiR : mp < R.length := by have := HA.out.2.2.1; omega
          obtain ⟨r, hr⟩ : ∃ r, R[mp]? = some r := ⟨_, List.getElem?_eq_getElem hiR⟩
          have hLL := HA.out.1.below b4.out
          obtain ⟨g, off, a1, c1, e1, x0, hLr⟩ := hLL.at' mp r hr
          subst e1
          have hF2 := fun cc => firstF_any K hK [r] (fun r' h' => by
            simp at h'; subst h'
            exact HA.out.2.1 r' (List.mem_of_getElem? hr)) (some ⟨g, off + mp, none⟩) cc wr (hLL.one hr) (by simp)
          simp only [List.length_cons, List.length_nil, Nat.zero_add] at hF2
          rw [show [r].flatten = r by simp] at hF2
          have hwi : IntKind.i64.wrap ((mp : Int) + 1) = ((mp + 1 : Nat) : Int) := by rw [IntKind.wrap_i64]; omega
          have hc1 : ((mp + 1 : Nat) : Int) ≤ (ca : Int) := by omega
          have hc2 : ((mp : Nat) : Int) ≤ ((mp + 1 : Nat) : Int) := by omega
          have H4 := Hid.mk (And.intro hDL (And.intro hbl hr))
          clear hDL hbl hr hLL hLr x0
          go_wp2_with fail
          refine (hF2 _).mono ?_
          clear hF2
          rintro e w5 ⟨vp, rfl, t5⟩
          have D5 := H4.out.1.lat t5.2.2
          have hlenR : ((R.take mp).map (topL K)).length = mp := by rw [List.length_map, List.length_take]; omega
          obtain ⟨a0, c0, e0, -⟩ := slice_form t5.1
          subst e0
          obtain ⟨lp, hlp⟩ : ∃ lp, lp = (topL K r).length := ⟨_, rfl⟩
          rw [← hlp] at t5 ⊢
          have h1c : (Value.slice a0 lp c0).oneCell' = true := rfl
          obtain ⟨a6, c6, w6, hap, D6, b6⟩ := DL.push (a := ap) (c := cp) (base := w3.heap.size) (by rw [hlenR]; exact D5) (Nat.le_trans H4.out.2.1.size t5.2.2.size) (by rw [hlenR]; omega) t5.1 h1c
          rw [hlenR] at hap D6
          have HN : Hid (RP2 w3 K R (.slice a6 (mp + 1) c6) (.int .i64 ((mp + 1 : Nat) : Int)) w6) := ⟨mp + 1, a6, mp + 1, c6, rfl, rfl, hiR, rfl, by rw [map_step H4.out.2.2]; exact D6, (H4.out.2.1.trans (t5.2.2.mono H4.out.2.1.size)).trans b6⟩
          clear D5 D6 b6 hlenR h1c t5 H4 b4 hlp HD
          go_wp2_with (at_builtin; refine wpList_append_eq rfl _ _ _ _ rfl _ _ _ _ rfl rfl hap ?_; clear hap)
          exact ⟨HN.out, by simp only [intOf]; omega⟩
        · have i1 : ¬ (mp : Int) < (n : Int) := by omega
          have htk : R.take mp = R := List.take_of_length_le (by have := HA.out.2.2.1; omega)
          rw [htk] at hDL
          have hmpn : mp = n := by have := HA.out.2.2.1; omega
          have hml : (R.map (topL K)).length = n := by rw [List.length_map]; exact HA.out.2.2.1.symm
          subst hmpn
          have hLL2 : LL wr ap (R.map (topL K)) := DL.ll (by rw [hml]; exact hDL)
          have hF3 := firstF_any K hK (R.map (topL K)) (fun r' h' => by
            obtain ⟨r, hr, rfl⟩ := List.mem_map.1 h'
            exact ⟨by have := topL_len K r; omega, fun x hx => (HA.out.2.1 r hr).2 x (topL_sub hx)⟩) ap cp wr hLL2 (by rw [hml]; omega)
          rw [hml, fst_parts] at hF3
          obtain ⟨w4, rfl⟩ : ∃ w4, w4 = wr := ⟨_, rfl⟩
          obtain ⟨X, hX⟩ : ∃ X, X = topL K R.flatten := ⟨_, rfl⟩
          rw [← hX] at hF3 t3
          have HX := Hid.mk hX
          have hbl' := Hid.mk hbl
          clear hX htk hi hlt hDL hml hLL2 hbl HD
          go_wp2_with fail
          refine hF3.mono ?_
          clear hF3
          rintro e w5 ⟨vb, rfl, t5⟩
          -- all, hits, again at w5
          have r3 : HRow w5 va X := HRow.below (HRow.below t3.out.1 hbl'.out) t5.2.2
          have h3' : HRow w5 (.slice a m c) R.flatten := HRow.below (HRow.below (HRow.below HP.out.2.1 t3.out.2.2) hbl'.out) t5.2.2
          have b5 : Below w.heap.size w w5 := b4.out.trans (t5.2.2.mono b4.out.size)
          obtain ⟨ah, ch, eh, lh⟩ := HRow.lat h3'
          simp only [Value.slice.injEq] at eh
          obtain ⟨rfl, -, rfl⟩ := eh
          have hhd := handed_any K hK R.flatten (fun x hx => by
            obtain ⟨r, hr, hxr⟩ := List.mem_flatten.1 hx
            exact (HA.out.2.1 r hr).2 x hxr) a c false w5 lh (by have := HA.out.2.2.2.1; omega)
          rw [show topL K (way false R.flatten) = X from HX.out.symm, ← hm.out] at hhd
          have H5 := Hid.mk (And.intro r3 (And.intro h3' (And.intro b5 t5.1)))
          clear r3 h3' b5 lh t5 i1
          go_wp2_with fail
          refine hhd.mono ?_
          clear hhd
          rintro e w6 ⟨t, kp, rfl, O6⟩
          obtain ⟨aa, ca', rfl, l6⟩ := HRow.lat (HRow.below H5.out.1 O6.below)
          obtain ⟨ab, cb, rfl, m6⟩ := HRow.lat (HRow.below H5.out.2.2.2 O6.below)
          have hXl : X.length < 4611686018427387904 := by have := topL_len K R.flatten; rw [← HX.out] at this; omega
          have hs1 := same_any X aa ab ca' cb w6 l6 m6 hXl
          replace O6 := Hid.mk O6
          clear l6 m6
          go_wp2_with fail
          refine hs1.mono ?_
          clear hs1
          rintro e w7 ⟨rfl, d7⟩
          have O7 := O6.out.more (d7.below _)
          have hl7 := tlist_any t K kp X w7 O7.tt
          replace O7 := Hid.mk O7
          go_wp2_with fail
          refine hl7.mono ?_
          clear hl7
          rintro e w8 ⟨vt, rfl, t8⟩
          have b8 : Below w5.heap.size w5 w8 := O7.out.below.trans (t8.2.2.mono O7.out.below.size)
          obtain ⟨a8, c8, e8, l8⟩ := HRow.lat (HRow.below H5.out.1 b8)
          simp only [Value.slice.injEq] at e8
          obtain ⟨rfl, -, rfl⟩ := e8
          obtain ⟨a9, c9, rfl, l9⟩ := HRow.lat t8.1
          have hs2 := same_any X aa a9 ca' c9 w8 l8 l9 hXl
          replace b8 := Hid.mk b8
          clear l8 l9 t8 d7
          go_wp2_with fail
          refine hs2.mono ?_
          clear hs2
          rintro e w9 ⟨rfl, d9⟩
          have b9 : Below w5.heap.size w5 w9 := b8.out.trans (d9.below _)
          obtain ⟨aA, cA, eA, lA⟩ := HRow.lat (HRow.below H5.out.1 b9)
          simp only [Value.slice.injEq] at eA
          obtain ⟨rfl, -, rfl⟩ := eA
          obtain ⟨aB, cB, eB, lB⟩ := HRow.lat (HRow.below H5.out.2.1 b9)
          simp only [Value.slice.injEq] at eB
          obtain ⟨rfl, -, rfl⟩ := eB
          have hfir := first_any K (by omega) X R.flatten (by rw [HX.out]; exact fst_top K _) (fun x hx => by
            obtain ⟨r, hr, hxr⟩ := List.mem_flatten.1 hx
            exact (HA.out.2.1 r hr).2 x hxr) aa a ca' c w9 lA lB hXl (by have := HA.out.2.2.2.1; omega)
          rw [← hm.out] at hfir
          have HE : Hid (∀ W, Below w9.heap.size w9 W → Below w.heap.size w W) := fun W b => (H5.out.2.2.1.trans (b9.mono H5.out.2.2.1.size)).trans (b.mono (Nat.le_trans H5.out.2.2.1.size b9.size))
          clear lA lB b9 d9
          go_wp2_with (go_at_call 16; refine hfir.mono ?_; clear hfir; rintro e w10 ⟨rfl, b10⟩)
          go_ret
          exact ⟨rfl, HE.out _ b10⟩
end Go.Proofs.Ytnhihpekdimbbaa
