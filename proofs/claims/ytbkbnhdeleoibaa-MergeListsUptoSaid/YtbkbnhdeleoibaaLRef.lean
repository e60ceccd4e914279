/-
  DERIVED. Both Merges, for all lists.
-/
import Derived.Test.YtbkbnhdeleoibaaLMath
import Derived.Test.YtbkbnhdeleoibaaLTwice
import Derived.Test.YtbkbnhdeleoibaaMMerge0
set_option linter.unusedVariables false
set_option linter.unusedSimpArgs false
namespace Go.Proofs.Ytbkbnhdeleoibaa
open Go.RowKit
/-- What a Merge answers. -/
def MgO2 (R : List (List En)) (bottom : Bool) (w : World) (r : Ending) (w' : World) : Prop := Below w.heap.size w w' ∧ ∃ (out : List En) (a : Option Addr) (n c : Nat) (e : Int), MgR R bottom out e ∧ r = .returned (.tuple #[.slice a n c, .int .i64 e]) ∧ HRow w' (.slice a n c) out ∧ ∀ k, (Value.slice a n c).ownBlock = some k → w.heap.size ≤ k
theorem nil_row (W : World) : HRow W (.slice none 0 0) [] := ⟨rfl, .inl ⟨rfl, rfl⟩⟩
theorem MgO2.no {R : List (List En)} {bottom : Bool} {w w' : World} {e : Int} (h : MgR R bottom [] e) (b : Below w.heap.size w w') : MgO2 R bottom w (.returned (.tuple #[.slice none 0 0, .int .i64 e])) w' := ⟨b, [], none, 0, 0, e, h, rfl, nil_row _, fun k hk => by cases hk⟩
theorem pmerge_any (R : List (List En)) (la : Option Addr) (lc : Nat) (bottom : Bool) (w : World) (h : LL w la R) (hc : ∀ r ∈ R, ∀ e ∈ r, e.c.size ≤ 281474976710656) (hN : R.flatten.length ≤ 1048576) :
    Calls Try.prog 8 #[.slice la R.length lc, .bool bottom] w (MgO2 R bottom w) := by
  by_cases hm : 1024 < R.length
  · refine (merge_many R.length la lc bottom w hm).mono ?_
    rintro r w' ⟨rfl, b⟩
    exact .no (.inl ⟨hm, rfl, rfl⟩) b
  · have hk : R.length ≤ 1024 := by omega
    have fin : ∀ r w', Below w.heap.size w w' → (∀ l ∈ R, rises l = true) → MOut R bottom w r w' → MgO2 R bottom w r w' := fun r w' b hrs m => by
      rcases m.says hrs with ⟨k0, out, v, k1, rfl, k3, k4⟩ | ⟨k1, rfl⟩
      · obtain ⟨a, c, rfl, -⟩ := slice_form k3
        exact ⟨b, out, a, _, c, 0, .inr (.inr (.inr ⟨hk, hrs, k0, k1, rfl⟩)), rfl, k3, k4⟩
      · exact .no (.inr (.inr (.inl ⟨hk, hrs, k1, rfl, rfl⟩))) b
    by_cases hne : R = []
    · subst hne
      exact (merge_none la lc bottom w).mono fun r w' ⟨b, m⟩ => fin r w' b (fun l hl => by cases hl) m
    · refine (merge_any R la lc bottom w h hk hc ?_ hne).mono fun r w' ⟨b, m⟩ => ?_
      · unfold totT
        rw [List.length_flatten] at hN
        simp
        omega
      · rcases m with ⟨hex, rfl⟩ | ⟨hrs, m⟩
        · exact .no (.inr (.inl ⟨hk, hex, rfl, rfl⟩)) b
        · exact fin r w' b hrs m
theorem AllI.len {A all : List En} (h : AllI A all) : all.length ≤ A.length := nd_le (h.up.imp (fun {a b} hab e => by subst e; have := cpE_self a; omega)) (fun x hx => ((h.mem x).1 hx).1)
theorem sub_fl : ∀ {P R : List (List En)}, P.Sublist R → P.flatten.Sublist R.flatten
  | _, _, .slnil => List.Sublist.refl _
  | P, a :: R, .cons _ h => by rw [List.flatten_cons]; exact (sub_fl h).trans (List.sublist_append_right a R.flatten)
  | a :: P, _ :: R, .cons_cons _ h => by rw [List.flatten_cons, List.flatten_cons]; exact List.Sublist.append (List.Sublist.refl a) (sub_fl h)
theorem pre_sub {R : List (List En)} {i : Nat} {r : List En} (hr : R[i]? = some r) (j : Nat) : ((R.take i).flatten ++ r.take j).Sublist R.flatten := by
  obtain ⟨hi, rfl⟩ := List.getElem?_eq_some_iff.1 hr
  have h1 : ((R.take i).flatten ++ R[i].take j).Sublist ((R.take i).flatten ++ R[i]) := (List.Sublist.refl _).append (List.take_sublist _ _)
  have h2 : (R.take i).flatten ++ R[i] = (R.take (i + 1)).flatten := by rw [List.take_succ_eq_append_getElem hi, List.flatten_append, List.flatten_singleton]
  rw [h2] at h1
  exact h1.trans (sub_fl (List.take_sublist _ _))
def RM0 (w : World) (R : List (List En)) (n : Nat) (u : Value) (wr : World) : Prop := ∃ i : Nat, u = .int .i64 i ∧ i ≤ n ∧ Hid ((∀ (j : Nat) (r : List En), j < i → R[j]? = some r → rises r = true) ∧ Below w.heap.size w wr)
/-- The list so far. -/
def AL (w : World) (A : List En) (u : Value) (wr : World) : Prop := ∃ (all : List En) (a : Option Addr) (k c : Nat), u = .slice a k c ∧ Hid (AllI A all ∧ HRow wr (.slice a k c) all ∧ (∀ g, (Value.slice a k c).ownBlock = some g → w.heap.size ≤ g) ∧ Below w.heap.size w wr)
def RM1 (w : World) (R : List (List En)) (n : Nat) (ua u : Value) (wr : World) : Prop := ∃ i : Nat, u = .int .i64 i ∧ i ≤ n ∧ AL w (R.take i).flatten ua wr
def RM2 (w : World) (R : List (List En)) (i : Nat) (r : List En) (m : Nat) (ua u : Value) (wr : World) : Prop := ∃ j : Nat, u = .int .i64 j ∧ j ≤ m ∧ AL w ((R.take i).flatten ++ r.take j) ua wr
def RM3 (w5 : World) (all : List En) (n : Nat) (ul u : Value) (wr : World) : Prop := ∃ (i k c : Nat) (a : Option Addr), ul = .slice a k c ∧ u = .int .i64 i ∧ i ≤ n ∧ Hid (HRow wr (.slice a k c) ((all.take i).filter (fun x => !x.d)) ∧ (∀ g, (Value.slice a k c).ownBlock = some g → w5.heap.size ≤ g) ∧ Below w5.heap.size w5 wr)
set_option maxHeartbeats 4000000 in
set_option maxRecDepth 100000 in
theorem rmerge_any (R : List (List En)) (la : Option Addr) (lc : Nat) (bottom : Bool) (w : World) (h : LL w la R) (hl : R.length ≤ 1048576) (hN : R.flatten.length ≤ 1048576) :
    Calls Try.prog 6 #[.slice la R.length lc, .bool bottom] w (MgO2 R bottom w) := by
  have hR : ∀ r ∈ R, r.length ≤ 1048576 := fun r hr => by
    have : r.Sublist R.flatten := List.sublist_flatten_of_mem hr
    exact Nat.le_trans this.length_le hN
  obtain ⟨n, hn⟩ : ∃ n, n = R.length := ⟨_, rfl⟩
  have HA := Hid.mk (And.intro h (And.intro hR (And.intro hN hn)))
  have htw := twice_any R hR la lc
  rw [← hn] at hl htw ⊢
  clear h hR hn hN
  by_cases hbig : 1024 < n
  · have hb1 : (1024 : Int) < (n : Int) := by omega
    go_enter Try.func6, Try.ntmps6
    go_wp2
    go_ret2
    exact .no (.inl ⟨by have := HA.out.2.2.2; omega, rfl, rfl⟩) (Below.refl _ _)
  · have hb1 : ¬ (1024 : Int) < (n : Int) := by omega
    have HK : Hid (R.length ≤ 1024) := by have := HA.out.2.2.2; exact (show R.length ≤ 1024 by omega)
    go_enter Try.func6, Try.ntmps6
    go_wp2
    go_loopw [6] (fun u wr => RM0 w R n u wr) (fun u _ => n - (intOf u).toNat)
    case atStart => exact ⟨0, rfl, Nat.zero_le _, fun j r hj => absurd hj (Nat.not_lt_zero _), Below.refl _ _⟩
    case round =>
      obtain ⟨i, rfl, hi, HI⟩ := hrel
      by_cases hlt : i < n
      · have i1 : (i : Int) < (n : Int) := by omega
        have i2 : (0 : Int) ≤ (i : Int) := by omega
        have hwi : IntKind.i64.wrap ((i : Int) + 1) = ((i + 1 : Nat) : Int) := by rw [IntKind.wrap_i64]; omega
        have hiR : i < R.length := by have := HA.out.2.2.2; omega
        obtain ⟨r, hr⟩ : ∃ r, R[i]? = some r := ⟨_, List.getElem?_eq_getElem hiR⟩
        obtain ⟨g, off, a, c, e1, x0, -, hL, hrl⟩ := HA.out.1.at' i r hr
        subst e1
        replace x0 := cell_lat HI.out.2 x0
        have hs := rsorted_any r a c wr (hL.below HI.out.2) hrl
        obtain ⟨m, hm⟩ : ∃ m, m = r.length := ⟨_, rfl⟩
        rw [← hm] at x0 hs
        obtain ⟨q, hq⟩ : ∃ q, q = rises r := ⟨_, rfl⟩
        rw [← hq] at hs
        have HQ := Hid.mk (And.intro hq hr)
        clear hq hr hm hL hrl htw
        cases q
        · go_wp2_with (go_at_call 13; refine hs.mono ?_; clear hs; rintro _ w2 ⟨rfl, b2⟩; simp only [sE])
          have HE := Hid.mk (HI.out.2.trans (b2.mono HI.out.2.size))
          clear b2
          go_ret2
          exact .no (.inr (.inl ⟨HK.out, ⟨r, List.mem_of_getElem? HQ.out.2, HQ.out.1.symm⟩, rfl, rfl⟩)) HE.out
        · go_wp2_with (go_at_call 13; refine hs.mono ?_; clear hs; rintro _ w2 ⟨rfl, b2⟩; simp only [sE])
          refine ⟨⟨i + 1, rfl, hlt, fun j r' hj hr' => ?_, HI.out.2.trans (b2.mono HI.out.2.size)⟩, by simp only [intOf]; omega⟩
          rcases Nat.lt_succ_iff_lt_or_eq.1 hj with h1 | rfl
          · exact HI.out.1 j r' h1 hr'
          · rw [HQ.out.2] at hr'; cases hr'; exact HQ.out.1.symm
      · have i1 : ¬ (i : Int) < (n : Int) := by omega
        have HU : Hid (∀ r ∈ R, rises r = true) := fun r hr => by
          obtain ⟨j, hj, e⟩ := List.getElem_of_mem hr
          exact HI.out.1 j r (by have := HA.out.2.2.2; omega) (by rw [List.getElem?_eq_getElem hj, e])
        have ht := htw wr (HA.out.1.below HI.out.2) hl
        have HB := Hid.mk HI.out.2
        clear HI htw hlt hi
        go_wp2_with fail
        refine ht.mono ?_
        clear ht
        rintro _ w1 ⟨b, rfl, hb, b1⟩
        have HB1 := Hid.mk (HB.out.trans (b1.mono HB.out.size))
        have HD := Hid.mk hb
        clear hb b1 HB
        cases b
        · have HUQ : Hid (Uniq R.flatten) := by
            refine Classical.byContradiction fun hn => ?_
            have := HD.out.2 ((dup_uniq HU.out).2 hn)
            cases this
          clear HD
          go_wp2
          go_loopw [9, 10] (fun ua u wr => RM1 w R n ua u wr) (fun _ u _ => n - (intOf u).toNat)
          case atStart => exact ⟨0, rfl, Nat.zero_le _, [], none, 0, 0, rfl, by rw [List.take_zero]; exact AllI.nil, nil_row _, (fun g hg => by cases hg), HB1.out⟩
          case round =>
            obtain ⟨p, rfl, hp, all, a0, k0, c0, rfl, HL⟩ := hrel
            by_cases hlt : p < n
            · have p1 : (p : Int) < (n : Int) := by omega
              have p2 : (0 : Int) ≤ (p : Int) := by omega
              have hwp : IntKind.i64.wrap ((p : Int) + 1) = ((p + 1 : Nat) : Int) := by rw [IntKind.wrap_i64]; omega
              have hpR : p < R.length := by have := HA.out.2.2.2; omega
              obtain ⟨r, hr⟩ : ∃ r, R[p]? = some r := ⟨_, List.getElem?_eq_getElem hpR⟩
              obtain ⟨g, off, a, c, e1, x0, -, hL, -⟩ := HA.out.1.at' p r hr
              subst e1
              obtain ⟨m, hm⟩ : ∃ m, m = r.length := ⟨_, rfl⟩
              rw [← hm] at x0
              have hml : m ≤ 1048576 := by rw [hm]; exact HA.out.2.1 r (List.mem_of_getElem? hr)
              have HX := Hid.mk (And.intro x0 (And.intro hL (And.intro hm hr)))
              have HL0 : Hid (RM2 w R p r m (.slice a0 k0 c0) (.int .i64 ((0 : Nat) : Int)) wr) := ⟨0, rfl, Nat.zero_le _, all, a0, k0, c0, rfl, by rw [List.take_zero, List.append_nil]; exact HL.out⟩
              clear x0 hL hm hr HL
              obtain ⟨w3, rfl⟩ : ∃ w3, w3 = wr := ⟨_, rfl⟩
              go_wp2
              go_loopw [9, 11] (fun ua u wr => RM2 w R p r m ua u wr) (fun _ u _ => m - (intOf u).toNat)
              case atStart => exact HL0.out
              case round =>
                clear HL0 all
                obtain ⟨j, rfl, hj, all, a1, k1, c1, rfl, HL⟩ := hrel
                have x0 := cell_lat HL.out.2.2.2 HX.out.1
                by_cases hjl : j < m
                · have j1 : (j : Int) < (m : Int) := by omega
                  have j2 : (0 : Int) ≤ (j : Int) := by omega
                  have hwj : IntKind.i64.wrap ((j : Int) + 1) = ((j + 1 : Nat) : Int) := by rw [IntKind.wrap_i64]; omega
                  have hjr : j < r.length := by have := HX.out.2.2.1; omega
                  obtain ⟨gi, oi, ei, z0, z1, z2, z3, z4⟩ := (HX.out.2.1.below HL.out.2.2.2).hit (W := wr) (fun _ _ => rfl) j hjr
                  subst ei
                  obtain ⟨f, hf⟩ : ∃ f, f = r[j] := ⟨_, rfl⟩
                  rw [← hf] at z0 z1 z2 z3 z4
                  obtain ⟨hk1, hcap, hlat⟩ := HRow.cap HL.out.2.1
                  have hsub := pre_sub HX.out.2.2.2 (j + 1)
                  have hA : (R.take p).flatten ++ r.take (j + 1) = ((R.take p).flatten ++ r.take j) ++ [f] := by rw [List.take_succ_eq_append_getElem hjr, hf, List.append_assoc]
                  rw [hA] at hsub
                  have hu : Uniq (((R.take p).flatten ++ r.take j) ++ [f]) := HUQ.out.sublist hsub
                  have hlen : all.length + 1 ≤ 1048576 := by
                    have h1 := HL.out.1.len
                    have h2 := hsub.length_le
                    have h3 := HA.out.2.2.1
                    rw [List.length_append] at h2
                    simp only [List.length_cons, List.length_nil] at h2
                    omega
                  have hput := rput_any all a1 c1 f wr hlat hcap (by omega)
                  rw [← hk1] at hput
                  have HN : Hid (∀ W l' a n' c' b, Below wr.heap.size wr W → PutR all f l' → n' = l'.length → ((l' = all ∧ a = a1 ∧ c' = c1) ∨ (HRow W (.slice a n' c') l' ∧ ∀ g, (Value.slice a n' c').ownBlock = some g → wr.heap.size ≤ g)) → (b = true ∨ b = false) → RM2 w R p r m (.slice a n' c') (.int .i64 ((j + 1 : Nat) : Int)) W) := fun W l' a n' c' b hW hp hn' hcase _ => by
                    refine ⟨j + 1, rfl, hjl, l', a, n', c', rfl, by rw [hA]; exact HL.out.1.put hu hp, ?_, ?_, HL.out.2.2.2.trans (hW.mono HL.out.2.2.2.size)⟩
                    · rcases hcase with ⟨rfl, rfl, rfl⟩ | ⟨h1, -⟩
                      · have h9 := HRow.below HL.out.2.1 hW
                        rw [hn', ← hk1]; exact h9
                      · exact h1
                    · rcases hcase with ⟨rfl, rfl, rfl⟩ | ⟨-, h1⟩
                      · rw [hn', ← hk1]; exact HL.out.2.2.1
                      · exact fun g hg => Nat.le_trans HL.out.2.2.2.size (h1 g hg)
                  simp only [enC] at hput
                  clear hf hk1 hcap hlat hsub hA hu hlen HL
                  go_wp2_with fail
                  refine hput.mono ?_
                  clear hput
                  rintro _ w4 ⟨b4, l', a', n', c', b', hp, rfl, hn', hcase⟩
                  have HN2 := Hid.mk (HN.out w4 l' a' n' c' b' b4 hp hn' hcase (by cases b' <;> simp))
                  clear HN b4 hp hn' hcase
                  go_wp2
                  exact ⟨HN2.out, by simp only [intOf]; omega⟩
                · have j1 : ¬ (j : Int) < (m : Int) := by omega
                  have HN : Hid (RM1 w R n (.slice a1 k1 c1) (.int .i64 ((p + 1 : Nat) : Int)) wr) := by
                    refine ⟨p + 1, rfl, hlt, all, a1, k1, c1, rfl, ?_⟩
                    have h9 := HL.out
                    have hjm := HX.out.2.2.1
                    have e9 : r.take j = r := List.take_of_length_le (by omega)
                    rw [e9] at h9
                    obtain ⟨q1, q2⟩ := List.getElem?_eq_some_iff.1 HX.out.2.2.2
                    rw [List.take_succ_eq_append_getElem q1, List.flatten_append, List.flatten_singleton, q2]
                    exact h9
                  clear HL
                  go_wp2
                  exact ⟨HN.out, by simp only [intOf]; omega⟩
            · have p1 : ¬ (p : Int) < (n : Int) := by omega
              have HT : Hid (Told R false all ∧ HRow wr (.slice a0 k0 c0) all ∧ (∀ g, (Value.slice a0 k0 c0).ownBlock = some g → w.heap.size ≤ g) ∧ Below w.heap.size w wr) := by
                have h9 := HL.out
                rw [List.take_of_length_le (by have := HA.out.2.2.2; omega)] at h9
                exact ⟨h9.1.told, h9.2⟩
              have HLN : Hid (all.length ≤ 1048576) := by
                have h9 := HL.out.1.len
                rw [List.take_of_length_le (by have := HA.out.2.2.2; omega)] at h9
                exact Nat.le_trans h9 HA.out.2.2.1
              clear HL
              cases bottom
              · go_wp2
                go_ret2
                exact ⟨HT.out.2.2.2, all, _, _, _, 0, .inr (.inr (.inr ⟨HK.out, HU.out, HUQ.out, HT.out.1, rfl⟩)), rfl, HT.out.2.1, HT.out.2.2.1⟩
              · obtain ⟨w5, rfl⟩ : ∃ w5, w5 = wr := ⟨_, rfl⟩
                have hk0 := (HRow.cap HT.out.2.1).1
                have hk0l : k0 ≤ 1048576 := by have := HLN.out; omega
                have HK0 := Hid.mk hk0
                clear hk0
                go_wp2
                go_loopw [14, 15] (fun ul u wr => RM3 w5 all k0 ul u wr) (fun _ u _ => k0 - (intOf u).toNat)
                case atStart => exact ⟨0, 0, 0, none, rfl, rfl, Nat.zero_le _, nil_row _, (fun g hg => by cases hg), Below.refl _ _⟩
                case round =>
                  obtain ⟨q, k2, c2, a2, rfl, rfl, hq, HR⟩ := hrel
                  by_cases hql : q < k0
                  · have q1 : (q : Int) < (k0 : Int) := by omega
                    have q2 : (0 : Int) ≤ (q : Int) := by omega
                    have hwq : IntKind.i64.wrap ((q : Int) + 1) = ((q + 1 : Nat) : Int) := by rw [IntKind.wrap_i64]; omega
                    have hqa : q < all.length := by have := HK0.out; omega
                    obtain ⟨gb, cap, e1, z0, z1, z2, z3, z4, -⟩ := HRow.at' (HRow.below HT.out.2.1 HR.out.2.2) q hqa
                    simp only [Value.slice.injEq] at e1
                    obtain ⟨rfl, -, rfl⟩ := e1
                    obtain ⟨f, hf⟩ : ∃ f, f = all[q] := ⟨_, rfl⟩
                    rw [← hf] at z0 z1 z2 z3 z4
                    have htk : all.take (q + 1) = all.take q ++ [f] := by rw [List.take_succ_eq_append_getElem hqa, hf]
                    have hkl : k2 ≤ q := by
                      have h1 := (HRow.cap HR.out.1).1
                      have h2 := List.length_filter_le (fun x : En => !x.d) (all.take q)
                      rw [List.length_take] at h2
                      omega
                    have hkk := (HRow.cap HR.out.1).1
                    obtain ⟨fd, hfd⟩ : ∃ d, d = f.d := ⟨_, rfl⟩
                    rw [← hfd] at z4
                    cases fd
                    · obtain ⟨v2, W2, hap, ho, st, hloc⟩ := ent_app1 wr ((all.take q).filter (fun x => !x.d)) (.slice a2 k2 c2) HR.out.1 f (by rw [← hkk]; omega)
                      have hfl : (all.take q).filter (fun x => !x.d) ++ [f] = (all.take (q + 1)).filter (fun x => !x.d) := by rw [htk, List.filter_append, List.filter_cons_of_pos (by rw [← hfd]; rfl)]; rfl
                      rw [hfl] at ho
                      obtain ⟨a3, c3, e3, -⟩ := slice_form ho
                      rw [← hfl, List.length_append, ← hkk] at e3
                      have e3' : v2 = .slice a3 (k2 + 1) c3 := e3
                      subst e3'
                      have HN : Hid (RM3 w5 all k0 (.slice a3 (k2 + 1) c3) (.int .i64 ((q + 1 : Nat) : Int)) W2) := ⟨q + 1, k2 + 1, c3, a3, rfl, rfl, hql, ho, fun g hg => (hloc g hg).elim (HR.out.2.1 g) (fun h => Nat.le_trans HR.out.2.2.size h), HR.out.2.2.trans (st.toBelow (fun k hk e => by have := HR.out.2.1 k e; omega) HR.out.2.2.size)⟩
                      obtain ⟨k3, hk3⟩ : ∃ k3, k3 = k2 + 1 := ⟨_, rfl⟩
                      rw [← hk3] at hap HN
                      simp only [enC, ← hfd] at hap
                      clear e3 ho st hloc hfl htk hkk hf hfd hk3 HR
                      go_wp2_with (at_builtin; refine wpList_append_eq rfl _ _ _ _ rfl _ _ _ _ rfl rfl hap ?_; clear hap)
                      exact ⟨HN.out, by simp only [intOf]; omega⟩
                    · have hfl : (all.take q).filter (fun x => !x.d) = (all.take (q + 1)).filter (fun x => !x.d) := by rw [htk, List.filter_append, List.filter_cons_of_neg (by rw [← hfd]; simp)]; simp
                      have HN : Hid (RM3 w5 all k0 (.slice a2 k2 c2) (.int .i64 ((q + 1 : Nat) : Int)) wr) := ⟨q + 1, k2, c2, a2, rfl, rfl, hql, by rw [← hfl]; exact HR.out⟩
                      clear hfl htk hkk hf hfd HR
                      go_wp2
                      exact ⟨HN.out, by simp only [intOf]; omega⟩
                  · have q1 : ¬ (q : Int) < (k0 : Int) := by omega
                    have HE : Hid (HRow wr (.slice a2 k2 c2) (all.filter (fun x => !x.d)) ∧ (∀ g, (Value.slice a2 k2 c2).ownBlock = some g → w.heap.size ≤ g) ∧ Below w.heap.size w wr) := by
                      have h9 := HR.out
                      rw [List.take_of_length_le (by have := HK0.out; omega)] at h9
                      exact ⟨h9.1, fun g hg => Nat.le_trans HT.out.2.2.2.size (h9.2.1 g hg), HT.out.2.2.2.trans (h9.2.2.mono HT.out.2.2.2.size)⟩
                    clear HR
                    go_wp2
                    go_ret2
                    exact ⟨HE.out.2.2, _, _, _, _, 0, .inr (.inr (.inr ⟨HK.out, HU.out, HUQ.out, HT.out.1.live, rfl⟩)), rfl, HE.out.1, HE.out.2.1⟩
        · have HNU : Hid (¬ Uniq R.flatten) := (dup_uniq HU.out).1 (HD.out.1 rfl)
          clear HD
          go_wp2
          go_ret2
          exact .no (.inr (.inr (.inl ⟨HK.out, HU.out, HNU.out, rfl, rfl⟩))) HB1.out
end Go.Proofs.Ytbkbnhdeleoibaa
