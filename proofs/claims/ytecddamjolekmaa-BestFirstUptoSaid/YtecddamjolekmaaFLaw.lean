/-
  DERIVED. BestFirst: its walk.
-/
import Derived.Test.YtecddamjolekmaaFLaw0
set_option linter.unusedVariables false
set_option linter.unusedSimpArgs false
namespace Go.Proofs.Ytecddamjolekmaa
open Go.RowKit
theorem num_e (x : Int) : True := trivial
theorem mvL_flat (R : List (List Ht)) : (mvL R).flatten.length = R.flatten.length := by
  have h : ∀ (R : List (List Ht)) (f : Nat → List Ht → List Ht), (∀ i r, (f i r).length = r.length) → (R.mapIdx f).flatten.length = R.flatten.length := by
    intro R
    induction R with
    | nil => intro f _; rfl
    | cons r R ih =>
      intro f hf
      rw [List.mapIdx_cons, List.flatten_cons, List.flatten_cons, List.length_append, List.length_append, hf, ih (fun i => f (i + 1)) (fun i r => hf _ r)]
  exact h R _ (fun i r => by simp)
theorem mvL_mem {R : List (List Ht)} {q : List Ht} (h : q ∈ mvL R) : ∃ (i : Nat) (r : List Ht), R[i]? = some r ∧ q = r.map (mv i) := by
  obtain ⟨i, hi⟩ := List.getElem?_of_mem h
  have hl : i < R.length := by have := (List.getElem?_eq_some_iff.1 hi).1; rw [mvL_len] at this; exact this
  refine ⟨i, R[i], List.getElem?_eq_getElem hl, ?_⟩
  have := mvL_at (List.getElem?_eq_getElem hl)
  rw [hi] at this; cases this; rfl
theorem mvL_shape {R : List (List Ht)} {i : Nat} {q r : List Ht} (hq : (mvL R)[i]? = some q) (hr : R[i]? = some r) : q.length = r.length := by
  rw [mvL_at hr] at hq; cases hq; simp
/-- The lists as they lie. -/
theorem TB.ll {B : Nat} {W : World} {g c m : Nat} {ss : List Value} {Q : List (List Ht)} {t : Nat} (h : TB B W (.slice (some ⟨g, 0, none⟩) m c) ss Q t) : LL W (some ⟨g, 0, none⟩) Q := ⟨fun i r hr => by
  obtain ⟨b, bc, s1, s2⟩ := h.each i r hr
  have hi : i < Q.length := (List.getElem?_eq_some_iff.1 hr).1
  obtain ⟨a', c', e', -⟩ := slice_form h.row
  simp only [Value.slice.injEq] at e'
  have hrow := h.row
  rw [e'.2.1] at hrow
  have hrow2 := row_pre (n := r.length) s2 (by simp) (by omega)
  rw [List.take_left' rfl] at hrow2
  obtain ⟨a9, c9, e9, h9⟩ := HRow.lat hrow2
  simp only [Value.slice.injEq] at e9
  refine ⟨g, 0, some ⟨b, 0, none⟩, bc, rfl, ?_, by rw [e9.1]; exact h9⟩
  have hl := h.len
  have hm := e'.2.1
  rw [Nat.zero_add, World.ownsRow.cellAt hrow i (by omega), s1]⟩
def RB (w w1 : World) (E : Nat) (k : Int) (R : List (List Ht)) (g c : Nat) (ss : List Value) (ao : Option Addr) (co : Nat) (sm : List Value) (vb vc : Value) (ug u : Value) (wr : World) : Prop :=
  ∃ (i : Nat) (ga : Option Addr) (gc : Nat) (gs : List Value) (Q : List (List Ht)), ug = .slice ga i gc ∧ u = .int .i64 i ∧ i ≤ 5 ∧ Hid (FS w w1 E k R g c ss ao co sm vb vc wr Q (.slice ga i gc) gs ∧ Q.length = R.length ∧ (∀ (j : Nat) (q r : List Ht), Q[j]? = some q → R[j]? = some r → q.length = r.length) ∧ (i = 5 → Q = R))
def RX (w w1 : World) (E : Nat) (k : Int) (R : List (List Ht)) (g c : Nat) (ss : List Value) (ao : Option Addr) (co : Nat) (sm : List Value) (vb vc gv : Value) (gs : List Value) (Nw : List (List Ht)) (n : Nat) (u : Value) (wr : World) : Prop :=
  ∃ (x : Nat) (Q : List (List Ht)), u = .int .i64 x ∧ x ≤ n ∧ Hid (FS w w1 E k R g c ss ao co sm vb vc wr Q gv gs ∧ Sh Q Nw x 0)
def RY (w w1 : World) (E : Nat) (k : Int) (R : List (List Ht)) (g c : Nat) (ss : List Value) (ao : Option Addr) (co : Nat) (sm : List Value) (vb vc gv : Value) (gs : List Value) (Nw : List (List Ht)) (x m : Nat) (u : Value) (wr : World) : Prop :=
  ∃ (y : Nat) (Q : List (List Ht)), u = .int .i64 y ∧ y ≤ m ∧ Hid (FS w w1 E k R g c ss ao co sm vb vc wr Q gv gs ∧ Sh Q Nw x y)
set_option maxHeartbeats 4000000 in
set_option maxRecDepth 100000 in
theorem law_first (k : Int) (R : List (List Ht)) (hR : ∀ r ∈ R, ∀ x ∈ r, HtW x) (la : Option Addr) (ca : Nat) (w : World) (ha : LL w la R) (hl : R.length ≤ 1048576) (hf : R.flatten.length ≤ 1048576) :
    Calls Try.prog 3 #[.int .i64 k, .slice la R.length ca] w fun e w' => e = .returned (.bool true) ∧ Below w.heap.size w w' := by
  have hrl : ∀ r ∈ R, r.length ≤ 1048576 := fun r hr => by
    obtain ⟨i, hi⟩ := List.getElem?_of_mem hr
    have h1 := flat_lt hi r.length
    rw [List.take_of_length_le (Nat.le_refl _), List.length_append] at h1
    omega
  have hR2 : ∀ r ∈ R, r.length ≤ 1048576 ∧ ∀ x ∈ r, HtW x := fun r hr => ⟨hrl r hr, hR r hr⟩
  have hM2 : ∀ r ∈ mvL R, r.length ≤ 1048576 ∧ ∀ x ∈ r, HtW x := fun q hq => by
    obtain ⟨i, r, hr, rfl⟩ := mvL_mem hq
    have hrR := List.mem_of_getElem? hr
    have hi : i < R.length := (List.getElem?_eq_some_iff.1 hr).1
    refine ⟨by rw [List.length_map]; exact hrl r hrR, fun x hx => ?_⟩
    obtain ⟨y, hy, rfl⟩ := List.mem_map.1 hx
    exact mv_wf (by omega) (hR r hrR y hy)
  have HRL : Hid (∀ q, q ∈ R ∨ q ∈ mvL R → q.length ≤ 1048576) := fun q hq => hq.elim (hrl q) (fun h => (hM2 q h).1)
  have HT := twins_any R hrl la ca w ha hl
  have HM := fun W h => moved_any R hR2 la ca W h hl
  have HF1 := fun W h => rfirst_all k R hR la ca W h hl hf
  have HF2 := fun a c W h => rfirst_all k (mvL R) (fun r hr => (hM2 r hr).2) a c W h (by rw [mvL_len]; exact hl) (by rw [mvL_flat]; exact hf)
  have HG1 := fun a c W h => first_all k R hR2 a c W h hl
  have HG2 := fun a c W h => first_all k (mvL R) hM2 a c W h (by rw [mvL_len]; exact hl)
  have HK1 := fun B a c g c2 ss W h h2 h3 => kept_any B R hrl a c g c2 ss W h hl h2 h3
  have HK2 := fun B a c g c2 ss W h h2 h3 => kept_any B (mvL R) (fun r hr => (hM2 r hr).1) a c g c2 ss W h (by rw [mvL_len]; exact hl) h2 h3
  rw [mvL_len] at HF2 HG2 HK2
  obtain ⟨n, hn⟩ : ∃ n, n = R.length := ⟨_, rfl⟩
  rw [← hn] at HT HM HF1 HF2 HG1 HG2 HK1 HK2 ⊢
  have HA := Hid.mk (And.intro ha (And.intro hn (And.intro HG1 (And.intro HG2 (And.intro HK1 HK2)))))
  clear HG1 HG2 HK1 HK2 hrl hR2 hM2 hR hf
  have hl' : n ≤ 1048576 := by omega
  clear hl ha hn
  go_enter Try.func3, Try.ntmps3
  go_wp2_with (go_at_call 4; refine HT.mono ?_; clear HT; rintro e w1 ⟨g, c, ss, rfl, hc, T1, b1⟩)
  have L1 := HA.out.1.below b1
  go_wp2_with (go_at_call 5; refine (HM _ L1).mono ?_; clear HM; rintro e w2 ⟨ao, co, sm, rfl, M2, b2⟩)
  have L2 := L1.below b2
  go_wp2_with (go_at_call 6; refine (HF1 _ L2).mono ?_; clear HF1; rintro e w3 ⟨vb, rfl, t3⟩)
  have b3 := t3.2.2
  refine (HF2 ao co _ (M2.lat b3).ll).mono ?_
  clear HF2
  rintro e w4 ⟨vc, rfl, t4⟩
  have b4 := t4.2.2
  have F0 : Hid (FS w w1 w2.heap.size k R g c ss ao co sm vb vc w4 R (.slice none 0 0) []) := by
    have hn := HA.out.2.1
    rw [hn] at T1 M2
    have s2 := b2.size
    have s3 := b3.size
    have s4 := b4.size
    refine ⟨((T1.lat b2).lat b3).lat b4, fun i s b hs hb => (T1.blk hs hb).2.1, (M2.lat b3).lat b4, HRow.below t3.1 b4, fun b hb => Nat.le_trans s2 (t3.2.1 b hb), t4.1, fun b hb => Nat.le_trans s2 (Nat.le_trans s3 (t4.2.1 b hb)), b1.trans ((b2.mono b1.size).trans ((b3.mono (Nat.le_trans b1.size s2)).trans (b4.mono (Nat.le_trans b1.size (Nat.le_trans s2 s3))))), by omega, by omega, s2, fun b hb => row_lt M2.row hb, b1.size, row_lt T1.row rfl, ⟨rfl, .inl ⟨rfl, rfl⟩⟩, fun b hb => (by cases hb), fun j s hs => by simp at hs, fun j s b hs => by simp at hs, fun i j s u b hs => by simp at hs⟩
  obtain ⟨ab, cb, hvb, -⟩ := slice_form t3.1
  obtain ⟨ac, cc, hvc, -⟩ := slice_form t4.1
  obtain ⟨nb, hnb⟩ : ∃ nb, nb = (fsL k R).length := ⟨_, rfl⟩
  obtain ⟨nc, hnc⟩ : ∃ nc, nc = (fsL k (mvL R)).length := ⟨_, rfl⟩
  rw [← hnb] at hvb
  rw [← hnc] at hvc
  subst hvb
  subst hvc
  have HL := Hid.mk (And.intro hnb hnc)
  obtain ⟨E, hE⟩ : ∃ E, w2.heap.size = E := ⟨_, rfl⟩
  rw [hE] at F0
  obtain ⟨fe, hfe⟩ : ∃ fe, fe = fsE k := ⟨_, rfl⟩
  have HFE := Hid.mk hfe
  rw [← hfe]
  clear T1 M2 b1 b2 b3 b4 t3 t4 L1 L2 hE hnb hnc hfe
  go_wp2
  go_loopw [11, 12] (fun ug u wr => RB w w1 E k R g c ss ao co sm (.slice ab nb cb) (.slice ac nc cc) ug u wr) (fun _ u _ => 5 - (intOf u).toNat)
  case atStart => exact ⟨0, none, 0, [], R, rfl, rfl, by omega, F0.out, rfl, fun j q r hq hr => by rw [hq] at hr; cases hr; rfl, fun h => by omega⟩
  case round =>
    clear F0
    obtain ⟨i, ga, gc, gs, Q, rfl, rfl, hi, HR⟩ := hrel
    obtain ⟨w5, rfl⟩ : ∃ w5, w5 = wr := ⟨_, rfl⟩
    by_cases hlt : i < 5
    · have i1 : (i : Int) < 5 := by omega
      have hwi : IntKind.i64.wrap ((i : Int) + 1) = ((i + 1 : Nat) : Int) := by rw [IntKind.wrap_i64]; omega
      have HLL : Hid (∀ {W : World} {Q : List (List Ht)} {gv : Value} {gs : List Value}, FS w w1 E k R g c ss ao co sm (.slice ab nb cb) (.slice ac nc cc) W Q gv gs → LL W la R) := fun {W Q gv gs} h => HA.out.1.below h.below
      have HLM : Hid (∀ {W : World} {Q : List (List Ht)} {gv : Value} {gs : List Value}, FS w w1 E k R g c ss ao co sm (.slice ab nb cb) (.slice ac nc cc) W Q gv gs → LL W ao (mvL R)) := fun {W Q gv gs} h => h.ml.ll
      by_cases h2 : i = 2
      · have e2 : ((i : Int) == 2) = true := by simp; omega
        have HW : Hid (wantL k R i = fsL k (mvL R) ∧ (i + 1 = 5 → mvL R = R)) := ⟨by unfold wantL; rw [if_pos (.inl h2)], fun h => by omega⟩
        clear h2
        go_wp2
        go_loopw [15] (fun u wr => RX w w1 E k R g c ss ao co sm (.slice ab nb cb) (.slice ac nc cc) (.slice ga i gc) gs (mvL R) n u wr) (fun u _ => n - (intOf u).toNat)
        case atStart => exact ⟨0, Q, rfl, Nat.zero_le _, HR.out.1, Sh.start (by rw [mvL_len]; exact HR.out.2.1) (fun j q r hq hr => by
          have hj : j < R.length := by have := (List.getElem?_eq_some_iff.1 hr).1; rw [mvL_len] at this; exact this
          have e := List.getElem?_eq_getElem hj
          exact (HR.out.2.2.1 j q _ hq e).trans (mvL_shape hr e).symm)⟩
        case round =>
          obtain ⟨x, Q1, rfl, hx, HX⟩ := hrel
          obtain ⟨w6, rfl⟩ : ∃ w6, w6 = wr := ⟨_, rfl⟩
          have hnR := HA.out.2.1
          by_cases hxl : x < n
          · have x1 : (x : Int) < (n : Int) := by omega
            have x2 : (0 : Int) ≤ (x : Int) := by omega
            have hwx : IntKind.i64.wrap ((x : Int) + 1) = ((x + 1 : Nat) : Int) := by rw [IntKind.wrap_i64]; omega
            obtain ⟨nw, hnw⟩ : ∃ nw, (mvL R)[x]? = some nw := ⟨_, List.getElem?_eq_getElem (by rw [mvL_len]; omega)⟩
            obtain ⟨m, hm⟩ : ∃ m, m = nw.length := ⟨_, rfl⟩
            have hml : m ≤ 1048576 := by rw [hm]; exact HRL.out nw (.inr (List.mem_of_getElem? hnw))
            have HM := Hid.mk (And.intro hnw (And.intro hm hnR))
            clear hnw hm hnR
            go_wp2
            go_loopw [16] (fun u wr => RY w w1 E k R g c ss ao co sm (.slice ab nb cb) (.slice ac nc cc) (.slice ga i gc) gs (mvL R) x m u wr) (fun u _ => m - (intOf u).toNat)
            case atStart => exact ⟨0, Q1, rfl, Nat.zero_le _, HX.out⟩
            case round =>
              obtain ⟨y, Q2, rfl, hy, HY⟩ := hrel
              have hQl := HY.out.2.len
              obtain ⟨q, hq⟩ : ∃ q, Q2[x]? = some q := ⟨_, List.getElem?_eq_getElem (by rw [hQl]; exact (List.getElem?_eq_some_iff.1 HM.out.1).1)⟩
              have hqm : q.length = m := (HY.out.2.lens x q nw hq HM.out.1).trans HM.out.2.1.symm
              obtain ⟨b, bc, s1, s2⟩ := HY.out.1.tb.each x q hq
              have y0 : wr.cell? ⟨g, x, none⟩ = some (.slice (some ⟨b, 0, none⟩) m bc) := by
                have h1 := HY.out.1.tb.row
                rw [World.ownsRow.cellAt (by rw [HY.out.1.tb.len] at h1; have h2 := HM.out.2.2; rw [hQl, show (mvL R).length = R.length from by exact mvL_len R] at h1; exact h1) x (by have := HM.out.2.2; omega), s1, hqm]
              by_cases hyl : y < m
              · have y1 : (y : Int) < (m : Int) := by omega
                have y2 : (0 : Int) ≤ (y : Int) := by omega
                have hwy : IntKind.i64.wrap ((y : Int) + 1) = ((y + 1 : Nat) : Int) := by rw [IntKind.wrap_i64]; omega
                have hyn : y < nw.length := by rw [← HM.out.2.1]; exact hyl
                obtain ⟨lg, off, a', c', e1, x0, hL⟩ := (HLM.out HY.out.1).at' x nw HM.out.1
                subst e1
                obtain ⟨g2, o2, e2, z0, z1, z2⟩ := hL.hit (W := wr) (fun _ _ => rfl) y hyn
                subst e2
                rw [← HM.out.2.1] at x0
                obtain ⟨h, hh⟩ : ∃ h, h = nw[y] := ⟨_, rfl⟩
                rw [← hh] at z0 z1 z2
                obtain ⟨b', c'', e3, O0, O1, O2, fz⟩ := HRow.at' s2 y (by simp; omega)
                simp only [Value.slice.injEq, Option.some.injEq, Addr.mk.injEq] at e3
                obtain ⟨⟨rfl, -, -⟩, -, -⟩ := e3
                obtain ⟨p0, o0⟩ : ∃ p, wr.cell? ⟨b, y * 3, none⟩ = some p := ⟨_, O0⟩
                obtain ⟨p1, o1⟩ : ∃ p, wr.cell? ⟨b, y * 3 + 1, none⟩ = some p := ⟨_, O1⟩
                obtain ⟨p2, o2'⟩ : ∃ p, wr.cell? ⟨b, y * 3 + 2, none⟩ = some p := ⟨_, O2⟩
                have f0 := fz (y * 3)
                have f1 := fz (y * 3 + 1)
                have f2 := fz (y * 3 + 2)
                have HN : Hid (RY w w1 E k R g c ss (some ⟨lg, off, none⟩) co sm (.slice ab nb cb) (.slice ac nc cc) (.slice ga i gc) gs (mvL R) x m (.int .i64 ((y + 1 : Nat) : Int)) (put3 wr b y h).drew) := by
                  refine ⟨y + 1, _, rfl, hyl, (HY.out.1.set hq (by omega) s1 h).lat (b_drew _), ?_⟩
                  rw [hh]; exact HY.out.2.set hq HM.out.1 hyn
                have HN2 : Hid (RY w w1 E k R g c ss (some ⟨lg, off, none⟩) co sm (.slice ab nb cb) (.slice ac nc cc) (.slice ga i gc) gs (mvL R) x m (.int .i64 ((y + 1 : Nat) : Int)) (put3 wr.drew b y h)) := HN.out
                simp only [put3] at HN HN2
                clear O0 O1 O2 fz s1 s2 hL hh hq hqm hQl HY HX HR hyn
                go_wp2
                go_region
                all_goals
                  go_wp2
                  first
                  | exact ⟨HN.out, by simp only [intOf]; omega⟩
                  | exact ⟨HN2.out, by simp only [intOf]; omega⟩
              · have y1 : ¬ (y : Int) < (m : Int) := by omega
                have HN : Hid (RX w w1 E k R g c ss ao co sm (.slice ab nb cb) (.slice ac nc cc) (.slice ga i gc) gs (mvL R) n (.int .i64 ((x + 1 : Nat) : Int)) wr) := ⟨x + 1, Q2, rfl, hxl, HY.out.1, HY.out.2.next (fun q' hq' => by rw [hq] at hq'; cases hq'; omega)⟩
                clear s1 s2 hq hqm hQl HY HX HR
                go_wp2
                exact ⟨HN.out, by simp only [intOf]; omega⟩
          · have x1 : ¬ (x : Int) < (n : Int) := by omega
            have hQ : Q1 = (mvL R) := HX.out.2.all (by rw [mvL_len]; omega)
            rw [hQ] at HX
            clear hQ
            have hF := HA.out.2.2.2.1 (some ⟨g, 0, none⟩) c w6 HX.out.1.tb.ll
            rw [← HFE.out] at hF
            have F6 := Hid.mk HX.out.1
            clear hxl hx HX HR hnR
            go_wp2_with (go_at_call 7; refine hF.mono ?_; clear hF; rintro e w7 ⟨va, rfl, t7⟩)
            obtain ⟨aa, cA, hva, hlA⟩ := HRow.lat t7.1
            have F7 := F6.out.lat t7.2.2
            have hlw : LAt w7 ac (fsL k (mvL R)) := by
              obtain ⟨a9, c9, e9, h9⟩ := HRow.lat F7.cl
              simp only [Value.slice.injEq] at e9
              rw [e9.1]; exact h9
            have hs := same_any (fsL k (mvL R)) aa ac cA cc w7 hlA hlw (by have := fsL_len k (mvL R); omega)
            rw [← HL.out.2] at hs hva
            subst hva
            have HV := Hid.mk (And.intro F7 t7)
            clear F7 t7 hlA hlw
            go_wp2_with (go_at_call 8; refine hs.mono ?_; clear hs; rintro e w8 ⟨rfl, d8⟩)
            have b8 : Below w7.heap.size w7 w8 := d8.below _
            have F8 := HV.out.1.lat b8
            have hk := HA.out.2.2.2.2.2 w.heap.size ao co g c ss w8 (HLM.out F8) hc (by have h9 := F8.tb; rw [← HA.out.2.1] at h9; exact h9)
            clear F8 d8
            have HPush : Hid (∀ w9, Below w8.heap.size w8 w9 → ∃ a' c' W', (Builtin.append_ #[22, 22] 22 #[.slice ga i gc, .slice (some ⟨w9.heap.size, 0, none⟩) 1 1]).run Try.prog (w9.alloc (.cells #[.slice aa nc cA] 24)) = .ok (.slice a' (i + 1) c') W' ∧ RB w w1 E k R g c ss ao co sm (.slice ab nb cb) (.slice ac nc cc) (.slice a' (i + 1) c') (.int .i64 ((i + 1 : Nat) : Int)) W') := fun w9 b9 => by
              have b79 : Below w7.heap.size w7 w9 := b8.trans (b9.mono b8.size)
              obtain ⟨a', c', W', hap, F'⟩ := FS.push F6.out (HV.out.1.lat b79) (v := .slice aa nc cA) (by rw [HW.out.1]; exact HRow.below HV.out.2.1 b79) HV.out.2.2.1 rfl (by omega)
              exact ⟨a', c', W', hap, i + 1, a', c', _, (mvL R), rfl, rfl, hlt, F', (mvL_len R), (fun j q r hq hr => mvL_shape hq hr), HW.out.2⟩
            clear HV F6 b8 x1
            go_wp2_with first
              | (go_at_call 9; refine hk.mono ?_; clear hk; rintro e w9 ⟨rfl, b9⟩; obtain ⟨a', c', W', hap, HN⟩ := HPush.out _ b9; clear HPush b9; replace HN := Hid.mk HN)
              | (at_builtin; refine wpList_append_eq rfl _ _ _ _ rfl _ _ _ _ rfl rfl hap ?_; clear hap)
            exact ⟨HN.out, by simp only [intOf]; omega⟩
      · have e2 : ((i : Int) == 2) = false := by simp; omega
        by_cases h3 : i = 3
        · have e3 : ((i : Int) == 3) = true := by simp; omega
          have HW : Hid (wantL k R i = fsL k (mvL R) ∧ (i + 1 = 5 → mvL R = R)) := ⟨by unfold wantL; rw [if_pos (.inr h3)], fun h => by omega⟩
          clear h2 h3
          go_wp2
          go_loopw [15] (fun u wr => RX w w1 E k R g c ss ao co sm (.slice ab nb cb) (.slice ac nc cc) (.slice ga i gc) gs (mvL R) n u wr) (fun u _ => n - (intOf u).toNat)
          case atStart => exact ⟨0, Q, rfl, Nat.zero_le _, HR.out.1, Sh.start (by rw [mvL_len]; exact HR.out.2.1) (fun j q r hq hr => by
            have hj : j < R.length := by have := (List.getElem?_eq_some_iff.1 hr).1; rw [mvL_len] at this; exact this
            have e := List.getElem?_eq_getElem hj
            exact (HR.out.2.2.1 j q _ hq e).trans (mvL_shape hr e).symm)⟩
          case round =>
            obtain ⟨x, Q1, rfl, hx, HX⟩ := hrel
            obtain ⟨w6, rfl⟩ : ∃ w6, w6 = wr := ⟨_, rfl⟩
            have hnR := HA.out.2.1
            by_cases hxl : x < n
            · have x1 : (x : Int) < (n : Int) := by omega
              have x2 : (0 : Int) ≤ (x : Int) := by omega
              have hwx : IntKind.i64.wrap ((x : Int) + 1) = ((x + 1 : Nat) : Int) := by rw [IntKind.wrap_i64]; omega
              obtain ⟨nw, hnw⟩ : ∃ nw, (mvL R)[x]? = some nw := ⟨_, List.getElem?_eq_getElem (by rw [mvL_len]; omega)⟩
              obtain ⟨m, hm⟩ : ∃ m, m = nw.length := ⟨_, rfl⟩
              have hml : m ≤ 1048576 := by rw [hm]; exact HRL.out nw (.inr (List.mem_of_getElem? hnw))
              have HM := Hid.mk (And.intro hnw (And.intro hm hnR))
              clear hnw hm hnR
              go_wp2
              go_loopw [16] (fun u wr => RY w w1 E k R g c ss ao co sm (.slice ab nb cb) (.slice ac nc cc) (.slice ga i gc) gs (mvL R) x m u wr) (fun u _ => m - (intOf u).toNat)
              case atStart => exact ⟨0, Q1, rfl, Nat.zero_le _, HX.out⟩
              case round =>
                obtain ⟨y, Q2, rfl, hy, HY⟩ := hrel
                have hQl := HY.out.2.len
                obtain ⟨q, hq⟩ : ∃ q, Q2[x]? = some q := ⟨_, List.getElem?_eq_getElem (by rw [hQl]; exact (List.getElem?_eq_some_iff.1 HM.out.1).1)⟩
                have hqm : q.length = m := (HY.out.2.lens x q nw hq HM.out.1).trans HM.out.2.1.symm
                obtain ⟨b, bc, s1, s2⟩ := HY.out.1.tb.each x q hq
                have y0 : wr.cell? ⟨g, x, none⟩ = some (.slice (some ⟨b, 0, none⟩) m bc) := by
                  have h1 := HY.out.1.tb.row
                  rw [World.ownsRow.cellAt (by rw [HY.out.1.tb.len] at h1; have h2 := HM.out.2.2; rw [hQl, show (mvL R).length = R.length from by exact mvL_len R] at h1; exact h1) x (by have := HM.out.2.2; omega), s1, hqm]
                by_cases hyl : y < m
                · have y1 : (y : Int) < (m : Int) := by omega
                  have y2 : (0 : Int) ≤ (y : Int) := by omega
                  have hwy : IntKind.i64.wrap ((y : Int) + 1) = ((y + 1 : Nat) : Int) := by rw [IntKind.wrap_i64]; omega
                  have hyn : y < nw.length := by rw [← HM.out.2.1]; exact hyl
                  obtain ⟨lg, off, a', c', e1, x0, hL⟩ := (HLM.out HY.out.1).at' x nw HM.out.1
                  subst e1
                  obtain ⟨g2, o2, e2, z0, z1, z2⟩ := hL.hit (W := wr) (fun _ _ => rfl) y hyn
                  subst e2
                  rw [← HM.out.2.1] at x0
                  obtain ⟨h, hh⟩ : ∃ h, h = nw[y] := ⟨_, rfl⟩
                  rw [← hh] at z0 z1 z2
                  obtain ⟨b', c'', e3, O0, O1, O2, fz⟩ := HRow.at' s2 y (by simp; omega)
                  simp only [Value.slice.injEq, Option.some.injEq, Addr.mk.injEq] at e3
                  obtain ⟨⟨rfl, -, -⟩, -, -⟩ := e3
                  obtain ⟨p0, o0⟩ : ∃ p, wr.cell? ⟨b, y * 3, none⟩ = some p := ⟨_, O0⟩
                  obtain ⟨p1, o1⟩ : ∃ p, wr.cell? ⟨b, y * 3 + 1, none⟩ = some p := ⟨_, O1⟩
                  obtain ⟨p2, o2'⟩ : ∃ p, wr.cell? ⟨b, y * 3 + 2, none⟩ = some p := ⟨_, O2⟩
                  have f0 := fz (y * 3)
                  have f1 := fz (y * 3 + 1)
                  have f2 := fz (y * 3 + 2)
                  have HN : Hid (RY w w1 E k R g c ss (some ⟨lg, off, none⟩) co sm (.slice ab nb cb) (.slice ac nc cc) (.slice ga i gc) gs (mvL R) x m (.int .i64 ((y + 1 : Nat) : Int)) (put3 wr b y h).drew) := by
                    refine ⟨y + 1, _, rfl, hyl, (HY.out.1.set hq (by omega) s1 h).lat (b_drew _), ?_⟩
                    rw [hh]; exact HY.out.2.set hq HM.out.1 hyn
                  have HN2 : Hid (RY w w1 E k R g c ss (some ⟨lg, off, none⟩) co sm (.slice ab nb cb) (.slice ac nc cc) (.slice ga i gc) gs (mvL R) x m (.int .i64 ((y + 1 : Nat) : Int)) (put3 wr.drew b y h)) := HN.out
                  simp only [put3] at HN HN2
                  clear O0 O1 O2 fz s1 s2 hL hh hq hqm hQl HY HX HR hyn
                  go_wp2
                  go_region
                  all_goals
                    go_wp2
                    first
                    | exact ⟨HN.out, by simp only [intOf]; omega⟩
                    | exact ⟨HN2.out, by simp only [intOf]; omega⟩
                · have y1 : ¬ (y : Int) < (m : Int) := by omega
                  have HN : Hid (RX w w1 E k R g c ss ao co sm (.slice ab nb cb) (.slice ac nc cc) (.slice ga i gc) gs (mvL R) n (.int .i64 ((x + 1 : Nat) : Int)) wr) := ⟨x + 1, Q2, rfl, hxl, HY.out.1, HY.out.2.next (fun q' hq' => by rw [hq] at hq'; cases hq'; omega)⟩
                  clear s1 s2 hq hqm hQl HY HX HR
                  go_wp2
                  exact ⟨HN.out, by simp only [intOf]; omega⟩
            · have x1 : ¬ (x : Int) < (n : Int) := by omega
              have hQ : Q1 = (mvL R) := HX.out.2.all (by rw [mvL_len]; omega)
              rw [hQ] at HX
              clear hQ
              have hF := HA.out.2.2.2.1 (some ⟨g, 0, none⟩) c w6 HX.out.1.tb.ll
              rw [← HFE.out] at hF
              have F6 := Hid.mk HX.out.1
              clear hxl hx HX HR hnR
              go_wp2_with (go_at_call 7; refine hF.mono ?_; clear hF; rintro e w7 ⟨va, rfl, t7⟩)
              obtain ⟨aa, cA, hva, hlA⟩ := HRow.lat t7.1
              have F7 := F6.out.lat t7.2.2
              have hlw : LAt w7 ac (fsL k (mvL R)) := by
                obtain ⟨a9, c9, e9, h9⟩ := HRow.lat F7.cl
                simp only [Value.slice.injEq] at e9
                rw [e9.1]; exact h9
              have hs := same_any (fsL k (mvL R)) aa ac cA cc w7 hlA hlw (by have := fsL_len k (mvL R); omega)
              rw [← HL.out.2] at hs hva
              subst hva
              have HV := Hid.mk (And.intro F7 t7)
              clear F7 t7 hlA hlw
              go_wp2_with (go_at_call 8; refine hs.mono ?_; clear hs; rintro e w8 ⟨rfl, d8⟩)
              have b8 : Below w7.heap.size w7 w8 := d8.below _
              have F8 := HV.out.1.lat b8
              have hk := HA.out.2.2.2.2.2 w.heap.size ao co g c ss w8 (HLM.out F8) hc (by have h9 := F8.tb; rw [← HA.out.2.1] at h9; exact h9)
              clear F8 d8
              have HPush : Hid (∀ w9, Below w8.heap.size w8 w9 → ∃ a' c' W', (Builtin.append_ #[22, 22] 22 #[.slice ga i gc, .slice (some ⟨w9.heap.size, 0, none⟩) 1 1]).run Try.prog (w9.alloc (.cells #[.slice aa nc cA] 24)) = .ok (.slice a' (i + 1) c') W' ∧ RB w w1 E k R g c ss ao co sm (.slice ab nb cb) (.slice ac nc cc) (.slice a' (i + 1) c') (.int .i64 ((i + 1 : Nat) : Int)) W') := fun w9 b9 => by
                have b79 : Below w7.heap.size w7 w9 := b8.trans (b9.mono b8.size)
                obtain ⟨a', c', W', hap, F'⟩ := FS.push F6.out (HV.out.1.lat b79) (v := .slice aa nc cA) (by rw [HW.out.1]; exact HRow.below HV.out.2.1 b79) HV.out.2.2.1 rfl (by omega)
                exact ⟨a', c', W', hap, i + 1, a', c', _, (mvL R), rfl, rfl, hlt, F', (mvL_len R), (fun j q r hq hr => mvL_shape hq hr), HW.out.2⟩
              clear HV F6 b8 x1
              go_wp2_with first
                | (go_at_call 9; refine hk.mono ?_; clear hk; rintro e w9 ⟨rfl, b9⟩; obtain ⟨a', c', W', hap, HN⟩ := HPush.out _ b9; clear HPush b9; replace HN := Hid.mk HN)
                | (at_builtin; refine wpList_append_eq rfl _ _ _ _ rfl _ _ _ _ rfl rfl hap ?_; clear hap)
              exact ⟨HN.out, by simp only [intOf]; omega⟩
        · have e3 : ((i : Int) == 3) = false := by simp; omega
          have HW : Hid (wantL k R i = fsL k R ∧ (i + 1 = 5 → R = R)) := ⟨by unfold wantL; rw [if_neg (by omega)], fun h => rfl⟩
          clear h2 h3
          go_wp2
          go_loopw [15] (fun u wr => RX w w1 E k R g c ss ao co sm (.slice ab nb cb) (.slice ac nc cc) (.slice ga i gc) gs R n u wr) (fun u _ => n - (intOf u).toNat)
          case atStart => exact ⟨0, Q, rfl, Nat.zero_le _, HR.out.1, Sh.start HR.out.2.1 (fun j q r hq hr => HR.out.2.2.1 j q r hq hr)⟩
          case round =>
            obtain ⟨x, Q1, rfl, hx, HX⟩ := hrel
            obtain ⟨w6, rfl⟩ : ∃ w6, w6 = wr := ⟨_, rfl⟩
            have hnR := HA.out.2.1
            by_cases hxl : x < n
            · have x1 : (x : Int) < (n : Int) := by omega
              have x2 : (0 : Int) ≤ (x : Int) := by omega
              have hwx : IntKind.i64.wrap ((x : Int) + 1) = ((x + 1 : Nat) : Int) := by rw [IntKind.wrap_i64]; omega
              obtain ⟨nw, hnw⟩ : ∃ nw, R[x]? = some nw := ⟨_, List.getElem?_eq_getElem (by skip; omega)⟩
              obtain ⟨m, hm⟩ : ∃ m, m = nw.length := ⟨_, rfl⟩
              have hml : m ≤ 1048576 := by rw [hm]; exact HRL.out nw (.inl (List.mem_of_getElem? hnw))
              have HM := Hid.mk (And.intro hnw (And.intro hm hnR))
              clear hnw hm hnR
              go_wp2
              go_loopw [16] (fun u wr => RY w w1 E k R g c ss ao co sm (.slice ab nb cb) (.slice ac nc cc) (.slice ga i gc) gs R x m u wr) (fun u _ => m - (intOf u).toNat)
              case atStart => exact ⟨0, Q1, rfl, Nat.zero_le _, HX.out⟩
              case round =>
                obtain ⟨y, Q2, rfl, hy, HY⟩ := hrel
                have hQl := HY.out.2.len
                obtain ⟨q, hq⟩ : ∃ q, Q2[x]? = some q := ⟨_, List.getElem?_eq_getElem (by rw [hQl]; exact (List.getElem?_eq_some_iff.1 HM.out.1).1)⟩
                have hqm : q.length = m := (HY.out.2.lens x q nw hq HM.out.1).trans HM.out.2.1.symm
                obtain ⟨b, bc, s1, s2⟩ := HY.out.1.tb.each x q hq
                have y0 : wr.cell? ⟨g, x, none⟩ = some (.slice (some ⟨b, 0, none⟩) m bc) := by
                  have h1 := HY.out.1.tb.row
                  rw [World.ownsRow.cellAt (by rw [HY.out.1.tb.len] at h1; have h2 := HM.out.2.2; rw [hQl, show R.length = R.length from by rfl] at h1; exact h1) x (by have := HM.out.2.2; omega), s1, hqm]
                by_cases hyl : y < m
                · have y1 : (y : Int) < (m : Int) := by omega
                  have y2 : (0 : Int) ≤ (y : Int) := by omega
                  have hwy : IntKind.i64.wrap ((y : Int) + 1) = ((y + 1 : Nat) : Int) := by rw [IntKind.wrap_i64]; omega
                  have hyn : y < nw.length := by rw [← HM.out.2.1]; exact hyl
                  obtain ⟨lg, off, a', c', e1, x0, hL⟩ := (HLL.out HY.out.1).at' x nw HM.out.1
                  subst e1
                  obtain ⟨g2, o2, e2, z0, z1, z2⟩ := hL.hit (W := wr) (fun _ _ => rfl) y hyn
                  subst e2
                  rw [← HM.out.2.1] at x0
                  obtain ⟨h, hh⟩ : ∃ h, h = nw[y] := ⟨_, rfl⟩
                  rw [← hh] at z0 z1 z2
                  obtain ⟨b', c'', e3, O0, O1, O2, fz⟩ := HRow.at' s2 y (by simp; omega)
                  simp only [Value.slice.injEq, Option.some.injEq, Addr.mk.injEq] at e3
                  obtain ⟨⟨rfl, -, -⟩, -, -⟩ := e3
                  obtain ⟨p0, o0⟩ : ∃ p, wr.cell? ⟨b, y * 3, none⟩ = some p := ⟨_, O0⟩
                  obtain ⟨p1, o1⟩ : ∃ p, wr.cell? ⟨b, y * 3 + 1, none⟩ = some p := ⟨_, O1⟩
                  obtain ⟨p2, o2'⟩ : ∃ p, wr.cell? ⟨b, y * 3 + 2, none⟩ = some p := ⟨_, O2⟩
                  have f0 := fz (y * 3)
                  have f1 := fz (y * 3 + 1)
                  have f2 := fz (y * 3 + 2)
                  have HN : Hid (RY w w1 E k R g c ss ao co sm (.slice ab nb cb) (.slice ac nc cc) (.slice ga i gc) gs R x m (.int .i64 ((y + 1 : Nat) : Int)) (put3 wr b y h).drew) := by
                    refine ⟨y + 1, _, rfl, hyl, (HY.out.1.set hq (by omega) s1 h).lat (b_drew _), ?_⟩
                    rw [hh]; exact HY.out.2.set hq HM.out.1 hyn
                  have HN2 : Hid (RY w w1 E k R g c ss ao co sm (.slice ab nb cb) (.slice ac nc cc) (.slice ga i gc) gs R x m (.int .i64 ((y + 1 : Nat) : Int)) (put3 wr.drew b y h)) := HN.out
                  simp only [put3] at HN HN2
                  clear O0 O1 O2 fz s1 s2 hL hh hq hqm hQl HY HX HR hyn
                  go_wp2
                  go_region
                  all_goals
                    go_wp2
                    first
                    | exact ⟨HN.out, by simp only [intOf]; omega⟩
                    | exact ⟨HN2.out, by simp only [intOf]; omega⟩
                · have y1 : ¬ (y : Int) < (m : Int) := by omega
                  have HN : Hid (RX w w1 E k R g c ss ao co sm (.slice ab nb cb) (.slice ac nc cc) (.slice ga i gc) gs R n (.int .i64 ((x + 1 : Nat) : Int)) wr) := ⟨x + 1, Q2, rfl, hxl, HY.out.1, HY.out.2.next (fun q' hq' => by rw [hq] at hq'; cases hq'; omega)⟩
                  clear s1 s2 hq hqm hQl HY HX HR
                  go_wp2
                  exact ⟨HN.out, by simp only [intOf]; omega⟩
            · have x1 : ¬ (x : Int) < (n : Int) := by omega
              have hQ : Q1 = R := HX.out.2.all (by skip; omega)
              rw [hQ] at HX
              clear hQ
              have hF := HA.out.2.2.1 (some ⟨g, 0, none⟩) c w6 HX.out.1.tb.ll
              rw [← HFE.out] at hF
              have F6 := Hid.mk HX.out.1
              clear hxl hx HX HR hnR
              go_wp2_with (go_at_call 7; refine hF.mono ?_; clear hF; rintro e w7 ⟨va, rfl, t7⟩)
              obtain ⟨aa, cA, hva, hlA⟩ := HRow.lat t7.1
              have F7 := F6.out.lat t7.2.2
              have hlw : LAt w7 ab (fsL k R) := by
                obtain ⟨a9, c9, e9, h9⟩ := HRow.lat F7.bl
                simp only [Value.slice.injEq] at e9
                rw [e9.1]; exact h9
              have hs := same_any (fsL k R) aa ab cA cb w7 hlA hlw (by have := fsL_len k R; omega)
              rw [← HL.out.1] at hs hva
              subst hva
              have HV := Hid.mk (And.intro F7 t7)
              clear F7 t7 hlA hlw
              go_wp2_with (go_at_call 8; refine hs.mono ?_; clear hs; rintro e w8 ⟨rfl, d8⟩)
              have b8 : Below w7.heap.size w7 w8 := d8.below _
              have F8 := HV.out.1.lat b8
              have hk := HA.out.2.2.2.2.1 w.heap.size la ca g c ss w8 (HLL.out F8) hc (by have h9 := F8.tb; rw [← HA.out.2.1] at h9; exact h9)
              clear F8 d8
              have HPush : Hid (∀ w9, Below w8.heap.size w8 w9 → ∃ a' c' W', (Builtin.append_ #[22, 22] 22 #[.slice ga i gc, .slice (some ⟨w9.heap.size, 0, none⟩) 1 1]).run Try.prog (w9.alloc (.cells #[.slice aa nb cA] 24)) = .ok (.slice a' (i + 1) c') W' ∧ RB w w1 E k R g c ss ao co sm (.slice ab nb cb) (.slice ac nc cc) (.slice a' (i + 1) c') (.int .i64 ((i + 1 : Nat) : Int)) W') := fun w9 b9 => by
                have b79 : Below w7.heap.size w7 w9 := b8.trans (b9.mono b8.size)
                obtain ⟨a', c', W', hap, F'⟩ := FS.push F6.out (HV.out.1.lat b79) (v := .slice aa nb cA) (by rw [HW.out.1]; exact HRow.below HV.out.2.1 b79) HV.out.2.2.1 rfl (by omega)
                exact ⟨a', c', W', hap, i + 1, a', c', _, R, rfl, rfl, hlt, F', rfl, (fun j q r hq hr => by rw [hq] at hr; cases hr; rfl), (fun _ => rfl)⟩
              clear HV F6 b8 x1
              go_wp2_with first
                | (go_at_call 9; refine hk.mono ?_; clear hk; rintro e w9 ⟨rfl, b9⟩; obtain ⟨a', c', W', hap, HN⟩ := HPush.out _ b9; clear HPush b9; replace HN := Hid.mk HN)
                | (at_builtin; refine wpList_append_eq rfl _ _ _ _ rfl _ _ _ _ rfl rfl hap ?_; clear hap)
              exact ⟨HN.out, by simp only [intOf]; omega⟩
    · have i1 : ¬ (i : Int) < 5 := by omega
      obtain rfl : i = 5 := by omega
      obtain rfl : Q = R := HR.out.2.2.2 rfl
      have FW := Hid.mk HR.out.1
      have hgl : gs.length = 5 := by
        obtain ⟨a', c', e', -⟩ := slice_form FW.out.grow
        simp only [Value.slice.injEq] at e'
        exact e'.2.1.symm
      obtain ⟨s0, s1, s2, s3, s4, rfl⟩ : ∃ s0 s1 s2 s3 s4, gs = [s0, s1, s2, s3, s4] := by
        rcases gs with _ | ⟨a, _ | ⟨b, _ | ⟨c, _ | ⟨d, _ | ⟨e, _ | ⟨f, l⟩⟩⟩⟩⟩⟩ <;> simp at hgl
        exact ⟨a, b, c, d, e, rfl⟩
      obtain ⟨gg, hga⟩ : ∃ gg, ga = some ⟨gg, 0, none⟩ := by
        rcases FW.out.grow.2 with ⟨e, e2⟩ | ⟨g, cap, cur, e, -⟩
        · simp at e2
        · simp only [Value.slice.injEq] at e
          exact ⟨g, e.1⟩
      subst hga
      have hcell : ∀ (j : Nat) (s : Value), [s0, s1, s2, s3, s4][j]? = some s → w5.cell? ⟨gg, j, none⟩ = some s := fun j s hs => by
        rw [World.ownsRow.cellAt FW.out.grow j (by have := (List.getElem?_eq_some_iff.1 hs).1; omega), hs]
      have hform : ∀ (j : Nat) (s : Value), [s0, s1, s2, s3, s4][j]? = some s → ∃ a c, s = .slice a (wantL k Q j).length c ∧ LAt w5 a (wantL k Q j) := fun j s hs => HRow.lat (FW.out.geach j s hs)
      obtain ⟨a0, c0, rfl, l0⟩ := hform 0 s0 rfl
      obtain ⟨a1, c1, rfl, l1⟩ := hform 1 s1 rfl
      obtain ⟨a2, c2, rfl, l2⟩ := hform 2 s2 rfl
      obtain ⟨a3, c3, rfl, l3⟩ := hform 3 s3 rfl
      obtain ⟨a4, c4, rfl, l4⟩ := hform 4 s4 rfl
      have q0 := hcell 0 _ rfl
      have q1 := hcell 1 _ rfl
      have q2 := hcell 2 _ rfl
      have q3 := hcell 3 _ rfl
      have q4 := hcell 4 _ rfl
      have e0 : wantL k Q 0 = fsL k Q := rfl
      have e1 : wantL k Q 1 = fsL k Q := rfl
      have e2 : wantL k Q 2 = fsL k (mvL Q) := rfl
      have e3 : wantL k Q 3 = fsL k (mvL Q) := rfl
      have e4 : wantL k Q 4 = fsL k Q := rfl
      have lb : LAt w5 ab (fsL k Q) := by
        obtain ⟨a9, c9, e9, h9⟩ := HRow.lat FW.out.bl
        simp only [Value.slice.injEq] at e9
        rw [e9.1]; exact h9
      have lc : LAt w5 ac (fsL k (mvL Q)) := by
        obtain ⟨a9, c9, e9, h9⟩ := HRow.lat FW.out.cl
        simp only [Value.slice.injEq] at e9
        rw [e9.1]; exact h9
      rw [e0] at l0 q0
      rw [e1] at l1 q1
      rw [e2] at l2 q2
      rw [e3] at l3 q3
      rw [e4] at l4 q4
      have hb1 := fsL_len k Q
      have hb2 := fsL_len k (mvL Q)
      have HS1 : ∀ a c W, Below w5.heap.size w5 W → LAt w5 a (fsL k Q) → Calls Try.prog 8 #[.slice a (fsL k Q).length c, .slice ab (fsL k Q).length cb] W fun e w' => e = .returned (.bool true) ∧ Below W.heap.size W w' := fun a c W hW hl => (same_any (fsL k Q) a ab c cb W (hl.below hW) (lb.below hW) (by omega)).mono (by rintro e w' ⟨rfl, d⟩; exact ⟨rfl, d.below _⟩)
      have HS2 : ∀ a c W, Below w5.heap.size w5 W → LAt w5 a (fsL k (mvL Q)) → Calls Try.prog 8 #[.slice a (fsL k (mvL Q)).length c, .slice ac (fsL k (mvL Q)).length cc] W fun e w' => e = .returned (.bool true) ∧ Below W.heap.size W w' := fun a c W hW hl => (same_any (fsL k (mvL Q)) a ac c cc W (hl.below hW) (lc.below hW) (by omega)).mono (by rintro e w' ⟨rfl, d⟩; exact ⟨rfl, d.below _⟩)
      have HAP : Hid (∀ W, Below w5.heap.size w5 W → Calls Try.prog 10 #[.slice (some ⟨gg, 0, none⟩) 5 gc] W fun e w' => e = .returned (.bool true) ∧ Below w.heap.size w w' ∧ TB w.heap.size w' (.slice (some ⟨g, 0, none⟩) (Q.length + 64) c) ss Q 64) := fun W hW => by
        have FX := FW.out.lat hW
        have hlen5 : ∀ (j : Nat) (m : Nat), ((List.range 5).map (fun j => (wantL k Q j).length))[j]? = some m → m = (wantL k Q j).length := fun j m hm => by
          obtain ⟨h1, h2⟩ := List.getElem?_eq_some_iff.1 hm
          simpa using h2.symm
        refine (apart_any (.slice (some ⟨gg, 0, none⟩) 5 gc) _ ((List.range 5).map (fun j => (wantL k Q j).length)) W ⟨by simp, FX.grow, fun j s m hs hm => ⟨_, (hlen5 j m hm).symm, FX.geach j s hs⟩, FX.gap⟩ (by simp) (fun m hm => by
          obtain ⟨j, -, rfl⟩ := List.mem_map.1 hm
          have := wantL_len k Q j; omega)).mono ?_
        rintro e w' ⟨rfl, st⟩
        have hg : ∀ b, (∃ (j : Nat) (s : Value), [Value.slice a0 (wantL k Q 0).length c0, .slice a1 (wantL k Q 1).length c1, .slice a2 (wantL k Q 2).length c2, .slice a3 (wantL k Q 3).length c3, .slice a4 (wantL k Q 4).length c4][j]? = some s ∧ s.ownBlock = some b) → w1.heap.size ≤ b := fun b ⟨j, s, h1, h2⟩ => FX.gbn j s b h1 h2
        refine ⟨rfl, FX.below.trans (st.toBelow (fun b hb e => by have := hg b e; have := FX.le; omega) FX.below.size), FX.tb.stay st (fun b hb e => ?_) (fun j s b hs hb e => ?_)⟩
        · have h1 := hg b e
          have h2 := FX.gold
          have h3 : g = b := by simpa [Value.ownBlock] using hb
          omega
        · have h1 := hg b e
          have h2 := FX.old j s b hs hb
          omega
      rw [← HL.out.1] at HS1 q0 q1 q4
      rw [← HL.out.2] at HS2 q2 q3
      have L0 := Hid.mk (And.intro l0 (And.intro l1 (And.intro l2 (And.intro l3 l4))))
      clear l0 l1 l2 l3 l4 e0 e1 e2 e3 e4 hcell hform lb lc hgl HR hlt i1
      have bb := Below.refl w5.heap.size w5
      have h0 := fun W hW => HS1 a0 c0 W hW L0.out.1
      have h1 := fun W hW => HS1 a1 c1 W hW L0.out.2.1
      have h4 := fun W hW => HS1 a4 c4 W hW L0.out.2.2.2.2
      have h2 := fun W hW => HS2 a2 c2 W hW L0.out.2.2.1
      have h3 := fun W hW => HS2 a3 c3 W hW L0.out.2.2.2.1
      clear HS1 HS2 hb1 hb2
      go_wp2_with first
        | (go_at_call 8; refine (h0 _ bb).mono ?_; clear h0; rintro e wz ⟨rfl, bn⟩; replace bb := bb.trans (bn.mono bb.size); replace q1 := cell_lat bn q1; replace q2 := cell_lat bn q2; replace q3 := cell_lat bn q3; replace q4 := cell_lat bn q4; clear bn)
        | (go_at_call 8; refine (h1 _ bb).mono ?_; clear h1; rintro e wz ⟨rfl, bn⟩; replace bb := bb.trans (bn.mono bb.size); replace q2 := cell_lat bn q2; replace q3 := cell_lat bn q3; replace q4 := cell_lat bn q4; clear bn)
        | (go_at_call 8; refine (h4 _ bb).mono ?_; clear h4; rintro e wz ⟨rfl, bn⟩; replace bb := bb.trans (bn.mono bb.size); replace q2 := cell_lat bn q2; replace q3 := cell_lat bn q3; clear bn)
        | (go_at_call 8; refine (h2 _ bb).mono ?_; clear h2; rintro e wz ⟨rfl, bn⟩; replace bb := bb.trans (bn.mono bb.size); replace q3 := cell_lat bn q3; clear bn)
        | (go_at_call 8; refine (h3 _ bb).mono ?_; clear h3; rintro e wz ⟨rfl, bn⟩; replace bb := bb.trans (bn.mono bb.size); clear bn)
        | (go_at_call 10; refine (HAP.out _ bb).mono ?_; clear HAP; rintro e wz ⟨rfl, bz, tz⟩; have hk := HA.out.2.2.2.2.1 w.heap.size la ca g c ss wz (HA.out.1.below bz) hc (by have h9 := tz; rw [← HA.out.2.1] at h9; exact h9); clear tz)
        | (go_at_call 9; refine hk.mono ?_; clear hk; rintro e wy ⟨rfl, by'⟩; have HE := Hid.mk (bz.trans (by'.mono bz.size)); clear by')
      go_ret
      exact ⟨rfl, HE.out⟩
end Go.Proofs.Ytecddamjolekmaa
