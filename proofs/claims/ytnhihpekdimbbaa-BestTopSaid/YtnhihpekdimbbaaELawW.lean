/-
  DERIVED. BestWorst: the bound falls, and what is above it may be left out.
-/
import Derived.Test.YtnhihpekdimbbaaEWorst
set_option linter.unusedVariables false
set_option linter.unusedSimpArgs false
namespace Go.Proofs.Ytnhihpekdimbbaa
open Classical
open Go.RowKit
def RW (w : World) (ta tb k kpa kpb : Nat) (L : List Ht) (ul uw ui : Value) (wr : World) : Prop := ∃ (i : Nat) (last : Int) (was : Bool), ul = .int .i64 last ∧ uw = .bool was ∧ ui = .int .i64 i ∧ i ≤ L.length ∧ Hid (Two w wr ta tb k kpa kpb (topL k (L.take i)) (topL k (L.take i)) ∧ Was k (topL k (L.take i)) was last)
theorem was0 (k : Nat) (X : List Ht) : Was k X false 0 := ⟨fun h => (by cases h), fun h => (by cases h), fun h => (by cases h)⟩
theorem take_step {k : Nat} {L : List Ht} {i : Nat} (hi : i < L.length) : topL k (L.take (i + 1)) = putK k L[i] (topL k (L.take i)) := by
  rw [List.take_succ_eq_append_getElem hi, topL_snoc]; rfl
set_option maxHeartbeats 4000000 in
set_option maxRecDepth 100000 in
theorem law_worst (k : Int) (hk : I64 k) (L : List Ht) (hL : ∀ x ∈ L, HtW x) (la : Option Addr) (ca : Nat) (w : World) (ha : LAt w la L) (hl : L.length < 4611686018427387904) :
    Calls Try.prog 3 #[.int .i64 k, .slice la L.length ca] w fun r w' => r = .returned (.bool true) ∧ Below w.heap.size w w' := by
  have hb := begun_any w
  have hf := fun W => fit_any k hk W
  have hK := fitK_le k
  obtain ⟨K, hKe⟩ : ∃ K, K = fitK k := ⟨_, rfl⟩
  rw [← hKe] at hf hK
  clear hKe
  obtain ⟨n, hn⟩ : ∃ n, n = L.length := ⟨_, rfl⟩
  have HA := Hid.mk (And.intro ha (And.intro hL (And.intro hn hl)))
  rw [← hn]
  have hnl : n < 4611686018427387904 := by omega
  clear ha hL hn hl
  have hnil : ∀ W, LAt W none ([] : List Ht) := fun W => ⟨fun h => absurd rfl h⟩
  go_enter Try.func3, Try.ntmps3
  go_wp2_with fail
  refine hb.mono ?_
  clear hb
  rintro r w1 ⟨rfl, b1⟩
  go_wp2_with fail
  refine (hf _).mono ?_
  clear hf
  rintro r w1' ⟨rfl, e1⟩
  subst e1
  have hh1 := handed_any K hK [] (fun x h => by simp at h) none 0 false w1' (hnil _) (by simp)
  rw [show topL K (way false []) = [] from rfl] at hh1
  simp only [List.length_nil] at hh1
  go_wp2_with fail
  refine hh1.mono ?_
  clear hh1
  rintro r w2 ⟨ta, kpa, rfl, O2⟩
  have hh2 := handed_any K hK [] (fun x h => by simp at h) none 0 false w2 (hnil _) (by simp)
  rw [show topL K (way false []) = [] from rfl] at hh2
  simp only [List.length_nil] at hh2
  go_wp2_with fail
  refine hh2.mono ?_
  clear hh2
  rintro r w3 ⟨tb, kpb, rfl, O3⟩
  have T3 := Hid.mk (Two.mk' O2 O3)
  clear O2 O3 hnil
  go_wp2_with fail
  go_loopw [8, 9, 10] (fun ul uw ui wr => RW w1' ta tb K kpa kpb L ul uw ui wr) (fun _ _ u _ => n - (intOf u).toNat)
  case atStart => exact ⟨0, 0, false, rfl, rfl, rfl, Nat.zero_le _, T3.out, was0 _ _⟩
  case round =>
    clear T3
    obtain ⟨i, last, was, rfl, rfl, rfl, hi, HR⟩ := hrel
    obtain ⟨X, hX⟩ : ∃ X, X = topL K (L.take i) := ⟨_, rfl⟩
    rw [← hX] at HR
    have hXs : Srt X := by rw [hX]; exact topL_srt _ _
    have hXk : X.length ≤ K := by rw [hX]; exact topL_len _ _
    have HX := Hid.mk (And.intro hX (And.intro hXs hXk))
    clear hX hXs
    have bwr : Hid (Below w.heap.size w wr) := b1.trans (HR.out.1.a.below.mono b1.size)
    by_cases hlt : i < n
    · have i1 : (i : Int) < (n : Int) := by omega
      have i2 : (0 : Int) ≤ (i : Int) := by omega
      have hiL : i < L.length := by have := HA.out.2.2.1; omega
      have hwo := worst_any ta K kpa X wr HR.out.1.a.tt
      go_wp2_with fail
      refine hwo.mono ?_
      clear hwo
      rintro r w4 ⟨rfl, b4⟩
      have T4 := HR.out.1.more b4
      have hli := tlist_any ta K kpa X w4 T4.a.tt
      go_wp2_with fail
      refine hli.mono ?_
      clear hli
      rintro r w5 ⟨v, rfl, t5⟩
      have T5 := T4.more t5.2.2
      obtain ⟨g, o, e1, x0, x1, x2⟩ := HA.out.1.hit (W := w5) (fun k hk => ((t5.2.2.block k (Nat.lt_of_lt_of_le hk (Nat.le_trans bwr.out.size b4.size))).trans (b4.block k (Nat.lt_of_lt_of_le hk bwr.out.size))).trans (bwr.out.block k hk)) i hiL
      subst e1
      obtain ⟨h, hh⟩ : ∃ h, h = L[i] := ⟨_, rfl⟩
      rw [← hh] at x0 x1 x2
      have hhW : HtW h := by rw [hh]; exact HA.out.2.1 _ (List.getElem_mem hiL)
      have hstep : topL K (L.take (i + 1)) = putK K h X := by rw [take_step hiL, ← hh, HX.out.1]
      have hadd := tadd_any ta K kpa X h w5 T5.a.tt hhW
      have hwi : IntKind.i64.wrap ((i : Int) + 1) = ((i + 1 : Nat) : Int) := by rw [IntKind.wrap_i64]; omega
      have HW := Hid.mk (was_step (h := h) HX.out.2.1 HX.out.2.2)
      obtain ⟨a, c, rfl, lv⟩ := HRow.lat t5.1
      have HT := Hid.mk (And.intro T5 (And.intro HR.out.2 hstep))
      clear T4 b4 HR hstep
      simp only [hC] at hadd
      have HCell : Hid (∀ W, TT W ta K kpa (putK K h X) → FrK kpa w5 W → W.cell? ⟨g, o + i * 3, none⟩ = some (.int .i64 h.d) ∧ W.cell? ⟨g, o + i * 3 + 1, none⟩ = some (.int .i64 h.i) ∧ W.cell? ⟨g, o + i * 3 + 2, none⟩ = some (.string h.c)) := fun W hT hf => by
        have b6 : Below w.heap.size w W := b1.trans ((HT.out.1.frk hT hf).a.below.mono b1.size)
        obtain ⟨g', o', e', y0, y1, y2⟩ := HA.out.1.hit (W := W) (fun k hk => b6.block k hk) i hiL
        simp only [Option.some.injEq, Addr.mk.injEq] at e'
        obtain ⟨rfl, rfl, -⟩ := e'
        rw [← hh] at y0 y1 y2
        exact ⟨y0, y1, y2⟩
      clear hh
      obtain ⟨q, hq⟩ : ∃ q, q = wrs K X := ⟨_, rfl⟩
      rw [← hq] at HW ⊢
      replace hq := hq.symm
      obtain ⟨nX, hnX⟩ : ∃ nX, nX = X.length := ⟨_, rfl⟩
      by_cases hf : X.length = K
      · rw [decide_eq_true hf] at HW ⊢
        rw [hf]
        have hlk : ((K : Int) == (K : Int)) = true := by simp
        by_cases h0 : K = 0
        · have hk0 : ((K : Int) == 0) = true := by simp [h0]
          have hk1 : ¬ (0 : Int) < (K : Int) := by omega
          have hk2 : ¬ 0 < K := by omega
          have hq1 : q = -1 := by rw [← hq]; exact wrs_nil hf h0
          have hqn : (q != -1) = false := by rw [hq1]; rfl
          have HQ := Hid.mk hq1
          have HL : Hid (was = true → ¬ last < q) := fun hw => by rw [HQ.out, HT.out.2.1.nil hw h0]; omega
          clear hq1 h0 hnX
          cases was with
          | false =>
            clear HL
            by_cases hab : q < h.d
            · have hao := above_out (h := h) HX.out.2.1 hf (by rw [hq]; exact hab)
              rw [decide_eq_false (by rw [hao.1]; exact hao.2)] at hadd
              have HN : Hid (∀ W, TT W ta K kpa (putK K h X) → FrK kpa w5 W → RW w1' ta tb K kpa kpb L (.int .i64 q) (.bool true) (.int .i64 ((i + 1 : Nat) : Int)) W) := fun W hT hf => ⟨i + 1, q, true, rfl, rfl, rfl, hiL, by rw [HT.out.2.2]; have t6 := HT.out.1.frk hT hf; rw [hao.1] at t6 ⊢; exact t6, by rw [HT.out.2.2]; exact HW.out⟩
              clear hao HW HT HX hf hq hXk bwr t5 lv
              go_wp2_with (go_at_call 14; refine hadd.mono ?_; clear hadd; rintro r w6 ⟨rfl, T6, f6⟩)
              exact ⟨HN.out _ T6 f6, by simp only [intOf]; omega⟩
            · obtain ⟨bq, hbq⟩ : ∃ bq, bq = decide (h ∈ putK K h X) := ⟨_, rfl⟩
              rw [← hbq] at hadd
              have hadd2 := fun W (T : TT W tb K kpb X) => tadd_any tb K kpb X h W T hhW
              rw [← hbq] at hadd2
              simp only [hC] at hadd2
              have HC : Hid (∀ W, TT W ta K kpa (putK K h X) → FrK kpa w5 W → ∃ _ : TT W tb K kpb X, ∀ W', TT W' tb K kpb (putK K h X) → FrK kpb W W' → RW w1' ta tb K kpa kpb L (.int .i64 q) (.bool true) (.int .i64 ((i + 1 : Nat) : Int)) W') := fun W hT hf => ⟨(HT.out.1.frk hT hf).b.tt, fun W' hT' hf' => ⟨i + 1, q, true, rfl, rfl, rfl, hiL, by rw [HT.out.2.2]; exact ((HT.out.1.frk hT hf).swap.frk hT' hf').swap, by rw [HT.out.2.2]; exact HW.out⟩⟩
              clear hbq HW HT HX hf hq hXk bwr t5 lv
              go_wp2_with first
                | (go_at_call 14; refine hadd.mono ?_; clear hadd; rintro r w6 ⟨rfl, T6, f6⟩; obtain ⟨U6, HN⟩ := HC.out _ T6 f6; obtain ⟨z0, z1, z2⟩ := HCell.out _ T6 f6; have hadd3 := hadd2 w6 U6; clear hadd2 HC; replace HN := Hid.mk HN)
                | (go_at_call 14; refine hadd3.mono ?_; clear hadd3; rintro r w7 ⟨rfl, T7, f7⟩)
              exact ⟨HN.out _ T7 f7, by simp only [intOf]; omega⟩
          | true =>
            have hlq := HL.out rfl
            clear HL
            by_cases hab : q < h.d
            · have hao := above_out (h := h) HX.out.2.1 hf (by rw [hq]; exact hab)
              rw [decide_eq_false (by rw [hao.1]; exact hao.2)] at hadd
              have HN : Hid (∀ W, TT W ta K kpa (putK K h X) → FrK kpa w5 W → RW w1' ta tb K kpa kpb L (.int .i64 q) (.bool true) (.int .i64 ((i + 1 : Nat) : Int)) W) := fun W hT hf => ⟨i + 1, q, true, rfl, rfl, rfl, hiL, by rw [HT.out.2.2]; have t6 := HT.out.1.frk hT hf; rw [hao.1] at t6 ⊢; exact t6, by rw [HT.out.2.2]; exact HW.out⟩
              clear hao HW HT HX hf hq hXk bwr t5 lv
              go_wp2_with (go_at_call 14; refine hadd.mono ?_; clear hadd; rintro r w6 ⟨rfl, T6, f6⟩)
              exact ⟨HN.out _ T6 f6, by simp only [intOf]; omega⟩
            · obtain ⟨bq, hbq⟩ : ∃ bq, bq = decide (h ∈ putK K h X) := ⟨_, rfl⟩
              rw [← hbq] at hadd
              have hadd2 := fun W (T : TT W tb K kpb X) => tadd_any tb K kpb X h W T hhW
              rw [← hbq] at hadd2
              simp only [hC] at hadd2
              have HC : Hid (∀ W, TT W ta K kpa (putK K h X) → FrK kpa w5 W → ∃ _ : TT W tb K kpb X, ∀ W', TT W' tb K kpb (putK K h X) → FrK kpb W W' → RW w1' ta tb K kpa kpb L (.int .i64 q) (.bool true) (.int .i64 ((i + 1 : Nat) : Int)) W') := fun W hT hf => ⟨(HT.out.1.frk hT hf).b.tt, fun W' hT' hf' => ⟨i + 1, q, true, rfl, rfl, rfl, hiL, by rw [HT.out.2.2]; exact ((HT.out.1.frk hT hf).swap.frk hT' hf').swap, by rw [HT.out.2.2]; exact HW.out⟩⟩
              clear hbq HW HT HX hf hq hXk bwr t5 lv
              go_wp2_with first
                | (go_at_call 14; refine hadd.mono ?_; clear hadd; rintro r w6 ⟨rfl, T6, f6⟩; obtain ⟨U6, HN⟩ := HC.out _ T6 f6; obtain ⟨z0, z1, z2⟩ := HCell.out _ T6 f6; have hadd3 := hadd2 w6 U6; clear hadd2 HC; replace HN := Hid.mk HN)
                | (go_at_call 14; refine hadd3.mono ?_; clear hadd3; rintro r w7 ⟨rfl, T7, f7⟩)
              exact ⟨HN.out _ T7 f7, by simp only [intOf]; omega⟩
        · have hk0 : ((K : Int) == 0) = false := by simp; omega
          have hk1 : (0 : Int) < (K : Int) := by omega
          have hk2 : 0 < K := by omega
          have hne : X ≠ [] := fun e => by rw [e] at hf; simp at hf; omega
          obtain ⟨x, hx⟩ := T5.a.tt.2.1.lastOf hne
          have hq1 : q = x.d := by rw [← hq]; exact wrs_last hf hx
          have HL : Hid (was = true → ¬ last < q) := fun hw => by
            have := HT.out.2.1.le hw x (by rw [hx]; simp)
            rw [hq1]; omega
          have hwk : IntKind.i64.wrap ((K : Int) - 1) = ((K - 1 : Nat) : Int) := by rw [IntKind.wrap_i64]; omega
          have k4 : ((K - 1 : Nat) : Int) < (K : Int) := by omega
          have k5 : (0 : Int) ≤ ((K - 1 : Nat) : Int) := by omega
          obtain ⟨gb, ob, e2, y0, -, -⟩ := lv.hit (W := w5) (fun _ _ => rfl) (K - 1) (by omega)
          subst e2
          have hxd : (X[K - 1]'(by omega)).d = q := by
            rw [hq1]
            have e3 : X[K - 1]? = some x := by
              rw [hx, List.getElem?_append_right (by rw [List.length_dropLast]; omega), List.length_dropLast, hf]
              simp
            rw [List.getElem?_eq_getElem (by omega)] at e3
            rw [Option.some.inj e3]
          rw [hxd] at y0
          have hqq : (q != q) = false := by simp
          obtain ⟨p, hp⟩ : ∃ p, p = K - 1 := ⟨_, rfl⟩
          rw [← hp] at hwk k4 k5 y0
          clear hq1 h0 hnX hx hne hp hxd
          cases was with
          | false =>
            clear HL
            by_cases hab : q < h.d
            · have hao := above_out (h := h) HX.out.2.1 hf (by rw [hq]; exact hab)
              rw [decide_eq_false (by rw [hao.1]; exact hao.2)] at hadd
              have HN : Hid (∀ W, TT W ta K kpa (putK K h X) → FrK kpa w5 W → RW w1' ta tb K kpa kpb L (.int .i64 q) (.bool true) (.int .i64 ((i + 1 : Nat) : Int)) W) := fun W hT hf => ⟨i + 1, q, true, rfl, rfl, rfl, hiL, by rw [HT.out.2.2]; have t6 := HT.out.1.frk hT hf; rw [hao.1] at t6 ⊢; exact t6, by rw [HT.out.2.2]; exact HW.out⟩
              clear hao HW HT HX hf hq hXk bwr t5 lv
              go_wp2_with (go_at_call 14; refine hadd.mono ?_; clear hadd; rintro r w6 ⟨rfl, T6, f6⟩)
              exact ⟨HN.out _ T6 f6, by simp only [intOf]; omega⟩
            · obtain ⟨bq, hbq⟩ : ∃ bq, bq = decide (h ∈ putK K h X) := ⟨_, rfl⟩
              rw [← hbq] at hadd
              have hadd2 := fun W (T : TT W tb K kpb X) => tadd_any tb K kpb X h W T hhW
              rw [← hbq] at hadd2
              simp only [hC] at hadd2
              have HC : Hid (∀ W, TT W ta K kpa (putK K h X) → FrK kpa w5 W → ∃ _ : TT W tb K kpb X, ∀ W', TT W' tb K kpb (putK K h X) → FrK kpb W W' → RW w1' ta tb K kpa kpb L (.int .i64 q) (.bool true) (.int .i64 ((i + 1 : Nat) : Int)) W') := fun W hT hf => ⟨(HT.out.1.frk hT hf).b.tt, fun W' hT' hf' => ⟨i + 1, q, true, rfl, rfl, rfl, hiL, by rw [HT.out.2.2]; exact ((HT.out.1.frk hT hf).swap.frk hT' hf').swap, by rw [HT.out.2.2]; exact HW.out⟩⟩
              clear hbq HW HT HX hf hq hXk bwr t5 lv
              go_wp2_with first
                | (go_at_call 14; refine hadd.mono ?_; clear hadd; rintro r w6 ⟨rfl, T6, f6⟩; obtain ⟨U6, HN⟩ := HC.out _ T6 f6; obtain ⟨z0, z1, z2⟩ := HCell.out _ T6 f6; have hadd3 := hadd2 w6 U6; clear hadd2 HC; replace HN := Hid.mk HN)
                | (go_at_call 14; refine hadd3.mono ?_; clear hadd3; rintro r w7 ⟨rfl, T7, f7⟩)
              exact ⟨HN.out _ T7 f7, by simp only [intOf]; omega⟩
          | true =>
            have hlq := HL.out rfl
            clear HL
            by_cases hab : q < h.d
            · have hao := above_out (h := h) HX.out.2.1 hf (by rw [hq]; exact hab)
              rw [decide_eq_false (by rw [hao.1]; exact hao.2)] at hadd
              have HN : Hid (∀ W, TT W ta K kpa (putK K h X) → FrK kpa w5 W → RW w1' ta tb K kpa kpb L (.int .i64 q) (.bool true) (.int .i64 ((i + 1 : Nat) : Int)) W) := fun W hT hf => ⟨i + 1, q, true, rfl, rfl, rfl, hiL, by rw [HT.out.2.2]; have t6 := HT.out.1.frk hT hf; rw [hao.1] at t6 ⊢; exact t6, by rw [HT.out.2.2]; exact HW.out⟩
              clear hao HW HT HX hf hq hXk bwr t5 lv
              go_wp2_with (go_at_call 14; refine hadd.mono ?_; clear hadd; rintro r w6 ⟨rfl, T6, f6⟩)
              exact ⟨HN.out _ T6 f6, by simp only [intOf]; omega⟩
            · obtain ⟨bq, hbq⟩ : ∃ bq, bq = decide (h ∈ putK K h X) := ⟨_, rfl⟩
              rw [← hbq] at hadd
              have hadd2 := fun W (T : TT W tb K kpb X) => tadd_any tb K kpb X h W T hhW
              rw [← hbq] at hadd2
              simp only [hC] at hadd2
              have HC : Hid (∀ W, TT W ta K kpa (putK K h X) → FrK kpa w5 W → ∃ _ : TT W tb K kpb X, ∀ W', TT W' tb K kpb (putK K h X) → FrK kpb W W' → RW w1' ta tb K kpa kpb L (.int .i64 q) (.bool true) (.int .i64 ((i + 1 : Nat) : Int)) W') := fun W hT hf => ⟨(HT.out.1.frk hT hf).b.tt, fun W' hT' hf' => ⟨i + 1, q, true, rfl, rfl, rfl, hiL, by rw [HT.out.2.2]; exact ((HT.out.1.frk hT hf).swap.frk hT' hf').swap, by rw [HT.out.2.2]; exact HW.out⟩⟩
              clear hbq HW HT HX hf hq hXk bwr t5 lv
              go_wp2_with first
                | (go_at_call 14; refine hadd.mono ?_; clear hadd; rintro r w6 ⟨rfl, T6, f6⟩; obtain ⟨U6, HN⟩ := HC.out _ T6 f6; obtain ⟨z0, z1, z2⟩ := HCell.out _ T6 f6; have hadd3 := hadd2 w6 U6; clear hadd2 HC; replace HN := Hid.mk HN)
                | (go_at_call 14; refine hadd3.mono ?_; clear hadd3; rintro r w7 ⟨rfl, T7, f7⟩)
              exact ⟨HN.out _ T7 f7, by simp only [intOf]; omega⟩
      · rw [decide_eq_false hf] at HW ⊢
        have hlk : ((nX : Int) == (K : Int)) = false := by rw [hnX]; simp; omega
        rw [← hnX] at ⊢
        have hk0 : ((K : Int) == 0) = false := by simp; omega
        have hq1 : q = 0 := by rw [← hq]; exact wrs_not hf
        have hqn : (q != 0) = false := by rw [hq1]; rfl
        have hwas : was = false := by
          cases was with
          | false => rfl
          | true => exact absurd (HT.out.2.1.full rfl) hf
        subst hwas
        clear hq1 hnX T5
        obtain ⟨bq, hbq⟩ : ∃ bq, bq = decide (h ∈ putK K h X) := ⟨_, rfl⟩
        rw [← hbq] at hadd
        have hadd2 := fun W (T : TT W tb K kpb X) => tadd_any tb K kpb X h W T hhW
        rw [← hbq] at hadd2
        simp only [hC] at hadd2
        have HC : Hid (∀ W, TT W ta K kpa (putK K h X) → FrK kpa w5 W → ∃ _ : TT W tb K kpb X, ∀ W', TT W' tb K kpb (putK K h X) → FrK kpb W W' → RW w1' ta tb K kpa kpb L (.int .i64 q) (.bool false) (.int .i64 ((i + 1 : Nat) : Int)) W') := fun W hT hf => ⟨(HT.out.1.frk hT hf).b.tt, fun W' hT' hf' => ⟨i + 1, q, false, rfl, rfl, rfl, hiL, by rw [HT.out.2.2]; exact ((HT.out.1.frk hT hf).swap.frk hT' hf').swap, by rw [HT.out.2.2]; exact HW.out⟩⟩
        clear hbq HW HT HX hf hq hXk bwr t5 lv
        go_wp2_with first
          | (go_at_call 14; refine hadd.mono ?_; clear hadd; rintro r w6 ⟨rfl, T6, f6⟩; obtain ⟨U6, HN⟩ := HC.out _ T6 f6; obtain ⟨z0, z1, z2⟩ := HCell.out _ T6 f6; have hadd3 := hadd2 w6 U6; clear hadd2 HC; replace HN := Hid.mk HN)
          | (go_at_call 14; refine hadd3.mono ?_; clear hadd3; rintro r w7 ⟨rfl, T7, f7⟩)
        exact ⟨HN.out _ T7 f7, by simp only [intOf]; omega⟩
    · have i1 : ¬ (i : Int) < (n : Int) := by omega
      have hla1 := tlist_any ta K kpa X wr HR.out.1.a.tt
      go_wp2_with fail
      refine hla1.mono ?_
      clear hla1
      rintro r w4 ⟨v, rfl, t4⟩
      have T4 := HR.out.1.more t4.2.2
      have S4 := HR.out.1.a.told t4
      have hla2 := tlist_any tb K kpb X w4 T4.b.tt
      go_wp2_with fail
      refine hla2.mono ?_
      clear hla2
      rintro r w5 ⟨v2, rfl, t5⟩
      have S5 := S4.more t5.2.2
      obtain ⟨a1, c1, rfl, l1⟩ := HRow.lat S5.row
      obtain ⟨a2, c2, rfl, l2⟩ := HRow.lat t5.1
      have hs := same_any X a1 a2 c1 c2 w5 l1 l2 (by omega)
      have HB : Hid (∀ W, Drew w5 W → Below w.heap.size w W) := fun W hd => bwr.out.trans (((t4.2.2.trans (t5.2.2.mono t4.2.2.size)).mono bwr.out.size).trans (hd.below _))
      clear S4 S5 l1 l2 t4 t5 T4 HR HX HA
      go_wp2_with (go_at_call 15; refine hs.mono ?_; clear hs; rintro r w6 ⟨rfl, d6⟩)
      go_ret
      exact ⟨rfl, HB.out _ d6⟩
end Go.Proofs.Ytnhihpekdimbbaa
