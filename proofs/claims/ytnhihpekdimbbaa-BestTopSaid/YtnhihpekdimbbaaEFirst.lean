/-
  DERIVED. The laws' first: is a list the first k of the hits?
-/
import Derived.Test.YtnhihpekdimbbaaELaw0
set_option linter.unusedVariables false
set_option linter.unusedSimpArgs false
namespace Go.Proofs.Ytnhihpekdimbbaa
open Classical
open Go.RowKit
theorem LAt.hit {w W : World} {la : Option Addr} {l : List Ht} (h : LAt w la l) (hW : ∀ k : Nat, k < w.heap.size → W.heap[k]? = w.heap[k]?) (i : Nat) (hi : i < l.length) : ∃ g off, la = some ⟨g, off, none⟩ ∧ W.cell? ⟨g, off + i * 3, none⟩ = some (.int .i64 l[i].d) ∧ W.cell? ⟨g, off + i * 3 + 1, none⟩ = some (.int .i64 l[i].i) ∧ W.cell? ⟨g, off + i * 3 + 2, none⟩ = some (.string l[i].c) := by
  have hne : l ≠ [] := fun e => by rw [e] at hi; simp at hi
  obtain ⟨g, off, e, r⟩ := h.at' hne
  exact ⟨g, off, e, row_en r (hW g (h.lt e hne)) i hi⟩
theorem drew_heap {w W : World} (h : Drew w W) (k : Nat) : W.heap[k]? = w.heap[k]? := by obtain ⟨m, rfl⟩ := h; rfl
theorem mem_take_step {L : List Ht} {x : Ht} {j : Nat} (hj : j < L.length) : decide (x ∈ L.take (j + 1)) = (decide (x ∈ L.take j) || decide (L[j] = x)) := by
  rw [List.take_succ_eq_append_getElem hj]
  rw [Bool.eq_iff_iff]
  simp only [decide_eq_true_eq, Bool.or_eq_true, List.mem_append, List.mem_singleton]
  exact ⟨fun h => h.imp id Eq.symm, fun h => h.imp id Eq.symm⟩
/-- What first asks. -/
structure Fst (k : Nat) (T L : List Ht) : Prop where
  sub : ∀ x ∈ T, x ∈ L
  srt : Srt T
  len : T.length ≤ k
  out : ∀ x ∈ L, x ∉ T → T.length = k ∧ ∀ y ∈ T, cpH y x < 0
theorem fst_top (k : Nat) (L : List Ht) : Fst k (topL k L) L := ⟨fun x h => topL_sub h, topL_srt k L, topL_len k L, fun x h1 h2 => topL_out h1 h2⟩
def RI (w1 : World) (x : Ht) (L : List Ht) (b u : Value) (wr : World) : Prop := ∃ j : Nat, b = .bool (decide (x ∈ L.take j)) ∧ u = .int .i64 j ∧ j ≤ L.length ∧ Drew w1 wr
def RO (w : World) (n : Nat) (u : Value) (wr : World) : Prop := ∃ i : Nat, u = .int .i64 i ∧ i ≤ n ∧ Below w.heap.size w wr
set_option maxHeartbeats 4000000 in
set_option maxRecDepth 100000 in
theorem first_any (k : Nat) (hk : k < 4611686018427387904) (T L : List Ht) (hF : Fst k T L) (hL : ∀ x ∈ L, HtW x) (la lb : Option Addr) (ca cb : Nat) (w : World) (ha : LAt w la T) (hb : LAt w lb L) (hT1 : T.length < 4611686018427387904) (hL1 : L.length < 4611686018427387904) :
    Calls Try.prog 16 #[.slice la T.length ca, .slice lb L.length cb, .int .i64 k] w fun e w' => e = .returned (.bool true) ∧ Below w.heap.size w w' := by
  obtain ⟨n, hn⟩ : ∃ n, n = T.length := ⟨_, rfl⟩
  obtain ⟨m, hm⟩ : ∃ m, m = L.length := ⟨_, rfl⟩
  have HA := Hid.mk (And.intro ha (And.intro hb (And.intro hn (And.intro hm (And.intro hF hL)))))
  rw [← hn] at hT1 ⊢
  rw [← hm] at hL1 ⊢
  have hnk : ¬ (k : Int) < (n : Int) := by have := hF.len; omega
  clear ha hb hn hm hF hL
  go_enter Try.func16, Try.ntmps16
  go_wp2
  go_loopw [7] (fun u wr => RO w n u wr) (fun u _ => n - (intOf u).toNat)
  case atStart => exact ⟨0, rfl, Nat.zero_le _, Below.refl _ _⟩
  case round =>
    obtain ⟨i, rfl, hi, hd⟩ := hrel
    obtain ⟨w1, rfl⟩ : ∃ w1, w1 = wr := ⟨_, rfl⟩
    by_cases hlt : i < n
    · have i1 : (i : Int) < (n : Int) := by omega
      have i2 : (0 : Int) ≤ (i : Int) := by omega
      have hiT : i < T.length := by have := HA.out.2.2.1; omega
      obtain ⟨x, hx⟩ : ∃ x, x = T[i] := ⟨_, rfl⟩
      have HX := Hid.mk hx
      clear hx
      go_wp2
      go_loopw [8, 9] (fun b u wr => RI w1 x L b u wr) (fun _ u _ => m - (intOf u).toNat)
      case atStart => exact ⟨0, by simp, rfl, Nat.zero_le _, Drew.refl _⟩
      case round =>
        obtain ⟨j, rfl, rfl, hj, hd2⟩ := hrel
        have hml := HA.out.2.2.2.1
        by_cases hjl : j < m
        · have j1 : (j : Int) < (m : Int) := by omega
          have j2 : (0 : Int) ≤ (j : Int) := by omega
          have hjL : j < L.length := by omega
          obtain ⟨g1, o1, e1, x0, x1, x2⟩ := HA.out.1.hit (W := wr) (fun k hk => (drew_heap hd2 k).trans (hd.block k hk)) i hiT
          obtain ⟨g2, o2, e2, y0, y1, y2⟩ := HA.out.2.1.hit (W := wr) (fun k hk => (drew_heap hd2 k).trans (hd.block k hk)) j hjL
          subst e1
          subst e2
          rw [← HX.out] at x0 x1 x2
          obtain ⟨y, hy⟩ : ∃ y, y = L[j] := ⟨_, rfl⟩
          rw [← hy] at y0 y1 y2
          have heq := fun W => eqH (a := y) (b := x) (by rw [hy]; exact HA.out.2.2.2.2.2 _ (List.getElem_mem hjL)) (by rw [HX.out]; exact HA.out.2.2.2.2.2 _ (HA.out.2.2.2.2.1.sub _ (List.getElem_mem hiT))) W
          have hst := mem_take_step (x := x) hjL
          rw [← hy] at hst
          have HN : Hid (∀ b, b = (decide (x ∈ L.take j) || decide (y = x)) → RI w1 x L (.bool b) (.int .i64 ((j + 1 : Nat) : Int)) wr.drew) := fun b hb => ⟨j + 1, by rw [hb, ← hst], rfl, hjL, hd2.drew⟩
          have hwj : IntKind.i64.wrap ((j : Int) + 1) = ((j + 1 : Nat) : Int) := by rw [IntKind.wrap_i64]; omega
          clear hst hy hml
          by_cases hin : x ∈ L.take j
          · have hdt : decide (x ∈ L.take j) = true := decide_eq_true hin
            rw [hdt] at HN ⊢
            clear hin hdt heq x0 x1 x2 y0 y1 y2
            go_wp2
            go_region
            all_goals
              go_wp2
              exact ⟨HN.out _ rfl, by simp only [intOf]; omega⟩
          · have hdt : decide (x ∈ L.take j) = false := decide_eq_false hin
            rw [hdt] at HN ⊢
            obtain ⟨q, hq⟩ : ∃ q, q = decide (y = x) := ⟨_, rfl⟩
            rw [← hq] at HN heq
            clear hin hdt hq
            go_wp2
            go_region
            all_goals
              go_wp2
              exact ⟨HN.out _ rfl, by simp only [intOf]; omega⟩
        · have hjm : j = L.length := by omega
          have hdt : decide (x ∈ L.take j) = true := by
            rw [hjm, List.take_of_length_le (Nat.le_refl _)]
            exact decide_eq_true (HA.out.2.2.2.2.1.sub _ (by rw [HX.out]; exact List.getElem_mem hiT))
          rw [hdt]
          have j1 : ¬ (j : Int) < (m : Int) := by omega
          have hwi : IntKind.i64.wrap ((i : Int) + 1) = ((i + 1 : Nat) : Int) := by rw [IntKind.wrap_i64]; omega
          have bwr : Below w.heap.size w wr := hd.trans (hd2.below _)
          clear hdt hjm hml hd2
          by_cases h0 : i = 0
          · subst h0
            have HN : Hid (RO w n (.int .i64 ((0 + 1 : Nat) : Int)) wr.drew) := ⟨0 + 1, rfl, hlt, bwr.drew⟩
            go_wp2
            go_region
            all_goals
              go_wp2
              exact ⟨HN.out, by simp only [intOf]; omega⟩
          · have i3 : (0 : Int) < (i : Int) := by omega
            have i6 : 0 < i := by omega
            have hwi2 : IntKind.i64.wrap ((i : Int) - 1) = ((i - 1 : Nat) : Int) := by rw [IntKind.wrap_i64]; omega
            have i4 : ((i - 1 : Nat) : Int) < (n : Int) := by omega
            have i5 : (0 : Int) ≤ ((i - 1 : Nat) : Int) := by omega
            have hi' : i - 1 < T.length := by omega
            obtain ⟨g1, o1, e1, x0, x1, x2⟩ := HA.out.1.hit (W := wr) (fun k hk => bwr.block k hk) i hiT
            obtain ⟨g2, o2, e2, y0, y1, y2⟩ := HA.out.1.hit (W := wr) (fun k hk => bwr.block k hk) (i - 1) hi'
            subst e1
            simp only [Option.some.injEq, Addr.mk.injEq] at e2
            obtain ⟨rfl, rfl, -⟩ := e2
            rw [← HX.out] at x0 x1 x2
            have hlt2 : cpH T[i - 1] x < 0 := by rw [HX.out]; exact (List.pairwise_iff_getElem.1 HA.out.2.2.2.2.1.srt) (i - 1) i hi' hiT (by omega)
            obtain ⟨y, hy⟩ : ∃ y, y = T[i - 1] := ⟨_, rfl⟩
            rw [← hy] at y0 y1 y2 hlt2
            have hls := fun W => lless_any y x W
            rw [decide_eq_true hlt2] at hls
            simp only [hC] at hls
            obtain ⟨p, hp⟩ : ∃ p, p = i - 1 := ⟨_, rfl⟩
            rw [← hp] at hwi2 i4 i5 y0 y1 y2
            have HN : Hid (∀ W, Below wr.heap.size wr W → RO w n (.int .i64 ((i + 1 : Nat) : Int)) W) := fun W b => ⟨i + 1, rfl, hlt, bwr.trans (b.mono bwr.size)⟩
            clear hlt2 hy hp hi'
            go_wp2
            go_region_held (fun w' => Below wr.heap.size wr w' ∧ w'.cell? ⟨g1, o1 + i * 3, none⟩ = some (.int .i64 x.d) ∧ w'.cell? ⟨g1, o1 + i * 3 + 1, none⟩ = some (.int .i64 x.i) ∧ w'.cell? ⟨g1, o1 + i * 3 + 2, none⟩ = some (.string x.c) ∧ w'.cell? ⟨g1, o1 + p * 3, none⟩ = some (.int .i64 y.d) ∧ w'.cell? ⟨g1, o1 + p * 3 + 1, none⟩ = some (.int .i64 y.i) ∧ w'.cell? ⟨g1, o1 + p * 3 + 2, none⟩ = some (.string y.c))
              ((refine (fun hb => ⟨hb, cell_lat hb x0, cell_lat hb x1, cell_lat hb x2, cell_lat hb y0, cell_lat hb y1, cell_lat hb y2⟩) ?_; first | exact bb | exact b_drew wr))
              ((go_at_call 35; refine (hls _).mono ?_; clear hls; rintro r w4 ⟨rfl, b4⟩; have bb : Below wr.heap.size wr w4 := below_d b4))
            all_goals
              go_wp2
              exact ⟨HN.out _ bb, by simp only [intOf]; omega⟩
    · have i1 : ¬ (i : Int) < (n : Int) := by omega
      obtain ⟨w1', hw1'⟩ : ∃ w1', w1' = w1 := ⟨_, rfl⟩
      clear hi hlt
      go_wp2
      clear i1
      go_loopw [10] (fun u wr => RO w m u wr) (fun u _ => m - (intOf u).toNat)
      case atStart => exact ⟨0, rfl, Nat.zero_le _, hd⟩
      case round =>
        obtain ⟨j, rfl, hj, hd2⟩ := hrel
        obtain ⟨w2, rfl⟩ : ∃ w2, w2 = wr := ⟨_, rfl⟩
        clear hd hw1'
        by_cases hjm : j < m
        · have j1 : (j : Int) < (m : Int) := by omega
          have j2 : (0 : Int) ≤ (j : Int) := by omega
          have hjL : j < L.length := by have := HA.out.2.2.2.1; omega
          obtain ⟨x, hx⟩ : ∃ x, x = L[j] := ⟨_, rfl⟩
          have HX := Hid.mk hx
          clear hx
          go_wp2
          go_loopw [11, 12] (fun b u wr => RI w2 x T b u wr) (fun _ u _ => n - (intOf u).toNat)
          case atStart => exact ⟨0, by simp, rfl, Nat.zero_le _, Drew.refl _⟩
          case round =>
            obtain ⟨q, rfl, rfl, hq, hd3⟩ := hrel
            have hnl := HA.out.2.2.1
            by_cases hqn : q < n
            · have q1 : (q : Int) < (n : Int) := by omega
              have q2 : (0 : Int) ≤ (q : Int) := by omega
              have hqT : q < T.length := by omega
              obtain ⟨g1, o1, e1, x0, x1, x2⟩ := HA.out.2.1.hit (W := wr) (fun k hk => (drew_heap hd3 k).trans (hd2.block k hk)) j hjL
              obtain ⟨g2, o2, e2, y0, y1, y2⟩ := HA.out.1.hit (W := wr) (fun k hk => (drew_heap hd3 k).trans (hd2.block k hk)) q hqT
              subst e1
              subst e2
              rw [← HX.out] at x0 x1 x2
              obtain ⟨y, hy⟩ : ∃ y, y = T[q] := ⟨_, rfl⟩
              rw [← hy] at y0 y1 y2
              have heq := fun W => eqH (a := y) (b := x) (by rw [hy]; exact HA.out.2.2.2.2.2 _ (HA.out.2.2.2.2.1.sub _ (List.getElem_mem hqT))) (by rw [HX.out]; exact HA.out.2.2.2.2.2 _ (List.getElem_mem hjL)) W
              have hst := mem_take_step (x := x) hqT
              rw [← hy] at hst
              have HN : Hid (∀ b, b = (decide (x ∈ T.take q) || decide (y = x)) → RI w2 x T (.bool b) (.int .i64 ((q + 1 : Nat) : Int)) wr.drew) := fun b hb => ⟨q + 1, by rw [hb, ← hst], rfl, hqT, hd3.drew⟩
              have hwj : IntKind.i64.wrap ((q : Int) + 1) = ((q + 1 : Nat) : Int) := by rw [IntKind.wrap_i64]; omega
              clear hst hy hnl
              by_cases hin : x ∈ T.take q
              · have hdt : decide (x ∈ T.take q) = true := decide_eq_true hin
                rw [hdt] at HN ⊢
                clear hin hdt heq x0 x1 x2 y0 y1 y2
                go_wp2
                go_region
                all_goals
                  go_wp2
                  exact ⟨HN.out _ rfl, by simp only [intOf]; omega⟩
              · have hdt : decide (x ∈ T.take q) = false := decide_eq_false hin
                rw [hdt] at HN ⊢
                obtain ⟨bq, hbq⟩ : ∃ bq, bq = decide (y = x) := ⟨_, rfl⟩
                rw [← hbq] at HN heq
                clear hin hdt hbq
                go_wp2
                go_region
                all_goals
                  go_wp2
                  exact ⟨HN.out _ rfl, by simp only [intOf]; omega⟩
            · have hqe : q = T.length := by omega
              have q1 : ¬ (q : Int) < (n : Int) := by omega
              have hwj : IntKind.i64.wrap ((j : Int) + 1) = ((j + 1 : Nat) : Int) := by rw [IntKind.wrap_i64]; omega
              have bwr : Below w.heap.size w wr := hd2.trans (hd3.below _)
              rw [show decide (x ∈ T.take q) = decide (x ∈ T) by rw [hqe, List.take_of_length_le (Nat.le_refl _)]]
              have HNd : Hid (RO w m (.int .i64 ((j + 1 : Nat) : Int)) wr.drew) := ⟨j + 1, rfl, hjm, bwr.drew⟩
              have HN : Hid (∀ W, Below wr.heap.size wr W → RO w m (.int .i64 ((j + 1 : Nat) : Int)) W) := fun W b => ⟨j + 1, rfl, hjm, bwr.trans (b.mono bwr.size)⟩
              clear hqe hd3
              by_cases hin : x ∈ T
              · rw [decide_eq_true hin]
                clear hin hnl HN
                go_wp2
                go_region
                all_goals
                  go_wp2
                  exact ⟨HNd.out, by simp only [intOf]; omega⟩
              · rw [decide_eq_false hin]
                obtain ⟨ho1, ho2⟩ := HA.out.2.2.2.2.1.out x (by rw [HX.out]; exact List.getElem_mem hjL) hin
                have hkn : k = n := by omega
                have hkk : ¬ (n : Int) < (k : Int) := by omega
                have hkk2 : ¬ n < k := by omega
                by_cases h0 : k = 0
                · have k3 : ¬ (0 : Int) < (k : Int) := by omega
                  have k6 : ¬ 0 < k := by omega
                  clear hin hnl HN ho1 ho2 hkn h0
                  go_wp2
                  go_region
                  all_goals
                    go_wp2
                    exact ⟨HNd.out, by simp only [intOf]; omega⟩
                · have k3 : (0 : Int) < (k : Int) := by omega
                  have k6 : 0 < k := by omega
                  have hwk : IntKind.i64.wrap ((k : Int) - 1) = ((k - 1 : Nat) : Int) := by rw [IntKind.wrap_i64]; omega
                  have k4 : ((k - 1 : Nat) : Int) < (n : Int) := by omega
                  have k5 : (0 : Int) ≤ ((k - 1 : Nat) : Int) := by omega
                  have hk' : k - 1 < T.length := by omega
                  obtain ⟨g1, o1, e1, x0, x1, x2⟩ := HA.out.2.1.hit (W := wr) (fun k hk => bwr.block k hk) j hjL
                  obtain ⟨g2, o2, e2, y0, y1, y2⟩ := HA.out.1.hit (W := wr) (fun k hk => bwr.block k hk) (k - 1) hk'
                  subst e1
                  subst e2
                  rw [← HX.out] at x0 x1 x2
                  have hlt2 : cpH T[k - 1] x < 0 := ho2 _ (List.getElem_mem hk')
                  obtain ⟨y, hy⟩ : ∃ y, y = T[k - 1] := ⟨_, rfl⟩
                  rw [← hy] at y0 y1 y2 hlt2
                  have hls := fun W => lless_any x y W
                  have hng : ¬ cpH x y < 0 := by have := cpH_rev x y; omega
                  rw [decide_eq_false hng] at hls
                  simp only [hC] at hls
                  obtain ⟨p, hp⟩ : ∃ p, p = k - 1 := ⟨_, rfl⟩
                  rw [← hp] at hwk k4 k5 y0 y1 y2
                  clear hlt2 hng hy hp hk' ho1 ho2 hkn hin hnl HNd
                  go_wp2
                  go_region_held (fun w' => Below wr.heap.size wr w' ∧ w'.cell? ⟨g1, o1 + j * 3, none⟩ = some (.int .i64 x.d) ∧ w'.cell? ⟨g1, o1 + j * 3 + 1, none⟩ = some (.int .i64 x.i) ∧ w'.cell? ⟨g1, o1 + j * 3 + 2, none⟩ = some (.string x.c) ∧ w'.cell? ⟨g2, o2 + p * 3, none⟩ = some (.int .i64 y.d) ∧ w'.cell? ⟨g2, o2 + p * 3 + 1, none⟩ = some (.int .i64 y.i) ∧ w'.cell? ⟨g2, o2 + p * 3 + 2, none⟩ = some (.string y.c))
                    ((refine (fun hb => ⟨hb, cell_lat hb x0, cell_lat hb x1, cell_lat hb x2, cell_lat hb y0, cell_lat hb y1, cell_lat hb y2⟩) ?_; first | exact bb | exact b_drew wr))
                    ((go_at_call 35; refine (hls _).mono ?_; clear hls; rintro r w4 ⟨rfl, b4⟩; have bb : Below wr.heap.size wr w4 := below_d b4))
                  all_goals
                    go_wp2
                    exact ⟨HN.out _ bb, by simp only [intOf]; omega⟩
        · have j1 : ¬ (j : Int) < (m : Int) := by omega
          go_wp2
          go_ret
          exact ⟨rfl, hd2⟩
end Go.Proofs.Ytnhihpekdimbbaa
