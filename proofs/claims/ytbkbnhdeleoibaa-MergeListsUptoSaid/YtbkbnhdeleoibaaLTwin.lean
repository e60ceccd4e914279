/-
  DERIVED. The law's twins: copies of lists, with marks behind.
-/
import Derived.Test.YtbkbnhdeleoibaaLRow
set_option linter.unusedVariables false
set_option linter.unusedSimpArgs false
namespace Go.Proofs.Ytbkbnhdeleoibaa
open Go.RowKit
def mk1 (i : Nat) : En := mkE (1000 + (i : Int))
def mk9 : En := mkE 999
/-- Of the lists the first i are laid, then t marks; their blocks are from B on, below E, and no two are one. -/
structure TB (B : Nat) (W : World) (ov : Value) (ss : List Value) (R : List (List En)) (t : Nat) : Prop where
  len : ss.length = R.length + t
  row : W.ownsRow 0 24 1 ov ss.length ss
  each : ∀ (i : Nat) (r : List En), R[i]? = some r → ∃ b c, ss[i]? = some (.slice (some ⟨b, 0, none⟩) r.length c) ∧ HRow W (.slice (some ⟨b, 0, none⟩) (r.length + 64) c) (r ++ List.replicate 64 (mk1 i))
  tail : ∀ j, R.length ≤ j → j < R.length + t → ∃ b c, ss[j]? = some (.slice (some ⟨b, 0, none⟩) 1 c) ∧ HRow W (.slice (some ⟨b, 0, none⟩) 1 c) [mk9]
  onew : ∀ b, ov.ownBlock = some b → B ≤ b
  bnew : ∀ (i : Nat) (s : Value) (b : Nat), ss[i]? = some s → s.ownBlock = some b → B ≤ b
  apart : ∀ (i j : Nat) (s u : Value) (b : Nat), ss[i]? = some s → ss[j]? = some u → s.ownBlock = some b → u.ownBlock = some b → i = j
/-- A list's block is none of the row's, and is there. -/
theorem TB.blk {B : Nat} {W : World} {ov : Value} {ss : List Value} {R : List (List En)} {t : Nat} (h : TB B W ov ss R t) {i : Nat} {s : Value} {b : Nat} (hs : ss[i]? = some s) (hb : s.ownBlock = some b) : (∃ cur, W.heap[b]? = some (.cells cur 36 (0, 0))) ∧ b < W.heap.size ∧ ov.ownBlock ≠ some b := by
  have key : ∃ v X, HRow W v X ∧ v.ownBlock = some b := by
    have hi : i < R.length + t := by rw [← h.len]; exact (List.getElem?_eq_some_iff.1 hs).1
    rcases Nat.lt_or_ge i R.length with hlt | hge
    · obtain ⟨b', c, h1, h2⟩ := h.each i _ (List.getElem?_eq_getElem hlt)
      rw [hs] at h1; cases h1
      exact ⟨_, _, h2, hb⟩
    · obtain ⟨b', c, h1, h2⟩ := h.tail i hge hi
      rw [hs] at h1; cases h1
      exact ⟨_, _, h2, hb⟩
  obtain ⟨v, X, h1, h2⟩ := key
  exact ⟨row_block h1 h2, row_lt h1 h2, fun e => rows_apart h.row h1 e h2⟩
theorem TB.stay {B : Nat} {F : Nat → Prop} {W W' : World} {ov : Value} {ss : List Value} {R : List (List En)} {t : Nat} (h : TB B W ov ss R t) (st : Stay F W W') (h1 : ∀ b, ov.ownBlock = some b → ¬ F b) (h2 : ∀ (i : Nat) (s : Value) (b : Nat), ss[i]? = some s → s.ownBlock = some b → ¬ F b) : TB B W' ov ss R t :=
  ⟨h.len, row_kept h.row st h1, fun i r hr => by
    obtain ⟨b, c, e1, e2⟩ := h.each i r hr
    exact ⟨b, c, e1, row_kept e2 st (fun k hk => h2 i _ k e1 hk)⟩, fun j hj hj' => by
    obtain ⟨b, c, e1, e2⟩ := h.tail j hj hj'
    exact ⟨b, c, e1, row_kept e2 st (fun k hk => h2 j _ k e1 hk)⟩, h.onew, h.bnew, h.apart⟩
theorem TB.lat {B : Nat} {W W' : World} {ov : Value} {ss : List Value} {R : List (List En)} {t : Nat} (h : TB B W ov ss R t) (b : Below W.heap.size W W') : TB B W' ov ss R t := h.stay (F := fun _ => False) (.below b) (fun _ _ e => e) (fun _ _ _ _ _ e => e)
theorem TB.nil (B : Nat) (W : World) : TB B W (.slice none 0 0) [] [] 0 := ⟨rfl, ⟨rfl, .inl ⟨rfl, rfl⟩⟩, (fun i r h => by simp at h), (fun j h1 h2 => by simp at h1 h2), (fun b h => by cases h), (fun i s b h => by simp at h), (fun i j s u b h => by simp at h)⟩
/-- A slice of a new block is put behind. -/
theorem TB.push {B : Nat} {W : World} {a : Option Addr} {c n : Nat} {ss : List Value} {R : List (List En)} {t : Nat} (h : TB B W (.slice a n c) ss R t) (hB : B ≤ W.heap.size) (hl : ss.length ≤ 2097152) (b0 l0 c0 : Nat) (hb0 : B ≤ b0) (hnew : ∀ (i : Nat) (s : Value), ss[i]? = some s → s.ownBlock ≠ some b0) {X : List En} {l1 : Nat} (hX : HRow W (.slice (some ⟨b0, 0, none⟩) l1 c0) X) :
    ∃ a' c' W', (Builtin.append_ #[22, 22] 22 #[.slice a n c, .slice (some ⟨W.heap.size, 0, none⟩) 1 1]).run Try.prog (W.alloc (.cells #[.slice (some ⟨b0, 0, none⟩) l0 c0] 24)) = .ok (.slice a' (n + 1) c') W' ∧ Below B W W' ∧ n = ss.length ∧
      (∀ (R' : List (List En)) (t' : Nat), (ss.length + 1 = R'.length + t') →
        (∀ (i : Nat) (r : List En), R'[i]? = some r → (i < ss.length ∧ R[i]? = some r) ∨ (i = ss.length ∧ l0 = r.length ∧ l1 = r.length + 64 ∧ X = r ++ List.replicate 64 (mk1 i))) →
        (∀ j, R'.length ≤ j → j < R'.length + t' → (R.length ≤ j ∧ j < R.length + t) ∨ (j = ss.length ∧ l0 = 1 ∧ l1 = 1 ∧ X = [mk9])) →
        TB B W' (.slice a' (n + 1) c') (ss ++ [.slice (some ⟨b0, 0, none⟩) l0 c0]) R' t') := by
  have hn : n = ss.length := by
    obtain ⟨a', c', e', -⟩ := slice_form h.row
    simp only [Value.slice.injEq] at e'
    exact e'.2.1
  subst hn
  obtain ⟨a', c', W', hap, ho, st, hloc⟩ := more_app W ss a c h.row hl (.slice (some ⟨b0, 0, none⟩) l0 c0) rfl
  have hk : ∀ {v : Value} {Y : List En}, HRow W v Y → HRow W' v Y := fun {v Y} hv => row_kept hv st (fun k hk e => rows_apart h.row hv e hk)
  refine ⟨a', c', W', hap, st.toBelow (fun k hk e => by have := h.onew k e; omega) hB, rfl, fun R' t' hlen hE hT => ⟨by simp; omega, ho, fun i r hr => ?_, fun j hj hj' => ?_, fun b hb => ?_, fun i s b hs hb => ?_, fun i j s u b hs hu hb hub => ?_⟩⟩
  · rcases hE i r hr with ⟨h1, h2⟩ | ⟨rfl, h1, h2, h3⟩
    · obtain ⟨b, c1, e1, e2⟩ := h.each i r h2
      exact ⟨b, c1, by rw [List.getElem?_append_left h1]; exact e1, hk e2⟩
    · refine ⟨b0, c0, by rw [List.getElem?_append_right (Nat.le_refl _)]; simp [h1], ?_⟩
      rw [← h2, ← h3]; exact hk hX
  · rcases hT j hj hj' with ⟨h1, h2⟩ | ⟨rfl, h1, h2, h3⟩
    · obtain ⟨b, c1, e1, e2⟩ := h.tail j h1 h2
      exact ⟨b, c1, by rw [List.getElem?_append_left (by rw [h.len]; exact h2)]; exact e1, hk e2⟩
    · refine ⟨b0, c0, by rw [List.getElem?_append_right (Nat.le_refl _)]; simp [h1], ?_⟩
      rw [← h2, ← h3]; exact hk hX
  · rcases hloc b hb with e | e
    · exact h.onew b e
    · omega
  · rcases get_snoc hs with ⟨-, h1⟩ | ⟨-, rfl⟩
    · exact h.bnew i s b h1 hb
    · cases hb; exact hb0
  · rcases get_snoc hs with ⟨-, h1⟩ | ⟨h1, rfl⟩ <;> rcases get_snoc hu with ⟨-, h2⟩ | ⟨h2, rfl⟩
    · exact h.apart i j s u b h1 h2 hb hub
    · cases hub; exact absurd hb (hnew i s h1)
    · cases hb; exact absurd hub (hnew j u h2)
    · omega
theorem take_get {R : List (List En)} {i k : Nat} {r : List En} (h : (R.take (i + 1))[k]? = some r) : (k < i ∧ (R.take i)[k]? = some r) ∨ (k = i ∧ R[i]? = some r) := by
  rw [List.getElem?_take] at h
  split at h
  · rcases Nat.lt_or_ge k i with h1 | h1
    · exact .inl ⟨h1, by rw [List.getElem?_take, if_pos h1]; exact h⟩
    · obtain rfl : k = i := by omega
      exact .inr ⟨rfl, h⟩
  · cases h
def RT1 (w : World) (R : List (List En)) (uo u : Value) (wr : World) : Prop := ∃ (i : Nat) (a : Option Addr) (c : Nat) (ss : List Value), uo = .slice a i c ∧ u = .int .i64 i ∧ i ≤ R.length ∧ Hid (TB w.heap.size wr (.slice a i c) ss (R.take i) 0 ∧ Below w.heap.size w wr)
def RT2 (w1 : World) (i m : Nat) (r : List En) (ul u : Value) (wr : World) : Prop := ∃ (t : Nat) (a : Option Addr) (c : Nat), ul = .slice a (m + t) c ∧ u = .int .i64 t ∧ t ≤ 64 ∧ Hid (HRow wr (.slice a (m + t) c) (r ++ List.replicate t (mk1 i)) ∧ (∀ g, (Value.slice a (m + t) c).ownBlock = some g → w1.heap.size ≤ g) ∧ Below w1.heap.size w1 wr)
def RT3 (w : World) (R : List (List En)) (n : Nat) (uo u : Value) (wr : World) : Prop := ∃ (t : Nat) (a : Option Addr) (c : Nat) (ss : List Value), uo = .slice a (n + t) c ∧ u = .int .i64 t ∧ t ≤ 64 ∧ Hid (TB w.heap.size wr (.slice a (n + t) c) ss R t ∧ Below w.heap.size w wr)
set_option maxHeartbeats 4000000 in
set_option maxRecDepth 100000 in
theorem twins_any (R : List (List En)) (hR : ∀ r ∈ R, r.length ≤ 1048576) (la : Option Addr) (ca : Nat) (w : World) (ha : LL w la R) (hl : R.length ≤ 1048576) :
    Calls Try.prog 4 #[.slice la R.length ca] w fun e w' => ∃ g c ss, e = .returned (.slice (some ⟨g, 0, none⟩) R.length c) ∧ R.length + 64 ≤ c ∧ TB w.heap.size w' (.slice (some ⟨g, 0, none⟩) (R.length + 64) c) ss R 64 ∧ Below w.heap.size w w' := by
  obtain ⟨n, hn⟩ : ∃ n, n = R.length := ⟨_, rfl⟩
  have HA := Hid.mk (And.intro ha (And.intro hR hn))
  rw [← hn] at hl ⊢
  clear ha hR hn
  go_enter Try.func4, Try.ntmps4
  go_wp2
  go_loopw [3, 4] (fun uo u wr => RT1 w R uo u wr) (fun _ u _ => n - (intOf u).toNat)
  case atStart => exact ⟨0, none, 0, [], rfl, rfl, Nat.zero_le _, TB.nil _ _, Below.refl _ _⟩
  case round =>
    obtain ⟨i, ao, co, ss, rfl, rfl, hi, HR⟩ := hrel
    obtain ⟨w1, rfl⟩ : ∃ w1, w1 = wr := ⟨_, rfl⟩
    by_cases hlt : i < n
    · have i1 : (i : Int) < (n : Int) := by omega
      have i2 : (0 : Int) ≤ (i : Int) := by omega
      have hiR : i < R.length := by have := HA.out.2.2; omega
      obtain ⟨r, hr⟩ : ∃ r, r = R[i] := ⟨_, rfl⟩
      have hri : R[i]? = some r := by rw [hr]; exact List.getElem?_eq_getElem hiR
      have hrR : r ∈ R := by rw [hr]; exact List.getElem_mem hiR
      obtain ⟨g, off, a, c, e1, x0, hcap, hLr, hrl⟩ := HA.out.1.at' i r hri
      clear hcap hrl
      subst e1
      replace x0 := cell_lat HR.out.2 x0
      have X0 := Hid.mk x0
      have hwi : IntKind.i64.wrap ((i : Int) + 1) = ((i + 1 : Nat) : Int) := by rw [IntKind.wrap_i64]; omega
      obtain ⟨m, hm⟩ : ∃ m, m = r.length := ⟨_, rfl⟩
      have hml : m ≤ 1048576 := by have := HA.out.2.1 r hrR; omega
      obtain ⟨v', W', hap, ho, st', hloc⟩ := ent_app w1 [] r (.slice none 0 0) ⟨rfl, .inl ⟨rfl, rfl⟩⟩ a c (hLr.below HR.out.2).at' (by simp; omega)
      rw [List.nil_append] at ho
      obtain ⟨al, cl, e', -⟩ := slice_form ho
      rw [← hm] at hap e' x0 X0
      subst e'
      have bW : Below w1.heap.size w1 W' := st'.toBelow (fun k hk e => by cases e) (Nat.le_refl _)
      have R0 : Hid (RT2 w1 i m r (.slice al m cl) (.int .i64 ((0 : Nat) : Int)) W') := ⟨0, al, cl, rfl, rfl, Nat.zero_le _, by
        rw [List.replicate_zero, List.append_nil]; exact ho, fun g hg => (hloc g hg).elim (fun e => by cases e) id, bW⟩
      have HH := Hid.mk (And.intro hm (And.intro hri hiR))
      clear hr hri hrR hLr hm ho st' hloc bW
      go_wp2_with (at_builtin; refine wpList_append_eq rfl _ _ _ _ rfl _ _ _ _ rfl rfl hap ?_; clear hap x0)
      go_loopw [5, 6] (fun ul u wr => RT2 w1 i m r ul u wr) (fun _ u _ => 64 - (intOf u).toNat)
      case atStart => exact R0.out
      case round =>
        clear R0
        obtain ⟨t, al2, cl2, rfl, rfl, ht, HP⟩ := hrel
        by_cases htl : t < 64
        · have t1 : (t : Int) < 64 := by omega
          have hlen : (r ++ List.replicate t (mk1 i)).length = m + t := by rw [List.length_append, List.length_replicate, ← HH.out.1]
          have hmc := fun W => mark_any (1000 + (i : Int)) (by omega) (by omega) W
          have hw1000 : IntKind.i64.wrap (1000 + (i : Int)) = 1000 + (i : Int) := by rw [IntKind.wrap_i64]; omega
          have hwt : IntKind.i64.wrap ((t : Int) + 1) = ((t + 1 : Nat) : Int) := by rw [IntKind.wrap_i64]; omega
          obtain ⟨q1, hq1⟩ : ∃ q1, q1 = m + t := ⟨_, rfl⟩
          rw [← hq1]
          have HQ1 := Hid.mk hq1
          have HLEN := Hid.mk hlen
          clear hq1 hlen
          simp only [enC, mkE] at hmc
          go_wp2_with fail
          refine (hmc _).mono ?_
          clear hmc
          rintro _ w7 ⟨rfl, b7⟩
          obtain ⟨v2, W2, hap, ho, st2, hloc⟩ := ent_app1 w7 (r ++ List.replicate t (mk1 i)) (.slice al2 (m + t) cl2) (HRow.below HP.out.1 b7) (mk1 i) (by rw [HLEN.out]; omega)
          have hmap : r ++ List.replicate t (mk1 i) ++ [mk1 i] = r ++ List.replicate (t + 1) (mk1 i) := by rw [List.append_assoc, List.replicate_succ']
          rw [hmap] at ho
          have hlen' : (r ++ List.replicate (t + 1) (mk1 i)).length = m + (t + 1) := by rw [List.length_append, List.length_replicate, ← HH.out.1]
          obtain ⟨a', c', e', -⟩ := slice_form ho
          rw [hlen'] at e'
          subst e'
          have HN : Hid (RT2 w1 i m r (.slice a' (m + (t + 1)) c') (.int .i64 ((t + 1 : Nat) : Int)) W2) := by
            have b77 := HP.out.2.2.trans (b7.mono HP.out.2.2.size)
            refine ⟨t + 1, a', c', rfl, rfl, htl, ho, fun g hg => ?_, b77.trans (st2.toBelow (fun k hk e => by have := HP.out.2.1 k e; omega) b77.size)⟩
            rcases hloc g hg with e | e
            · exact HP.out.2.1 g e
            · exact Nat.le_trans b77.size e
          obtain ⟨q2, hq2⟩ : ∃ q2, q2 = m + (t + 1) := ⟨_, rfl⟩
          rw [← HQ1.out] at hap
          rw [← hq2] at hap HN
          simp only [enC, mk1, mkE] at hap
          clear hq2 hmap ho st2 hloc hlen' HP b7
          go_wp2_with (at_builtin; refine wpList_append_eq rfl _ _ _ _ rfl _ _ _ _ rfl rfl hap ?_; clear hap)
          exact ⟨HN.out, by simp only [intOf]; omega⟩
        · have t1 : ¬ (t : Int) < 64 := by omega
          obtain rfl : t = 64 := by omega
          obtain ⟨b0, e0, hc0⟩ := HRow.some HP.out.1 (by omega)
          subst e0
          have hb0 : w1.heap.size ≤ b0 := HP.out.2.1 b0 rfl
          have T1 := HR.out.1.lat HP.out.2.2
          obtain ⟨a3, c3, W3, hap, b3, hnss, hTB⟩ := T1.push (Nat.le_trans HR.out.2.size HP.out.2.2.size) (by rw [T1.len, List.length_take]; omega) b0 m cl2 (Nat.le_trans HR.out.2.size hb0) (fun k s hs e => by have := (HR.out.1.blk hs e).2.1; omega) HP.out.1
          have T3 := hTB (R.take (i + 1)) 0 (by rw [List.length_take]; have := HH.out.2.2; omega) (fun k r' hr' => by
            rcases take_get hr' with ⟨h1, h2⟩ | ⟨rfl, h2⟩
            · exact .inl ⟨by omega, h2⟩
            · rw [HH.out.2.1] at h2; cases h2
              exact .inr ⟨by omega, HH.out.1, by rw [← HH.out.1], rfl⟩) (fun j h1 h2 => by omega)
          have HN : Hid (RT1 w R (.slice a3 (i + 1) c3) (.int .i64 ((i + 1 : Nat) : Int)) W3) := ⟨i + 1, a3, c3, _, rfl, rfl, HH.out.2.2, T3, HR.out.2.trans ((HP.out.2.2.mono HR.out.2.size).trans b3)⟩
          have x0 := cell_lat HP.out.2.2 X0.out
          have hcm : (m : Int) ≤ (cl2 : Int) := by omega
          have hcm2 : m ≤ cl2 := by omega
          clear T3 T1 hTB b3 HP HR hb0 hnss
          go_wp2_with (at_builtin; refine wpList_append_eq rfl _ _ _ _ rfl _ _ _ _ rfl rfl hap ?_; clear hap)
          exact ⟨HN.out, by simp only [intOf]; omega⟩
    · have i1 : ¬ (i : Int) < (n : Int) := by omega
      obtain rfl : i = n := by have := HA.out.2.2; omega
      have R0 : Hid (RT3 w R i (.slice ao i co) (.int .i64 ((0 : Nat) : Int)) w1) := ⟨0, ao, co, ss, rfl, rfl, Nat.zero_le _, by
        have h9 := HR.out
        rw [List.take_of_length_le (by have := HA.out.2.2; omega)] at h9
        exact h9⟩
      clear HR hlt hi
      go_wp2
      clear i1
      go_loopw [3, 7] (fun ul u wr => RT3 w R i ul u wr) (fun _ u _ => 64 - (intOf u).toNat)
      case atStart => exact R0.out
      case round =>
        clear R0
        obtain ⟨t, a2, c2, ss2, rfl, rfl, ht, HP⟩ := hrel
        by_cases htl : t < 64
        · have t1 : (t : Int) < 64 := by omega
          have hmc := fun W => mark_any 999 (by omega) (by omega) W
          have hwt : IntKind.i64.wrap ((t : Int) + 1) = ((t + 1 : Nat) : Int) := by rw [IntKind.wrap_i64]; omega
          obtain ⟨q1, hq1⟩ : ∃ q1, q1 = i + t := ⟨_, rfl⟩
          rw [← hq1]
          have HQ1 := Hid.mk hq1
          clear hq1
          simp only [enC, mkE] at hmc
          go_wp2_with fail
          refine (hmc _).mono ?_
          clear hmc
          rintro _ w7 ⟨rfl, b7⟩
          have bA : Below w7.heap.size w7 (w7.alloc (.cells (enC mk9).toArray 36)) := (Below.refl _ w7).alloc (Nat.le_refl _) _
          have hb1 := heap_alloc_last w7 (.cells (enC mk9).toArray 36)
          obtain ⟨W1, hW1⟩ : ∃ W1, W1 = w7.alloc (.cells (enC mk9).toArray 36) := ⟨_, rfl⟩
          rw [← hW1] at bA hb1
          have hw' : w7.alloc (.cells #[.int .i64 (-999), .string ⟨#[109, 97, 114, 107]⟩, .int .i64 (-999), .int .i64 (-999), .bool false] 36) = W1 := hW1.symm
          have hX : HRow W1 (.slice (some ⟨w7.heap.size, 0, none⟩) 1 1) [mk9] := ⟨rfl, .inr ⟨w7.heap.size, 1, _, rfl, Nat.zero_le _, hb1, Nat.le_refl _, by decide, rfl, rfl⟩⟩
          have T1 := (HP.out.1.lat b7).lat bA
          have b77 := HP.out.2.trans (b7.mono HP.out.2.size)
          obtain ⟨a3, c3, W3, hap, b3, hnss, hTB⟩ := T1.push (Nat.le_trans b77.size bA.size) (by rw [T1.len]; have := HA.out.2.2; omega) w7.heap.size 1 1 b77.size (fun k s hs e => by have := ((HP.out.1.lat b7).blk hs e).2.1; omega) hX
          have hnR := HA.out.2.2
          have T3 := hTB R (t + 1) (by omega) (fun k r' hr' => .inl ⟨by have := (List.getElem?_eq_some_iff.1 hr').1; omega, hr'⟩) (fun j h1 h2 => by
            rcases Nat.lt_or_ge j (R.length + t) with h3 | h3
            · exact .inl ⟨h1, h3⟩
            · exact .inr ⟨by omega, rfl, rfl, rfl⟩)
          have HN : Hid (RT3 w R i (.slice a3 (i + t + 1) c3) (.int .i64 ((t + 1 : Nat) : Int)) W3) := ⟨t + 1, a3, c3, _, rfl, rfl, htl, T3, b77.trans ((bA.mono b77.size).trans b3)⟩
          rw [← HQ1.out] at hap HN
          obtain ⟨q2, hq2⟩ : ∃ q2, q2 = q1 + 1 := ⟨_, rfl⟩
          rw [← hq2] at hap HN
          clear hq2 T3 T1 hTB b3 HP hnss hnR hX hb1 bA hW1 b7 b77
          go_wp2_with (at_builtin; refine wpList_append_eq rfl _ _ _ _ rfl _ _ _ _ rfl rfl hap ?_; clear hap)
          exact ⟨HN.out, by simp only [intOf]; omega⟩
        · have t1 : ¬ (t : Int) < 64 := by omega
          obtain rfl : t = 64 := by omega
          obtain ⟨g, hg, hgc⟩ : ∃ g, a2 = some ⟨g, 0, none⟩ ∧ i + 64 ≤ c2 := by
            have hlen := HP.out.1.len
            have hnR := HA.out.2.2
            rcases HP.out.1.row.2 with ⟨e, e2⟩ | ⟨g, cap, cur, e, -, -, h5, -⟩
            · omega
            · simp only [Value.slice.injEq] at e
              exact ⟨g, e.1, by rw [e.2.2]; omega⟩
          subst hg
          have HE := Hid.mk HP.out
          have hcm : (i : Int) ≤ (c2 : Int) := by omega
          have hcm2 : i ≤ c2 := by omega
          clear HP
          go_wp2
          go_ret
          exact ⟨_, _, rfl, hgc, ⟨_, HE.out.1⟩, HE.out.2⟩
end Go.Proofs.Ytbkbnhdeleoibaa
