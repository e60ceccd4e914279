/-
  DERIVED. BestSet: what a top keeps is the first k of the set of hits.
-/
import Derived.Test.YtnhihpekdimbbaaEBegun
set_option linter.unusedVariables false
set_option linter.unusedSimpArgs false
namespace Go.Proofs.Ytnhihpekdimbbaa
open Classical
open Go.RowKit
theorem top_again {k : Nat} {L : List Ht} {h : Ht} (hm : h ∈ L) : putK k h (topL k L) = topL k L := by
  have h1 := topL_snoc k L h
  have h2 : topL k (L ++ [h]) = topL k L := topL_ext (fun x => by
    simp only [List.mem_append, List.mem_singleton]
    exact ⟨fun e => e.elim id (fun e => e ▸ hm), .inl⟩)
  rw [h2] at h1
  exact h1.symm
theorem HRow.lat {W : World} {v : Value} {X : List Ht} (h : HRow W v X) : ∃ a c, v = .slice a X.length c ∧ LAt W a X := by
  obtain ⟨a, c, e, _, l⟩ := own_lat h
  exact ⟨a, c, e, l⟩
/-- While a row of the call's own lies beside a top. -/
structure Beside (w W : World) (t k kp : Nat) (X : List Ht) (v : Value) (Y : List Ht) : Prop where
  own : Own w W t k kp X
  row : HRow W v Y
  apart : ∀ j, Ft W kp j → v.ownBlock ≠ some j
theorem Beside.frk {w W W' : World} {t k kp : Nat} {X Z Y : List Ht} {v : Value} (h : Beside w W t k kp X v Y) (hT : TT W' t k kp Z) (f : FrK kp W W') : Beside w W' t k kp Z v Y :=
  ⟨h.own.frk hT f, row_kept h.row f.stay (fun j hj hF => h.apart j hF hj), fun j hj e => by
    rcases f.loc j hj with h1 | h1
    · exact h.apart j h1 e
    · have := row_lt h.row e; omega⟩
theorem Beside.more {w W W' : World} {t k kp : Nat} {X Y : List Ht} {v : Value} (h : Beside w W t k kp X v Y) (b : Below W.heap.size W W') : Beside w W' t k kp X v Y :=
  ⟨h.own.more b, HRow.below h.row b, fun j hj => h.apart j (((h.own.tt.below b).2 j).1 hj)⟩
theorem Own.told {w W W' : World} {t k kp : Nat} {X Y : List Ht} {v : Value} (h : Own w W t k kp X) (t' : Told W W' v Y) : Beside w W' t k kp X v Y :=
  ⟨h.more t'.2.2, t'.1, fun j hj e => by
    have h1 := t'.2.1 j e
    have h2 := h.tt.2.1.ftlt j (((h.tt.below t'.2.2).2 j).1 hj)
    omega⟩
def RA (w : World) (t k kp : Nat) (X : List Ht) (v : Value) (n : Nat) (u : Value) (wr : World) : Prop := ∃ i : Nat, u = .int .i64 i ∧ i ≤ n ∧ Hid (Beside w wr t k kp X v X)
set_option maxHeartbeats 4000000 in
set_option maxRecDepth 100000 in
theorem law_set (k : Int) (hk : I64 k) (L : List Ht) (hL : ∀ x ∈ L, HtW x) (la : Option Addr) (ca : Nat) (w : World) (ha : LAt w la L) (hl : L.length < 4611686018427387904) :
    Calls Try.prog 4 #[.int .i64 k, .slice la L.length ca] w fun r w' => r = .returned (.bool true) ∧ Below w.heap.size w w' := by
  have hb := begun_any w
  have hf := fun W => fit_any k hk W
  have hK := fitK_le k
  obtain ⟨K, hKe⟩ : ∃ K, K = fitK k := ⟨_, rfl⟩
  rw [← hKe] at hf hK
  clear hKe
  obtain ⟨n, hn⟩ : ∃ n, n = L.length := ⟨_, rfl⟩
  have HA := Hid.mk (And.intro ha (And.intro hL (And.intro hn hl)))
  rw [← hn]
  have hnl : n < 4611686018427387904 := by omega
  clear ha hL hn hl
  obtain ⟨X, hX⟩ : ∃ X, X = topL K L := ⟨_, rfl⟩
  have HX := Hid.mk hX
  clear hX
  go_enter Try.func4, Try.ntmps4
  go_wp2_with fail
  refine hb.mono ?_
  clear hb
  rintro r w1 ⟨rfl, b1⟩
  go_wp2_with fail
  refine (hf _).mono ?_
  clear hf
  rintro r w1' ⟨rfl, e1⟩
  subst e1
  have hh1 := handed_any K hK L HA.out.2.1 la ca false w1' (HA.out.1.below b1) HA.out.2.2.2
  rw [← HA.out.2.2.1, show topL K (way false L) = X by rw [HX.out]; rfl] at hh1
  go_wp2_with fail
  refine hh1.mono ?_
  clear hh1
  rintro r w2 ⟨ta, kpa, rfl, O2⟩
  have hh2 := handed_any K hK L HA.out.2.1 la ca true w2 ((HA.out.1.below b1).below O2.below) HA.out.2.2.2
  rw [← HA.out.2.2.1, show topL K (way true L) = X by rw [HX.out]; exact topL_ext (fun x => way_mem x)] at hh2
  go_wp2_with fail
  refine hh2.mono ?_
  clear hh2
  rintro r w3 ⟨tb, kpb, rfl, O3⟩
  have A3 := O2.more O3.below
  have hl1 := tlist_any ta K kpa X w3 A3.tt
  go_wp2_with fail
  refine hl1.mono ?_
  clear hl1
  rintro r w4 ⟨v, rfl, t4⟩
  have S4 := A3.told t4
  have B4 := O3.more t4.2.2
  have hl2 := tlist_any tb K kpb X w4 B4.tt
  go_wp2_with fail
  refine hl2.mono ?_
  clear hl2
  rintro r w5 ⟨v2, rfl, t5⟩
  have S5 := S4.more t5.2.2
  obtain ⟨a1, c1, rfl, l1⟩ := HRow.lat S5.row
  obtain ⟨a2, c2, rfl, l2⟩ := HRow.lat t5.1
  have hXl : X.length < 4611686018427387904 := by
    have := topL_len K L
    rw [← HX.out] at this; omega
  have hs := same_any X a1 a2 c1 c2 w5 l1 l2 hXl
  clear S4 A3 B4 O2 O3 t4
  go_wp2_with fail
  refine hs.mono ?_
  clear hs
  rintro r w6 ⟨rfl, d6⟩
  have S6 := S5.more (d6.below _)
  have b6 : Below w.heap.size w w6 := b1.trans (S6.own.below.mono b1.size)
  obtain ⟨a3, c3, e3, l3⟩ := HRow.lat S6.row
  simp only [Value.slice.injEq] at e3
  obtain ⟨rfl, -, rfl⟩ := e3
  have hfi := first_any K (by omega) X L (by rw [HX.out]; exact fst_top K L) HA.out.2.1 a1 la c1 ca w6 l3 (HA.out.1.below b6) hXl HA.out.2.2.2
  rw [← HA.out.2.2.1] at hfi
  clear S5 l1 l2 t5 d6 l3
  go_wp2_with fail
  refine hfi.mono ?_
  clear hfi
  rintro r w7 ⟨rfl, b7⟩
  have S7 := Hid.mk (S6.more b7)
  clear S6 b6 b7
  go_wp2_with fail
  obtain ⟨NX, hNX⟩ : ∃ NX, NX = X.length := ⟨_, rfl⟩
  have HNX := Hid.mk hNX
  rw [← hNX] at S7 hXl ⊢
  clear hNX
  go_loopw [11] (fun u wr => RA w1' ta K kpa X (.slice a1 NX c1) n u wr) (fun u _ => n - (intOf u).toNat)
  case atStart => exact ⟨0, rfl, Nat.zero_le _, S7⟩
  case round =>
    clear S7
    obtain ⟨i, rfl, hi, HR⟩ := hrel
    have bwr : Below w.heap.size w wr := b1.trans (HR.out.own.below.mono b1.size)
    by_cases hlt : i < n
    · have i1 : (i : Int) < (n : Int) := by omega
      have i2 : (0 : Int) ≤ (i : Int) := by omega
      have hiL : i < L.length := by have := HA.out.2.2.1; omega
      obtain ⟨g, o, e1, x0, x1, x2⟩ := HA.out.1.hit (W := wr) (fun k hk => bwr.block k hk) i hiL
      subst e1
      obtain ⟨x, hx⟩ : ∃ x, x = L[i] := ⟨_, rfl⟩
      rw [← hx] at x0 x1 x2
      have hxL : x ∈ L := by rw [hx]; exact List.getElem_mem hiL
      have hadd := tadd_any ta K kpa X x wr HR.out.own.tt (HA.out.2.1 x hxL)
      rw [show putK K x X = X by rw [HX.out]; exact top_again hxL] at hadd
      simp only [hC] at hadd
      obtain ⟨bq, hbq⟩ : ∃ bq, bq = decide (x ∈ X) := ⟨_, rfl⟩
      rw [← hbq] at hadd
      have hwi : IntKind.i64.wrap ((i : Int) + 1) = ((i + 1 : Nat) : Int) := by rw [IntKind.wrap_i64]; omega
      have HN : Hid (∀ W, TT W ta K kpa X → FrK kpa wr W → RA w1' ta K kpa X (.slice a1 NX c1) n (.int .i64 ((i + 1 : Nat) : Int)) W) := fun W hT hf => ⟨i + 1, rfl, hlt, HR.out.frk hT hf⟩
      clear hbq hx hxL bwr HR
      go_wp2_with (go_at_call 14; refine hadd.mono ?_; clear hadd; rintro r w8 ⟨rfl, T8, f8⟩)
      exact ⟨HN.out _ T8 f8, by simp only [intOf]; omega⟩
    · have i1 : ¬ (i : Int) < (n : Int) := by omega
      have hl3 := tlist_any ta K kpa X wr HR.out.own.tt
      go_wp2_with fail
      refine hl3.mono ?_
      clear hl3
      rintro r w8 ⟨v3, rfl, t8⟩
      have S8 := HR.out.more t8.2.2
      obtain ⟨a4, c4, e4, l4⟩ := HRow.lat S8.row
      obtain ⟨a5, c5, rfl, l5⟩ := HRow.lat t8.1
      simp only [Value.slice.injEq] at e4
      obtain ⟨rfl, -, rfl⟩ := e4
      have hs := same_any X a1 a5 c1 c5 w8 l4 l5 (by rw [← HNX.out]; exact hXl)
      rw [← HNX.out] at hs ⊢
      have HB : Hid (∀ W, Drew w8 W → Below w.heap.size w W) := fun W hd => bwr.trans ((t8.2.2.mono bwr.size).trans (hd.below _))
      clear S8 l4 l5 t8 bwr HR
      go_wp2_with (go_at_call 15; refine hs.mono ?_; clear hs; rintro r w9 ⟨rfl, d9⟩)
      go_ret
      exact ⟨rfl, HB.out _ d9⟩
end Go.Proofs.Ytnhihpekdimbbaa
