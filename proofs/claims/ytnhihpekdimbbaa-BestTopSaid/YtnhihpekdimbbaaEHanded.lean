/-
  DERIVED. The laws' handed: a top to which hits were handed in.
-/
import Derived.Test.YtnhihpekdimbbaaEAdd
import Derived.Test.YtnhihpekdimbbaaEFirst
set_option linter.unusedVariables false
set_option linter.unusedSimpArgs false
namespace Go.Proofs.Ytnhihpekdimbbaa
open Classical
open Go.RowKit
/-- A top of the call's own. -/
structure Own (w W : World) (t k kp : Nat) (X : List Ht) : Prop where
  tt : TT W t k kp X
  far : ∀ j, Ft W kp j → w.heap.size ≤ j
  tfar : w.heap.size ≤ t
  below : Below w.heap.size w W
theorem Own.frk {w W W' : World} {t k kp : Nat} {X Y : List Ht} (h : Own w W t k kp X) (hT : TT W' t k kp Y) (f : FrK kp W W') : Own w W' t k kp Y :=
  ⟨hT, fun j hj => (f.loc j hj).elim (h.far j) (fun h2 => Nat.le_trans h.below.size h2), h.tfar, h.below.trans (f.stay.toBelow (fun j hj hF => by have := h.far j hF; omega) h.below.size)⟩
theorem Own.more {w W W' : World} {t k kp : Nat} {X : List Ht} (h : Own w W t k kp X) (b : Below W.heap.size W W') : Own w W' t k kp X :=
  ⟨(h.tt.below b).1, fun j hj => h.far j (((h.tt.below b).2 j).1 hj), h.tfar, h.below.trans (b.mono h.below.size)⟩
/-- In this order or the other one. -/
def way (back : Bool) (L : List Ht) : List Ht := if back then L.reverse else L
theorem way_len (back : Bool) (L : List Ht) : (way back L).length = L.length := by unfold way; split <;> simp
theorem way_step {back : Bool} {L : List Ht} {i k : Nat} (hi : i < L.length) {x : Ht} (hx : (way back L)[i]? = some x) : topL k ((way back L).take (i + 1)) = putK k x (topL k ((way back L).take i)) := by
  have hil : i < (way back L).length := by rw [way_len]; exact hi
  rw [List.take_succ_eq_append_getElem hil, topL_snoc]
  rw [List.getElem?_eq_getElem hil] at hx
  rw [Option.some.inj hx]; rfl
theorem way_mem {back : Bool} {L : List Ht} (x : Ht) : x ∈ way back L ↔ x ∈ L := by unfold way; split <;> simp
def RH (w : World) (t k kp : Nat) (M : List Ht) (u : Value) (wr : World) : Prop := ∃ i : Nat, u = .int .i64 i ∧ i ≤ M.length ∧ Hid (Own w wr t k kp (topL k (M.take i)))
set_option maxHeartbeats 2000000 in
set_option maxRecDepth 100000 in
theorem handed_any (k : Nat) (hk : k ≤ 4096) (L : List Ht) (hL : ∀ x ∈ L, HtW x) (la : Option Addr) (ca : Nat) (back : Bool) (w : World) (ha : LAt w la L) (hl : L.length < 4611686018427387904) :
    Calls Try.prog 11 #[.int .i64 k, .slice la L.length ca, .bool back] w fun r w' => ∃ t kp, r = .returned (Pk t) ∧ Own w w' t k kp (topL k (way back L)) := by
  have hnew := newTop_any k hk w
  obtain ⟨n, hn⟩ : ∃ n, n = L.length := ⟨_, rfl⟩
  have HA := Hid.mk (And.intro ha (And.intro hL hn))
  rw [← hn] at hl ⊢
  clear ha hL hn
  go_enter Try.func11, Try.ntmps11
  go_wp2_with (go_at_call 24; refine hnew.mono ?_; clear hnew; rintro r w2 ⟨t, kp, rfl, T2, F2, t2⟩)
  have O2 : Hid (Own w w2 t k kp []) := ⟨T2, F2.1, t2, F2.2⟩
  clear T2 F2 t2
  go_loopw [9] (fun u wr => RH w t k kp (way back L) u wr) (fun u _ => n - (intOf u).toNat)
  case atStart => exact ⟨0, rfl, Nat.zero_le _, O2⟩
  case round =>
    clear O2
    obtain ⟨i, rfl, hi, HR⟩ := hrel
    have hnl := HA.out.2.2
    by_cases hlt : i < n
    · have i1 : (i : Int) < (n : Int) := by omega
      have i2 : (0 : Int) ≤ (i : Int) := by omega
      have hiL : i < L.length := by omega
      obtain ⟨g, o, e1, x0, x1, x2⟩ := HA.out.1.hit (W := wr) (fun k hk => HR.out.below.block k hk) i hiL
      subst e1
      obtain ⟨x, hx⟩ : ∃ x, x = L[i] := ⟨_, rfl⟩
      rw [← hx] at x0 x1 x2
      have hwi : IntKind.i64.wrap ((i : Int) + 1) = ((i + 1 : Nat) : Int) := by rw [IntKind.wrap_i64]; omega
      have HX : Hid (x = L[i]) := hx
      clear hx
      have bA : Below wr.heap.size wr (wr.alloc (.cells (hC x).toArray 31)) := (Below.refl _ wr).alloc (Nat.le_refl _) _
      have hb1 := heap_alloc_last wr (.cells (hC x).toArray 31)
      obtain ⟨W1, hW1⟩ : ∃ W1, W1 = wr.alloc (.cells (hC x).toArray 31) := ⟨_, rfl⟩
      rw [← hW1] at bA hb1
      have hw' : wr.alloc (.cells #[.int .i64 x.d, .int .i64 x.i, .string x.c] 31) = W1 := hW1.symm
      obtain ⟨z0, z1, z2⟩ := box_cells hb1
      cases back with
      | false =>
        have hadd := tadd_any t k kp (topL k ((way false L).take i)) x W1 (HR.out.more bA).tt (by rw [HX.out]; exact HA.out.2.1 _ (List.getElem_mem hiL))
        rw [← way_step (k := k) hiL (by rw [HX.out]; unfold way; simp only [Bool.false_eq_true, if_false]; rw [List.getElem?_eq_getElem hiL])] at hadd
        simp only [hC] at hadd
        have HN : Hid (∀ W, TT W t k kp (topL k ((way false L).take (i + 1))) → FrK kp W1 W → RH w t k kp (way false L) (.int .i64 ((i + 1 : Nat) : Int)) W) := fun W hT hf => ⟨i + 1, rfl, by rw [way_len]; omega, (HR.out.more bA).frk hT hf⟩
        clear hnl HR HA HX bA hb1 hW1
        obtain ⟨bq, hbq⟩ : ∃ bq, bq = decide (x ∈ topL k ((way false L).take (i + 1))) := ⟨_, rfl⟩
        rw [← hbq] at hadd
        clear hbq
        go_wp2_with (go_at_call 14; refine hadd.mono ?_; clear hadd; rintro r w4 ⟨rfl, T4, f4⟩)
        exact ⟨HN.out _ T4 f4, by simp only [intOf]; omega⟩
      | true =>
        have hp' : n - 1 - i < L.length := by omega
        obtain ⟨g2, o2, e2, y0, y1, y2⟩ := HA.out.1.hit (W := W1) (fun k hk => (bA.block k (Nat.lt_of_lt_of_le hk HR.out.below.size)).trans (HR.out.below.block k hk)) (n - 1 - i) hp'
        simp only [Option.some.injEq, Addr.mk.injEq] at e2
        obtain ⟨rfl, rfl, -⟩ := e2
        obtain ⟨y, hy⟩ : ∃ y, y = L[n - 1 - i] := ⟨_, rfl⟩
        rw [← hy] at y0 y1 y2
        have HY : Hid (y = L[n - 1 - i]) := hy
        clear hy
        have hwn : IntKind.i64.wrap ((n : Int) - 1) = (n : Int) - 1 := by rw [IntKind.wrap_i64]; omega
        have hwp : IntKind.i64.wrap ((n : Int) - 1 - (i : Int)) = ((n - 1 - i : Nat) : Int) := by rw [IntKind.wrap_i64]; omega
        have hpn : ((n - 1 - i : Nat) : Int) < (n : Int) := by omega
        have hp0 : (0 : Int) ≤ ((n - 1 - i : Nat) : Int) := by omega
        obtain ⟨p, hp⟩ : ∃ p, p = n - 1 - i := ⟨_, rfl⟩
        rw [← hp] at y0 y1 y2 hwp hpn hp0
        obtain ⟨W5, hW5, st5, hb5, c0, c1, c2⟩ := fin3 hb1 rfl (.int .i64 y.d) (.int .i64 y.i) (.string y.c)
        have zf : ∀ j, W1.frozen? ⟨wr.heap.size, j, none⟩ = false := fun j => frozen_of_row _ _ _ _ _ hb1
        have b5 : Below wr.heap.size wr W5 := bA.trans (st5.toBelow (B := wr.heap.size) (fun k hk h => by (have h' : k = wr.heap.size := h; omega)) bA.size)
        have hadd := tadd_any t k kp (topL k ((way true L).take i)) y W5 (HR.out.more b5).tt (by rw [HY.out]; exact HA.out.2.1 _ (List.getElem_mem hp'))
        rw [← way_step (k := k) hiL (by rw [HY.out]; unfold way; simp only [if_true]; rw [List.getElem?_reverse hiL, List.getElem?_eq_getElem (by omega)]; congr 2; omega)] at hadd
        simp only [hC] at hadd
        have HN : Hid (∀ W, TT W t k kp (topL k ((way true L).take (i + 1))) → FrK kp W5 W → RH w t k kp (way true L) (.int .i64 ((i + 1 : Nat) : Int)) W) := fun W hT hf => ⟨i + 1, rfl, by rw [way_len]; omega, (HR.out.more b5).frk hT hf⟩
        clear hnl HR HA HX HY bA hb1 hW1 st5 hb5 b5 hp hp'
        obtain ⟨bq, hbq⟩ : ∃ bq, bq = decide (y ∈ topL k ((way true L).take (i + 1))) := ⟨_, rfl⟩
        rw [← hbq] at hadd
        clear hbq
        go_wp2_with (go_at_call 14; refine hadd.mono ?_; clear hadd; rintro r w4 ⟨rfl, T4, f4⟩)
        exact ⟨HN.out _ T4 f4, by simp only [intOf]; omega⟩
    · have i1 : ¬ (i : Int) < (n : Int) := by omega
      have HE : Hid (Own w wr t k kp (topL k (way back L))) := by
        have := HR.out
        rw [List.take_of_length_le (by rw [way_len]; omega)] at this
        exact this
      clear hnl HR HA hi
      go_wp2
      go_ret
      exact ⟨_, rfl, _, HE.out⟩
end Go.Proofs.Ytnhihpekdimbbaa
