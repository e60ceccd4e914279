/-
  DERIVED. A plain map's Play.
-/
import Derived.Test.YtekgppmhcbmpeaaDoorGUpd
set_option linter.unusedVariables false
set_option linter.unusedSimpArgs false
namespace Go.Proofs.YtekgppmhcbmpeaaDoor
open Go.RowKit
theorem uC_len (e : Up) : (uC e).length = 4 := rfl
theorem flat_len4 (l : List Up) : (l.flatMap uC).length = l.length * 4 := by
  induction l with
  | nil => rfl
  | cons x l ih => rw [List.flatMap_cons, List.length_append, ih, uC_len, List.length_cons]; omega
theorem row_up {w : World} {g off : Nat} {l : List Up} (h : RowAt w g off (l.flatMap uC)) {A : World} (hA : A.heap[g]? = w.heap[g]?) (i : Nat) (hi : i < l.length) :
    A.cell? ⟨g, off + i * 4, none⟩ = some (.int .i64 l[i].s) ∧ A.cell? ⟨g, off + i * 4 + 1, none⟩ = some (.int .i64 l[i].k) ∧ A.cell? ⟨g, off + i * 4 + 2, none⟩ = some (.int .i64 l[i].i) ∧ A.cell? ⟨g, off + i * 4 + 3, none⟩ = some (.string l[i].c) := by
  have hc : ∀ o, A.cell? ⟨g, o, none⟩ = w.cell? ⟨g, o, none⟩ := fun o => by simp [World.cell?, hA]
  have hj : ∀ j v, j < 4 → (uC l[i])[j]? = some v → A.cell? ⟨g, off + i * 4 + j, none⟩ = some v := fun j v hj hv => by
    rw [hc, Nat.add_assoc]
    exact h _ _ (by rw [flat_at uC 4 uC_len l i j hi hj]; exact hv)
  exact ⟨hj 0 _ (by omega) rfl, hj 1 _ (by omega) rfl, hj 2 _ (by omega) rfl, hj 3 _ (by omega) rfl⟩
/-- A list of updates, as a slice that may lie anywhere. -/
structure ULAt (w : World) (la : Option Addr) (l : List Up) : Prop where
  at' : l ≠ [] → ∃ g off, la = some ⟨g, off, none⟩ ∧ RowAt w g off (l.flatMap uC)
theorem ULAt.lt {w : World} {la : Option Addr} {l : List Up} (h : ULAt w la l) {g off : Nat} (e : la = some ⟨g, off, none⟩) (hn : l ≠ []) : g < w.heap.size := by
  obtain ⟨g', off', e', hr⟩ := h.at' hn
  rw [e] at e'; cases e'
  cases l with
  | nil => exact absurd rfl hn
  | cons x l => exact World.block_lt_of_cell? w _ (hr 0 (.int .i64 x.s) rfl)
theorem ULAt.stay {w w' : World} {la : Option Addr} {l : List Up} {F : Nat → Prop} (h : ULAt w la l) (s : Stay F w w') (ho : ∀ g off, la = some ⟨g, off, none⟩ → ¬ F g) : ULAt w' la l := ⟨fun hn => by
  obtain ⟨g, off, e, hr⟩ := h.at' hn
  have hb := s.block g (h.lt e hn) (ho g off e)
  exact ⟨g, off, e, fun j x hx => by rw [← hr j x hx]; simp only [World.cell?, hb]⟩⟩
theorem ULAt.drop {w : World} {g off : Nat} {l : List Up} (h : ULAt w (some ⟨g, off, none⟩) l) (i : Nat) : ULAt w (some ⟨g, off + i * 4, none⟩) (l.drop i) := ⟨fun hn => by
  obtain ⟨g', off', e, hr⟩ := h.at' (fun e => hn (by rw [e]; simp))
  simp only [Option.some.injEq, Addr.mk.injEq] at e
  obtain ⟨rfl, rfl, -⟩ := e
  refine ⟨g, off + i * 4, rfl, fun j x hx => ?_⟩
  have hi : i ≤ l.length := by
    rcases Nat.lt_or_ge i l.length with h | h
    · omega
    · exact absurd (List.drop_of_length_le h) hn
  have := hr (i * 4 + j) x (by
    conv => lhs; rw [← List.take_append_drop i l, List.flatMap_append]
    rw [List.getElem?_append_right (by rw [flat_len4, List.length_take]; omega), flat_len4, List.length_take, Nat.min_eq_left hi, Nat.add_sub_cancel_left]
    exact hx)
  rw [← this]; congr 2; omega⟩
/-- What holds while updates are played. -/
structure PLY (w wr : World) (p mb : Nat) (wd : Int) (us : List Up) (xs : List Pr) (n : Int) (i : Nat) (ys : List Pr) (m : Int) : Prop where
  mp : MPL w wr p mb wd ys m
  eq : plS wd us xs n = (i + (plS wd (us.drop i) ys m).1, (plS wd (us.drop i) ys m).2)
  len : ys.length ≤ 1048576
  num : m = n + (i : Int)
theorem PLY.yes {w wr w' : World} {p mb : Nat} {wd : Int} {us : List Up} {xs ys : List Pr} {n m : Int} {i : Nat} (h : PLY w wr p mb wd us xs n i ys m) (hi : i < us.length) (b : MPL wr w' p mb wd (updX wd ys m us[i]) (updN wd ys m us[i])) (h0 : updE wd ys m us[i] = 0) :
    PLY w w' p mb wd us xs n (i + 1) (updX wd ys m us[i]) (updN wd ys m us[i]) := by
  refine ⟨⟨b.1, h.mp.2.trans b.2⟩, ?_, upd_len h.len, ?_⟩
  · rw [h.eq, List.drop_eq_getElem_cons hi, plS, if_pos h0]
    simp; omega
  · unfold updN
    rw [if_pos h0, h.num]
    simp; omega
theorem PLY.no {w wr : World} {p mb : Nat} {wd : Int} {us : List Up} {xs ys : List Pr} {n m : Int} {i : Nat} (h : PLY w wr p mb wd us xs n i ys m) (hi : i < us.length) (h0 : updE wd ys m us[i] ≠ 0) :
    plS wd us xs n = (i, updE wd ys m us[i], ys, m) := by
  rw [h.eq, List.drop_eq_getElem_cons hi, plS, if_neg h0]; rfl
theorem PLY.fin {w wr : World} {p mb : Nat} {wd : Int} {us : List Up} {xs ys : List Pr} {n m : Int} {i : Nat} (h : PLY w wr p mb wd us xs n i ys m) (hi : us.length ≤ i) : plS wd us xs n = (i, 0, ys, m) := by
  rw [h.eq, List.drop_of_length_le hi]; simp [plS]
def RPl (w : World) (p mb : Nat) (wd : Int) (us : List Up) (xs : List Pr) (n : Int) (iv : Value) (wr : World) : Prop := ∃ (i : Nat) (ys : List Pr) (m : Int), iv = .int .i64 i ∧ i ≤ us.length ∧ Hid (PLY w wr p mb wd us xs n i ys m)
theorem zeroUp : (Tryd.prog.info? 53).map (fun i => (i.zero, i.size, i.bytes)) = some (some (.agg #[.int .i64 0, .int .i64 0, .int .i64 0, .string ⟨#[]⟩]), 4, 40) := by kernel_rfl
set_option maxHeartbeats 4000000 in
set_option maxRecDepth 100000 in
theorem play_any (p mb : Nat) (wd n : Int) (xs : List Pr) (us : List Up) (la : Option Addr) (ca : Nat) (w : World) (h : MP w p mb wd xs n) (hu : ∀ u ∈ us, I64 u.i) (ha : ULAt w la us) (ho : us ≠ [] → ∀ g off, la = some ⟨g, off, none⟩ → g ≠ p ∧ g ≠ mb) (hn : 0 ≤ n ∧ n + us.length < 4611686018427387904) (hl : xs.length ≤ 1048576) :
    Calls Tryd.prog 22 #[Pt p, .slice la us.length ca] w fun e w' => e = .returned (.tuple #[.int .i64 ((plS wd us xs n).1 : Nat), .int .i64 (plS wd us xs n).2.1]) ∧ MPL w w' p mb wd (plS wd us xs n).2.2.1 (plS wd us xs n).2.2.2 := by
  obtain ⟨len, hlen⟩ : ∃ len, len = us.length := ⟨_, rfl⟩
  have H0 : Hid (PLY w w p mb wd us xs n 0 xs n) := ⟨h.same (Below.refl _ _), by simp, hl, by simp⟩
  have HA := Hid.mk (And.intro ha (And.intro hu (And.intro ho (And.intro hn hlen))))
  rw [← hlen]
  clear ha hu ho hn hlen h hl
  go_enter Tryd.func22, Tryd.ntmps22
  go_wp2_with fail
  go_loopw [11] (fun iv wr => RPl w p mb wd us xs n iv wr) (fun u _ => len - (intOf u).toNat)
  case atStart => exact ⟨0, xs, n, rfl, Nat.zero_le _, H0⟩
  case round =>
    clear H0
    obtain ⟨i, ys, m, rfl, hi, HL⟩ := hrel
    have hlen := HA.out.2.2.2.2
    have hnb := HA.out.2.2.2.1
    by_cases hlt : i < len
    · have i1 : (i : Int) < (len : Int) := by omega
      have i2 : (0 : Int) ≤ (i : Int) := by omega
      have hiU : i < us.length := by omega
      have hla := HA.out.1.stay HL.out.mp.2 (fun g off e => by have := HA.out.2.2.1 (fun e' => by rw [e'] at hiU; simp at hiU) g off e; omega)
      obtain ⟨g, o, e1, hr⟩ := hla.at' (fun e => by rw [e] at hiU; simp at hiU)
      obtain ⟨x0, x1, x2, x3⟩ := row_up hr (A := wr) rfl i hiU
      subst e1
      obtain ⟨u, hue⟩ : ∃ u, u = us[i] := ⟨_, rfl⟩
      rw [← hue] at x0 x1 x2 x3
      have hglt : g < wr.heap.size := World.block_lt_of_cell? wr _ x0
      have bA : Below wr.heap.size wr (wr.alloc (.cells (uC u).toArray 53)) := (Below.refl _ wr).alloc (Nat.le_refl _) _
      have hup := update_any p mb wd m ys u (wr.alloc (.cells (uC u).toArray 53)) (HL.out.mp.1.below bA) (HA.out.2.1 u (by rw [hue]; exact List.getElem_mem hiU)) (by have := HL.out.num; omega) HL.out.len
      have hwi : IntKind.i64.wrap ((i : Int) + 1) = ((i + 1 : Nat) : Int) := by rw [IntKind.wrap_i64]; omega
      by_cases h0 : updE wd ys m u = 0
      · rw [h0] at hup
        have HN : Hid (∀ w4, MPL (wr.alloc (.cells (uC u).toArray 53)) w4 p mb wd (updX wd ys m u) (updN wd ys m u) → RPl w p mb wd us xs n (.int .i64 ((i + 1 : Nat) : Int)) w4) := fun w4 m4 => by
          have m5 := MP.lat bA m4
          rw [hue] at m5 h0
          exact ⟨i + 1, _, _, rfl, hiU, HL.out.yes hiU m5 h0⟩
        simp only [uC] at hup HN
        clear h0 hue hla hr bA HL hlen hnb hi
        go_wp2_with (go_at_call 44; refine hup.mono ?_; clear hup; rintro e w4 ⟨rfl, m4⟩)
        exact ⟨HN.out _ m4, by simp only [intOf]; omega⟩
      · have h0' : (updE wd ys m u != 0) = true := by simpa using h0
        have HF : Hid (∀ w4, MPL (wr.alloc (.cells (uC u).toArray 53)) w4 p mb wd (updX wd ys m u) (updN wd ys m u) → plS wd us xs n = (i, updE wd ys m u, ys, m) ∧ MPL w w4 p mb wd ys m) := fun w4 m4 => by
          have m5 := MP.lat bA m4
          have e1 : updX wd ys m u = ys := by unfold updX; rw [if_neg h0]
          have e2 : updN wd ys m u = m := by unfold updN; rw [if_neg h0]
          rw [e1, e2] at m5
          refine ⟨?_, m5.1, HL.out.mp.2.trans m5.2⟩
          rw [hue] at h0 ⊢
          exact HL.out.no hiU h0
        obtain ⟨E, hE⟩ : ∃ E, E = updE wd ys m u := ⟨_, rfl⟩
        rw [← hE] at hup h0' HF
        simp only [uC] at hup HF
        clear h0 hue hla hr bA HL hlen hnb hi hE
        go_wp2_with (go_at_call 44; refine hup.mono ?_; clear hup; rintro e w4 ⟨rfl, m4⟩)
        go_ret2
        obtain ⟨f1, f2⟩ := HF.out _ m4
        rw [f1]
        exact ⟨rfl, f2⟩
    · have i1 : ¬ (i : Int) < (len : Int) := by omega
      have hf := HL.out.fin (by omega)
      have hil : i = len := by omega
      have HF := Hid.mk (And.intro hf (And.intro HL.out.mp hil))
      clear HL hf hil hlen hnb hi
      go_wp2_with fail
      go_ret2
      obtain ⟨f1, f2, f3⟩ := HF.out
      rw [f1, f3]
      exact ⟨rfl, f2⟩
end Go.Proofs.YtekgppmhcbmpeaaDoor
