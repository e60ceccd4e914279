/-
  DERIVED. DArm, as one text.
-/
import Derived.Test.YtjkhhjboejkafaaDoorLzAE
set_option linter.unusedVariables false
set_option linter.unusedSimpArgs false
set_option linter.unnecessarySimpa false
namespace Go.Proofs.YtjkhhjboejkafaaDoor.Dk
open Go.RowKit Go.Maps Go.Proofs.DiskMath
def armC (c : Ctl) (n : Int) (b : Bool) : Ctl := if c.off then c else { c with left := n.toNat, dn := b }
/-- The numbers of a new disk. -/
def newC (cap : Nat) : Ctl := ⟨cap, false, 0, false, 0, 0⟩
theorem new_dk (w : World) (cap : Nat) (h : cap ≤ 1073741824) :
    DK ((w.alloc (.map #[] 0)).alloc (.cells #[.map (some w.heap.size), .int .i64 cap, .int .i64 0, .bool false, .int .i64 0, .bool false, .int .i64 0, .int .i64 0] 44)) (w.heap.size + 1) w.heap.size [] (newC cap) :=
  { hp := by
      have := heap_alloc_new (w.alloc (.map #[] 0)) (.cells #[.map (some w.heap.size), .int .i64 cap, .int .i64 0, .bool false, .int .i64 0, .bool false, .int .i64 0, .int .i64 0] 44)
      simpa [newC, used] using this
    hm := (World.ownsMap_made w Tryd.prog 9 ptrE).alloc _
    hf := fun e he => by cases he
    sep := .nil
    srt := .nil
    nms := fun e he => by cases he
    many := Nat.zero_le _
    full := Nat.zero_le _
    cap := h
    left := by show 0 < _; decide
    age := by show (Lit.int .i64 0).wf = true; decide
    wr := by show (Lit.int .i64 0).wf = true; decide }
set_option maxHeartbeats 4000000 in
set_option maxRecDepth 100000 in
theorem new_any (cap : Int) (w : World) (R : Ending → World → Prop)
    (h1 : (cap < 0 ∨ 1073741824 < cap) → R (.returned (.pointer none)) w)
    (h2 : 0 ≤ cap → cap ≤ 1073741824 → ∀ w', DK w' (w.heap.size + 1) w.heap.size [] (newC cap.toNat) → Below w.heap.size w w' → R (.returned (Pt (w.heap.size + 1))) w') :
    Calls Tryd.prog 4 #[.int .i64 cap] w R := by
  have hmm := @run_makeMap Tryd.prog
  by_cases hc : cap < 0 ∨ 1073741824 < cap
  · have hR := Hid.mk (h1 hc)
    clear h1 h2
    go_enter Tryd.func4, Tryd.ntmps4
    go_wp2
    all_goals first | exact hR.out | (exfalso; omega)
  · have hR := Hid.mk (h2 (by omega) (by omega) _ (new_dk w cap.toNat (by omega)) (((Below.refl _ w).alloc (Nat.le_refl _) _).alloc (by simp) _))
    rw [show ((cap.toNat : Nat) : Int) = cap by omega] at hR
    clear h1 h2
    go_enter Tryd.func4, Tryd.ntmps4
    go_wp2
    all_goals first | (exfalso; omega) | exact hR.out
/-- A part of a row as a text. -/
theorem conv_sub {w : World} {v : Value} {da : List UInt8} {a : Option Addr} {cap : Nat} (h : w.ownsRow 0 5 1 v da.length (da.map BV)) (hv : v = .slice a da.length cap) (A N C : Nat) (hl : A + N ≤ da.length) :
    (convert 50 9 (.slice (a.map (fun x => x.add A)) N C)).run Tryd.prog w = .ok (.string ⟨((da.drop A).take N).toArray⟩) w := by
  subst hv
  rcases h.2 with ⟨h0, hn⟩ | ⟨g, cap', cur, h0, _⟩
  · simp only [Value.slice.injEq] at h0
    obtain ⟨rfl, hn', _⟩ := h0
    have : N = 0 := by omega
    subst this
    rw [List.take_zero]
    show (convert 50 9 (.slice none 0 C)).run Tryd.prog w = _
    rw [run_convert_bytes_string w 50 9 5 none 0 C Tryd.underlying50 Tryd.underlying5 Tryd.underlying9]; rfl
  · cases h0
    have hlen : ((da.drop A).take N).length = N := by rw [List.length_take, List.length_drop]; omega
    have := run_convert_bytes_back (P := Tryd.prog) w 50 9 5 ⟨g, A, none⟩ C ((da.drop A).take N) Tryd.underlying50 Tryd.underlying5 Tryd.underlying9 (fun j hj => by
      have hj' : j < N := by omega
      have h1 := h.cellAt (A + j) (by omega)
      have e : (⟨g, A, none⟩ : Addr).add j = ⟨g, A + j, none⟩ := by unfold Addr.add; split <;> simp_all
      rw [e, h1, List.getElem?_map, List.getElem?_eq_getElem (by omega)]
      simp [BV, List.getElem_take, List.getElem_drop])
    rw [hlen] at this
    have e2 : (⟨g, 0, none⟩ : Addr).add A = ⟨g, A, none⟩ := by unfold Addr.add; split <;> simp_all
    simp only [Option.map_some, e2]
    exact this
set_option maxHeartbeats 4000000 in
set_option maxRecDepth 100000 in
theorem read_any {p mb : Nat} {es : List Ent} {c : Ctl} (s : ByteArray) (at_ n : Int) (w : World) (h : DK w p mb es c) (ha : -9223372036854775808 ≤ at_ ∧ at_ < 9223372036854775808) (hn : -9223372036854775808 ≤ n ∧ n < 9223372036854775808) (R : Ending → World → Prop)
    (h1 : fdE es c s.data.toList ≠ 0 → R (.returned (.tuple #[.string ⟨#[]⟩, .int .i64 (fdE es c s.data.toList)])) w)
    (h2 : ∀ e, findE es s.data.toList = some e → fdE es c s.data.toList = 0 → ¬ (0 ≤ at_ ∧ 0 ≤ n ∧ at_ + n ≤ e.da.length) → R (.returned (.tuple #[.string ⟨#[]⟩, .int .i64 13])) w)
    (h3 : ∀ e, findE es s.data.toList = some e → fdE es c s.data.toList = 0 → 0 ≤ at_ → 0 ≤ n → at_ + n ≤ e.da.length → R (.returned (.tuple #[.string ⟨((e.da.drop at_.toNat).take n.toNat).toArray⟩, .int .i64 0])) w) :
    Calls Tryd.prog 45 #[Pt p, .string s, .int .i64 at_, .int .i64 n] w R := by
  have hk := find_any s w h
  by_cases hc : fdE es c s.data.toList = 0
  · obtain ⟨e, hf, he, -, -, -, -, hP⟩ := find_some hc
    have fe := h.hf e he
    have hda := fe.da
    obtain ⟨c0, c1⟩ := fe.cell
    obtain ⟨a, cap, hv, hcap⟩ := slice_form fe.row
    rw [hv] at c0
    rw [hP, hc] at hk
    by_cases hok : 0 ≤ at_ ∧ 0 ≤ n ∧ at_ + n ≤ e.da.length
    · obtain ⟨k1, k2, k3⟩ := hok
      have hR := Hid.mk (h3 e hf hc k1 k2 k3)
      have t1 : ¬ at_ < 0 := by omega
      have t2 : ¬ n < 0 := by omega
      have t3 : ¬ ((e.da.length : Int) - at_ < n) := by omega
      have t4 : at_ ≤ at_ + n := by omega
      have t5 : at_ + n ≤ cap := by omega
      have e1 := conv_sub fe.row hv at_.toNat n.toNat (cap - at_.toNat) (by omega)
      rw [show n.toNat = (at_ + n).toNat - at_.toNat by omega] at e1 hR
      have e2 : cap = at_.toNat → (convert 50 9 (.slice a ((at_ + n).toNat - at_.toNat) 0)).run Tryd.prog w = .ok (.string ⟨((e.da.drop at_.toNat).take ((at_ + n).toNat - at_.toNat)).toArray⟩) w := fun hcc => by
        have hn0 : (at_ + n).toNat - at_.toNat = 0 := by omega
        rw [hn0, List.take_zero]
        rw [run_convert_bytes_string w 50 9 5 a 0 0 Tryd.underlying50 Tryd.underlying5 Tryd.underlying9]; cases a <;> rfl
      obtain ⟨S, hS⟩ : ∃ S : ByteArray, S = ⟨((e.da.drop at_.toNat).take ((at_ + n).toNat - at_.toNat)).toArray⟩ := ⟨_, rfl⟩
      rw [← hS] at e1 e2 hR
      clear hS
      clear h1 h2 h3
      go_enter Tryd.func45, Tryd.ntmps45
      go_wp2_with fail
      refine hk.mono ?_
      rintro r w' ⟨rfl, rfl⟩
      go_wp2
      all_goals first | exact hR.out | (exfalso; omega)
    · have hR := Hid.mk (h2 e hf hc hok)
      clear h1 h2 h3
      go_enter Tryd.func45, Tryd.ntmps45
      go_wp2_with fail
      refine hk.mono ?_
      rintro r w' ⟨rfl, rfl⟩
      go_wp2
      all_goals first | exact hR.out | (exfalso; omega)
  · have hR := Hid.mk (h1 hc)
    clear h1 h2 h3
    generalize fdE es c s.data.toList = x at *
    generalize fdP es c s.data.toList = y at *
    go_enter Tryd.func45, Tryd.ntmps45
    go_wp2_with fail
    refine hk.mono ?_
    rintro r w' ⟨rfl, rfl⟩
    go_wp2
    exact hR.out
end Go.Proofs.YtjkhhjboejkafaaDoor.Dk
