/-
  DERIVED. What Parse answers.
-/
import Derived.Test.YtdegclccbgpgiaaDoorSHead
import Derived.Test.YtdegclccbgpgiaaDoorSClone
namespace Go.Proofs.YtdegclccbgpgiaaDoor
open Go.RowKit Go.Proofs.SealMath
theorem ret4 {a b c d e f g h : Value} (h1 : a = e) (h2 : b = f) (h3 : c = g) (h4 : d = h) : Ending.returned (.tuple #[a, b, c, d]) = .returned (.tuple #[e, f, g, h]) := by rw [h1, h2, h3, h4]
theorem fld_new (w : World) (b : ByteArray) (a : Nat) : Fld ((w.alloc (Obj.cells #[Value.string b] 9)).alloc (Obj.cells #[Value.int IntKind.i64 a] 3)) b a w.heap.size := by
  have h1 := heap_alloc_last w (Obj.cells #[Value.string b] 9)
  have h2 := heap_alloc_last (w.alloc (Obj.cells #[Value.string b] 9)) (Obj.cells #[Value.int IntKind.i64 a] 3)
  have e : (w.alloc (Obj.cells #[Value.string b] 9)).heap.size = w.heap.size + 1 := by simp
  rw [e] at h2
  refine ⟨?_, ?_, frozen_of_row _ _ _ _ _ h2⟩
  · rw [World.cell?_alloc_lt _ _ _ (by simp), cell_of_row _ _ 0 _ 9 (0, 0) h1]; rfl
  · rw [cell_of_row _ _ 0 _ 3 (0, 0) h2]; rfl
set_option maxRecDepth 100000 in
theorem fields_any (b : ByteArray) (a : Nat) (w : World) :
    Calls Tryd.prog 87 #[.string b, .int .i64 a] w fun e w' => e = .returned (lit w.heap.size) ∧ Fld w' b a w.heap.size ∧ Below w.heap.size w w' := by
  have hmf : ∀ (fn : Fn) (first cap : Array Value) (w : World), (Instr.makeFunc fn first cap).run Tryd.prog w = .ok (.func fn first cap) w := fun _ _ _ _ => rfl
  go_enter Tryd.func87, Tryd.ntmps87
  go_wp2
  go_ret
  exact ⟨rfl, fld_new w b a, ((Below.refl _ w).alloc (Nat.le_refl _) _).alloc (by simp) _⟩
/-- What Parse answers at a place. -/
def psA (b : ByteArray) (a : Nat) : Nat × List UInt8 × Nat × Int :=
  if (hdA b a).2.2.2 = 0 then
    if b.size < a + 14 + (hdA b a).2.1 then (0, [], 0, 31)
    else if sub b (a + 10 + (hdA b a).2.1) 4 = lowL (crc (hdA b a).2.2.1 (sub b (a + 10) (hdA b a).2.1)) then ((hdA b a).1, sub b (a + 10) (hdA b a).2.1, a + 14 + (hdA b a).2.1, 0)
    else (0, [], 0, 34)
  else (0, [], 0, (hdA b a).2.2.2)
theorem hdA_ok (b : ByteArray) (a : Nat) (h : (hdA b a).2.2.2 = 0) : a + 10 ≤ b.size ∧ (hdA b a).2.1 ≤ 65536 ∧ (hdA b a).1 ≤ 255 ∧ (hdA b a).2.2.1 < 4294967296 := by
  unfold hdA at h ⊢
  split at h
  · simp at h
  · split at h
    · split at h
      · simp at h
      · split at h
        · split at h
          · simp at h
          · split at h
            · rename_i h1 h2 h3 h4 h5 h6
              rw [if_neg h1, if_pos h2, if_neg h3, if_pos h4, if_neg h5, if_pos h6]
              have := numL_sub_lt b (a + 1) 1 1 (by omega) (by omega)
              exact ⟨by omega, h6, by show numL _ ≤ 255; omega, crc_lt _ (by omega)⟩
            · simp at h
        · simp at h
    · simp at h
set_option maxRecDepth 100000 in
set_option maxHeartbeats 8000000 in
theorem parse_ok (b : ByteArray) (a : Nat) (R : Nat × List UInt8 × Nat × Int) (w : World) (ht : Tab w) (hg : 0 < w.heap.size) (hb : b.size < 4611686018427387904) (ha : a ≤ b.size) (hR : R = psA b a) :
    Calls Tryd.prog 54 #[.string b, .int .i64 a] w fun e w' => e = .returned (.tuple #[.int .i64 R.1, .string ⟨R.2.1.toArray⟩, .int .i64 R.2.2.1, .int .i64 R.2.2.2]) ∧ Below w.heap.size w w' := by
  have HR : Hid (R = psA b a) := hR
  clear hR
  go_enter Tryd.func54, Tryd.ntmps54
  go_wp2_with fail
  refine (isPlace_any _ _ _).mono ?_
  rintro e w0 ⟨rfl, rfl⟩
  rw [decide_eq_true (by omega : 0 ≤ (a : Int) ∧ (a : Int) ≤ b.size)]
  go_wp2_with fail
  refine (fields_any b a w0).mono ?_
  rintro e w1 ⟨rfl, f1, b1⟩
  go_wp2_with fail
  refine (head_any b a w0.heap.size w0.heap.size w1 f1 ha hb (Nat.le_refl _) (ht.below b1 hg) hg).mono ?_
  rintro e w2 ⟨rfl, f2, b2⟩
  have hok := hdA_ok b a
  have hR := HR.out
  unfold psA at hR
  clear HR
  obtain ⟨⟨k, n, s, x⟩, hH⟩ : ∃ H, H = hdA b a := ⟨_, rfl⟩
  rw [← hH] at hR hok f2 ⊢
  clear hH
  dsimp only at hR hok f2 ⊢
  have b12 := b1.trans b2
  by_cases hx : x = 0
  · subst hx
    rw [if_pos rfl] at hR
    obtain ⟨ha10, hn, hk, hs⟩ := hok rfl
    have f2' := f2 rfl
    clear hok f2
    go_wp2_with fail
    refine (next_any b (a + 10) n w0.heap.size w0.heap.size _ f2' (by omega) hb (by omega) (Nat.le_refl _)).mono ?_
    rintro e w3 ⟨rfl, f3, b3, s3⟩
    by_cases h14 : b.size < a + 14 + n
    · rw [if_pos h14] at hR
      subst hR
      have hD : (nxT b (nxA b (a + 10) n) 4).toList = [] := by rw [told_none2 b (a + 10) n 4 (by omega) (by omega), toL]
      have hn3 := nxA_le b (a + 10) n
      generalize nxT b (a + 10) n = T1 at *
      generalize nxA b (a + 10) n = a3 at *
      go_wp2_with fail
      refine (next_any b a3 4 w0.heap.size w0.heap.size _ f3 hn3 hb (by omega) (Nat.le_refl _)).mono ?_
      rintro e w4 ⟨rfl, f4, b4, s4⟩
      generalize nxT b a3 4 = T2 at *
      go_wp2
      refine bodyPost_ret (results_tmp4 rfl _ _ _) rfl ?_
      exact ⟨rfl, (b12.trans b3).trans b4⟩
    · rw [if_neg h14] at hR
      rw [nxA_yes b (a + 10) n (by omega)] at f3
      obtain ⟨T1, e1⟩ : ∃ T, T = nxT b (a + 10) n := ⟨_, rfl⟩
      have L1 := nxT_list b (a + 10) n (by omega)
      have s1 := nxT_size b (a + 10) n (by omega)
      rw [← e1] at L1 s1 ⊢
      clear e1
      go_wp2_with fail
      refine (next_any b (a + 10 + n) 4 w0.heap.size w0.heap.size _ f3 (by omega) hb (by omega) (Nat.le_refl _)).mono ?_
      rintro e w4 ⟨rfl, f4, b4, s4⟩
      obtain ⟨T2, e2⟩ : ∃ T, T = nxT b (a + 10 + n) 4 := ⟨_, rfl⟩
      have L2 : Hid (T2.toList = sub b (a + 10 + n) 4) := by show _ = _; rw [e2, toL]; exact nxT_list b (a + 10 + n) 4 (by omega)
      have s2 : T2.toList.isEmpty = false := by
        have := nxT_size b (a + 10 + n) 4 (by omega)
        rw [ba_size, ← toL, ← e2] at this
        cases h : T2.toList with
        | nil => rw [h] at this; simp at this
        | cons c l => rfl
      rw [← e2]
      clear e2
      have b14 := (b12.trans b3).trans b4
      have HL1 : Hid (T1.data.toList = sub b (a + 10) n) := L1
      clear L1
      go_wp2_with fail
      refine (on_any s T1 w4 (ht.below b14 hg) hs (by omega)).mono ?_
      rintro e w5 ⟨rfl, rfl⟩
      rw [HL1.out]
      have htl := crc_lt (s := s) (sub b (a + 10) n) hs
      obtain ⟨t, hts⟩ : ∃ t, t = crc s (sub b (a + 10) n) := ⟨_, rfl⟩
      rw [← hts] at htl hR ⊢
      clear hts
      go_wp2_with fail
      refine (low_any t w5 htl).mono ?_
      rintro e w6 ⟨rfl, b6⟩
      have b16 := chain b14 b6 (Nat.le_refl _)
      by_cases hq : sub b (a + 10 + n) 4 = lowL t
      · rw [if_pos hq] at hR
        have hEq : T2.toList = lowL t := by rw [L2.out, hq]
        rw [← HL1.out] at hR
        subst hR
        clear hq
        go_wp2_with fail
        refine (clone_any T1 w6 (by omega)).mono ?_
        rintro e w7 ⟨rfl, b7⟩
        go_wp2
        refine bodyPost_ret (results_tmp4 rfl _ _ _) rfl ?_
        refine ⟨ret4 rfl rfl (ival ?_) rfl, chain b16 b7 (Nat.le_refl _)⟩
        show (a : Int) + 10 + n + 4 = ((a + 14 + n : Nat) : Int)
        omega
      · rw [if_neg hq] at hR
        subst hR
        have hEq : (T2.toList == lowL t) = false := by rw [L2.out, beq_eq_false_iff_ne]; exact hq
        go_wp2
        refine bodyPost_ret (results_tmp4 rfl _ _ _) rfl ?_
        exact ⟨rfl, b16⟩
  · rw [if_neg hx] at hR
    subst hR
    go_wp2
    refine bodyPost_ret (results_tmp4 rfl _ _ _) rfl ?_
    exact ⟨rfl, b12⟩
/-- What Parse answers. -/
def prA (b : ByteArray) (p : Int) : Nat × List UInt8 × Nat × Int := if 0 ≤ p ∧ p ≤ b.size then psA b p.toNat else (0, [], 0, 13)
set_option maxRecDepth 100000 in
set_option maxHeartbeats 1000000 in
theorem parse_any (b : ByteArray) (p : Int) (w : World) (ht : Tab w) (hg : 0 < w.heap.size) (hb : b.size < 4611686018427387904) :
    Calls Tryd.prog 54 #[.string b, .int .i64 p] w fun e w' => e = .returned (.tuple #[.int .i64 (prA b p).1, .string ⟨(prA b p).2.1.toArray⟩, .int .i64 (prA b p).2.2.1, .int .i64 (prA b p).2.2.2]) ∧ Below w.heap.size w w' := by
  unfold prA
  by_cases h : 0 ≤ p ∧ p ≤ b.size
  · rw [if_pos h]
    obtain ⟨a, rfl⟩ : ∃ a : Nat, p = a := ⟨p.toNat, by omega⟩
    exact parse_ok b a _ w ht hg hb (by omega) rfl
  · rw [if_neg h]
    go_enter Tryd.func54, Tryd.ntmps54
    go_wp2_with fail
    refine (isPlace_any _ _ _).mono ?_
    rintro e w1 ⟨rfl, rfl⟩
    rw [decide_eq_false h]
    clear h
    go_wp2
    refine bodyPost_ret (results_tmp4 rfl _ _ _) rfl ?_
    exact ⟨rfl, Below.refl _ _⟩
end Go.Proofs.YtdegclccbgpgiaaDoor
