/-
  DERIVED. The document's own Check.
-/
import Derived.Test.YtejpakejfikkmaaDoorCCheck
set_option linter.unusedVariables false
set_option linter.unusedSimpArgs false
namespace Go.Proofs.YtejpakejfikkmaaDoor
open Go.RowKit
def opE (x ch md : Int) : Int := if wdB x = false then 10 else if mdB md = false then 81 else if ctB x ch md = false then 12 else 0
theorem chE_op (m : Mf) : chE m = if opE m.w m.ch m.md ≠ 0 then opE m.w m.ch m.md else if (nbB m && numd m.nx [m.jn] m.rs && foll m.seq 0 m.rs) = true then 0 else 80 := by
  unfold chE opE
  cases wdB m.w
  · rfl
  cases mdB m.md
  · rfl
  cases ctB m.w m.ch m.md <;> rfl
set_option maxHeartbeats 2000000 in
set_option maxRecDepth 100000 in
theorem ropts_any (x ch md : Int) (w : World) : Calls Tryd.prog 41 #[.agg #[.int .i64 x, .int .i64 ch, .int .i64 md]] w fun e w' => e = .returned (.int .i64 (opE x ch md)) ∧ Below w.heap.size w w' := by
  obtain ⟨r, hr⟩ : ∃ r, r = opE x ch md := ⟨_, rfl⟩
  rw [← hr]
  have ba : Below w.heap.size w (w.alloc (.cells #[.int .i64 x, .int .i64 ch, .int .i64 md] 23)) := (Below.refl _ w).alloc (Nat.le_refl _) _
  unfold opE at hr
  cases hw : wdB x
  · rw [if_pos hw] at hr
    have hw' : ¬ (64 ≤ x ∧ x ≤ 1024 ∧ x % 64 = 0) := of_decide_eq_false hw
    have HR := Hid.mk hr
    clear hr hw
    by_cases hb : 64 ≤ x ∧ x ≤ 1024
    · have hm : (x % 64 != 0) = true := by simpa [bne_iff_ne] using fun h => hw' ⟨hb.1, hb.2, h⟩
      obtain ⟨h1, h2⟩ := hb
      clear hw'
      go_enter Tryd.func41, Tryd.ntmps41
      go_wp2
      all_goals first
        | (go_ret; exact ⟨ret_int HR.out.symm, ba⟩)
        | (exfalso; simp_all; done)
    · clear hw'
      go_enter Tryd.func41, Tryd.ntmps41
      go_wp2
      all_goals first
        | (go_ret; exact ⟨ret_int HR.out.symm, ba⟩)
        | (exfalso; omega)
  · have hw' : 64 ≤ x ∧ x ≤ 1024 ∧ x % 64 = 0 := of_decide_eq_true hw
    rw [if_neg (by rw [hw]; simp)] at hr
    obtain ⟨w1, w2, w3⟩ := hw'
    have w4 : (x % 64 != 0) = false := by simp [w3]
    clear hw
    cases hm : mdB md
    · rw [if_pos hm] at hr
      have hm' : ¬ (md = 1 ∨ md = 2) := of_decide_eq_false hm
      have m1 : (md != 1) = true := by simp; omega
      have m2 : (md != 2) = true := by simp; omega
      have HR := Hid.mk hr
      clear hr hm hm' w3
      go_enter Tryd.func41, Tryd.ntmps41
      go_wp2
      go_ret
      exact ⟨ret_int HR.out.symm, ba⟩
    · rw [if_neg (by rw [hm]; simp)] at hr
      have hm' : md = 1 ∨ md = 2 := of_decide_eq_true hm
      have hr' : r = if ctB x ch md = true then 0 else 12 := by rw [hr]; cases ctB x ch md <;> rfl
      clear hr hm
      rcases hm' with rfl | rfl
      · by_cases hc : x / 32 ≤ ch ∧ ch ≤ x / 8
        · obtain rfl : r = 0 := by rw [hr']; unfold ctB; simp [hc.1, hc.2]
          obtain ⟨c1, c2⟩ := hc
          clear hr' w3
          go_enter Tryd.func41, Tryd.ntmps41
          go_wp2
          go_ret
          exact ⟨rfl, ba⟩
        · have hct : ctB x ch 1 = false := by unfold ctB; rw [if_neg (show ¬ (1 : Int) = 2 by decide)]; exact decide_eq_false hc
          obtain rfl : r = 12 := by rw [hr', hct]; rfl
          clear hct
          clear hr' w3
          go_enter Tryd.func41, Tryd.ntmps41
          go_wp2
          all_goals first
            | (go_ret; exact ⟨rfl, ba⟩)
            | (exfalso; omega)
      · by_cases hc : ch = 0
        · obtain rfl : r = 0 := by rw [hr', hc]; rfl
          subst hc
          clear hr' w3
          go_enter Tryd.func41, Tryd.ntmps41
          go_wp2
          go_ret
          exact ⟨rfl, ba⟩
        · obtain rfl : r = 12 := by rw [hr']; unfold ctB; rw [if_pos rfl, decide_eq_false hc]; rfl
          have c1 : (ch != 0) = true := by simpa [bne_iff_ne] using hc
          clear hr' w3 hc
          go_enter Tryd.func41, Tryd.ntmps41
          go_wp2
          go_ret
          exact ⟨rfl, ba⟩
/-! ### The run at a place -/
def tkA (m : Mf) (i : Nat) : List Int := ((m.rs.take i).map Ru.num).reverse ++ [m.jn]
def bA (m : Mf) (i : Nat) : Int := ((m.rs.take i).getLast?.map Ru.hi).getD 0
theorem take_s {T : Type} (l : List T) (i : Nat) (h : i < l.length) : l.take (i + 1) = l.take i ++ [l[i]] := by rw [List.take_add_one, List.getElem?_eq_getElem h]; rfl
theorem tkA_s (m : Mf) (i : Nat) (h : i < m.rs.length) : tkA m (i + 1) = m.rs[i].num :: tkA m i := by unfold tkA; rw [take_s _ i h]; simp only [List.map_append, List.map_cons, List.map_nil, List.reverse_append, List.reverse_cons, List.reverse_nil, List.nil_append, List.cons_append]
theorem bA_s (m : Mf) (i : Nat) (h : i < m.rs.length) : bA m (i + 1) = m.rs[i].hi := by unfold bA; rw [take_s _ i h, List.getLast?_concat]; rfl
/-- Does the run at a place go? -/
def runB (m : Mf) (i : Nat) (r : Ru) : Bool := decide (r.num ∉ tkA m i ∧ 1 ≤ r.num ∧ r.num ≤ m.nx - 1 ∧ 1 ≤ r.cnt ∧ r.cnt ≤ 2097152 ∧ bA m i ≤ r.lo ∧ r.lo < r.hi ∧ r.hi ≤ m.seq)
theorem runs1_at (m : Mf) (i : Nat) (h : i < m.rs.length) : runs1 m (tkA m i) (bA m i) (m.rs.drop i) = (runB m i m.rs[i] && runs1 m (tkA m (i + 1)) (bA m (i + 1)) (m.rs.drop (i + 1))) := by
  rw [List.drop_eq_getElem_cons h, tkA_s m i h, bA_s m i h]; rfl
theorem mem_tkA (m : Mf) (i : Nat) (z : Int) : z ∈ tkA m i ↔ z = m.jn ∨ ∃ k, ∃ h : k < m.rs.length, k < i ∧ m.rs[k].num = z := by
  unfold tkA
  simp only [List.mem_append, List.mem_reverse, List.mem_map, List.mem_singleton]
  constructor
  · rintro (⟨r, hr, rfl⟩ | rfl)
    · right
      obtain ⟨k, hk, rfl⟩ := List.mem_iff_getElem.1 hr
      rw [List.length_take] at hk
      exact ⟨k, by omega, by omega, by simp⟩
    · left; rfl
  · rintro (rfl | ⟨k, hk, hki, rfl⟩)
    · right; rfl
    · left
      exact ⟨m.rs[k], List.mem_iff_getElem.2 ⟨k, by rw [List.length_take]; omega, by simp⟩, rfl⟩
end Go.Proofs.YtejpakejfikkmaaDoor
