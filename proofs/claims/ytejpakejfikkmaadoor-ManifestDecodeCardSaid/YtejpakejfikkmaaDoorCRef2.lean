/-
  DERIVED. The document's own Check: a run, and the whole.
-/
import Derived.Test.YtejpakejfikkmaaDoorCRef
import Derived.Shelf.RegionOpen
import Derived.Shelf.RegionOpenPlain
set_option linter.unusedVariables false
set_option linter.unusedSimpArgs false
namespace Go.Proofs.YtejpakejfikkmaaDoor
open Go.RowKit
theorem drewN_cell (w : World) (n : Nat) (p : Addr) : (w.drewN n).cell? p = w.cell? p := by
  have := (Drew.below ⟨n, rfl⟩ w.heap.size : Below w.heap.size w (w.drewN n))
  rfl
set_option maxHeartbeats 4000000 in
set_option maxRecDepth 100000 in
theorem rrun_any (m : Mf) (la : Option Addr) (c i : Nat) (w : World) (hL : LAt w la m.rs) (hi : i < m.rs.length) (hlen : m.rs.length ≤ 24) (hcap : m.rs.length ≤ c) :
    Calls Tryd.prog 42 #[.agg (mfC m la c).toArray, .int .i64 i] w fun e w' => e = .returned (.bool (runB m i m.rs[i])) ∧ Below w.heap.size w w' := by
  obtain ⟨r, hr⟩ : ∃ r, r = runB m i m.rs[i] := ⟨_, rfl⟩
  rw [← hr]
  obtain ⟨g, off, rfl, hra⟩ := hL.at' (by intro h; rw [h] at hi; simp at hi)
  obtain ⟨x0, x1, x2, x3⟩ := row_ru hra i hi
  obtain ⟨R, hR⟩ : ∃ R, R = m.rs[i] := ⟨_, rfl⟩
  rw [← hR] at x0 x1 x2 x3 hr
  have HG := Hid.mk hR
  clear hR
  obtain ⟨wa, hwa⟩ : ∃ wa, wa = w.alloc (.cells (mfC m (some ⟨g, off, none⟩) c).toArray 26) := ⟨_, rfl⟩
  have ba : Below w.heap.size w wa := by rw [hwa]; exact (Below.refl _ w).alloc (Nat.le_refl _) _
  have sza : wa.heap.size = w.heap.size + 1 := by rw [hwa]; simp
  obtain ⟨wb, hwb⟩ : ∃ wb, wb = wa.alloc (.cells (ruC R).toArray 36) := ⟨_, rfl⟩
  have bb : Below wa.heap.size wa wb := by rw [hwb]; exact (Below.refl _ wa).alloc (Nat.le_refl _) _
  have b2 := chain ba bb (Nat.le_refl _)
  have SM : SAt wb w.heap.size (mfC m (some ⟨g, off, none⟩) c) := SAt.lat (by rw [hwa]; exact SAt.new w _ _) bb
  have SR : SAt wb (w.heap.size + 1) (ruC R) := by
    have := SAt.new wa (ruC R) 36
    rw [← hwb, sza] at this
    exact this
  have RB : RowAt wb g off (m.rs.flatMap ruC) := fun j x hx => cell_lat b2 (hra j x hx)
  have a6 : wa.cell? ⟨w.heap.size, 6, none⟩ = some (.slice (some ⟨g, off, none⟩) m.rs.length c) := by rw [hwa]; exact SAt.new w _ _ 6 _ rfl
  have y0 := cell_lat ba x0
  have y1 := cell_lat ba x1
  have y2 := cell_lat ba x2
  have y3 := cell_lat ba x3
  have hwa' : w.alloc (.cells (mfC m (some ⟨g, off, none⟩) c).toArray 26) = wa := hwa.symm
  have hwb' : wa.alloc (.cells (ruC R).toArray 36) = wb := hwb.symm
  simp only [mfC, ruC] at hwa' hwb' SM SR ⊢
  have m3 := SM 3 _ rfl
  have m4 := SM 4 _ rfl
  have m5 := SM 5 _ rfl
  have m6 := SM 6 _ rfl
  have s0 := SR 0 _ rfl
  have s1 := SR 1 _ rfl
  have s2 := SR 2 _ rfl
  have s3 := SR 3 _ rfl
  have HRB := Hid.mk RB
  have HR := Hid.mk hr
  clear hwa hwb hra x0 x1 x2 x3 ba bb hL RB hr SM SR
  go_enter Tryd.func42, Tryd.ntmps42
  go_wp2
  clear hwa' hwb' y0 y1 y2 y3 a6
  go_loopw [6, 7] (fun x u wr => ∃ k : Nat, u = .int .i64 k ∧ x = .int .i64 (bA m k) ∧ k ≤ i ∧ Hid (∀ j (h : j < m.rs.length), j < k → m.rs[j].num ≠ R.num) ∧ ∃ n, wr = wb.drewN n) (fun _ u _ => i - (intOf u).toNat)
  case atStart => exact ⟨0, rfl, rfl, Nat.zero_le _, fun j _ hj => by omega, 0, rfl⟩
  case round =>
    obtain ⟨k, rfl, rfl, hk, HN, n, rfl⟩ := hrel
    by_cases hlt : k < i
    · obtain ⟨x0, x1, x2, x3⟩ := row_ru HRB.out k (by omega)
      have HB := Hid.mk (bA_s m k (by omega))
      obtain ⟨Q, hQ⟩ : ∃ Q, Q = m.rs[k] := ⟨_, rfl⟩
      rw [← hQ] at x0 x1 x2 x3 HB
      obtain ⟨wr, hwr⟩ : ∃ wr, wr = wb.drewN n := ⟨_, rfl⟩
      have bwr : Below wb.heap.size wb wr := by rw [hwr]; exact Drew.below ⟨n, rfl⟩ _
      have bwd := bwr.drew
      have HD : Hid (∃ n', wr.drew = wb.drewN n') := by rw [hwr]; exact ⟨n + 1, rfl⟩
      rw [← hwr]
      have z6 := cell_lat bwd m6
      have z0 := cell_lat bwd x0
      have z2 := cell_lat bwd x2
      have v0 := cell_lat bwd s0
      have mixed : Tryd.prog.follows Departure.mixedOrders = true := by kernel_rfl
      clear hwr bwr
      by_cases he : Q.num = R.num
      · have HV : Hid (r = false) := by
          show _ = _
          rw [HR.out]
          exact decide_eq_false (fun h => h.1 ((mem_tkA m i R.num).2 (Or.inr ⟨k, by omega, hlt, by rw [← hQ]; exact he⟩)))
        have hE : (Q.num == R.num) = true := by simpa using he
        clear HR HN HRB HG hQ he
        go_wp2
        go_region_o
        go_wp2
        go_ret
        exact ⟨ret_bool HV.out.symm, chain b2 bwd (Nat.le_refl _)⟩
      · have HN' : Hid (∀ j (h : j < m.rs.length), j < k + 1 → m.rs[j].num ≠ R.num) := fun j h hj => by
          by_cases h' : j < k
          · exact HN.out j h h'
          · have : j = k := by omega
            subst this; rw [← hQ]; exact he
        have hE : (Q.num == R.num) = false := by simpa using he
        clear HR HN HRB HG hQ he
        go_wp2
        go_region_o
        go_wp2
        exact ⟨⟨k + 1, rfl, by rw [HB.out], hlt, HN', HD.out⟩, by simp only [intOf]; omega⟩
    · have e : k = i := by omega
      subst e
      obtain ⟨wr, hwr⟩ : ∃ wr, wr = wb.drewN n := ⟨_, rfl⟩
      have bwr : Below wb.heap.size wb wr := by rw [hwr]; exact Drew.below ⟨n, rfl⟩ _
      rw [← hwr]
      have z3 := cell_lat bwr m3
      have z4 := cell_lat bwr m4
      have z5 := cell_lat bwr m5
      have v0 := cell_lat bwr s0
      have v1 := cell_lat bwr s1
      have v2 := cell_lat bwr s2
      have v3 := cell_lat bwr s3
      have bE := chain b2 bwr (Nat.le_refl _)
      have hr2 : r = decide (R.num ≠ m.jn ∧ 1 ≤ R.num ∧ R.num < m.nx ∧ 1 ≤ R.cnt ∧ R.cnt ≤ 2097152 ∧ bA m k ≤ R.lo ∧ R.lo < R.hi ∧ R.hi ≤ m.seq) := by
        rw [HR.out]
        unfold runB
        refine decide_eq_decide.2 ?_
        rw [mem_tkA]
        constructor
        · rintro ⟨h1, h2, h3, h4⟩
          exact ⟨fun h => h1 (Or.inl h), h2, by omega, h4⟩
        · rintro ⟨h1, h2, h3, h4⟩
          refine ⟨?_, h2, by omega, h4⟩
          rintro (h | ⟨j, hj, hjk, h⟩)
          · exact h1 h
          · exact HN.out j hj hjk h
      obtain ⟨num, lo, hi2, cnt⟩ := R
      simp only at z3 z4 z5 v0 v1 v2 v3 hr2
      generalize bA m k = ls at hr2 ⊢
      clear HR HN HRB HG hwr bwr m3 m4 m5 m6 s0 s1 s2 s3
      by_cases hok : num ≠ m.jn ∧ 1 ≤ num ∧ num < m.nx ∧ 1 ≤ cnt ∧ cnt ≤ 2097152 ∧ ls ≤ lo ∧ lo < hi2 ∧ hi2 ≤ m.seq
      · obtain rfl : r = true := by rw [hr2]; exact decide_eq_true hok
        obtain ⟨o1, o2, o3, o4, o5, o6, o7, o8⟩ := hok
        have o1' : (num == m.jn) = false := by simpa using o1
        clear hr2
        go_wp2
        all_goals first
          | (go_ret; exact ⟨rfl, bE⟩)
          | (exfalso; omega)
      · have HV : Hid (r = false) := by show _ = _; rw [hr2]; exact decide_eq_false hok
        clear hr2
        by_cases hj : num = m.jn
        · subst hj
          clear hok
          go_wp2
          all_goals first
            | (go_ret; exact ⟨ret_bool HV.out.symm, bE⟩)
            | (exfalso; omega)
        · have o1' : (num == m.jn) = false := by simpa using hj
          have hok' : ¬ (1 ≤ num ∧ num < m.nx ∧ 1 ≤ cnt ∧ cnt ≤ 2097152 ∧ ls ≤ lo ∧ lo < hi2 ∧ hi2 ≤ m.seq) := fun h => hok ⟨hj, h⟩
          clear hok hj
          go_wp2
          all_goals first
            | (go_ret; exact ⟨ret_bool HV.out.symm, bE⟩)
            | (exfalso; omega)
            | (go_ret; refine ⟨ret_bool ?_, bE⟩; rw [HV.out]; simp; omega)
end Go.Proofs.YtejpakejfikkmaaDoor
