/-
  DERIVED. Check: its function literals, and the whole.
-/
import Derived.Test.YtkoannkecojhmaaGreatDoorCNum
set_option linter.unusedVariables false
set_option linter.unusedSimpArgs false
namespace Go.Proofs.YtkoannkecojhmaaGreatDoor
open Go.RowKit
theorem foll_step {seq b : Int} {rs : List Ru} {i : Nat} (h : i < rs.length) : foll seq b (rs.drop i) = (decide (1 ≤ rs[i].cnt ∧ rs[i].cnt ≤ 2097152 ∧ b ≤ rs[i].lo ∧ rs[i].lo < rs[i].hi ∧ rs[i].hi ≤ seq) && foll seq rs[i].hi (rs.drop (i + 1))) := by
  rw [List.drop_eq_getElem_cons h]; rfl
set_option maxHeartbeats 4000000 in
set_option maxRecDepth 100000 in
theorem follow_any (rs : List Ru) (seq : Int) (la : Option Addr) (c : Nat) (w : World) (hL : LAt w la rs) (hlen : rs.length ≤ 24) :
    Calls Tryz.prog 62 #[.slice la rs.length c, .int .i64 seq] w fun e w' => e = .returned (.bool (foll seq 0 rs)) ∧ Below w.heap.size w w' := by
  obtain ⟨r, hr⟩ : ∃ r, r = foll seq 0 rs := ⟨_, rfl⟩
  rw [← hr]
  have HL := Hid.mk hL
  have HR : Hid (foll seq 0 (rs.drop 0) = r) := hr.symm
  clear hL hr
  go_enter Tryz.func62, Tryz.ntmps62
  go_wp2
  go_loopw [5, 10] (fun x u wr => ∃ (i : Nat) (b : Int), x = .int .i64 b ∧ u = .int .i64 i ∧ i ≤ rs.length ∧ Hid (foll seq b (rs.drop i) = r) ∧ Below w.heap.size w wr) (fun _ u _ => rs.length - (intOf u).toNat)
  case atStart => exact ⟨0, 0, rfl, rfl, Nat.zero_le _, HR, Below.refl _ _⟩
  case round =>
    obtain ⟨i, b, rfl, rfl, hi, HR, bw⟩ := hrel
    by_cases hlt : i < rs.length
    · obtain ⟨g, off, rfl, hra⟩ := (HL.out.below bw).at' (by intro h; rw [h] at hlt; simp at hlt)
      obtain ⟨x0, x1, x2, x3⟩ := row_ru hra i hlt
      have HS := HR.out
      rw [foll_step hlt] at HS
      obtain ⟨⟨z, lo, hi2, cnt⟩, hru⟩ : ∃ x : Ru, x = rs[i] := ⟨_, rfl⟩
      rw [← hru] at x0 x1 x2 x3 HS
      simp only at x0 x1 x2 x3 HS
      have HS := Hid.mk HS
      obtain ⟨W, hW⟩ : ∃ W, W = wr.alloc (.cells #[.int .i64 z, .int .i64 lo, .int .i64 hi2, .int .i64 cnt] 54) := ⟨_, rfl⟩
      have bW : Below wr.heap.size wr W := by rw [hW]; exact (Below.refl _ wr).alloc (Nat.le_refl _) _
      have b2 := chain bw bW (Nat.le_refl _)
      have SN := SAt.new wr [.int .i64 z, .int .i64 lo, .int .i64 hi2, .int .i64 cnt] 54
      have c1 : W.cell? ⟨wr.heap.size, 1, none⟩ = some (.int .i64 lo) := by rw [hW]; exact SN 1 _ rfl
      have c2 : W.cell? ⟨wr.heap.size, 2, none⟩ = some (.int .i64 hi2) := by rw [hW]; exact SN 2 _ rfl
      have c3 : W.cell? ⟨wr.heap.size, 3, none⟩ = some (.int .i64 cnt) := by rw [hW]; exact SN 3 _ rfl
      have hW' : wr.alloc (.cells #[.int .i64 z, .int .i64 lo, .int .i64 hi2, .int .i64 cnt] 54) = W := hW.symm
      by_cases hok : 1 ≤ cnt ∧ cnt ≤ 2097152 ∧ b ≤ lo ∧ lo < hi2 ∧ hi2 ≤ seq
      · have HS2 : Hid (foll seq hi2 (rs.drop (i + 1)) = r) := by
          have := HS.out
          rw [decide_eq_true hok, Bool.true_and] at this
          exact this
        have hB : decide (1 ≤ cnt ∧ cnt ≤ 2097152) = true := decide_eq_true ⟨hok.1, hok.2.1⟩
        obtain ⟨-, -, o1, o2, o3⟩ := hok
        clear HR HS hru hra bW hW SN HL
        go_wp2_with (go_at_call 55; refine (within_any _ _ _ _).mono ?_; rintro e w' ⟨rfl, rfl⟩; rw [hB])
        exact ⟨⟨i + 1, hi2, rfl, rfl, hlt, HS2, b2⟩, by simp only [intOf]; omega⟩
      · have HV : Hid (r = false) := by
          have := HS.out
          rw [decide_eq_false hok, Bool.false_and] at this
          exact this.symm
        by_cases hcn : 1 ≤ cnt ∧ cnt ≤ 2097152
        · have hB : decide (1 ≤ cnt ∧ cnt ≤ 2097152) = true := decide_eq_true hcn
          have hno : ¬ (b ≤ lo ∧ lo < hi2 ∧ hi2 ≤ seq) := fun h => hok ⟨hcn.1, hcn.2, h⟩
          clear HR HS hru hra bW hW SN HL hok
          go_wp2_with (go_at_call 55; refine (within_any _ _ _ _).mono ?_; rintro e w' ⟨rfl, rfl⟩; rw [hB])
          all_goals first
            | (exfalso; omega)
            | (go_ret; exact ⟨ret_bool HV.out.symm, b2⟩)
        · have hB : decide (1 ≤ cnt ∧ cnt ≤ 2097152) = false := decide_eq_false hcn
          clear HR HS hru hra bW hW SN HL hok
          go_wp2_with (go_at_call 55; refine (within_any _ _ _ _).mono ?_; rintro e w' ⟨rfl, rfl⟩; rw [hB])
          go_ret
          exact ⟨ret_bool HV.out.symm, b2⟩
    · have e : i = rs.length := by omega
      subst e
      have HV : Hid (r = true) := by
        have := HR.out
        rw [List.drop_eq_nil_of_le (Nat.le_refl _)] at this
        exact this.symm
      clear HR HL
      go_wp2
      go_ret
      exact ⟨ret_bool HV.out.symm, bw⟩
/-! ### The small tests -/
theorem unless_any (b : Bool) (e : Int) (w : World) : Calls Tryz.prog 48 #[.bool b, .int .i64 e] w fun x w' => x = .returned (.int .i64 (if b = true then 0 else e)) ∧ w' = w := by
  cases b
  · go_enter Tryz.func48, Tryz.ntmps48
    go_wp2
    go_ret
    exact ⟨rfl, rfl⟩
  · go_enter Tryz.func48, Tryz.ntmps48
    go_wp2
    go_ret
    exact ⟨rfl, rfl⟩
set_option maxRecDepth 100000 in
theorem isWidth_any (x : Int) (w : World) : Calls Tryz.prog 49 #[.int .i64 x] w fun e w' => e = .returned (.bool (wdB x)) ∧ w' = w := by
  by_cases h : 64 ≤ x ∧ x ≤ 1024
  · have hB : decide (64 ≤ x ∧ x ≤ 1024) = true := decide_eq_true h
    have e1 : wdB x = (x % 64 == 0) := by
      unfold wdB
      by_cases h2 : x % 64 = 0
      · rw [decide_eq_true ⟨h.1, h.2, h2⟩]; simp [h2]
      · rw [decide_eq_false (fun h' => h2 h'.2.2)]; simp [h2]
    rw [e1]
    go_enter Tryz.func49, Tryz.ntmps49
    go_wp2_with (go_at_call 55; refine (within_any _ _ _ _).mono ?_; rintro e w' ⟨rfl, rfl⟩; rw [hB])
    go_ret
    exact ⟨rfl, rfl⟩
  · have hB : decide (64 ≤ x ∧ x ≤ 1024) = false := decide_eq_false h
    have e1 : wdB x = false := decide_eq_false (fun h' => h ⟨h'.1, h'.2.1⟩)
    rw [e1]
    go_enter Tryz.func49, Tryz.ntmps49
    go_wp2_with (go_at_call 55; refine (within_any _ _ _ _).mono ?_; rintro e w' ⟨rfl, rfl⟩; rw [hB])
    go_ret
    exact ⟨rfl, rfl⟩
theorem isMode_any (x : Int) (w : World) : Calls Tryz.prog 51 #[.int .i64 x] w fun e w' => e = .returned (.bool (mdB x)) ∧ w' = w := by
  obtain ⟨r, hr⟩ : ∃ r, r = mdB x := ⟨_, rfl⟩
  rw [← hr]
  by_cases h1 : x = 1
  · obtain rfl : r = true := by rw [hr, h1]; rfl
    clear hr
    go_enter Tryz.func51, Tryz.ntmps51
    go_wp2
    go_ret
    exact ⟨rfl, rfl⟩
  · by_cases h2 : x = 2
    · obtain rfl : r = true := by rw [hr, h2]; rfl
      clear hr
      subst h2
      go_enter Tryz.func51, Tryz.ntmps51
      go_wp2
      go_ret
      exact ⟨rfl, rfl⟩
    · obtain rfl : r = false := by rw [hr]; exact decide_eq_false (by omega)
      clear hr
      have n1 : (x == 1) = false := by simpa using h1
      have n2 : (x == 2) = false := by simpa using h2
      go_enter Tryz.func51, Tryz.ntmps51
      go_wp2
      go_ret
      exact ⟨rfl, rfl⟩
set_option maxRecDepth 100000 in
theorem isCut_any (x ch md : Int) (w : World) (hw : wdB x = true) : Calls Tryz.prog 53 #[.agg #[.int .i64 x, .int .i64 ch, .int .i64 md]] w fun e w' => e = .returned (.bool (ctB x ch md)) ∧ Below w.heap.size w w' := by
  have hx : 64 ≤ x ∧ x ≤ 1024 ∧ x % 64 = 0 := of_decide_eq_true hw
  obtain ⟨r, hr⟩ : ∃ r, r = ctB x ch md := ⟨_, rfl⟩
  rw [← hr]
  by_cases h2 : md = 2
  · subst h2
    have hr' : r = (ch == 0) := by
      rw [hr]; unfold ctB; rw [if_pos rfl]
      by_cases hc : ch = 0 <;> simp [hc]
    clear hr
    subst hr'
    go_enter Tryz.func53, Tryz.ntmps53
    go_wp2
    go_ret
    exact ⟨rfl, (Below.refl _ w).alloc (Nat.le_refl _) _⟩
  · have hr' : r = decide (x / 32 ≤ ch ∧ ch ≤ x / 8) := by
      rw [hr]; unfold ctB; rw [if_neg h2]
    clear hr
    have n2 : (md == 2) = false := by simpa using h2
    go_enter Tryz.func53, Tryz.ntmps53
    go_wp2_with (go_at_call 55; refine (within_any _ _ _ _).mono ?_; rintro e w' ⟨rfl, rfl⟩)
    go_ret
    refine ⟨ret_bool (by rw [hr']; simp), (Below.refl _ w).alloc (Nat.le_refl _) _⟩
/-! ### The nine literals -/
theorem MAt.nine {w : World} {g : Nat} {m : Mf} {la : Option Addr} {c : Nat} (h : MAt w g m la c) :
    w.cell? ⟨g, 0, none⟩ = some (.int .i64 m.w) ∧ w.cell? ⟨g, 1, none⟩ = some (.int .i64 m.ch) ∧ w.cell? ⟨g, 2, none⟩ = some (.int .i64 m.md) := ⟨h.cells.1, h.cells.2.1, h.cells.2.2.1⟩
abbrev CkE (f g : Nat) (w : World) (e : Int) : Prop := Calls Tryz.prog f #[.pointer (some ⟨g, 0, none⟩)] w fun x w' => x = .returned (.int .i64 e) ∧ Below w.heap.size w w'
theorem ck1 {w : World} {g : Nat} {m : Mf} {la : Option Addr} {c : Nat} (h : MAt w g m la c) : CkE 47 g w (if wdB m.w = true then 0 else 10) := by
  obtain ⟨a0, a1, a2, a3, a4, a5, a6⟩ := h.cells
  go_enter Tryz.func47, Tryz.ntmps47
  go_wp2_with first
    | (go_at_call 49; refine (isWidth_any _ _).mono ?_; rintro e w' ⟨rfl, rfl⟩)
    | (go_at_call 48; refine (unless_any _ _ _).mono ?_; rintro e w' ⟨rfl, rfl⟩)
  all_goals
    go_ret
    exact ⟨rfl, Below.refl _ _⟩
theorem ck2 {w : World} {g : Nat} {m : Mf} {la : Option Addr} {c : Nat} (h : MAt w g m la c) : CkE 50 g w (if mdB m.md = true then 0 else 81) := by
  obtain ⟨a0, a1, a2, a3, a4, a5, a6⟩ := h.cells
  go_enter Tryz.func50, Tryz.ntmps50
  go_wp2_with first
    | (go_at_call 51; refine (isMode_any _ _).mono ?_; rintro e w' ⟨rfl, rfl⟩)
    | (go_at_call 48; refine (unless_any _ _ _).mono ?_; rintro e w' ⟨rfl, rfl⟩)
  all_goals
    go_ret
    exact ⟨rfl, Below.refl _ _⟩
theorem ck3 {w : World} {g : Nat} {m : Mf} {la : Option Addr} {c : Nat} (h : MAt w g m la c) (hw : wdB m.w = true) : CkE 52 g w (if ctB m.w m.ch m.md = true then 0 else 12) := by
  obtain ⟨a0, a1, a2, a3, a4, a5, a6⟩ := h.cells
  go_enter Tryz.func52, Tryz.ntmps52
  go_wp2_with first
    | (go_at_call 53; refine (isCut_any _ _ _ _ hw).mono ?_; rintro e w1 ⟨rfl, b1⟩)
    | (go_at_call 48; refine (unless_any _ _ _).mono ?_; rintro e w' ⟨rfl, rfl⟩)
  all_goals
    go_ret
    exact ⟨rfl, b1⟩
theorem ck4 {w : World} {g : Nat} {m : Mf} {la : Option Addr} {c : Nat} (h : MAt w g m la c) : CkE 54 g w (if decide (0 ≤ m.seq ∧ m.seq ≤ 1152921504606846976) = true then 0 else 80) := by
  obtain ⟨a0, a1, a2, a3, a4, a5, a6⟩ := h.cells
  go_enter Tryz.func54, Tryz.ntmps54
  generalize hB : decide (0 ≤ m.seq ∧ m.seq ≤ 1152921504606846976) = B
  go_wp2_with first
    | (go_at_call 55; refine (within_any _ _ _ _).mono ?_; rintro e w' ⟨rfl, rfl⟩; rw [hB])
    | (go_at_call 48; refine (unless_any _ _ _).mono ?_; rintro e w' ⟨rfl, rfl⟩)
  all_goals
    go_ret
    exact ⟨rfl, Below.refl _ _⟩
theorem ck5 {w : World} {g : Nat} {m : Mf} {la : Option Addr} {c : Nat} (h : MAt w g m la c) : CkE 56 g w (if decide (2 ≤ m.nx ∧ m.nx ≤ 1099511627776) = true then 0 else 80) := by
  obtain ⟨a0, a1, a2, a3, a4, a5, a6⟩ := h.cells
  go_enter Tryz.func56, Tryz.ntmps56
  generalize hB : decide (2 ≤ m.nx ∧ m.nx ≤ 1099511627776) = B
  go_wp2_with first
    | (go_at_call 55; refine (within_any _ _ _ _).mono ?_; rintro e w' ⟨rfl, rfl⟩; rw [hB])
    | (go_at_call 48; refine (unless_any _ _ _).mono ?_; rintro e w' ⟨rfl, rfl⟩)
  all_goals
    go_ret
    exact ⟨rfl, Below.refl _ _⟩
theorem ck6 {w : World} {g : Nat} {m : Mf} {la : Option Addr} {c : Nat} (h : MAt w g m la c) (hn : 2 ≤ m.nx ∧ m.nx ≤ 1099511627776) : CkE 57 g w (if decide (1 ≤ m.jn ∧ m.jn ≤ m.nx - 1) = true then 0 else 80) := by
  obtain ⟨a0, a1, a2, a3, a4, a5, a6⟩ := h.cells
  go_enter Tryz.func57, Tryz.ntmps57
  generalize hB : decide (1 ≤ m.jn ∧ m.jn ≤ m.nx - 1) = B
  go_wp2_with first
    | (go_at_call 55; refine (within_any _ _ _ _).mono ?_; rintro e w' ⟨rfl, rfl⟩; rw [hB])
    | (go_at_call 48; refine (unless_any _ _ _).mono ?_; rintro e w' ⟨rfl, rfl⟩)
  all_goals
    go_ret
    exact ⟨rfl, Below.refl _ _⟩
theorem ck7 {w : World} {g : Nat} {m : Mf} {la : Option Addr} {c : Nat} (h : MAt w g m la c) (hs : m.rs.length < 4611686018427387904) : CkE 58 g w (if decide (m.rs.length ≤ 24) = true then 0 else 80) := by
  obtain ⟨a0, a1, a2, a3, a4, a5, a6⟩ := h.cells
  by_cases hl : m.rs.length ≤ 24
  · rw [decide_eq_true hl]
    go_enter Tryz.func58, Tryz.ntmps58
    have hB : decide ((m.rs.length : Int) ≤ 24) = true := decide_eq_true (by omega)
    go_wp2_with (go_at_call 48; refine (unless_any _ _ _).mono ?_; rintro e w' ⟨rfl, rfl⟩)
    go_ret
    exact ⟨rfl, Below.refl _ _⟩
  · rw [decide_eq_false hl]
    go_enter Tryz.func58, Tryz.ntmps58
    have hB : decide ((m.rs.length : Int) ≤ 24) = false := decide_eq_false (by omega)
    go_wp2_with (go_at_call 48; refine (unless_any _ _ _).mono ?_; rintro e w' ⟨rfl, rfl⟩)
    go_ret
    exact ⟨rfl, Below.refl _ _⟩
theorem ck8 {w : World} {g : Nat} {m : Mf} {la : Option Addr} {c : Nat} (h : MAt w g m la c) (hw : MfW m) (hn : 2 ≤ m.nx) (hl : m.rs.length ≤ 24) : CkE 59 g w (if numd m.nx [m.jn] m.rs = true then 0 else 80) := by
  obtain ⟨a0, a1, a2, a3, a4, a5, a6⟩ := h.cells
  have cc := areNumbered_any m la c w h.ls hw hn hl
  simp only [mfC] at cc
  go_enter Tryz.func59, Tryz.ntmps59
  go_wp2_with first
    | (go_at_call 60; refine cc.mono ?_; rintro e w1 ⟨rfl, b1⟩; clear cc)
    | (go_at_call 48; refine (unless_any _ _ _).mono ?_; rintro e w' ⟨rfl, rfl⟩)
  all_goals
    go_ret
    exact ⟨rfl, b1⟩
theorem ck9 {w : World} {g : Nat} {m : Mf} {la : Option Addr} {c : Nat} (h : MAt w g m la c) (hl : m.rs.length ≤ 24) : CkE 61 g w (if foll m.seq 0 m.rs = true then 0 else 80) := by
  obtain ⟨a0, a1, a2, a3, a4, a5, a6⟩ := h.cells
  have cc := follow_any m.rs m.seq la c w h.ls hl
  go_enter Tryz.func61, Tryz.ntmps61
  go_wp2_with first
    | (go_at_call 62; refine cc.mono ?_; rintro e w1 ⟨rfl, b1⟩; clear cc)
    | (go_at_call 48; refine (unless_any _ _ _).mono ?_; rintro e w' ⟨rfl, rfl⟩)
  all_goals
    go_ret
    exact ⟨rfl, b1⟩
/-- What the nine tell. -/
def nineE (m : Mf) : List Int := [if wdB m.w = true then 0 else 10, if mdB m.md = true then 0 else 81, if ctB m.w m.ch m.md = true then 0 else 12,
  if decide (0 ≤ m.seq ∧ m.seq ≤ 1152921504606846976) = true then 0 else 80, if decide (2 ≤ m.nx ∧ m.nx ≤ 1099511627776) = true then 0 else 80, if decide (1 ≤ m.jn ∧ m.jn ≤ m.nx - 1) = true then 0 else 80,
  if decide (m.rs.length ≤ 24) = true then 0 else 80, if numd m.nx [m.jn] m.rs = true then 0 else 80, if foll m.seq 0 m.rs = true then 0 else 80]
theorem nine_eq (m : Mf) : fstE (nineE m) = chE m := by
  unfold nineE chE nbB
  generalize wdB m.w = b1
  generalize mdB m.md = b2
  generalize ctB m.w m.ch m.md = b3
  generalize decide (0 ≤ m.seq ∧ m.seq ≤ 1152921504606846976) = b4
  generalize decide (2 ≤ m.nx ∧ m.nx ≤ 1099511627776) = b5
  generalize decide (1 ≤ m.jn ∧ m.jn ≤ m.nx - 1) = b6
  generalize decide (m.rs.length ≤ 24) = b7
  generalize numd m.nx [m.jn] m.rs = b8
  generalize foll m.seq 0 m.rs = b9
  cases b1
  · rfl
  cases b2
  · rfl
  cases b3
  · rfl
  cases b4
  · rfl
  cases b5
  · rfl
  cases b6
  · rfl
  cases b7
  · rfl
  cases b8
  · rfl
  cases b9 <;> rfl
def nineF : List Nat := [47, 50, 52, 54, 56, 57, 58, 59, 61]
theorem if_zero {p : Prop} [Decidable p] {e : Int} (h : (if p then 0 else e) = 0) (he : e ≠ 0) : p := Classical.byContradiction fun hp => he (by rw [if_neg hp] at h; exact h)
set_option maxHeartbeats 2000000 in
set_option maxRecDepth 100000 in
theorem ccheck_any (m : Mf) (la : Option Addr) (c : Nat) (w : World) (hL : LAt w la m.rs) (hw : MfW m) (hs : m.rs.length < 4611686018427387904) :
    Calls Tryz.prog 18 #[.agg (mfC m la c).toArray] w fun e w' => e = .returned (.int .i64 (chE m)) ∧ Below w.heap.size w w' := by
  obtain ⟨g, hg⟩ : ∃ g, g = w.heap.size := ⟨_, rfl⟩
  obtain ⟨wa, hwa⟩ : ∃ wa, wa = w.alloc (.cells (mfC m la c).toArray 26) := ⟨_, rfl⟩
  have ba : Below w.heap.size w wa := by rw [hwa]; exact (Below.refl _ w).alloc (Nat.le_refl _) _
  have sza : wa.heap.size = w.heap.size + 1 := by rw [hwa]; simp
  obtain ⟨wb, hwb⟩ : ∃ wb, wb = wa.alloc (.cells (nineF.map (clV g)).toArray 78) := ⟨_, rfl⟩
  have bb : Below wa.heap.size wa wb := by rw [hwb]; exact (Below.refl _ wa).alloc (Nat.le_refl _) _
  have MA : MAt wb g m la c := by
    refine MAt.lat ⟨?_, hL.below ba⟩ bb
    rw [hg, hwa]; exact SAt.new w _ _
  have RA : RowAt wb (w.heap.size + 1) 0 (nineF.map (clV g)) := fun j x hx => by
    have := SAt.new wa (nineF.map (clV g)) 78 j x hx
    rw [← hwb, sza] at this
    simpa using this
  have cf := first_any nineF (nineE m) g (w.heap.size + 1) 9 wb rfl (by decide) RA
    (fun i hi args W => by
      have hi' : i < 9 := hi
      match i, hi' with
      | 0, _ | 1, _ | 2, _ | 3, _ | 4, _ | 5, _ | 6, _ | 7, _ | 8, _ => rfl)
    (fun i hi he W hz bW => by
      have MW := MA.lat bW
      have hi' : i < 9 := hi
      match i, hi' with
      | 0, _ => exact ck1 MW
      | 1, _ => exact ck2 MW
      | 2, _ => exact ck3 MW (if_zero (hz 0 (by omega) (by simp [nineE])) (by decide))
      | 3, _ => exact ck4 MW
      | 4, _ => exact ck5 MW
      | 5, _ => exact ck6 MW (of_decide_eq_true (if_zero (hz 4 (by omega) (by simp [nineE])) (by decide)))
      | 6, _ => exact ck7 MW hs
      | 7, _ => exact ck8 MW hw (of_decide_eq_true (if_zero (hz 4 (by omega) (by simp [nineE])) (by decide))).1 (of_decide_eq_true (if_zero (hz 6 (by omega) (by simp [nineE])) (by decide)))
      | 8, _ => exact ck9 MW (of_decide_eq_true (if_zero (hz 6 (by omega) (by simp [nineE])) (by decide))))
  rw [nine_eq] at cf
  have hwa' : w.alloc (.cells (mfC m la c).toArray 26) = wa := hwa.symm
  have hwb' : wa.alloc (.cells (nineF.map (clV g)).toArray 78) = wb := hwb.symm
  have b2 := chain ba bb (Nat.le_refl _)
  rw [hg] at hwb'
  simp only [nineF, List.map, mfC] at hwa' hwb' cf ⊢
  clear hwa hwb MA RA ba bb hg
  go_enter Tryz.func18, Tryz.ntmps18
  go_wp2_with (go_at_call 26; refine cf.mono ?_; rintro e w1 ⟨rfl, b1⟩; clear cf)
  go_ret
  exact ⟨rfl, chain b2 b1 (Nat.le_refl _)⟩
end Go.Proofs.YtkoannkecojhmaaGreatDoor
