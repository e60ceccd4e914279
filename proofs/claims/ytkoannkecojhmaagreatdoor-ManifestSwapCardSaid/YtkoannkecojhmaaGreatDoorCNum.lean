/-
  DERIVED. Check's own tests: the numbers of runs, and how they follow one another.
-/
import Derived.Test.YtkoannkecojhmaaGreatDoorCBase
import Derived.Maps.OwnOps
import Derived.Maps.OwnSet
import Derived.Maps.Views
set_option linter.unusedVariables false
set_option linter.unusedSimpArgs false
namespace Go.Proofs.YtkoannkecojhmaaGreatDoor
open Go.RowKit Go.Maps
set_option maxRecDepth 100000 in
theorem within_any (n a b : Int) (w : World) : Calls Tryz.prog 55 #[.int .i64 n, .int .i64 a, .int .i64 b] w fun e w' => e = .returned (.bool (decide (a ≤ n ∧ n ≤ b))) ∧ w' = w := by
  by_cases h1 : a ≤ n
  · by_cases h2 : n ≤ b
    · rw [decide_eq_true (show a ≤ n ∧ n ≤ b from ⟨h1, h2⟩)]
      go_enter Tryz.func55, Tryz.ntmps55
      go_wp2
      go_ret
      exact ⟨rfl, rfl⟩
    · rw [decide_eq_false (show ¬ (a ≤ n ∧ n ≤ b) from fun h => h2 h.2)]
      go_enter Tryz.func55, Tryz.ntmps55
      go_wp2
      go_ret
      exact ⟨rfl, rfl⟩
  · rw [decide_eq_false (show ¬ (a ≤ n ∧ n ≤ b) from fun h => h1 h.1)]
    go_enter Tryz.func55, Tryz.ntmps55
    go_wp2
    go_ret
    exact ⟨rfl, rfl⟩
theorem wpList_insert_own {H : Type} {P : Program} (w : World) {ops : Array Oper} {rest : List Oper} {o : Oper} {a : Act} {Q : Exit → Act → World → Prop}
    (hg : o.guard = none) (m x v : Operand) (t : TypeId) (hop : o.op = Op.insert t m x v)
    (k e : TypeId) (K : Keyed P k) (ht : P.underlying t = some (.map k e)) (R : Value → Option (DataW H × List MemPlace)) (b n : Nat) (D : DataW H)
    (hm : a.eval m = .map (some b)) (hown : w.ownsMap P k R b n D) (hn : n < maxLen) (key val : Value) (kl : Lit) (hx : a.eval x = key) (hv : a.eval v = val) (hkey : keyOf P k key = some kl)
    (d : DataW H) (ps : List MemPlace) (hval : R val = some (d, ps))
    (hK : ∀ w', w'.ownsMap P k R b (n + 1) (D.put kl d) → w.grownBy w' (some b) → wpList P ops Q rest (a.put o.dst undef) w') :
    wpList P ops Q (o :: rest) a w := by
  refine wpList_plain hg fun K' hK' => ?_
  obtain ⟨w', hrun, r1, r2⟩ := hown.update K ht hn hkey hval
  unfold Oper.wp
  simp [execOp, hop, hm, hx, hv, hrun, Result.andThen]
  exact hK' _ _ (hK w' r1 r2)
theorem law3 : Keyed Tryz.prog 3 := int_keyed Tryz.underlying3
theorem zero3 (w : World) : (zeroValue 3).run Tryz.prog w = .ok (.int .i64 0) w := by kernel_rfl
abbrev I64 (n : Int) : Prop := -9223372036854775808 ≤ n ∧ n ≤ 9223372036854775807
theorem wf_i64 {n : Int} (h : I64 n) : (Lit.int .i64 n).wf = true := by
  have e1 : IntKind.i64.min = -9223372036854775808 := rfl
  have e2 : IntKind.i64.max = 9223372036854775807 := rfl
  simp [Lit.wf, e1, e2]
  omega
abbrev iD (n : Int) : DataW Unit := .lit (.int .i64 n)
/-- How often the map has met a number: once, if it is in the list. -/
def Met (D : DataW Unit) (tk : List Int) : Prop := ∀ z, I64 z → D.atKey (.int .i64 z) (iD 0) = iD (if z ∈ tk then 1 else 0)
theorem Met.put {D : DataW Unit} {tk : List Int} (h : Met D tk) (hD : IsMap D) {z : Int} (hz : I64 z) (hn : z ∉ tk) : Met (D.put (.int .i64 z) (iD 1)) (z :: tk) := fun y hy => by
  by_cases e : y = z
  · subst e; rw [atKey_put_same hD (by trivial)]; simp
  · rw [atKey_put_other (by intro h; injection h with _ h; exact e h), h y hy]; simp [e]
theorem Met.first {z : Int} (hz : I64 z) : Met ((DataW.map []).put (.int .i64 z) (iD 1)) [z] := fun y hy => by
  by_cases e : y = z
  · subst e; rw [atKey_put_same ⟨_, rfl⟩ (by trivial)]; simp
  · rw [atKey_put_other (by intro h; injection h with _ h; exact e h)]; simp [e]; rfl
/-- Numbers that an int holds. -/
structure MfW (m : Mf) : Prop where
  w : I64 m.w
  ch : I64 m.ch
  md : I64 m.md
  seq : I64 m.seq
  nx : I64 m.nx
  jn : I64 m.jn
  rs : ∀ r ∈ m.rs, I64 r.num ∧ I64 r.lo ∧ I64 r.hi ∧ I64 r.cnt
theorem numd_step {nx : Int} {tk : List Int} {rs : List Ru} {i : Nat} (h : i < rs.length) : numd nx tk (rs.drop i) = (decide (rs[i].num ∉ tk ∧ 1 ≤ rs[i].num ∧ rs[i].num ≤ nx - 1) && numd nx (rs[i].num :: tk) (rs.drop (i + 1))) := by
  rw [List.drop_eq_getElem_cons h]; rfl
theorem ownsMap_below {w w' : World} {mb n : Nat} {D : DataW Unit} (h : w.ownsMap Tryz.prog 3 (plainElem Tryz.prog 3) mb n D) (b : Below w.heap.size w w') : w'.ownsMap Tryz.prog 3 (plainElem Tryz.prog 3) mb n D := by
  have hlt := h.lt
  obtain ⟨es, cl, hb, r⟩ := h
  exact ⟨es, cl, (b.block mb hlt).trans hb, r⟩
/-- What is kept while the runs' numbers are gone through. -/
def RN (w : World) (la : Option Addr) (c : Nat) (mw mch mmd mseq mnx mjn : Int) (rs : List Ru) (r : Bool) (u : Value) (wr : World) : Prop :=
  ∃ (i : Nat) (tk : List Int) (D : DataW Unit) (n : Nat), u = .int .i64 i ∧ i ≤ rs.length ∧ wr.ownsMap Tryz.prog 3 (plainElem Tryz.prog 3) (w.heap.size + 1) n D ∧ Hid (Met D tk) ∧ n ≤ i + 1 ∧ Hid (numd mnx tk (rs.drop i) = r) ∧
    SAt wr w.heap.size [.int .i64 mw, .int .i64 mch, .int .i64 mmd, .int .i64 mseq, .int .i64 mnx, .int .i64 mjn, .slice la rs.length c] ∧ Below w.heap.size w wr
def iOf : DataW Unit → Int
  | .lit (.int _ n) => n
  | _ => 0
theorem run_steps {wr : World} {M n : Nat} {D : DataW Unit} {tk : List Int} {z lo hi cnt : Int} (own : wr.ownsMap Tryz.prog 3 (plainElem Tryz.prog 3) M n D) (hM : Met D tk) (hz : I64 z) (hn : n < 1000) :
    ∃ (W w2 : World) (k : Int), W = wr.alloc (.cells #[.int .i64 z, .int .i64 lo, .int .i64 hi, .int .i64 cnt] 54) ∧
      (Instr.lookup 116 (.map (some M)) (.int .i64 z) false).run Tryz.prog W = .ok (.int .i64 k) W ∧ k = (if z ∈ tk then 1 else 0) ∧
      (Instr.mapUpdate 116 (.map (some M)) (.int .i64 z) (.int .i64 (k + 1))).run Tryz.prog W = .ok () w2 ∧
      (Instr.lookup 116 (.map (some M)) (.int .i64 z) false).run Tryz.prog w2 = .ok (.int .i64 (k + 1)) w2 ∧
      w2.ownsMap Tryz.prog 3 (plainElem Tryz.prog 3) M (n + 1) (D.put (.int .i64 z) (iD (k + 1))) ∧ W.grownBy w2 (some M) := by
  have hkey : keyOf Tryz.prog 3 (.int .i64 z) = some (.int .i64 z) := keyOf_int_mk Tryz.underlying3 (wf_i64 hz)
  have own' := own.alloc (.cells #[.int .i64 z, .int .i64 lo, .int .i64 hi, .int .i64 cnt] 54)
  obtain ⟨k, h1, h2, -⟩ := own'.lookup_int law3 Tryz.underlying116 Tryz.underlying3 (zero3 _) hkey
  have hk : k = (if z ∈ tk then 1 else 0) := by
    rw [hM z hz] at h2
    exact (congrArg iOf h2).symm
  have hw1 : (Lit.int .i64 (k + 1)).wf = true := wf_i64 (by rw [hk]; split <;> constructor <;> omega)
  obtain ⟨w2, h3, own2, g⟩ := own'.update law3 Tryz.underlying116 (by unfold maxLen; omega) hkey (plainElem_int (H := Unit) Tryz.underlying3 hw1)
  obtain ⟨k2, h4, h5, -⟩ := own2.lookup_int law3 Tryz.underlying116 Tryz.underlying3 (zero3 _) hkey
  rw [atKey_put_same own'.isMap (by trivial)] at h5
  obtain rfl : k2 = k + 1 := (congrArg iOf h5).symm
  exact ⟨_, w2, k, rfl, h1, hk, h3, h4, own2, g⟩
set_option maxHeartbeats 4000000 in
set_option maxRecDepth 100000 in
theorem areNumbered_any (m : Mf) (la : Option Addr) (c : Nat) (w : World) (hL : LAt w la m.rs) (hw : MfW m) (hnx : 2 ≤ m.nx) (hlen : m.rs.length ≤ 24) :
    Calls Tryz.prog 60 #[.agg (mfC m la c).toArray] w fun e w' => e = .returned (.bool (numd m.nx [m.jn] m.rs)) ∧ Below w.heap.size w w' := by
  obtain ⟨r, hr⟩ : ∃ r, r = numd m.nx [m.jn] m.rs := ⟨_, rfl⟩
  rw [← hr]
  have HW := Hid.mk hw
  obtain ⟨mw, mch, mmd, mseq, mnx, mjn, rs⟩ := m
  simp only [mfC] at hL hnx hlen hr ⊢
  have hj := hw.jn
  have hn := hw.nx
  simp only at hj hn
  clear hw
  have hmm := @run_makeMap Tryz.prog
  have hkj : keyOf Tryz.prog 3 (.int .i64 mjn) = some (.int .i64 mjn) := keyOf_int_mk Tryz.underlying3 (wf_i64 hj)
  obtain ⟨CS, hCS⟩ : ∃ CS : List Value, CS = [.int .i64 mw, .int .i64 mch, .int .i64 mmd, .int .i64 mseq, .int .i64 mnx, .int .i64 mjn, .slice la rs.length c] := ⟨_, rfl⟩
  have S0 := SAt.new w CS 26
  obtain ⟨wa, hwa⟩ : ∃ wa, wa = w.alloc (.cells CS.toArray 26) := ⟨_, rfl⟩
  have wsz : wa.heap.size = w.heap.size + 1 := by rw [hwa]; simp
  have ba : Below w.heap.size w wa := by rw [hwa]; exact (Below.refl _ w).alloc (Nat.le_refl _) _
  have made := World.ownsMap_made (H := Unit) wa Tryz.prog 3 (plainElem Tryz.prog 3)
  obtain ⟨w1, hrun, own1, g1⟩ := made.update law3 Tryz.underlying116 (by unfold maxLen; omega) hkj (plainElem_int (H := Unit) Tryz.underlying3 (show (Lit.int .i64 1).wf = true by decide))
  rw [wsz] at hrun own1 g1
  have b1 : Below wa.heap.size wa w1 := ((Below.refl _ wa).alloc (Nat.le_refl _) _).grown g1 (by simp) (fun j hj => by cases hj; omega)
  have S1 := S0
  rw [← hwa] at S1
  replace S1 := S1.lat b1
  rw [hCS] at S1
  have c6 := S1 6 _ rfl
  have c5 : wa.cell? ⟨w.heap.size, 5, none⟩ = some (.int .i64 mjn) := by rw [hwa]; exact S0 5 _ (by rw [hCS]; rfl)
  have bw : Below w.heap.size w w1 := chain ba b1 (Nat.le_refl _)
  rw [hCS] at hwa
  have hwa' : w.alloc (.cells #[.int .i64 mw, .int .i64 mch, .int .i64 mmd, .int .i64 mseq, .int .i64 mnx, .int .i64 mjn, .slice la rs.length c] 26) = wa := hwa.symm
  have M0 : Met ((DataW.map []).put (.int .i64 mjn) (iD 1)) [mjn] := Met.first hj
  have HL := Hid.mk hL
  have HM := Hid.mk M0
  have HR : Hid (numd mnx [mjn] (rs.drop 0) = r) := hr.symm
  clear hwa hCS S0 made g1 b1 ba hkj hL M0 hr
  go_enter Tryz.func60, Tryz.ntmps60
  go_wp2
  clear hmm hrun c6 c5 hwa'
  go_loopw [13] (fun u wr => RN w la c mw mch mmd mseq mnx mjn rs r u wr) (fun u _ => rs.length - (intOf u).toNat)
  case atStart => exact ⟨0, [mjn], _, 1, rfl, Nat.zero_le _, own1, HM, Nat.le_refl _, HR, S1, bw⟩
  case round =>
    obtain ⟨i, tk, D, n, rfl, hi, own, HM, hn1, HR, S1, bw⟩ := hrel
    clear own1
    by_cases hlt : i < rs.length
    · obtain ⟨g, off, rfl, hra⟩ := (HL.out.below (bw.mono (Nat.le_refl _))).at' (by intro h; rw [h] at hlt; simp at hlt)
      obtain ⟨x0, x1, x2, x3⟩ := row_ru hra i hlt
      have hz := (HW.out.rs rs[i] (List.getElem_mem hlt)).1
      have HS := HR.out
      rw [numd_step hlt] at HS
      obtain ⟨⟨z, lo, hi2, cnt⟩, hru⟩ : ∃ x : Ru, x = rs[i] := ⟨_, rfl⟩
      rw [← hru] at x0 x1 x2 x3 hz HS
      simp only at x0 x1 x2 x3 hz HS
      have HS := Hid.mk HS
      obtain ⟨W, w2, k, hW, r1, hk, r2, r3, own2, gr⟩ := run_steps (lo := lo) (hi := hi2) (cnt := cnt) own HM.out hz (by omega)
      have Wsz : W.heap.size = wr.heap.size + 1 := by rw [hW]; simp
      have bW : Below wr.heap.size wr W := by rw [hW]; exact (Below.refl _ wr).alloc (Nat.le_refl _) _
      have mlt : w.heap.size + 1 < wr.heap.size := own.lt
      have cN : W.cell? ⟨wr.heap.size, 0, none⟩ = some (.int .i64 z) := by rw [hW]; exact SAt.new wr [.int .i64 z, .int .i64 lo, .int .i64 hi2, .int .i64 cnt] 54 0 _ rfl
      have b2 : Below w.heap.size w w2 := (bw.trans (bW.mono bw.size)).grown gr (Nat.le_trans bw.size bW.size) (fun j hj => by cases hj; omega)
      have S2 : SAt w2 w.heap.size [.int .i64 mw, .int .i64 mch, .int .i64 mmd, .int .i64 mseq, .int .i64 mnx, .int .i64 mjn, .slice (some ⟨g, off, none⟩) rs.length c] := fun j v hv => gr.cell (cell_lat bW (S1 j v hv)) (by simp)
      have c4 := S2 4 _ rfl
      have cN2 : w2.cell? ⟨wr.heap.size, 0, none⟩ = some (.int .i64 z) := gr.cell cN (by simp; omega)
      have hW' : wr.alloc (.cells #[.int .i64 z, .int .i64 lo, .int .i64 hi2, .int .i64 cnt] 54) = W := hW.symm
      by_cases hin : z ∈ tk
      · obtain rfl : k = 1 := by rw [hk, if_pos hin]
        have HV : Hid (r = false) := by
          have := HS.out
          rw [decide_eq_false (fun h => h.1 hin), Bool.false_and] at this
          exact this.symm
        rw [show (1 : Int) + 1 = 2 from rfl] at r2 r3
        clear HR HM HS own S1 HL HW hin hk hru hra own2 S2 gr bW hW
        go_wp2
        go_ret
        exact ⟨ret_bool HV.out.symm, b2⟩
      · obtain rfl : k = 0 := by rw [hk, if_neg hin]
        rw [show (0 : Int) + 1 = 1 from rfl] at r2 r3 own2
        have HM2 := Hid.mk (HM.out.put own.isMap hz hin)
        by_cases hok : 1 ≤ z ∧ z ≤ mnx - 1
        · have HS2 : Hid (numd mnx (z :: tk) (rs.drop (i + 1)) = r) := by
            have := HS.out
            rw [decide_eq_true ⟨hin, hok⟩, Bool.true_and] at this
            exact this
          have hB : decide (1 ≤ z ∧ z ≤ mnx - 1) = true := decide_eq_true hok
          clear HR HM HS own S1 HW hin hk hru hra gr bW hW
          go_wp2_with (go_at_call 55; refine (within_any _ _ _ _).mono ?_; rintro e w' ⟨rfl, rfl⟩; rw [hB])
          exact ⟨⟨i + 1, z :: tk, _, n + 1, rfl, hlt, own2, HM2, by omega, HS2, S2, b2⟩, by simp only [intOf]; omega⟩
        · have HV : Hid (r = false) := by
            have := HS.out
            rw [decide_eq_false (fun h => hok h.2), Bool.false_and] at this
            exact this.symm
          have hB : decide (1 ≤ z ∧ z ≤ mnx - 1) = false := decide_eq_false hok
          clear HR HM HM2 HS own S1 HL HW hin hk hru hra own2 S2 gr bW hW
          go_wp2_with (go_at_call 55; refine (within_any _ _ _ _).mono ?_; rintro e w' ⟨rfl, rfl⟩; rw [hB])
          go_ret
          exact ⟨ret_bool HV.out.symm, b2⟩
    · have e : i = rs.length := by omega
      subst e
      have HV : Hid (r = true) := by
        have := HR.out
        rw [List.drop_eq_nil_of_le (Nat.le_refl _)] at this
        exact this.symm
      clear HR HM own S1 HL HW
      go_wp2
      go_ret
      exact ⟨ret_bool HV.out.symm, bw⟩
end Go.Proofs.YtkoannkecojhmaaGreatDoor
