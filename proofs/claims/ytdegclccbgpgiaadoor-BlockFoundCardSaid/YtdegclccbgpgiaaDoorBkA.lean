/-
  DERIVED. BOrd, BEa, BEn, BHead, BFile, BReadF, BRangeN, BAll0, BAll, BOpenF, as one text.
-/
import Derived.Test.YtdegclccbgpgiaaDoorBCheck
import Derived.Test.YtdegclccbgpgiaaDoorBRd2
import Derived.Test.YtdegclccbgpgiaaDoorBRd0
import Derived.Test.YtdegclccbgpgiaaDoorBStay
import Derived.Shelf.RegionOpenPlain
import Derived.Test.YtdegclccbgpgiaaDoorBPack0
import Derived.Test.YtdegclccbgpgiaaDoorBRd1
import Derived.Test.YtdegclccbgpgiaaDoorBBytes
import Derived.Test.YtdegclccbgpgiaaDoorBBuildF
import Derived.Deep.RegionHeldLaw
import Derived.Deep.RegionHeld
import Derived.Test.YtdegclccbgpgiaaDoorBRange
import Derived.Test.YtdegclccbgpgiaaDoorHeldL
set_option linter.unusedVariables false
set_option linter.unusedSimpArgs false
namespace Go.Proofs.YtdegclccbgpgiaaDoor
open Go.RowKit Go.Proofs.SealMath
theorem cmpB_rev : ∀ a b : List UInt8, Lib.compareBytes b a = - Lib.compareBytes a b
  | [], [] => by simp [Lib.compareBytes]
  | [], _ :: _ => by simp [Lib.compareBytes]
  | _ :: _, [] => by simp [Lib.compareBytes]
  | a :: x, b :: y => by
    unfold Lib.compareBytes
    by_cases h1 : a < b
    · have : ¬ b < a := UInt8.not_lt.2 (UInt8.le_of_lt h1)
      simp [h1, this]
    · by_cases h2 : b < a
      · simp [h1, h2]
      · simp [h1, h2, cmpB_rev x y]
theorem cmpB_tr : ∀ a b c : List UInt8, Lib.compareBytes a b ≤ 0 → Lib.compareBytes b c ≤ 0 → Lib.compareBytes a c ≤ 0 ∧ (Lib.compareBytes a c = 0 → Lib.compareBytes a b = 0 ∧ Lib.compareBytes b c = 0)
  | [], [], [] => by simp [Lib.compareBytes]
  | [], [], _ :: _ => by simp [Lib.compareBytes]
  | [], _ :: _, [] => by simp [Lib.compareBytes]
  | [], _ :: _, _ :: _ => by simp [Lib.compareBytes]
  | _ :: _, [], [] => by simp [Lib.compareBytes]
  | _ :: _, [], _ :: _ => by simp [Lib.compareBytes]
  | _ :: _, _ :: _, [] => by simp [Lib.compareBytes]
  | a :: x, b :: y, c :: z => by
    unfold Lib.compareBytes
    intro h1 h2
    by_cases p1 : a < b
    · by_cases q1 : b < c
      · have : a < c := UInt8.lt_trans p1 q1
        simp [this]
      · by_cases q2 : c < b
        · simp [q1, q2] at h2
        · have e : b = c := UInt8.le_antisymm (UInt8.not_lt.1 q2) (UInt8.not_lt.1 q1)
          subst e
          simp [p1]
    · by_cases p2 : b < a
      · simp [p1, p2] at h1
      · have e : a = b := UInt8.le_antisymm (UInt8.not_lt.1 p2) (UInt8.not_lt.1 p1)
        subst e
        simp [p1] at h1
        by_cases q1 : a < c
        · simp [q1]
        · by_cases q2 : c < a
          · simp [q1, q2] at h2
          · have e : a = c := UInt8.le_antisymm (UInt8.not_lt.1 q2) (UInt8.not_lt.1 q1)
            subst e
            simp [q1] at h2
            have := cmpB_tr x y z h1 h2
            simpa [p1] using this
theorem cmpB_tri (a b : List UInt8) : Lib.compareBytes a b < 0 ∨ Lib.compareBytes a b = 0 ∨ 0 < Lib.compareBytes a b := by omega
theorem cpE_rev (a b : En) : cpE b a = - cpE a b := by
  unfold cpE
  have hb := cmpB_rev a.c.data.toList b.c.data.toList
  have hi : ∀ x y : Int, Lib.compareInt y x = - Lib.compareInt x y := fun x y => by
    unfold Lib.compareInt
    split <;> split <;> first | omega | (split <;> omega)
  by_cases h1 : a.v = b.v
  · rw [if_pos h1, if_pos h1.symm, hb]
    by_cases h2 : Lib.compareBytes a.c.data.toList b.c.data.toList = 0
    · rw [if_pos h2, if_pos (by omega), hi]
    · rw [if_neg h2, if_neg (by omega)]
  · rw [if_neg h1, if_neg (fun h => h1 h.symm), hi]
/-- Not above, and not above: not above; and at one place only if all are. -/
theorem cpE_tr (a b c : En) (h1 : cpE a b ≤ 0) (h2 : cpE b c ≤ 0) : cpE a c ≤ 0 ∧ (cpE a c = 0 → cpE a b = 0 ∧ cpE b c = 0) := by
  have tr := cmpB_tr a.c.data.toList b.c.data.toList c.c.data.toList
  have z1 := cmp_zero a.c.data.toList b.c.data.toList
  have z2 := cmp_zero b.c.data.toList c.c.data.toList
  have z3 := cmp_zero a.c.data.toList c.c.data.toList
  have i1 := cmpI a.v b.v
  have i2 := cmpI b.v c.v
  have i3 := cmpI a.v c.v
  have j1 := cmpI a.i b.i
  have j2 := cmpI b.i c.i
  have j3 := cmpI a.i c.i
  unfold cpE at h1 h2 ⊢
  by_cases p1 : a.v = b.v
  · by_cases p2 : b.v = c.v
    · rw [if_pos p1] at h1
      rw [if_pos p2] at h2
      rw [if_pos p1, if_pos p2, if_pos (p1.trans p2)]
      by_cases q1 : Lib.compareBytes a.c.data.toList b.c.data.toList = 0
      · by_cases q2 : Lib.compareBytes b.c.data.toList c.c.data.toList = 0
        · rw [if_pos q1] at h1
          rw [if_pos q2] at h2
          rw [if_pos q1, if_pos q2, if_pos (z3.2 ((z1.1 q1).trans (z2.1 q2)))]
          omega
        · rw [if_neg q2] at h2
          rw [if_pos q1] at h1
          have q3 : Lib.compareBytes a.c.data.toList c.c.data.toList ≠ 0 := fun e => q2 ((tr (by omega) h2).2 e).2
          rw [if_neg q3]
          have := (tr (by omega) h2).1
          exact ⟨this, fun e => absurd e q3⟩
      · rw [if_neg q1] at h1
        have h2' : Lib.compareBytes b.c.data.toList c.c.data.toList ≤ 0 := by
          by_cases q2 : Lib.compareBytes b.c.data.toList c.c.data.toList = 0
          · omega
          · rw [if_neg q2] at h2; exact h2
        have q3 : Lib.compareBytes a.c.data.toList c.c.data.toList ≠ 0 := fun e => q1 ((tr h1 h2').2 e).1
        rw [if_neg q3]
        exact ⟨(tr h1 h2').1, fun e => absurd e q3⟩
    · rw [if_neg p2] at h2
      rw [if_neg (fun e => p2 (p1.symm.trans e))]
      have : a.v < c.v := by have := i2; omega
      exact ⟨by omega, fun e => by omega⟩
  · rw [if_neg p1] at h1
    have hlt : a.v < b.v := by omega
    have hle : b.v ≤ c.v := by
      by_cases p2 : b.v = c.v
      · omega
      · rw [if_neg p2] at h2; omega
    rw [if_neg (show ¬ a.v = c.v by omega)]
    exact ⟨by omega, fun e => by omega⟩
/-- Entries that rise. -/
def Up (l : List En) : Prop := l.Pairwise fun a b => cpE a b < 0
theorem cpE_lt {a b c : En} (h1 : cpE a b < 0) (h2 : cpE b c < 0) : cpE a c < 0 := by
  have := cpE_tr a b c (by omega) (by omega)
  omega
theorem cpE_lt_le {a b c : En} (h1 : cpE a b < 0) (h2 : cpE b c ≤ 0) : cpE a c < 0 := by
  have := cpE_tr a b c (by omega) h2
  omega
theorem lsE_up {h : Hd} : ∀ (l : List En) (p : Option En), lsE h p l = 0 → Up l ∧ ∀ q, p = some q → ∀ e ∈ l, cpE q e < 0
  | [], p, _ => ⟨List.Pairwise.nil, fun _ _ e he => by cases he⟩
  | x :: l, p, h0 => by
    rw [lsE] at h0
    split at h0
    · split at h0
      · rename_i hs
        obtain ⟨u1, u2⟩ := lsE_up l (some x) h0
        have hx := u2 x rfl
        refine ⟨List.pairwise_cons.2 ⟨hx, u1⟩, fun q hq e he => ?_⟩
        subst hq
        have hqx : cpE q x < 0 := (cpE_ls q x).2 hs
        rcases List.mem_cons.1 he with rfl | he
        · exact hqx
        · exact cpE_lt hqx (hx e he)
      · simp at h0
    · rename_i hx
      exact absurd h0 hx
theorem bdE_up {h : Hd} {l : List En} (e : bdE h l = 0) : Up l := (lsE_up l none (bdE_ok e).2.2.1).1
/-- How many of a list do not stand behind a place. -/
def rF (ix : List En) (p : En) : Nat := (ix.takeWhile fun e => decide (¬ 0 < cpE e p)).length
theorem rF_le (ix : List En) (p : En) : rF ix p ≤ ix.length := (List.takeWhile_sublist _).length_le
theorem Up.get {l : List En} (h : Up l) {i j : Nat} (hi : i < l.length) (hj : j < l.length) (hij : i < j) : cpE l[i] l[j] < 0 := List.pairwise_iff_getElem.1 h i j hi hj hij
/-- It is where it turns. -/
theorem rF_at {ix : List En} (h : Up ix) (p : En) (r : Nat) (hr : r ≤ ix.length) (h1 : ∀ (hh : r - 1 < ix.length), 0 < r → ¬ 0 < cpE ix[r - 1] p) (h2 : ∀ (hh : r < ix.length), 0 < cpE ix[r] p) : rF ix p = r := by
  have hlow : ∀ i (hi : i < ix.length), i < r → ¬ 0 < cpE ix[i] p := fun i hi hir h0 => by
    by_cases e : i = r - 1
    · subst e; exact h1 hi (by omega) h0
    · have a := h.get hi (show r - 1 < ix.length by omega) (by omega)
      have b := h1 (by omega) (by omega)
      have := cpE_lt_le a (show cpE ix[r - 1] p ≤ 0 by omega)
      omega
  unfold rF
  have key : ∀ (l : List En) (k : Nat), k ≤ l.length → (∀ i (hi : i < l.length), i < k → ¬ 0 < cpE l[i] p) → (∀ (hh : k < l.length), 0 < cpE l[k] p) → (l.takeWhile fun e => decide (¬ 0 < cpE e p)).length = k := by
    intro l
    induction l with
    | nil => intro k hk _ _; simp at hk ⊢; omega
    | cons x l ih =>
      intro k hk a b
      cases k with
      | zero =>
        have := b (by simp)
        simp at this
        rw [List.takeWhile_cons]
        simp [this]
      | succ k =>
        have := a 0 (by simp) (by omega)
        simp at this
        rw [List.takeWhile_cons]
        have h3 := ih k (by simpa using hk) (fun i hi hik => by
          have := a (i + 1) (by simpa using hi) (by omega)
          simpa using this) (fun hh => by
          have := b (by simpa using hh)
          simpa using this)
        have e1 : decide (¬ 0 < cpE x p) = true := by simp; omega
        rw [if_pos e1, List.length_cons, h3]
  exact key ix r hr (fun i hi hir => hlow i hi hir) h2
end Go.Proofs.YtdegclccbgpgiaaDoor
set_option linter.unusedVariables false
set_option linter.unusedSimpArgs false
namespace Go.Proofs.YtdegclccbgpgiaaDoor
open Go.RowKit Go.Proofs.SealMath
theorem fix_four (b : ByteArray) (a : Nat) (w : World) (hb : b.size < 4611686018427387904) (h : a + 4 ≤ b.size) : Calls Tryd.prog 56 #[.string b, .int .i64 a, .int .i64 4] w fun r w' => r = .returned (.tuple #[.int .u64 (numL (sub b a 4) : Nat), .int .i64 0]) ∧ w' = w := by
  have hc := fix_any b a 4 w hb
  have hE : fxE b a 4 = 0 := fxE_ok (by omega) (by omega) (by omega)
  have hV : fxV b a 4 = numL (sub b a 4) := by unfold fxV; rw [if_pos hE]; simp
  rw [hE, hV] at hc
  exact hc
theorem fix_short (b : ByteArray) (a : Nat) (w : World) (hb : b.size < 4611686018427387904) (ha : a ≤ b.size) (h : ¬ a + 4 ≤ b.size) : Calls Tryd.prog 56 #[.string b, .int .i64 a, .int .i64 4] w fun r w' => r = .returned (.tuple #[.int .u64 0, .int .i64 31]) ∧ w' = w := by
  have hc := fix_any b a 4 w hb
  have hE : fxE b a 4 = 31 := fxE_31 (by omega) (by omega) (by omega)
  have hV : fxV b a 4 = 0 := by unfold fxV; rw [if_neg (by rw [hE]; decide)]
  rw [hE, hV] at hc
  exact hc
theorem var_read (b : ByteArray) (p : Nat) (w : World) (hb : b.size < 4611686018427387904) (v q : Nat) (e : Int) (h : vA b p = (v, q, e)) :
    Calls Tryd.prog 57 #[.string b, .int .i64 p] w fun r w' => r = .returned (.tuple #[.int .u64 v, .int .i64 q, .int .i64 e]) ∧ w' = w := by
  have := var_any b p w hb
  rw [h] at this
  exact this
/-- What entryAt answers: an entry, the place behind it. -/
def eE (r : Option (En × Nat)) : En := (r.map (·.1)).getD e0
def eQ (r : Option (En × Nat)) : Nat := (r.map (·.2)).getD 0
abbrev eaV (r : Option (En × Nat)) : Value := .tuple #[.agg #[.int .i64 (eE r).v, .string (eE r).c, .int .i64 (eE r).i, .int .i64 (eE r).s, .bool (eE r).d], .int .i64 (eQ r), .bool r.isSome]
theorem sub_ext (b : ByteArray) (a n : Nat) : (⟨(sub b a n).toArray⟩ : ByteArray) = b.extract a (a + n) := by
  apply ba_ext
  rw [ByteArray.data_extract, Array.toList_extract]
  simp [List.extract, sub]
theorem one_eq (b : ByteArray) (q : Nat) (h : q < b.size) : ((b.extract q (q + 1)).toList == [1]) = (sub b q 1 == [1]) := by
  rw [← sub_ext, toL]
theorem none_fin (w : World) (a : Nat) (b : ByteArray) (cb : Nat) (h : eaA b a cb = none) (r : Value) (hr : r = eaV none) (w' : World) (hb : Below w.heap.size w w') : Ending.returned r = .returned (eaV (eaA b a cb)) ∧ Below w.heap.size w w' := by rw [h, hr]; exact ⟨rfl, hb⟩
set_option maxHeartbeats 4000000 in
set_option maxRecDepth 100000 in
theorem entryAt_any (b : ByteArray) (a cb : Nat) (w : World) (hb : b.size < 1152921504606846976) (ha : a ≤ b.size) (hcb : cb ≤ 128) :
    Calls Tryd.prog 27 #[.string b, .int .i64 a, .int .i64 cb] w fun r w' => r = .returned (eaV (eaA b a cb)) ∧ Below w.heap.size w w' := by
  have hn : Below w.heap.size w (w.alloc (.cells #[.int .i64 0, .string ⟨#[]⟩, .int .i64 0, .int .i64 0, .bool false] 40)) := (Below.refl _ w).alloc (Nat.le_refl _) _
  have hb' : b.size < 4611686018427387904 := by omega
  by_cases h1 : a + 4 ≤ b.size
  · have c1 := fun W => fix_four b a W hb' h1
    have hv := numL_sub_lt b a 4 4 h1 (by omega)
    obtain ⟨⟨i, q, e1⟩, hi⟩ : ∃ r, vA b ((a + 4 + cb : Nat) : Int) = r := ⟨_, rfl⟩
    have c2 := fun W => var_read b (a + 4 + cb) W hb' i q e1 hi
    have ki := vA_at b (a + 4 + cb)
    rw [hi] at ki
    dsimp only at ki
    by_cases he1 : e1 = 0
    · subst he1
      obtain ⟨ki1, ki2, ki3⟩ := ki rfl
      obtain ⟨⟨s, q2, e2⟩, hs⟩ : ∃ r, vA b ((q : Nat) : Int) = r := ⟨_, rfl⟩
      have c3 := fun W => var_read b q W hb' s q2 e2 hs
      have ks := vA_at b q
      rw [hs] at ks
      dsimp only at ks
      by_cases he2 : e2 = 0
      · subst he2
        obtain ⟨ks1, ks2, ks3⟩ := ks rfl
        by_cases hq : q2 = b.size
        · have hE : eaA b a cb = none := by
            unfold eaA
            simp only [hi, hs]
            simp [h1, hq]
          have HE := Hid.mk hE
          subst hq
          clear hE hi hs ki ks hv
          generalize numL (sub b a 4) = V at c1
          go_enter Tryd.func27, Tryd.ntmps27
          go_wp2_with first
            | (go_at_call 56; refine (c1 _).mono ?_; rintro e w' ⟨rfl, rfl⟩; clear c1)
            | (go_at_call 57; refine (c2 _).mono ?_; rintro e w' ⟨rfl, rfl⟩; clear c2)
            | (go_at_call 57; refine (c3 _).mono ?_; rintro e w' ⟨rfl, rfl⟩; clear c3)
          refine bodyPost_ret (v := eaV none) (by simp [results, Tryd.results27, go_sem, eE, eQ, e0]; try rfl) rfl ?_
          exact none_fin w a b cb HE.out _ rfl _ hn
        · have hq2 : q2 < b.size := by omega
          have hE : eaA b a cb = some (⟨(numL (sub b a 4) : Nat), b.extract (a + 4) (a + 4 + cb), w64 i, w64 s, (b.extract q2 (q2 + 1)).toList == [1]⟩, q2 + 1) := by
            rw [← sub_ext, one_eq b q2 hq2]
            unfold eaA
            simp only [hi, hs]
            simp [h1, hq]
          have HE := Hid.mk hE
          have wi := w64_wrap i ki1
          have ws := w64_wrap s ks1
          have hqn : ((q2 : Int) == (b.size : Int)) = false := by apply beq_false_of_ne; omega
          clear hE hi hs ki ks hq
          generalize numL (sub b a 4) = V at c1 hv HE
          have hv2 : V < 4294967296 := by simpa using hv
          have wv : IntKind.i64.wrap (V : Int) = V := by rw [IntKind.wrap_i64]; omega
          generalize w64 i = I at *
          generalize w64 s = S at *
          generalize hC : b.extract (a + 4) (a + 4 + cb) = C at *
          generalize hD : (b.extract q2 (q2 + 1)).toList = D at *
          have f1 : ((a : Int) + 4) ≤ (a : Int) + 4 + cb := by omega
          have f2 : (a : Int) + 4 + cb ≤ (b.size : Int) := by omega
          have f3 : (q2 : Int) + 1 ≤ (b.size : Int) := by omega
          go_enter Tryd.func27, Tryd.ntmps27
          go_wp2_with first
            | (go_at_call 56; refine (c1 _).mono ?_; rintro e w' ⟨rfl, rfl⟩; clear c1)
            | (go_at_call 57; refine (c2 _).mono ?_; rintro e w' ⟨rfl, rfl⟩; clear c2)
            | (go_at_call 57; refine (c3 _).mono ?_; rintro e w' ⟨rfl, rfl⟩; clear c3)
          go_region
          go_wp2
          refine bodyPost_ret (v := .tuple #[.agg #[.int .i64 V, .string C, .int .i64 I, .int .i64 S, .bool (D == [1])], .int .i64 ((q2 + 1 : Nat) : Int), .bool true]) (by simp [results, Tryd.results27, go_sem]; try rfl) rfl ?_
          rw [HE.out]
          exact ⟨rfl, ((Below.refl _ w).alloc (Nat.le_refl _) _).drew⟩
      · have hE : eaA b a cb = none := by
          unfold eaA
          simp only [hi, hs]
          simp [h1, he2]
        have HE := Hid.mk hE
        have hne : (e2 != 0) = true := by simpa using he2
        clear hE hi hs ki ks hv he2
        generalize numL (sub b a 4) = V at c1
        go_enter Tryd.func27, Tryd.ntmps27
        go_wp2_with first
          | (go_at_call 56; refine (c1 _).mono ?_; rintro e w' ⟨rfl, rfl⟩; clear c1)
          | (go_at_call 57; refine (c2 _).mono ?_; rintro e w' ⟨rfl, rfl⟩; clear c2)
          | (go_at_call 57; refine (c3 _).mono ?_; rintro e w' ⟨rfl, rfl⟩; clear c3)
        refine bodyPost_ret (v := eaV none) (by simp [results, Tryd.results27, go_sem, eE, eQ, e0]; try rfl) rfl ?_
        exact none_fin w a b cb HE.out _ rfl _ hn
    · have hE : eaA b a cb = none := by
        unfold eaA
        simp only [hi]
        simp [h1, he1]
      have HE := Hid.mk hE
      have hne : (e1 != 0) = true := by simpa using he1
      clear hE hi ki hv he1
      generalize numL (sub b a 4) = V at c1
      go_enter Tryd.func27, Tryd.ntmps27
      go_wp2_with first
        | (go_at_call 56; refine (c1 _).mono ?_; rintro e w' ⟨rfl, rfl⟩; clear c1)
        | (go_at_call 57; refine (c2 _).mono ?_; rintro e w' ⟨rfl, rfl⟩; clear c2)
      refine bodyPost_ret (v := eaV none) (by simp [results, Tryd.results27, go_sem, eE, eQ, e0]; try rfl) rfl ?_
      exact none_fin w a b cb HE.out _ rfl _ hn
  · have hE : eaA b a cb = none := by unfold eaA; rw [if_neg h1]
    have HE := Hid.mk hE
    have c1 := fun W => fix_short b a W hb' ha h1
    clear hE h1
    go_enter Tryd.func27, Tryd.ntmps27
    go_wp2_with (go_at_call 56; refine (c1 _).mono ?_; rintro e w' ⟨rfl, rfl⟩; clear c1)
    refine bodyPost_ret (v := eaV none) (by simp [results, Tryd.results27, go_sem, eE, eQ, e0]; try rfl) rfl ?_
    exact none_fin w a b cb HE.out _ rfl _ hn
end Go.Proofs.YtdegclccbgpgiaaDoor
set_option linter.unusedVariables false
set_option linter.unusedSimpArgs false
namespace Go.Proofs.YtdegclccbgpgiaaDoor
open Go.RowKit Go.Shelf Go.Proofs.SealMath
attribute [local go_sem] Oper.semAt_some
def mE (n : Nat) (av kv : Value) : Nat := match kv with
  | .bool true => n + 2 - (intOf av).toNat
  | _ => 0
/-- An entry's cells. -/
abbrev enV (e : En) : Array Value := #[.int .i64 e.v, .string e.c, .int .i64 e.i, .int .i64 e.s, .bool e.d]
abbrev encE (e : En) : Array Value := #[.agg (enV e)]
theorem stay1 (W V : World) (g o : Nat) (u : Value) (h : Stay (fun k => k = g) W V) : Stay (fun k => k = g) W (V.setCell ⟨g, o, none⟩ u) := Stay.setCell (F := fun k => k = g) h (p := ⟨g, o, none⟩) (fun _ => rfl) u
def put5 (W : World) (a : Nat) (e : En) : World := ((((W.setCell ⟨a, 0, none⟩ (.int .i64 e.v)).setCell ⟨a, 1, none⟩ (.string e.c)).setCell ⟨a, 2, none⟩ (.int .i64 e.i)).setCell ⟨a, 3, none⟩ (.int .i64 e.s)).setCell ⟨a, 4, none⟩ (.bool e.d)
theorem put5_stay (W : World) (a : Nat) (e : En) : Stay (fun k => k = a) W (put5 W a e) := stay1 _ _ _ _ _ (stay1 _ _ _ _ _ (stay1 _ _ _ _ _ (stay1 _ _ _ _ _ (stay1 _ _ _ _ _ (.refl _ _)))))
theorem put5_at {W : World} {a : Nat} {x : En} (h : W.heap[a]? = some (.cells (enV x) 40 (0, 0))) (e : En) : (put5 W a e).heap[a]? = some (.cells (enV e) 40 (0, 0)) := by
  unfold put5
  have h1 : (W.setCell ⟨a, 0, none⟩ (.int .i64 e.v)).heap[a]? = _ := heap_setCell_same W a 0 _ _ _ h
  have h2 : ((W.setCell ⟨a, 0, none⟩ (.int .i64 e.v)).setCell ⟨a, 1, none⟩ (.string e.c)).heap[a]? = _ := heap_setCell_same _ a 1 _ _ _ h1
  have h3 : (((W.setCell ⟨a, 0, none⟩ (.int .i64 e.v)).setCell ⟨a, 1, none⟩ (.string e.c)).setCell ⟨a, 2, none⟩ (.int .i64 e.i)).heap[a]? = _ := heap_setCell_same _ a 2 _ _ _ h2
  have h4 : ((((W.setCell ⟨a, 0, none⟩ (.int .i64 e.v)).setCell ⟨a, 1, none⟩ (.string e.c)).setCell ⟨a, 2, none⟩ (.int .i64 e.i)).setCell ⟨a, 3, none⟩ (.int .i64 e.s)).heap[a]? = _ := heap_setCell_same _ a 3 _ _ _ h3
  have h5 : (((((W.setCell ⟨a, 0, none⟩ (.int .i64 e.v)).setCell ⟨a, 1, none⟩ (.string e.c)).setCell ⟨a, 2, none⟩ (.int .i64 e.i)).setCell ⟨a, 3, none⟩ (.int .i64 e.s)).setCell ⟨a, 4, none⟩ (.bool e.d)).heap[a]? = _ := heap_setCell_same _ a 4 _ _ _ h4
  exact h5
theorem en5 {W : World} {r : Nat} {e : En} (h : W.heap[r]? = some (.cells (enV e) 40 (0, 0))) : W.cell? ⟨r, 0, none⟩ = some (.int .i64 e.v) ∧ W.cell? ⟨r, 1, none⟩ = some (.string e.c) ∧ W.cell? ⟨r, 2, none⟩ = some (.int .i64 e.i) ∧ W.cell? ⟨r, 3, none⟩ = some (.int .i64 e.s) ∧ W.cell? ⟨r, 4, none⟩ = some (.bool e.d) :=
  ⟨by rw [cell_of_row _ _ 0 _ _ (0, 0) h]; rfl, by rw [cell_of_row _ _ 1 _ _ (0, 0) h]; rfl, by rw [cell_of_row _ _ 2 _ _ (0, 0) h]; rfl, by rw [cell_of_row _ _ 3 _ _ (0, 0) h]; rfl, by rw [cell_of_row _ _ 4 _ _ (0, 0) h]; rfl⟩
theorem boxc {w A : World} {b t : Nat} {v : Value} (h : w.heap[b]? = some (.cells #[v] t (0, 0))) (hA : A.heap[b]? = w.heap[b]?) : A.cell? ⟨b, 0, none⟩ = some v := by simp [World.cell?, hA, h]
/-- What stands while the entries are gone through. -/
structure EI (b : ByteArray) (cb : Nat) (K : Nat → Prop) (w : World) (J : List En → Option Nat → World → Prop) (r : Nat) (pre : List En) (a : Nat) (wr : World) : Prop where
  le : a ≤ b.size
  eq : pre ++ ents b a cb = ents b 0 cb
  box : wr.heap[r]? = some (.cells (enV (eE (eaA b a cb))) 40 (0, 0))
  j : J pre (some r) wr
  kept : ∀ k, K k → wr.heap[k]? = w.heap[k]?
  new : w.heap.size ≤ r
set_option maxRecDepth 100000 in
set_option maxHeartbeats 1000000 in
theorem entries_st (b : ByteArray) (cb Bb Bc n : Nat) (K : Nat → Prop) (w : World)
    (hb1 : w.heap[Bb]? = some (.cells #[.string b] 9 (0, 0))) (hc1 : w.heap[Bc]? = some (.cells #[.int .i64 cb] 3 (0, 0)))
    (hK' : K Bb ∧ K Bc) (hKc : ∀ k, K k → ∃ c t m, w.heap[k]? = some (.cells c t m)) (hbs : b.size < 1152921504606846976) (hcb : cb ≤ 128) :
    SeqSt Fence.wide n Tryd.prog 58 #[Pt Bb, Pt Bc] encE (fun p x => p ++ [x] <+: ents b 0 cb) TrB (KpB K) (fun p => p = ents b 0 cb) (fun _ => True) none w := fun lp J Jx W hW hJ hJx hY h0 => by
  have hKl : ∀ k, K k → k < w.heap.size := fun k hk => by obtain ⟨c, t, m, h⟩ := hKc k hk; exact (Array.getElem?_eq_some_iff.1 h).1
  have hkW : ∀ k, K k → W.heap[k]? = w.heap[k]? := fun k hk => hW.block k (hKl k hk)
  have hX := boxc hb1 (hkW Bb hK'.1)
  have hC := boxc hc1 (hkW Bc hK'.2)
  have hbl : Bb < W.heap.size := World.block_lt_of_cell? W _ hX
  have hbc : Bc < W.heap.size := World.block_lt_of_cell? W _ hC
  have hea := fun a V ha => entryAt_any b a cb V hbs ha hcb
  refine callsIn_of_wp Tryd.func58 rfl trivial ?_ rfl
  simp only [Tryd.ntmps58, List.size_toArray, List.length_cons, List.length_nil, Nat.reduceAdd, Nat.reduceSub, Array.replicate_succ, Array.replicate_zero, List.push_toArray, List.append_toArray, List.nil_append, List.cons_append]
  gi_wp2_with fail
  refine ⟨trivial, fun h => (by cases h), (callsIn_wide.2 (hea 0 _ (Nat.zero_le _))).mono ?_⟩
  rintro r w1 ⟨rfl, b1⟩
  have bA : Below w1.heap.size w1 (w1.alloc (.cells (enV (eE (eaA b 0 cb))) 40)) := (Below.refl _ w1).alloc (Nat.le_refl _) _
  have bW : Below W.heap.size W (w1.alloc (.cells (enV (eE (eaA b 0 cb))) 40)) := chain b1 bA (Nat.le_refl _)
  have P0 : EI b cb K w J w1.heap.size [] 0 (w1.alloc (.cells (enV (eE (eaA b 0 cb))) 40)) :=
    { le := Nat.zero_le _, eq := rfl, box := heap_alloc_last w1 _
      j := hJ _ _ W _ _ h0 ⟨.below bW, fun k e => by (cases e), fun k e => by (cases e; exact .inr b1.size), fun k e => by (cases e; simp)⟩
      kept := fun k hk => (bW.block k (Nat.lt_of_lt_of_le (hKl k hk) hW.size)).trans (hkW k hk)
      new := Nat.le_trans hW.size b1.size }
  obtain ⟨rb, hrb⟩ : ∃ rb, rb = w1.heap.size := ⟨_, rfl⟩
  obtain ⟨V0, hV0⟩ : ∃ V0, V0 = w1.alloc (.cells (enV (eE (eaA b 0 cb))) 40) := ⟨_, rfl⟩
  rw [← hrb, ← hV0] at P0
  have HV0 := Hid.mk hV0
  clear hV0 bA bW hX hC hbl hbc b1
  gi_wp2
  rw [← hrb, ← HV0.out]
  clear hrb HV0
  gi_loopw [5, 6] (fun av kv wr => ∃ (pre : List En) (a : Nat), av = .int .i64 (eQ (eaA b a cb)) ∧ kv = .bool (eaA b a cb).isSome ∧ EI b cb K w J rb pre a wr) (fun av kv _ => mE b.size av kv)
  case atStart => exact ⟨[], 0, rfl, rfl, P0⟩
  case round =>
    obtain ⟨pre, a, rfl, rfl, hP⟩ := hrel
    clear P0
    cases hE : eaA b a cb with
    | none =>
      have heq := hP.eq
      rw [ents_none hE, List.append_nil] at heq
      have hj := hP.j
      clear hP hE
      have HQ := Hid.mk (And.intro heq hj)
      clear heq hj
      gi_wp2_with fail
      refine ⟨fun f h => (by cases h), ?_⟩
      gi_wp2_with fail
      go_end0
      exact ⟨⟨_, rfl⟩, .inl ⟨pre, some rb, HQ.out.1, HQ.out.2⟩⟩
    | some x =>
      obtain ⟨e, q⟩ := x
      have heq := hP.eq
      rw [ents_some hE] at heq
      have hbox := hP.box
      rw [hE] at hbox
      have hqa := eaA_some hE
      obtain ⟨fn, tmps, assign, body, hy, hRd⟩ := hY pre e (some rb) wr hP.j ⟨ents b q cb, by rw [← heq]; simp⟩
      simp only [encE, enV] at hy
      obtain ⟨y0, y1, y2, y3, y4⟩ := en5 (e := e) hbox
      have HP := Hid.mk hP
      have HQ := Hid.mk heq
      have HE := Hid.mk hE
      clear hP heq hE hbox
      gi_wp2_with fail
      refine ⟨fun h => (by cases h), hRd.mono ?_⟩
      clear hy hRd y0 y1 y2 y3 y4
      rintro rr W3 (⟨rfl, hJ3, hk3⟩ | ⟨rfl, hJ3, hk3⟩)
      · have hbox := HP.out.box
        rw [HE.out] at hbox
        have hbox3 := hk3.2 rb _ _ _ (.inr rfl) hbox
        have kept3 : ∀ k, K k → W3.heap[k]? = w.heap[k]? := fun k hk => by
          obtain ⟨c, t, m, h⟩ := hKc k hk
          rw [h]
          exact hk3.2 k c t m (.inl hk) ((HP.out.kept k hk).trans h)
        have hX := boxc hb1 (kept3 Bb hK'.1)
        have hC := boxc hc1 (kept3 Bc hK'.2)
        have hq := hqa.2
        have hz3 : w.heap.size ≤ W3.heap.size := Nat.le_trans HP.out.new (Nat.le_of_lt (Array.getElem?_eq_some_iff.1 hbox3).1)
        have hE' := Hid.mk hbox3
        have hE2 := Hid.mk hJ3
        have hE3 := Hid.mk kept3
        clear hbox hbox3 hJ3 kept3 hk3
        gi_wp2_with fail
        refine ⟨trivial, fun h => (by cases h), (callsIn_wide.2 (hea q W3 hq)).mono ?_⟩
        rintro r4 W4 ⟨rfl, b4⟩
        have hbox4 : W4.heap[rb]? = _ := (b4.block rb (Array.getElem?_eq_some_iff.1 hE'.out).1).trans hE'.out
        obtain ⟨y0, y1, y2, y3, y4⟩ := en5 (e := e) hbox4
        have f0 : W4.frozen? ⟨rb, 0, none⟩ = false := frozen_of_row _ _ _ _ _ hbox4
        have f1 : W4.frozen? ⟨rb, 1, none⟩ = false := frozen_of_row _ _ _ _ _ hbox4
        have f2 : W4.frozen? ⟨rb, 2, none⟩ = false := frozen_of_row _ _ _ _ _ hbox4
        have f3 : W4.frozen? ⟨rb, 3, none⟩ = false := frozen_of_row _ _ _ _ _ hbox4
        have f4 : W4.frozen? ⟨rb, 4, none⟩ = false := frozen_of_row _ _ _ _ _ hbox4
        have HB4 := Hid.mk hbox4
        clear hbox4 hX hC
        gi_wp2
        have st4 : Stay (fun k => (some rb : Option Nat) = some k) W3 (put5 W4 rb (eE (eaA b q cb))) := (Stay.below b4).trans ((put5_stay W4 rb _).mono (fun k _ e => by rw [e]))
        have hrl := (Array.getElem?_eq_some_iff.1 hE'.out).1
        have hb5 := put5_at HB4.out (eE (eaA b q cb))
        refine ⟨⟨pre ++ [e], q, rfl, rfl, hq, by rw [List.append_assoc]; exact HQ.out, hb5, hJ _ _ W3 _ _ hE2.out ⟨st4, fun k h => by (cases h; exact ⟨_, _, _, hE'.out⟩), fun k h => .inl h, fun k h => by (cases h; exact (Array.getElem?_eq_some_iff.1 hb5).1)⟩, fun k hk => ?_, HP.out.new⟩, ?_⟩
        · have hkl := hKl k hk
          have : k ≠ rb := fun h => by have := HP.out.new; omega
          exact (st4.block k (by omega) (fun h => by cases h; exact this rfl)).trans (hE3.out k hk)
        · cases hE5 : eaA b q cb with
          | none => simp only [mE, Option.isSome, eQ, Option.map, Option.getD, intOf]; omega
          | some x =>
            obtain ⟨e5, q5⟩ := x
            have := eaA_some hE5
            simp only [mE, Option.isSome, eQ, Option.map, Option.getD, intOf]; omega
      · have HJ := Hid.mk hJ3
        clear hJ3 hk3
        gi_wp2_with fail
        go_end0
        exact ⟨⟨_, rfl⟩, .inr ⟨_, _, trivial, HJ.out⟩⟩
end Go.Proofs.YtdegclccbgpgiaaDoor
set_option linter.unusedVariables false
set_option linter.unusedSimpArgs false
namespace Go.Proofs.YtdegclccbgpgiaaDoor
open Go.RowKit Go.Proofs.SealMath
/-- Numbers that were read, and noughts behind them. -/
def nsC (l : List Nat) : List Value := (l ++ List.replicate (6 - l.length) 0).map fun x => .int .i64 (w64 x)
theorem nsC_set (l : List Nat) (v : Nat) (h : l.length < 6) : (nsC l).toArray.setIfInBounds l.length (.int .i64 (w64 v)) = (nsC (l ++ [v])).toArray := by
  unfold nsC
  rw [List.setIfInBounds_toArray]
  congr 1
  have e : 6 - l.length = (6 - (l ++ [v]).length) + 1 := by simp; omega
  rw [e, List.replicate_succ, List.map_append, List.map_cons, List.set_append_right _ _ (by simp)]
  simp
theorem nsC_len (l : List Nat) (h : l.length ≤ 6) : (nsC l).length = 6 := by simp [nsC]; omega
def hdM (o : Option (List Nat)) : Hd := match o with
  | some [a, c, d, e, f, g] => ⟨w64 a, w64 c, w64 d, w64 e, w64 f, w64 g⟩
  | _ => h0
theorem hdR_M (b : ByteArray) : hdR b = hdM (nsA b 6 0) := rfl
theorem six_of (l : List Nat) (h : l.length = 6) : ∃ a c d e f g, l = [a, c, d, e, f, g] := by
  match l, h with
  | [a, c, d, e, f, g], _ => exact ⟨a, c, d, e, f, g, rfl⟩
set_option maxHeartbeats 4000000 in
set_option maxRecDepth 100000 in
theorem readHead_any (b : ByteArray) (w : World) (hb : b.size < 4611686018427387904) :
    Calls Tryd.prog 55 #[.string b] w fun r w' => r = .returned (.agg (hdC (hdR b)).toArray) ∧ Below w.heap.size w w' := by
  obtain ⟨W0, hW0⟩ : ∃ W0, W0 = (w.alloc (.cells #[.int .i64 0, .int .i64 0, .int .i64 0, .int .i64 0, .int .i64 0, .int .i64 0] 23)).alloc (.cells #[.int .i64 0, .int .i64 0, .int .i64 0, .int .i64 0, .int .i64 0, .int .i64 0] 151) := ⟨_, rfl⟩
  have hA : W0.heap[w.heap.size + 1]? = some (.cells (nsC []).toArray 151 (0, 0)) := by
    have := heap_alloc_last (w.alloc (.cells #[.int .i64 0, .int .i64 0, .int .i64 0, .int .i64 0, .int .i64 0, .int .i64 0] 23)) (.cells #[.int .i64 0, .int .i64 0, .int .i64 0, .int .i64 0, .int .i64 0, .int .i64 0] 151)
    rw [World.size_alloc] at this
    rw [hW0, this]; rfl
  have bW0 : Below w.heap.size w W0 := by rw [hW0]; exact ((Below.refl _ w).alloc (Nat.le_refl _) _).alloc (by simp) _
  have hR : W0.heap[w.heap.size]? = some (.cells #[.int .i64 0, .int .i64 0, .int .i64 0, .int .i64 0, .int .i64 0, .int .i64 0] 23 (0, 0)) := by
    have h1 := heap_alloc_last w (.cells #[.int .i64 0, .int .i64 0, .int .i64 0, .int .i64 0, .int .i64 0, .int .i64 0] 23)
    have b2 : Below (w.alloc (.cells #[.int .i64 0, .int .i64 0, .int .i64 0, .int .i64 0, .int .i64 0, .int .i64 0] 23)).heap.size (w.alloc (.cells #[.int .i64 0, .int .i64 0, .int .i64 0, .int .i64 0, .int .i64 0, .int .i64 0] 23)) W0 := by rw [hW0]; exact (Below.refl _ _).alloc (Nat.le_refl _) _
    exact (b2.block _ (by simp)).trans h1
  have HW0 := Hid.mk hW0
  clear hW0
  rw [hdR_M]
  obtain ⟨G, hG⟩ : ∃ G, G = nsA b 6 0 := ⟨_, rfl⟩
  rw [← hG]
  go_enter Tryd.func55, Tryd.ntmps55
  go_wp2
  rw [← HW0.out]
  go_loopw [4, 9] (fun pv iv wr => ∃ (l : List Nat) (p : Nat), iv = .int .i64 l.length ∧ pv = .int .i64 p ∧ l.length ≤ 6 ∧ G = (nsA b (6 - l.length) p).map (l ++ ·) ∧ wr.heap[w.heap.size + 1]? = some (.cells (nsC l).toArray 151 (0, 0)) ∧ Stay (fun k => k = w.heap.size + 1) W0 wr) (fun _ iv _ => 6 - (intOf iv).toNat)
  case atStart => exact ⟨[], 0, rfl, rfl, Nat.zero_le _, by rw [hG]; simp, hA, Stay.refl _ _⟩
  case round =>
    obtain ⟨l, p, rfl, rfl, hl, hN, hC, hS⟩ := hrel
    clear hG
    have hRr : wr.heap[w.heap.size]? = _ := (hS.block w.heap.size (Array.getElem?_eq_some_iff.1 hR).1 (by omega)).trans hR
    have bwr : Below w.heap.size w wr := bW0.trans (hS.toBelow (fun k hk e => by omega) bW0.size)
    by_cases hlt : l.length < 6
    · obtain ⟨⟨v, q, e⟩, hv⟩ : ∃ r, vA b (p : Int) = r := ⟨_, rfl⟩
      have c1 := fun W => var_read b p W hb v q e hv
      have kv := vA_at b p
      rw [hv] at kv
      dsimp only at kv
      have e6 : 6 - l.length = (6 - (l.length + 1)) + 1 := by omega
      rw [e6, nsA, hv] at hN
      dsimp only at hN
      have hl6 : (l.length : Int) < 6 := by omega
      by_cases he : e = 0
      · subst he
        rw [if_pos rfl] at hN
        have wv := w64_wrap v (kv rfl).1
        have hcell : wr.cell? ⟨w.heap.size + 1, l.length, none⟩ = some ((nsC l)[l.length]'(by rw [nsC_len l hl]; exact hlt)) := by
          rw [cell_of_row _ _ l.length _ _ (0, 0) hC]
          simp [nsC_len l hl, hlt]
        have hfr : wr.frozen? ⟨w.heap.size + 1, l.length, none⟩ = false := frozen_of_row _ _ _ _ _ hC
        have hset := heap_setCell_same wr (w.heap.size + 1) l.length _ _ (.int .i64 (w64 v)) hC
        rw [nsC_set l v hlt] at hset
        have HH := Hid.mk (And.intro hN (And.intro hset (And.intro hS hRr)))
        clear hN hset hS hRr hC kv hv
        generalize w64 v = V at *
        go_wp2_with (go_at_call 57; refine (c1 _).mono ?_; rintro r w' ⟨rfl, rfl⟩; clear c1)
        obtain ⟨k1, k2, k3, k4⟩ := HH.out
        refine ⟨⟨l ++ [v], q, ival (by simp), rfl, by simp; omega, ?_, k2, Stay.setCell (F := fun k => k = w.heap.size + 1) k3 (p := ⟨w.heap.size + 1, l.length, none⟩) (fun _ => rfl) _⟩, by simp only [intOf]; simp; omega⟩
        rw [k1]
        rw [show 6 - (l ++ [v]).length = 6 - (l.length + 1) by simp]
        cases nsA b (6 - (l.length + 1)) q with
        | none => rfl
        | some m => simp
      · rw [if_neg he] at hN
        have hE : hdM G = h0 := by rw [hN]; rfl
        have hne : (e != 0) = true := by simpa using he
        have r0 : wr.cell? ⟨w.heap.size, 0, none⟩ = some (.int .i64 0) := by rw [cell_of_row _ _ 0 _ _ (0, 0) hRr]; rfl
        have r1 : wr.cell? ⟨w.heap.size, 1, none⟩ = some (.int .i64 0) := by rw [cell_of_row _ _ 1 _ _ (0, 0) hRr]; rfl
        have r2 : wr.cell? ⟨w.heap.size, 2, none⟩ = some (.int .i64 0) := by rw [cell_of_row _ _ 2 _ _ (0, 0) hRr]; rfl
        have r3 : wr.cell? ⟨w.heap.size, 3, none⟩ = some (.int .i64 0) := by rw [cell_of_row _ _ 3 _ _ (0, 0) hRr]; rfl
        have r4 : wr.cell? ⟨w.heap.size, 4, none⟩ = some (.int .i64 0) := by rw [cell_of_row _ _ 4 _ _ (0, 0) hRr]; rfl
        have r5 : wr.cell? ⟨w.heap.size, 5, none⟩ = some (.int .i64 0) := by rw [cell_of_row _ _ 5 _ _ (0, 0) hRr]; rfl
        have fz : ∀ j, wr.frozen? ⟨w.heap.size, j, none⟩ = false := fun j => frozen_of_row _ _ _ _ _ hRr
        have f0 := fz 0
        have f1 := fz 1
        have f2 := fz 2
        have f3 := fz 3
        have f4 := fz 4
        have f5 := fz 5
        have HE := Hid.mk (And.intro hE bwr)
        clear hE hN he hv kv hRr hS hC hA hR bW0 HW0 fz bwr
        go_wp2_with (go_at_call 57; refine (c1 _).mono ?_; rintro r w' ⟨rfl, rfl⟩; clear c1)
        refine bodyPost_ret (v := .agg (hdC h0).toArray) (by simp [results, Tryd.results55, go_sem, hdC, h0, r0, r1, r2, r3, r4, r5]; try rfl) rfl ?_
        rw [HE.out.1]
        exact ⟨rfl, (((((HE.out.2.setCell (p := ⟨w.heap.size, 0, none⟩) (Nat.le_refl _) _).setCell (p := ⟨w.heap.size, 1, none⟩) (Nat.le_refl _) _).setCell (p := ⟨w.heap.size, 2, none⟩) (Nat.le_refl _) _).setCell (p := ⟨w.heap.size, 3, none⟩) (Nat.le_refl _) _).setCell (p := ⟨w.heap.size, 4, none⟩) (Nat.le_refl _) _).setCell (p := ⟨w.heap.size, 5, none⟩) (Nat.le_refl _) _⟩
    · have hl6 : l.length = 6 := by omega
      obtain ⟨a, c, d, e, f, g, rfl⟩ := six_of l hl6
      have hE : hdM G = ⟨w64 a, w64 c, w64 d, w64 e, w64 f, w64 g⟩ := by rw [hN]; rfl
      have x0 : wr.cell? ⟨w.heap.size + 1, 0, none⟩ = some (.int .i64 (w64 a)) := by rw [cell_of_row _ _ 0 _ _ (0, 0) hC]; rfl
      have x1 : wr.cell? ⟨w.heap.size + 1, 1, none⟩ = some (.int .i64 (w64 c)) := by rw [cell_of_row _ _ 1 _ _ (0, 0) hC]; rfl
      have x2 : wr.cell? ⟨w.heap.size + 1, 2, none⟩ = some (.int .i64 (w64 d)) := by rw [cell_of_row _ _ 2 _ _ (0, 0) hC]; rfl
      have x3 : wr.cell? ⟨w.heap.size + 1, 3, none⟩ = some (.int .i64 (w64 e)) := by rw [cell_of_row _ _ 3 _ _ (0, 0) hC]; rfl
      have x4 : wr.cell? ⟨w.heap.size + 1, 4, none⟩ = some (.int .i64 (w64 f)) := by rw [cell_of_row _ _ 4 _ _ (0, 0) hC]; rfl
      have x5 : wr.cell? ⟨w.heap.size + 1, 5, none⟩ = some (.int .i64 (w64 g)) := by rw [cell_of_row _ _ 5 _ _ (0, 0) hC]; rfl
      have r0 : wr.cell? ⟨w.heap.size, 0, none⟩ = some (.int .i64 0) := by rw [cell_of_row _ _ 0 _ _ (0, 0) hRr]; rfl
      have r1 : wr.cell? ⟨w.heap.size, 1, none⟩ = some (.int .i64 0) := by rw [cell_of_row _ _ 1 _ _ (0, 0) hRr]; rfl
      have r2 : wr.cell? ⟨w.heap.size, 2, none⟩ = some (.int .i64 0) := by rw [cell_of_row _ _ 2 _ _ (0, 0) hRr]; rfl
      have r3 : wr.cell? ⟨w.heap.size, 3, none⟩ = some (.int .i64 0) := by rw [cell_of_row _ _ 3 _ _ (0, 0) hRr]; rfl
      have r4 : wr.cell? ⟨w.heap.size, 4, none⟩ = some (.int .i64 0) := by rw [cell_of_row _ _ 4 _ _ (0, 0) hRr]; rfl
      have r5 : wr.cell? ⟨w.heap.size, 5, none⟩ = some (.int .i64 0) := by rw [cell_of_row _ _ 5 _ _ (0, 0) hRr]; rfl
      have fz : ∀ j, wr.frozen? ⟨w.heap.size, j, none⟩ = false := fun j => frozen_of_row _ _ _ _ _ hRr
      have f0 := fz 0
      have f1 := fz 1
      have f2 := fz 2
      have f3 := fz 3
      have f4 := fz 4
      have f5 := fz 5
      have hz : w.heap.size + 1 < wr.heap.size := World.block_lt_of_cell? wr _ x0
      have HE := Hid.mk bwr
      have HEE := Hid.mk hE
      clear hE hN hRr hS hC hA hR bW0 HW0 fz bwr hl
      generalize w64 a = A0 at *
      generalize w64 c = A1 at *
      generalize w64 d = A2 at *
      generalize w64 e = A3 at *
      generalize w64 f = A4 at *
      generalize w64 g = A5 at *
      simp only [List.length_cons, List.length_nil, Nat.reduceAdd]
      go_wp2
      refine bodyPost_ret (v := .agg #[.int .i64 A0, .int .i64 A1, .int .i64 A2, .int .i64 A3, .int .i64 A4, .int .i64 A5]) (by simp [results, Tryd.results55, go_sem, r0, r1, r2, r3, r4, r5]; try rfl) rfl ?_
      rw [HEE.out]
      exact ⟨rfl, (((((HE.out.setCell (p := ⟨w.heap.size, 0, none⟩) (Nat.le_refl _) _).setCell (p := ⟨w.heap.size, 1, none⟩) (Nat.le_refl _) _).setCell (p := ⟨w.heap.size, 2, none⟩) (Nat.le_refl _) _).setCell (p := ⟨w.heap.size, 3, none⟩) (Nat.le_refl _) _).setCell (p := ⟨w.heap.size, 4, none⟩) (Nat.le_refl _) _).setCell (p := ⟨w.heap.size, 5, none⟩) (Nat.le_refl _) _⟩
end Go.Proofs.YtdegclccbgpgiaaDoor
set_option linter.unusedVariables false
set_option linter.unusedSimpArgs false
namespace Go.Proofs.YtdegclccbgpgiaaDoor
open Go.RowKit Go.Proofs.SealMath
theorem infoStr : (Tryd.prog.info? 9).map (fun i => (i.zero, i.size, i.bytes)) = some (some (.string ⟨#[]⟩), 1, 16) := by kernel_rfl
theorem infoEn : (Tryd.prog.info? 40).map (fun i => (i.zero, i.size, i.bytes)) = some (some (.agg #[.int .i64 0, .string ⟨#[]⟩, .int .i64 0, .int .i64 0, .bool false]), 5, 48) := by kernel_rfl
theorem new_cell (W : World) (cs : List Value) (t : TypeId) (j : Nat) (u : Value) (hu : cs[j]? = some u) : (W.alloc (.cells cs.toArray t)).cell? ((⟨W.heap.size, 0, none⟩ : Addr).add j) = some u := by
  have e : (⟨W.heap.size, 0, none⟩ : Addr).add j = ⟨W.heap.size, j, none⟩ := by unfold Addr.add; split <;> simp_all
  rw [e, cell_of_row _ _ j _ t (0, 0) (heap_alloc_last W _)]
  simpa using hu
/-- A text. -/
abbrev sv (p : List UInt8) : Value := .string ⟨p.toArray⟩
theorem str_app (W : World) (ls : List (List UInt8)) (lv : Value) (h : W.ownsRow 0 9 1 lv ls.length (ls.map sv)) (y : List UInt8) (hb : ls.length + 1 ≤ 1099511627776) :
    ∃ v' w', (Builtin.append_ #[62, 62] 62 #[lv, .slice (some ⟨W.heap.size, 0, none⟩) 1 1]).run Tryd.prog (W.alloc (.cells #[sv y] 9)) = .ok v' w' ∧ w'.ownsRow 0 9 1 v' (ls ++ [y]).length ((ls ++ [y]).map sv) ∧ Stay (fun k => lv.ownBlock = some k) W w' ∧
      (∀ k, v'.ownBlock = some k → lv.ownBlock = some k ∨ W.heap.size ≤ k) := by
  obtain ⟨i0, hi, hz0, hz1, hz2⟩ := info_parts infoStr
  have st0 : Stay (fun k => lv.ownBlock = some k) W (W.alloc (.cells #[sv y] 9)) := (Stay.refl _ W).alloc _
  have h' : (W.alloc (.cells #[sv y] 9)).ownsRow 0 9 1 lv ls.length (ls.map sv) := h.alloc _
  have h1c : ∀ u ∈ [sv y], u.oneCell' = true := fun u hu => by
    simp at hu
    rcases hu with rfl; rfl
  obtain ⟨v', w', hr, ho, hg, _, hloc⟩ := run_append_own_at (P := Tryd.prog) (W.alloc (.cells #[sv y] 9)) 0 62 62 9 i0 _ 1 16 Tryd.underlying62 hi hz0 hz1 hz2 rfl (by decide) lv ls.length _ h' ⟨W.heap.size, 0, none⟩ 1 1 [sv y] rfl (new_cell W [sv y] 9) h1c (by unfold maxLen; omega) (by omega) (Nat.zero_le _)
  refine ⟨v', w', hr, by rw [List.length_append, List.map_append]; simpa using ho, st0.trans (.grown hg (fun k hk => hk)), fun k hk => ?_⟩
  rcases hloc with hl | hl
  · exact .inl (hl ▸ hk)
  · rw [hl] at hk; cases hk; exact .inr (by simp)
theorem en_app (W : World) (ls : List En) (lv : Value) (h : W.ownsRow 0 40 5 lv ls.length (ls.flatMap enC)) (y : En) (hb : ls.length + 1 ≤ 1099511627776) :
    ∃ v' w', (Builtin.append_ #[24, 24] 24 #[lv, .slice (some ⟨W.heap.size, 0, none⟩) 1 1]).run Tryd.prog (W.alloc (.cells (enV y) 40)) = .ok v' w' ∧ w'.ownsRow 0 40 5 v' (ls ++ [y]).length ((ls ++ [y]).flatMap enC) ∧ Stay (fun k => lv.ownBlock = some k) W w' ∧
      (∀ k, v'.ownBlock = some k → lv.ownBlock = some k ∨ W.heap.size ≤ k) := by
  obtain ⟨i0, hi, hz0, hz1, hz2⟩ := info_parts infoEn
  have st0 : Stay (fun k => lv.ownBlock = some k) W (W.alloc (.cells (enV y) 40)) := (Stay.refl _ W).alloc _
  have h' : (W.alloc (.cells (enV y) 40)).ownsRow 0 40 5 lv ls.length (ls.flatMap enC) := h.alloc _
  have h1c : ∀ u ∈ enC y, u.oneCell' = true := fun u hu => by
    simp [enC] at hu
    rcases hu with rfl | rfl | rfl | rfl | rfl <;> rfl
  obtain ⟨v', w', hr, ho, hg, _, hloc⟩ := run_append_own_at (P := Tryd.prog) (W.alloc (.cells (enV y) 40)) 0 24 24 40 i0 _ 5 48 Tryd.underlying24 hi hz0 hz1 hz2 rfl (by decide) lv ls.length _ h' ⟨W.heap.size, 0, none⟩ 1 1 (enC y) rfl (new_cell W (enC y) 40) h1c (by unfold maxLen; omega) (by omega) (Nat.zero_le _)
  refine ⟨v', w', hr, by rw [List.length_append, List.flatMap_append]; simpa using ho, st0.trans (.grown hg (fun k hk => hk)), fun k hk => ?_⟩
  rcases hloc with hl | hl
  · exact .inl (hl ▸ hk)
  · rw [hl] at hk; cases hk; exact .inr (by simp)
/-- A file's cells. -/
abbrev flV (h : Hd) (bv iv : Value) (rd : Nat) : Array Value := #[.int .i64 h.w, .int .i64 h.t, .int .i64 h.b, .int .i64 h.lo, .int .i64 h.hi, .int .i64 h.n, bv, iv, .int .i64 rd]
/-- A file in memory: its head, its blocks' bytes, its index, how many blocks were read. -/
structure FA (W : World) (fb : Nat) (h : Hd) (bl : List (List UInt8)) (ix : List En) (bv iv : Value) (rd : Nat) : Prop where
  box : W.heap[fb]? = some (.cells (flV h bv iv rd) 64 (0, 0))
  row : W.ownsRow 0 9 1 bv bl.length (bl.map sv)
  idx : W.ownsRow 0 40 5 iv ix.length (ix.flatMap enC)
theorem FA.kept {W W' : World} {F : Nat → Prop} {fb : Nat} {h : Hd} {bl : List (List UInt8)} {ix : List En} {bv iv : Value} {rd : Nat} (H : FA W fb h bl ix bv iv rd) (s : Stay F W W') (h1 : ¬ F fb) (h2 : ∀ k, bv.ownBlock = some k → ¬ F k) (h3 : ∀ k, iv.ownBlock = some k → ¬ F k) : FA W' fb h bl ix bv iv rd :=
  ⟨(s.block fb (Array.getElem?_eq_some_iff.1 H.box).1 h1).trans H.box, row_kept H.row s h2, row_kept H.idx s h3⟩
theorem FA.below {W W' : World} {fb : Nat} {h : Hd} {bl : List (List UInt8)} {ix : List En} {bv iv : Value} {rd : Nat} (H : FA W fb h bl ix bv iv rd) (b : Below W.heap.size W W') : FA W' fb h bl ix bv iv rd :=
  H.kept (F := fun _ => False) (.below b) (fun h => h) (fun _ _ h => h) (fun _ _ h => h)
theorem FA.lt {W : World} {fb : Nat} {h : Hd} {bl : List (List UInt8)} {ix : List En} {bv iv : Value} {rd : Nat} (H : FA W fb h bl ix bv iv rd) : fb < W.heap.size := (Array.getElem?_eq_some_iff.1 H.box).1
theorem FA.row_ne {W : World} {fb : Nat} {h : Hd} {bl : List (List UInt8)} {ix : List En} {bv iv : Value} {rd : Nat} (H : FA W fb h bl ix bv iv rd) {k : Nat} (hk : bv.ownBlock = some k) : k ≠ fb := fun e => by
  obtain ⟨c, hc⟩ := row_block H.row hk
  have := H.box
  rw [← e, hc] at this; simp at this
theorem FA.idx_ne {W : World} {fb : Nat} {h : Hd} {bl : List (List UInt8)} {ix : List En} {bv iv : Value} {rd : Nat} (H : FA W fb h bl ix bv iv rd) {k : Nat} (hk : iv.ownBlock = some k) : k ≠ fb := fun e => by
  obtain ⟨c, hc⟩ := row_block H.idx hk
  have := H.box
  rw [← e, hc] at this; simp at this
theorem FA.apart {W : World} {fb : Nat} {h : Hd} {bl : List (List UInt8)} {ix : List En} {bv iv : Value} {rd : Nat} (H : FA W fb h bl ix bv iv rd) {k : Nat} (hk : bv.ownBlock = some k) : ¬ iv.ownBlock = some k := fun e => by
  obtain ⟨c, hc⟩ := row_block H.row hk
  obtain ⟨d, hd⟩ := row_block H.idx e
  rw [hc] at hd; simp at hd
/-- A file's cells, one by one. -/
theorem fl9 {W : World} {fb : Nat} {h : Hd} {bv iv : Value} {rd : Nat} (hb : W.heap[fb]? = some (.cells (flV h bv iv rd) 64 (0, 0))) :
    (W.cell? ⟨fb, 0, none⟩ = some (.int .i64 h.w) ∧ W.cell? ⟨fb, 1, none⟩ = some (.int .i64 h.t) ∧ W.cell? ⟨fb, 2, none⟩ = some (.int .i64 h.b) ∧ W.cell? ⟨fb, 3, none⟩ = some (.int .i64 h.lo) ∧ W.cell? ⟨fb, 4, none⟩ = some (.int .i64 h.hi) ∧ W.cell? ⟨fb, 5, none⟩ = some (.int .i64 h.n)) ∧ W.cell? ⟨fb, 6, none⟩ = some bv ∧ W.cell? ⟨fb, 7, none⟩ = some iv ∧ W.cell? ⟨fb, 8, none⟩ = some (.int .i64 rd) ∧ ∀ j, W.frozen? ⟨fb, j, none⟩ = false :=
  ⟨⟨by rw [cell_of_row _ _ 0 _ _ (0, 0) hb]; rfl, by rw [cell_of_row _ _ 1 _ _ (0, 0) hb]; rfl, by rw [cell_of_row _ _ 2 _ _ (0, 0) hb]; rfl, by rw [cell_of_row _ _ 3 _ _ (0, 0) hb]; rfl, by rw [cell_of_row _ _ 4 _ _ (0, 0) hb]; rfl, by rw [cell_of_row _ _ 5 _ _ (0, 0) hb]; rfl⟩, by rw [cell_of_row _ _ 6 _ _ (0, 0) hb]; rfl, by rw [cell_of_row _ _ 7 _ _ (0, 0) hb]; rfl, by rw [cell_of_row _ _ 8 _ _ (0, 0) hb]; rfl, fun j => frozen_of_row _ _ _ _ _ hb⟩
theorem fl_set6 {W : World} {fb : Nat} {h : Hd} {bv iv : Value} {rd : Nat} (hb : W.heap[fb]? = some (.cells (flV h bv iv rd) 64 (0, 0))) (v : Value) : (W.setCell ⟨fb, 6, none⟩ v).heap[fb]? = some (.cells (flV h v iv rd) 64 (0, 0)) := heap_setCell_same W fb 6 _ _ v hb
theorem fl_set7 {W : World} {fb : Nat} {h : Hd} {bv iv : Value} {rd : Nat} (hb : W.heap[fb]? = some (.cells (flV h bv iv rd) 64 (0, 0))) (v : Value) : (W.setCell ⟨fb, 7, none⟩ v).heap[fb]? = some (.cells (flV h bv v rd) 64 (0, 0)) := heap_setCell_same W fb 7 _ _ v hb
theorem fl_set8 {W : World} {fb : Nat} {h : Hd} {bv iv : Value} {rd : Nat} (hb : W.heap[fb]? = some (.cells (flV h bv iv rd) 64 (0, 0))) (v : Nat) : (W.setCell ⟨fb, 8, none⟩ (.int .i64 v)).heap[fb]? = some (.cells (flV h bv iv v) 64 (0, 0)) := heap_setCell_same W fb 8 _ _ _ hb
set_option maxRecDepth 100000 in
theorem codeBytes_any (fb : Nat) (h : Hd) (bv iv : Value) (rd : Nat) (w : World) (hb : w.heap[fb]? = some (.cells (flV h bv iv rd) 64 (0, 0))) (hw : 64 ≤ h.w ∧ h.w ≤ 1024) :
    Calls Tryd.prog 28 #[Pt fb] w fun r w' => r = .returned (.int .i64 (cbH h : Nat)) ∧ w' = w := by
  obtain ⟨⟨y0, -⟩, -⟩ := fl9 hb
  have e : ((cbH h : Nat) : Int) = h.w / 8 := by unfold cbH; omega
  rw [e]
  clear hb e
  go_enter Tryd.func28, Tryd.ntmps28
  obtain ⟨x, hx⟩ : ∃ x, x = h.w := ⟨_, rfl⟩
  rw [← hx] at y0 hw ⊢
  clear hx
  go_wp2
  go_ret
  exact ⟨ret_int (by omega), rfl⟩
set_option maxRecDepth 100000 in
theorem entries_any (b : ByteArray) (cb : Nat) (w : World) :
    Calls Tryd.prog 29 #[.string b, .int .i64 cb] w fun r w' => r = .returned (.func (.func 58) #[] #[Pt w.heap.size, Pt (w.heap.size + 1)]) ∧ w' = (w.alloc (.cells #[.string b] 9)).alloc (.cells #[.int .i64 cb] 3) := by
  have hmf : ∀ (fn : Fn) (first cap : Array Value) (w : World), (Instr.makeFunc fn first cap).run Tryd.prog w = .ok (.func fn first cap) w := fun _ _ _ _ => rfl
  go_enter Tryd.func29, Tryd.ntmps29
  go_wp2
  go_ret
  exact ⟨rfl, rfl⟩
end Go.Proofs.YtdegclccbgpgiaaDoor
set_option linter.unusedVariables false
set_option linter.unusedSimpArgs false
namespace Go.Proofs.YtdegclccbgpgiaaDoor
open Go.RowKit Go.Proofs.SealMath
theorem parse_nat (b : ByteArray) (a : Nat) (k : Nat) (p : List UInt8) (q : Nat) (e : Int) (w : World) (ht : Tab w) (hg : 0 < w.heap.size) (hb : b.size < 4611686018427387904) (ha : a ≤ b.size) (hR : psA b a = (k, p, q, e)) :
    Calls Tryd.prog 54 #[.string b, .int .i64 a] w fun r w' => r = .returned (.tuple #[.int .i64 k, .string ⟨p.toArray⟩, .int .i64 q, .int .i64 e]) ∧ Below w.heap.size w w' := parse_ok b a (k, p, q, e) w ht hg hb ha hR.symm
/-- What read is to tell. -/
def RdO (b : ByteArray) (w : World) (r : Ending) (w' : World) : Prop := Below w.heap.size w w' ∧ match rdA b with
  | none => r = .returned (.tuple #[.pointer none, .bool false])
  | some (h, bl) => ∃ fb bv, r = .returned (.tuple #[Pt fb, .bool true]) ∧ w.heap.size ≤ fb ∧ FA w' fb h bl [] bv (.slice none 0 0) 0 ∧ ∀ k, bv.ownBlock = some k → w.heap.size ≤ k
theorem RdO.no {b : ByteArray} {w w' : World} (h : rdA b = none) (hb : Below w.heap.size w w') : RdO b w (.returned (.tuple #[.pointer none, .bool false])) w' := ⟨hb, by rw [h]⟩
theorem RdO.yes {b : ByteArray} {w w' : World} {h : Hd} {bl : List (List UInt8)} {fb : Nat} {bv : Value} (e : rdA b = some (h, bl)) (hb : Below w.heap.size w w') (hf : w.heap.size ≤ fb) (hF : FA w' fb h bl [] bv (.slice none 0 0) 0) (hv : ∀ k, bv.ownBlock = some k → w.heap.size ≤ k) : RdO b w (.returned (.tuple #[Pt fb, .bool true])) w' := ⟨hb, by rw [e]; exact ⟨fb, bv, rfl, hf, hF, hv⟩⟩
theorem Tab.blk {w w' : World} (ht : Tab w) (hg : 0 < w.heap.size) (hb : Below w.heap.size w w') : Tab w' ∧ 0 < w'.heap.size := ⟨ht.below hb hg, Nat.lt_of_lt_of_le hg hb.size⟩
set_option maxHeartbeats 8000000 in
set_option maxRecDepth 100000 in
theorem read_any (b : ByteArray) (w : World) (ht : Tab w) (hg : 0 < w.heap.size) (hb : b.size ≤ 1099511627776) :
    Calls Tryd.prog 26 #[.string b] w (RdO b w) := by
  have hb' : b.size < 4611686018427387904 := by omega
  obtain ⟨⟨k, p, q, e⟩, hR⟩ : ∃ R, psA b 0 = R := ⟨_, rfl⟩
  have c1 := fun W h1 h2 => parse_nat b 0 k p q e W h1 h2 hb' (Nat.zero_le _) hR
  rw [show ((0 : Nat) : Int) = 0 from rfl] at c1
  replace c1 := c1 w ht hg
  by_cases he : e = 0
  · subst he
    have hnx := psA_next (b := b) (a := 0) (by rw [hR])
    rw [hR] at hnx
    dsimp only at hnx
    by_cases hk : k = 4
    · subst hk
      have e1 : rdA b = if hdE (hdR ⟨p.toArray⟩) = 0 ∧ 0 ≤ (hdR ⟨p.toArray⟩).n ∧ (hdR ⟨p.toArray⟩).n ≤ (b.size : Int) / ((hdR ⟨p.toArray⟩).w / 8 + 7) then some (hdR ⟨p.toArray⟩, blks b q) else none := by
        unfold rdA
        rw [hR]
        dsimp only
        rw [if_pos ⟨rfl, rfl⟩]
      have c2 := fun W => readHead_any ⟨p.toArray⟩ W (by rw [ba_len]; omega)
      obtain ⟨H, hH⟩ : ∃ H, H = hdR ⟨p.toArray⟩ := ⟨_, rfl⟩
      rw [← hH] at e1 c2
      have HE1 := Hid.mk e1
      obtain ⟨P, hP⟩ : ∃ P : ByteArray, P = ⟨p.toArray⟩ := ⟨_, rfl⟩
      rw [← hP] at c1 c2
      have HT := Hid.mk (And.intro ht hg)
      clear e1 hH hP hR ht hg
      have hch := fun W => checkHead_any H W
      obtain ⟨wd, t, bt, lo, hi, cn⟩ := H
      simp only [hdC] at c2 hch
      go_enter Tryd.func26, Tryd.ntmps26
      go_wp2_with first
        | (go_at_call 54; refine c1.mono ?_; rintro e w1 ⟨rfl, b1⟩; clear c1)
        | (go_at_call 55; refine (c2 _).mono ?_; rintro e w2 ⟨rfl, b2⟩; clear c2)
      have b12 := chain b1 b2 (Nat.le_refl _)
      obtain ⟨fb, hfb⟩ : ∃ fb, fb = w2.heap.size := ⟨_, rfl⟩
      obtain ⟨V, hV⟩ : ∃ V, V = w2.alloc (.cells #[.int .i64 wd, .int .i64 t, .int .i64 bt, .int .i64 lo, .int .i64 hi, .int .i64 cn, .slice none 0 0, .slice none 0 0, .int .i64 0] 64) := ⟨_, rfl⟩
      have hF : V.heap[fb]? = some (.cells (flV ⟨wd, t, bt, lo, hi, cn⟩ (.slice none 0 0) (.slice none 0 0) 0) 64 (0, 0)) := by rw [hV, hfb]; exact heap_alloc_last w2 _
      have bF : Below w2.heap.size w2 V := by rw [hV]; exact (Below.refl _ w2).alloc (Nat.le_refl _) _
      have b13 := chain b12 bF (Nat.le_refl _)
      have hfw : w.heap.size ≤ fb := by rw [hfb]; exact b12.size
      rw [← hfb, ← hV]
      clear hV bF b12 b1 b2 hfb
      obtain ⟨⟨y0, y1, y2, y3, y4, y5⟩, -⟩ := fl9 hF
      by_cases hH : hdE ⟨wd, t, bt, lo, hi, cn⟩ = 0
      · rw [hH] at hch
        obtain ⟨k1, -⟩ := hdE0 hH
        have hw := isW_bd k1
        have hcb := fun W hbx => codeBytes_any fb ⟨wd, t, bt, lo, hi, cn⟩ (.slice none 0 0) (.slice none 0 0) 0 W hbx hw
        obtain ⟨CB, hCB⟩ : ∃ CB, CB = cbH ⟨wd, t, bt, lo, hi, cn⟩ := ⟨_, rfl⟩
        have hCB1 : (CB : Int) = wd / 8 := by rw [hCB]; unfold cbH; dsimp only at hw ⊢; omega
        have hCB2 : CB ≤ 128 := by dsimp only at hw; omega
        rw [← hCB] at hcb
        rw [hH] at HE1
        try dsimp only at HE1
        rw [← hCB1] at HE1
        obtain ⟨M, hM⟩ : ∃ M, M = CB + 7 := ⟨_, rfl⟩
        have hMI : (CB : Int) + 7 = (M : Int) := by omega
        rw [hMI] at HE1
        have w7 : IntKind.i64.wrap ((CB : Int) + 7) = (M : Int) := by rw [IntKind.wrap_i64]; omega
        have m0 : ¬ (M : Int) = 0 := by omega
        have m1 : ¬ M = 0 := by omega
        obtain ⟨QQ, hQQ⟩ : ∃ QQ, QQ = (b.size : Int) / (M : Int) := ⟨_, rfl⟩
        have hQb : 0 ≤ QQ ∧ QQ ≤ (b.size : Int) := by rw [hQQ]; exact ⟨Int.ediv_nonneg (by omega) (by omega), Int.ediv_le_self _ (by omega)⟩
        have wQ : IntKind.i64.wrap ((b.size : Int) / (M : Int)) = QQ := by rw [← hQQ, IntKind.wrap_i64]; omega
        rw [← hQQ] at HE1
        clear hQQ hMI hM
        by_cases hc0 : 0 ≤ cn
        · by_cases hq : cn ≤ QQ
          · have hE : rdA b = some (⟨wd, t, bt, lo, hi, cn⟩, blks b q) := by rw [HE1.out, if_pos ⟨rfl, hc0, hq⟩]
            have hq1 : decide (QQ < cn) = false := decide_eq_false (by omega)
            have hc1 : decide (cn < 0) = false := decide_eq_false (by omega)
            have HE := Hid.mk hE
            clear HE1 hE hH hq hc0 hCB hCB1 k1 hw hQb hCB2
            refine wp_region_held_drew (S := fun w' => w'.cell? ⟨fb, 0, none⟩ = some (.int .i64 wd) ∧ w'.cell? ⟨fb, 1, none⟩ = some (.int .i64 t) ∧ w'.cell? ⟨fb, 2, none⟩ = some (.int .i64 bt) ∧ w'.cell? ⟨fb, 3, none⟩ = some (.int .i64 lo) ∧ w'.cell? ⟨fb, 4, none⟩ = some (.int .i64 hi) ∧ w'.cell? ⟨fb, 5, none⟩ = some (.int .i64 cn)) (by kernel_rfl) ?_ (fun hHeld => ?_)
            · exact ⟨y0, y1, y2, y3, y4, y5⟩
            refine wpAnyH_take (i := 0) (oi := { dst := some 26, op := Op.move (Operand.tmp 8), type := 30, pos := "bytes.go:119", after := #[], guard := none }) (v := ?vc1_0) rfl (by kernel_rfl) (by kernel_rfl) (by kernel_rfl) (fun _ _ _ h => h) (Or.inl ⟨by rfl, ?hc1_0⟩) (by assumption) ?rc1_0
            case hc1_0 => (intro w0 hSw; (try dsimp only at hSw); go_simp; try (with_reducible rfl))
            simp only [Act.put, List.setIfInBounds_toArray, List.set_cons_zero, List.set_cons_succ]
            refine wpAnyH_take (i := 1) (oi := { dst := some 27, op := Op.nilCheck (Operand.tmp 26), type := 0, pos := "bytes.go:119", after := #[{ on := 0, ground := Ground.data }], guard := none }) (v := ?vc1_1) rfl (by kernel_rfl) (by kernel_rfl) (by kernel_rfl) (fun _ _ _ h => h) (Or.inl ⟨by rfl, ?hc1_1⟩) (by assumption) ?rc1_1
            case hc1_1 => (intro w0 hSw; (try dsimp only at hSw); go_simp; try (with_reducible rfl))
            simp only [Act.put, List.setIfInBounds_toArray, List.set_cons_zero, List.set_cons_succ]
            refine wpAnyH_take (i := 2) (oi := { dst := some 28, op := Op.fieldAddr 64 (Operand.tmp 27) 0, type := 0, pos := "bytes.go:119", after := #[{ on := 1, ground := Ground.data }], guard := none }) (v := ?vc1_2) rfl (by kernel_rfl) (by kernel_rfl) (by kernel_rfl) (fun _ _ _ h => h) (Or.inl ⟨by rfl, ?hc1_2⟩) (by assumption) ?rc1_2
            case hc1_2 => (intro w0 hSw; (try dsimp only at hSw); go_simp; try (with_reducible rfl))
            simp only [Act.put, List.setIfInBounds_toArray, List.set_cons_zero, List.set_cons_succ]
            refine wpAnyH_take (i := 3) (oi := { dst := some 29, op := Op.load 23 (Operand.tmp 28), type := 23, pos := "bytes.go:119", after := #[{ on := 2, ground := Ground.data }], guard := none }) (v := ?vc1_3) rfl (by kernel_rfl) (by kernel_rfl) (by kernel_rfl) (fun _ _ _ h => h) (Or.inl ⟨by rfl, ?hc1_3⟩) (by assumption) ?rc1_3
            case hc1_3 => (intro w0 hSw; (try dsimp only at hSw); go_simp; try (with_reducible rfl))
            simp only [Act.put, List.setIfInBounds_toArray, List.set_cons_zero, List.set_cons_succ]
            refine wpAnyH_ready (rs := [4]) (by kernel_rfl) (by simp) ?_
            refine AllReadyH.cons rfl (fun K hK => ?_) AllReadyH.nil
            go_simp
            go_wp2_with (first | (go_at_call 22; refine (hch _).mono ?_; clear hch; rintro r w5 ⟨rfl, b5⟩; have z0 := cell_lat b5 y0; have z1 := cell_lat b5 y1; have z2 := cell_lat b5 y2; have z3 := cell_lat b5 y3; have z4 := cell_lat b5 y4; have z5 := cell_lat b5 y5) | (go_at_call 28; refine (hcb _ ((b5.block fb (World.block_lt_of_cell? _ _ y0)).trans hF)).mono ?_; clear hcb; rintro r w6 ⟨rfl, rfl⟩))
            refine hK.out _ _ ?_ (fun hHeld => ?_)
            · first | exact ⟨z0, z1, z2, z3, z4, z5⟩
            clear hK K
            refine wpAnyH_take (i := 5) (oi := { dst := some 31, op := Op.binOp BinOp.neq 26 (Operand.tmp 30) (Operand.const (Value.int IntKind.i64 0)) 26, type := 4, pos := "bytes.go:119", after := #[{ on := 4, ground := Ground.data }], guard := none }) (v := ?vc1_5) rfl (by kernel_rfl) (by kernel_rfl) (by kernel_rfl) (fun _ _ _ h => h) (Or.inl ⟨by rfl, ?hc1_5⟩) (by assumption) ?rc1_5
            case hc1_5 => (intro w0 hSw; (try dsimp only at hSw); go_simp; try (with_reducible rfl))
            simp only [Act.put, List.setIfInBounds_toArray, List.set_cons_zero, List.set_cons_succ]
            refine wpAnyH_take (i := 6) (oi := { dst := some 32, op := Op.move (Operand.tmp 31), type := 4, pos := "bytes.go:119", after := #[{ on := 5, ground := Ground.data }, { on := 4, ground := Ground.chain }], guard := none }) (v := ?vc1_6) rfl (by kernel_rfl) (by kernel_rfl) (by kernel_rfl) (fun _ _ _ h => h) (Or.inl ⟨by rfl, ?hc1_6⟩) (by assumption) ?rc1_6
            case hc1_6 => (intro w0 hSw; (try dsimp only at hSw); go_simp; try (with_reducible rfl))
            simp only [Act.put, List.setIfInBounds_toArray, List.set_cons_zero, List.set_cons_succ]
            refine wpAnyH_take (i := 7) (oi := { dst := some 33, op := Op.move (Operand.tmp 8), type := 30, pos := "bytes.go:119", after := #[{ on := 6, ground := Ground.guard }], guard := some (6, false) }) (v := ?vc1_7) rfl (by kernel_rfl) (by kernel_rfl) (by kernel_rfl) (fun _ _ _ h => h) (Or.inl ⟨by rfl, ?hc1_7⟩) (by assumption) ?rc1_7
            case hc1_7 => (intro w0 hSw; (try dsimp only at hSw); go_simp; try (with_reducible rfl))
            simp only [Act.put, List.setIfInBounds_toArray, List.set_cons_zero, List.set_cons_succ]
            refine wpAnyH_take (i := 8) (oi := { dst := some 34, op := Op.nilCheck (Operand.tmp 33), type := 0, pos := "bytes.go:119", after := #[{ on := 7, ground := Ground.data }, { on := 6, ground := Ground.guard }], guard := some (6, false) }) (v := ?vc1_8) rfl (by kernel_rfl) (by kernel_rfl) (by kernel_rfl) (fun _ _ _ h => h) (Or.inl ⟨by rfl, ?hc1_8⟩) (by assumption) ?rc1_8
            case hc1_8 => (intro w0 hSw; (try dsimp only at hSw); go_simp; try (with_reducible rfl))
            simp only [Act.put, List.setIfInBounds_toArray, List.set_cons_zero, List.set_cons_succ]
            refine wpAnyH_take (i := 9) (oi := { dst := some 35, op := Op.fieldAddr 64 (Operand.tmp 34) 0, type := 0, pos := "bytes.go:119", after := #[{ on := 8, ground := Ground.data }, { on := 6, ground := Ground.guard }], guard := some (6, false) }) (v := ?vc1_9) rfl (by kernel_rfl) (by kernel_rfl) (by kernel_rfl) (fun _ _ _ h => h) (Or.inl ⟨by rfl, ?hc1_9⟩) (by assumption) ?rc1_9
            case hc1_9 => (intro w0 hSw; (try dsimp only at hSw); go_simp; try (with_reducible rfl))
            simp only [Act.put, List.setIfInBounds_toArray, List.set_cons_zero, List.set_cons_succ]
            refine wpAnyH_take (i := 10) (oi := { dst := some 36, op := Op.fieldAddr 23 (Operand.tmp 35) 5, type := 0, pos := "bytes.go:119", after := #[{ on := 9, ground := Ground.data }, { on := 6, ground := Ground.guard }], guard := some (6, false) }) (v := ?vc1_10) rfl (by kernel_rfl) (by kernel_rfl) (by kernel_rfl) (fun _ _ _ h => h) (Or.inl ⟨by rfl, ?hc1_10⟩) (by assumption) ?rc1_10
            case hc1_10 => (intro w0 hSw; (try dsimp only at hSw); go_simp; try (with_reducible rfl))
            simp only [Act.put, List.setIfInBounds_toArray, List.set_cons_zero, List.set_cons_succ]
            refine wpAnyH_take (i := 11) (oi := { dst := some 37, op := Op.load 3 (Operand.tmp 36), type := 3, pos := "bytes.go:119", after := #[{ on := 10, ground := Ground.data }, { on := 6, ground := Ground.guard }], guard := some (6, false) }) (v := ?vc1_11) rfl (by kernel_rfl) (by kernel_rfl) (by kernel_rfl) (fun _ _ _ h => h) (Or.inl ⟨by rfl, ?hc1_11⟩) (by assumption) ?rc1_11
            case hc1_11 => (intro w0 hSw; (try dsimp only at hSw); go_simp; try (with_reducible rfl))
            simp only [Act.put, List.setIfInBounds_toArray, List.set_cons_zero, List.set_cons_succ]
            refine wpAnyH_take (i := 12) (oi := { dst := some 38, op := Op.binOp BinOp.lss 3 (Operand.tmp 37) (Operand.const (Value.int IntKind.i64 0)) 3, type := 4, pos := "bytes.go:119", after := #[{ on := 11, ground := Ground.data }, { on := 6, ground := Ground.guard }], guard := some (6, false) }) (v := ?vc1_12) rfl (by kernel_rfl) (by kernel_rfl) (by kernel_rfl) (fun _ _ _ h => h) (Or.inl ⟨by rfl, ?hc1_12⟩) (by assumption) ?rc1_12
            case hc1_12 => (intro w0 hSw; (try dsimp only at hSw); go_simp; try (with_reducible rfl))
            simp only [Act.put, List.setIfInBounds_toArray, List.set_cons_zero, List.set_cons_succ]
            refine wpAnyH_take (i := 13) (oi := { dst := some 39, op := Op.pick (Operand.tmp 32) (Operand.const (Value.bool true)) (Operand.tmp 38), type := 4, pos := "bytes.go:119", after := #[{ on := 6, ground := Ground.data }, { on := 12, ground := Ground.data }], guard := none }) (v := ?vc1_13) rfl (by kernel_rfl) (by kernel_rfl) (by kernel_rfl) (fun _ _ _ h => h) (Or.inl ⟨by rfl, ?hc1_13⟩) (by assumption) ?rc1_13
            case hc1_13 => (intro w0 hSw; (try dsimp only at hSw); go_simp; try (with_reducible rfl))
            simp only [Act.put, List.setIfInBounds_toArray, List.set_cons_zero, List.set_cons_succ]
            refine wpAnyH_take (i := 14) (oi := { dst := some 40, op := Op.move (Operand.tmp 39), type := 4, pos := "bytes.go:119", after := #[{ on := 13, ground := Ground.data }, { on := 6, ground := Ground.chain }], guard := none }) (v := ?vc1_14) rfl (by kernel_rfl) (by kernel_rfl) (by kernel_rfl) (fun _ _ _ h => h) (Or.inl ⟨by rfl, ?hc1_14⟩) (by assumption) ?rc1_14
            case hc1_14 => (intro w0 hSw; (try dsimp only at hSw); go_simp; try (with_reducible rfl))
            simp only [Act.put, List.setIfInBounds_toArray, List.set_cons_zero, List.set_cons_succ]
            refine wpAnyH_take (i := 15) (oi := { dst := some 41, op := Op.move (Operand.tmp 8), type := 30, pos := "bytes.go:119", after := #[{ on := 14, ground := Ground.guard }], guard := some (14, false) }) (v := ?vc1_15) rfl (by kernel_rfl) (by kernel_rfl) (by kernel_rfl) (fun _ _ _ h => h) (Or.inl ⟨by rfl, ?hc1_15⟩) (by assumption) ?rc1_15
            case hc1_15 => (intro w0 hSw; (try dsimp only at hSw); go_simp; try (with_reducible rfl))
            simp only [Act.put, List.setIfInBounds_toArray, List.set_cons_zero, List.set_cons_succ]
            refine wpAnyH_take (i := 16) (oi := { dst := some 42, op := Op.nilCheck (Operand.tmp 41), type := 0, pos := "bytes.go:119", after := #[{ on := 15, ground := Ground.data }, { on := 14, ground := Ground.guard }], guard := some (14, false) }) (v := ?vc1_16) rfl (by kernel_rfl) (by kernel_rfl) (by kernel_rfl) (fun _ _ _ h => h) (Or.inl ⟨by rfl, ?hc1_16⟩) (by assumption) ?rc1_16
            case hc1_16 => (intro w0 hSw; (try dsimp only at hSw); go_simp; try (with_reducible rfl))
            simp only [Act.put, List.setIfInBounds_toArray, List.set_cons_zero, List.set_cons_succ]
            refine wpAnyH_take (i := 17) (oi := { dst := some 43, op := Op.fieldAddr 64 (Operand.tmp 42) 0, type := 0, pos := "bytes.go:119", after := #[{ on := 16, ground := Ground.data }, { on := 14, ground := Ground.guard }], guard := some (14, false) }) (v := ?vc1_17) rfl (by kernel_rfl) (by kernel_rfl) (by kernel_rfl) (fun _ _ _ h => h) (Or.inl ⟨by rfl, ?hc1_17⟩) (by assumption) ?rc1_17
            case hc1_17 => (intro w0 hSw; (try dsimp only at hSw); go_simp; try (with_reducible rfl))
            simp only [Act.put, List.setIfInBounds_toArray, List.set_cons_zero, List.set_cons_succ]
            refine wpAnyH_take (i := 18) (oi := { dst := some 44, op := Op.fieldAddr 23 (Operand.tmp 43) 5, type := 0, pos := "bytes.go:119", after := #[{ on := 17, ground := Ground.data }, { on := 14, ground := Ground.guard }], guard := some (14, false) }) (v := ?vc1_18) rfl (by kernel_rfl) (by kernel_rfl) (by kernel_rfl) (fun _ _ _ h => h) (Or.inl ⟨by rfl, ?hc1_18⟩) (by assumption) ?rc1_18
            case hc1_18 => (intro w0 hSw; (try dsimp only at hSw); go_simp; try (with_reducible rfl))
            simp only [Act.put, List.setIfInBounds_toArray, List.set_cons_zero, List.set_cons_succ]
            refine wpAnyH_take (i := 19) (oi := { dst := some 45, op := Op.load 3 (Operand.tmp 44), type := 3, pos := "bytes.go:119", after := #[{ on := 18, ground := Ground.data }, { on := 14, ground := Ground.guard }], guard := some (14, false) }) (v := ?vc1_19) rfl (by kernel_rfl) (by kernel_rfl) (by kernel_rfl) (fun _ _ _ h => h) (Or.inl ⟨by rfl, ?hc1_19⟩) (by assumption) ?rc1_19
            case hc1_19 => (intro w0 hSw; (try dsimp only at hSw); go_simp; try (with_reducible rfl))
            simp only [Act.put, List.setIfInBounds_toArray, List.set_cons_zero, List.set_cons_succ]
            refine wpAnyH_take (i := 20) (oi := { dst := some 46, op := Op.move (Operand.tmp 0), type := 9, pos := "bytes.go:119", after := #[{ on := 14, ground := Ground.guard }], guard := some (14, false) }) (v := ?vc1_20) rfl (by kernel_rfl) (by kernel_rfl) (by kernel_rfl) (fun _ _ _ h => h) (Or.inl ⟨by rfl, ?hc1_20⟩) (by assumption) ?rc1_20
            case hc1_20 => (intro w0 hSw; (try dsimp only at hSw); go_simp; try (with_reducible rfl))
            simp only [Act.put, List.setIfInBounds_toArray, List.set_cons_zero, List.set_cons_succ]
            refine wpAnyH_take (i := 21) (oi := { dst := some 47, op := Op.call { callee := Callee.builtin Builtin.len, args := #[Operand.tmp 46], argTypes := #[9] }, type := 3, pos := "bytes.go:119", after := #[{ on := 20, ground := Ground.data }, { on := 14, ground := Ground.guard }], guard := some (14, false) }) (v := ?vc1_21) rfl (by kernel_rfl) (by kernel_rfl) (by kernel_rfl) (fun _ _ _ h => h) (Or.inl ⟨by rfl, ?hc1_21⟩) (by assumption) ?rc1_21
            case hc1_21 => (intro w0 hSw; (try dsimp only at hSw); go_simp; try (with_reducible rfl))
            simp only [Act.put, List.setIfInBounds_toArray, List.set_cons_zero, List.set_cons_succ]
            refine wpAnyH_take (i := 22) (oi := { dst := some 48, op := Op.move (Operand.tmp 8), type := 30, pos := "bytes.go:119", after := #[{ on := 14, ground := Ground.guard }], guard := some (14, false) }) (v := ?vc1_22) rfl (by kernel_rfl) (by kernel_rfl) (by kernel_rfl) (fun _ _ _ h => h) (Or.inl ⟨by rfl, ?hc1_22⟩) (by assumption) ?rc1_22
            case hc1_22 => (intro w0 hSw; (try dsimp only at hSw); go_simp; try (with_reducible rfl))
            simp only [Act.put, List.setIfInBounds_toArray, List.set_cons_zero, List.set_cons_succ]
            refine wpAnyH_ready (rs := [23]) (by kernel_rfl) (by simp) ?_
            refine AllReadyH.cons rfl (fun K hK => ?_) AllReadyH.nil
            go_simp
            go_wp2_with (first | (go_at_call 22; refine (hch _).mono ?_; clear hch; rintro r w5 ⟨rfl, b5⟩; have z0 := cell_lat b5 y0; have z1 := cell_lat b5 y1; have z2 := cell_lat b5 y2; have z3 := cell_lat b5 y3; have z4 := cell_lat b5 y4; have z5 := cell_lat b5 y5) | (go_at_call 28; refine (hcb _ ((b5.block fb (World.block_lt_of_cell? _ _ y0)).trans hF)).mono ?_; clear hcb; rintro r w6 ⟨rfl, rfl⟩))
            refine hK.out _ _ ?_ (fun hHeld => ?_)
            · first | exact ⟨z0, z1, z2, z3, z4, z5⟩
            clear hK K
            refine wpAnyH_take (i := 24) (oi := { dst := some 50, op := Op.binOp BinOp.add 3 (Operand.tmp 49) (Operand.const (Value.int IntKind.i64 7)) 3, type := 3, pos := "bytes.go:119", after := #[{ on := 23, ground := Ground.data }, { on := 14, ground := Ground.guard }], guard := some (14, false) }) (v := ?vc1_24) rfl (by kernel_rfl) (by kernel_rfl) (by kernel_rfl) (fun _ _ _ h => h) (Or.inl ⟨by rfl, ?hc1_24⟩) (by assumption) ?rc1_24
            case hc1_24 => (intro w0 hSw; (try dsimp only at hSw); go_simp; try (with_reducible rfl))
            simp only [Act.put, List.setIfInBounds_toArray, List.set_cons_zero, List.set_cons_succ]
            refine wpAnyH_take (i := 25) (oi := { dst := some 51, op := Op.binOp BinOp.quo 3 (Operand.tmp 47) (Operand.tmp 50) 3, type := 3, pos := "bytes.go:119", after := #[{ on := 21, ground := Ground.data }, { on := 24, ground := Ground.data }, { on := 14, ground := Ground.guard }], guard := some (14, false) }) (v := ?vc1_25) rfl (by kernel_rfl) (by kernel_rfl) (by kernel_rfl) (fun _ _ _ h => h) (Or.inl ⟨by rfl, ?hc1_25⟩) (by assumption) ?rc1_25
            case hc1_25 => (intro w0 hSw; (try dsimp only at hSw); go_simp; try (with_reducible rfl))
            simp only [Act.put, List.setIfInBounds_toArray, List.set_cons_zero, List.set_cons_succ]
            refine wpAnyH_take (i := 26) (oi := { dst := some 52, op := Op.binOp BinOp.gtr 3 (Operand.tmp 45) (Operand.tmp 51) 3, type := 4, pos := "bytes.go:119", after := #[{ on := 19, ground := Ground.data }, { on := 25, ground := Ground.data }, { on := 14, ground := Ground.guard }], guard := some (14, false) }) (v := ?vc1_26) rfl (by kernel_rfl) (by kernel_rfl) (by kernel_rfl) (fun _ _ _ h => h) (Or.inl ⟨by rfl, ?hc1_26⟩) (by assumption) ?rc1_26
            case hc1_26 => (intro w0 hSw; (try dsimp only at hSw); go_simp; try (with_reducible rfl))
            simp only [Act.put, List.setIfInBounds_toArray, List.set_cons_zero, List.set_cons_succ]
            refine wpAnyH_take (i := 27) (oi := { dst := some 53, op := Op.pick (Operand.tmp 40) (Operand.const (Value.bool true)) (Operand.tmp 52), type := 4, pos := "bytes.go:119", after := #[{ on := 14, ground := Ground.data }, { on := 26, ground := Ground.data }], guard := none }) (v := ?vc1_27) rfl (by kernel_rfl) (by kernel_rfl) (by kernel_rfl) (fun _ _ _ h => h) (Or.inl ⟨by rfl, ?hc1_27⟩) (by assumption) ?rc1_27
            case hc1_27 => (intro w0 hSw; (try dsimp only at hSw); go_simp; try (with_reducible rfl))
            simp only [Act.put, List.setIfInBounds_toArray, List.set_cons_zero, List.set_cons_succ]
            refine wpAnyH_done (by kernel_rfl) ?_ _
            have bV : Below w.heap.size w w6 := chain b13 (below_d b5) (Nat.le_refl _)
            have F5 : FA w6 fb ⟨wd, t, bt, lo, hi, cn⟩ [] [] (.slice none 0 0) (.slice none 0 0) 0 := ⟨(b5.block fb (World.block_lt_of_cell? _ _ y0)).trans hF, ⟨rfl, .inl ⟨rfl, rfl⟩⟩, ⟨rfl, .inl ⟨rfl, rfl⟩⟩⟩
            clear y0 y1 y2 y3 y4 y5 z0 z1 z2 z3 z4 z5 hF b13 b5
            go_wp2_with fail
            go_loopw [4, 5, 6, 7] (fun _ _ av _ wr => ∃ (a : Nat) (pre : List (List UInt8)) (bv : Value), av = .int .i64 a ∧ a ≤ b.size ∧ pre ++ blks b a = blks b q ∧ (pre.map (·.length + 14)).sum + q = a ∧ FA wr fb ⟨wd, t, bt, lo, hi, cn⟩ pre [] bv (.slice none 0 0) 0 ∧ (∀ k, bv.ownBlock = some k → w.heap.size ≤ k) ∧ Below w.heap.size w wr) (fun _ _ av _ _ => b.size + 1 - (intOf av).toNat)
            case atStart => exact ⟨q, [], .slice none 0 0, rfl, hnx.2.1, rfl, by simp, F5, (fun k h => by cases h), bV⟩
            case round =>
              obtain ⟨a, pre, bv, rfl, ha, hpr, hsum, hF, hbv, hbw⟩ := hrel
              obtain ⟨⟨k, p, q2, e⟩, hR⟩ : ∃ R, psA b a = R := ⟨_, rfl⟩
              obtain ⟨ht2, hg2⟩ := HT.out.1.blk HT.out.2 hbw
              have c1 := parse_nat b a k p q2 e wr ht2 hg2 hb' ha hR
              clear ht2 hg2 F5 bV
              by_cases hy : e = 0 ∧ k = 5
              · obtain ⟨rfl, rfl⟩ := hy
                have hn2 := psA_next (b := b) (a := a) (by rw [hR])
                have hb2 := blks_yes (b := b) (a := a) (by rw [hR]; exact ⟨rfl, rfl⟩)
                rw [hR] at hn2 hb2
                dsimp only at hn2 hb2
                rw [hb2] at hpr
                have hpl : pre.length * 14 + q ≤ a := by
                  have : pre.length * 14 ≤ (pre.map (·.length + 14)).sum := by
                    clear hsum hpr hF
                    induction pre with
                    | nil => simp
                    | cons x l ih => simp only [List.length_cons, List.map_cons, List.sum_cons]; omega
                  omega
                have HH := Hid.mk (And.intro hpr (And.intro hsum (And.intro hF (And.intro hbv hbw))))
                have hF' := hF
                clear hpr hsum hF hbv hbw hb2 hR
                obtain ⟨P2, hP2⟩ : ∃ P2 : ByteArray, P2 = ⟨p.toArray⟩ := ⟨_, rfl⟩
                rw [← hP2] at c1
                go_wp2_with fail
                refine c1.mono ?_
                clear c1
                rintro r w7 ⟨rfl, b7⟩
                have F7 := hF'.below b7
                clear hF'
                obtain ⟨ba, bc, rfl, -⟩ := slice_form F7.row
                obtain ⟨v8, w8, hap, ho8, st8, loc8⟩ := str_app w7 pre _ F7.row p (by omega)
                rw [show sv p = .string P2 by rw [hP2]] at hap
                have hb8 : w8.heap[fb]? = _ := (st8.block fb F7.lt (fun h => F7.row_ne h rfl)).trans F7.box
                obtain ⟨-, x6, -⟩ := fl9 F7.box
                obtain ⟨-, z6, -, -, zf⟩ := fl9 hb8
                have z6f := zf 6
                have hfz : fb < w7.heap.size := F7.lt
                have HF := Hid.mk (And.intro F7 (And.intro ho8 (And.intro st8 (And.intro loc8 (And.intro hb8 b7)))))
                obtain ⟨va, vc, hv8, -⟩ := slice_form ho8
                rw [hv8] at hap
                have HV8 := Hid.mk hv8
                clear F7 ho8 st8 loc8 hb8 b7 zf hv8 hP2
                go_wp2_with (at_builtin; refine wpList_append_eq rfl _ _ _ _ rfl _ _ _ _ rfl rfl hap ?_; clear hap)
                obtain ⟨F7, ho8, st8, loc8, hb8, b7⟩ := HF.out
                obtain ⟨hpr, hsum, hF, hbv, hbw⟩ := HH.out
                rw [show Value.slice va (pre.length + 1) vc = v8 by rw [HV8.out, List.length_append]; rfl]
                have hne : ∀ k, v8.ownBlock = some k → k ≠ fb := fun k hk e => by
                  obtain ⟨c, hc⟩ := row_block ho8 hk
                  rw [e, hb8] at hc; simp at hc
                have stF : Stay (fun k => k = fb) w8 (w8.setCell ⟨fb, 6, none⟩ v8) := stay1 _ _ _ _ _ (.refl _ _)
                refine ⟨⟨q2, pre ++ [p], v8, rfl, hn2.2.1, by rw [List.append_assoc]; exact hpr, by simp only [List.map_append, List.sum_append, List.map_cons, List.map_nil, List.sum_cons, List.sum_nil]; omega, ⟨fl_set6 hb8 v8, row_kept ho8 stF (fun k hk e => hne k hk e), ⟨rfl, .inl ⟨rfl, rfl⟩⟩⟩, fun k hk => ?_, ?_⟩, by simp only [intOf]; omega⟩
                · rcases loc8 k hk with h | h
                  · exact hbv k h
                  · exact Nat.le_trans (Nat.le_trans hbw.size b7.size) h
                · have b8 : Below w.heap.size w7 w8 := st8.toBelow (fun k hk e => by have := hbv k e; omega) (Nat.le_trans hbw.size b7.size)
                  exact (((hbw.trans (b7.mono hbw.size)).trans b8).setCell (p := ⟨fb, 6, none⟩) hfw _)
              · have hb2 := blks_no (b := b) (a := a) (by rw [hR]; exact hy)
                rw [hb2, List.append_nil] at hpr
                subst hpr
                have hfin : ∀ w7, Below wr.heap.size wr w7 → RdO b w (.returned (.tuple #[Pt fb, .bool true])) w7 := fun w7 b7 => RdO.yes HE.out (chain hbw b7 (Nat.le_refl _)) hfw (hF.below b7) hbv
                replace hfin := Hid.mk hfin
                clear hF hbv hbw hb2 hR hsum
                by_cases h0 : e = 0
                · have hk5 : ((k : Int) != 5) = true := by
                    have : ¬ k = 5 := fun h => hy ⟨h0, h⟩
                    simp; omega
                  subst h0
                  clear hy
                  go_wp2_with (go_at_call 54; refine c1.mono ?_; rintro r w7 ⟨rfl, b7⟩; clear c1)
                  go_ret2
                  exact hfin.out _ b7
                · have h0' : (e != 0) = true := by simpa using h0
                  clear hy h0
                  go_wp2_with (go_at_call 54; refine c1.mono ?_; rintro r w7 ⟨rfl, b7⟩; clear c1)
                  go_ret2
                  exact hfin.out _ b7
          · have hE : rdA b = none := by rw [HE1.out, if_neg (fun h => hq h.2.2)]
            have hq1 : decide (QQ < cn) = true := decide_eq_true (by omega)
            have hc1 : decide (cn < 0) = false := decide_eq_false (by omega)
            clear HE1 hH hq hc0 hCB hCB1 k1 hw hQb hCB2
            refine wp_region_held_drew (S := fun w' => w'.cell? ⟨fb, 0, none⟩ = some (.int .i64 wd) ∧ w'.cell? ⟨fb, 1, none⟩ = some (.int .i64 t) ∧ w'.cell? ⟨fb, 2, none⟩ = some (.int .i64 bt) ∧ w'.cell? ⟨fb, 3, none⟩ = some (.int .i64 lo) ∧ w'.cell? ⟨fb, 4, none⟩ = some (.int .i64 hi) ∧ w'.cell? ⟨fb, 5, none⟩ = some (.int .i64 cn)) (by kernel_rfl) ?_ (fun hHeld => ?_)
            · exact ⟨y0, y1, y2, y3, y4, y5⟩
            refine wpAnyH_take (i := 0) (oi := { dst := some 26, op := Op.move (Operand.tmp 8), type := 30, pos := "bytes.go:119", after := #[], guard := none }) (v := ?vc2_0) rfl (by kernel_rfl) (by kernel_rfl) (by kernel_rfl) (fun _ _ _ h => h) (Or.inl ⟨by rfl, ?hc2_0⟩) (by assumption) ?rc2_0
            case hc2_0 => (intro w0 hSw; (try dsimp only at hSw); go_simp; try (with_reducible rfl))
            simp only [Act.put, List.setIfInBounds_toArray, List.set_cons_zero, List.set_cons_succ]
            refine wpAnyH_take (i := 1) (oi := { dst := some 27, op := Op.nilCheck (Operand.tmp 26), type := 0, pos := "bytes.go:119", after := #[{ on := 0, ground := Ground.data }], guard := none }) (v := ?vc2_1) rfl (by kernel_rfl) (by kernel_rfl) (by kernel_rfl) (fun _ _ _ h => h) (Or.inl ⟨by rfl, ?hc2_1⟩) (by assumption) ?rc2_1
            case hc2_1 => (intro w0 hSw; (try dsimp only at hSw); go_simp; try (with_reducible rfl))
            simp only [Act.put, List.setIfInBounds_toArray, List.set_cons_zero, List.set_cons_succ]
            refine wpAnyH_take (i := 2) (oi := { dst := some 28, op := Op.fieldAddr 64 (Operand.tmp 27) 0, type := 0, pos := "bytes.go:119", after := #[{ on := 1, ground := Ground.data }], guard := none }) (v := ?vc2_2) rfl (by kernel_rfl) (by kernel_rfl) (by kernel_rfl) (fun _ _ _ h => h) (Or.inl ⟨by rfl, ?hc2_2⟩) (by assumption) ?rc2_2
            case hc2_2 => (intro w0 hSw; (try dsimp only at hSw); go_simp; try (with_reducible rfl))
            simp only [Act.put, List.setIfInBounds_toArray, List.set_cons_zero, List.set_cons_succ]
            refine wpAnyH_take (i := 3) (oi := { dst := some 29, op := Op.load 23 (Operand.tmp 28), type := 23, pos := "bytes.go:119", after := #[{ on := 2, ground := Ground.data }], guard := none }) (v := ?vc2_3) rfl (by kernel_rfl) (by kernel_rfl) (by kernel_rfl) (fun _ _ _ h => h) (Or.inl ⟨by rfl, ?hc2_3⟩) (by assumption) ?rc2_3
            case hc2_3 => (intro w0 hSw; (try dsimp only at hSw); go_simp; try (with_reducible rfl))
            simp only [Act.put, List.setIfInBounds_toArray, List.set_cons_zero, List.set_cons_succ]
            refine wpAnyH_ready (rs := [4]) (by kernel_rfl) (by simp) ?_
            refine AllReadyH.cons rfl (fun K hK => ?_) AllReadyH.nil
            go_simp
            go_wp2_with (first | (go_at_call 22; refine (hch _).mono ?_; clear hch; rintro r w5 ⟨rfl, b5⟩; have z0 := cell_lat b5 y0; have z1 := cell_lat b5 y1; have z2 := cell_lat b5 y2; have z3 := cell_lat b5 y3; have z4 := cell_lat b5 y4; have z5 := cell_lat b5 y5) | (go_at_call 28; refine (hcb _ ((b5.block fb (World.block_lt_of_cell? _ _ y0)).trans hF)).mono ?_; clear hcb; rintro r w6 ⟨rfl, rfl⟩))
            refine hK.out _ _ ?_ (fun hHeld => ?_)
            · first | exact ⟨z0, z1, z2, z3, z4, z5⟩
            clear hK K
            refine wpAnyH_take (i := 5) (oi := { dst := some 31, op := Op.binOp BinOp.neq 26 (Operand.tmp 30) (Operand.const (Value.int IntKind.i64 0)) 26, type := 4, pos := "bytes.go:119", after := #[{ on := 4, ground := Ground.data }], guard := none }) (v := ?vc2_5) rfl (by kernel_rfl) (by kernel_rfl) (by kernel_rfl) (fun _ _ _ h => h) (Or.inl ⟨by rfl, ?hc2_5⟩) (by assumption) ?rc2_5
            case hc2_5 => (intro w0 hSw; (try dsimp only at hSw); go_simp; try (with_reducible rfl))
            simp only [Act.put, List.setIfInBounds_toArray, List.set_cons_zero, List.set_cons_succ]
            refine wpAnyH_take (i := 6) (oi := { dst := some 32, op := Op.move (Operand.tmp 31), type := 4, pos := "bytes.go:119", after := #[{ on := 5, ground := Ground.data }, { on := 4, ground := Ground.chain }], guard := none }) (v := ?vc2_6) rfl (by kernel_rfl) (by kernel_rfl) (by kernel_rfl) (fun _ _ _ h => h) (Or.inl ⟨by rfl, ?hc2_6⟩) (by assumption) ?rc2_6
            case hc2_6 => (intro w0 hSw; (try dsimp only at hSw); go_simp; try (with_reducible rfl))
            simp only [Act.put, List.setIfInBounds_toArray, List.set_cons_zero, List.set_cons_succ]
            refine wpAnyH_take (i := 7) (oi := { dst := some 33, op := Op.move (Operand.tmp 8), type := 30, pos := "bytes.go:119", after := #[{ on := 6, ground := Ground.guard }], guard := some (6, false) }) (v := ?vc2_7) rfl (by kernel_rfl) (by kernel_rfl) (by kernel_rfl) (fun _ _ _ h => h) (Or.inl ⟨by rfl, ?hc2_7⟩) (by assumption) ?rc2_7
            case hc2_7 => (intro w0 hSw; (try dsimp only at hSw); go_simp; try (with_reducible rfl))
            simp only [Act.put, List.setIfInBounds_toArray, List.set_cons_zero, List.set_cons_succ]
            refine wpAnyH_take (i := 8) (oi := { dst := some 34, op := Op.nilCheck (Operand.tmp 33), type := 0, pos := "bytes.go:119", after := #[{ on := 7, ground := Ground.data }, { on := 6, ground := Ground.guard }], guard := some (6, false) }) (v := ?vc2_8) rfl (by kernel_rfl) (by kernel_rfl) (by kernel_rfl) (fun _ _ _ h => h) (Or.inl ⟨by rfl, ?hc2_8⟩) (by assumption) ?rc2_8
            case hc2_8 => (intro w0 hSw; (try dsimp only at hSw); go_simp; try (with_reducible rfl))
            simp only [Act.put, List.setIfInBounds_toArray, List.set_cons_zero, List.set_cons_succ]
            refine wpAnyH_take (i := 9) (oi := { dst := some 35, op := Op.fieldAddr 64 (Operand.tmp 34) 0, type := 0, pos := "bytes.go:119", after := #[{ on := 8, ground := Ground.data }, { on := 6, ground := Ground.guard }], guard := some (6, false) }) (v := ?vc2_9) rfl (by kernel_rfl) (by kernel_rfl) (by kernel_rfl) (fun _ _ _ h => h) (Or.inl ⟨by rfl, ?hc2_9⟩) (by assumption) ?rc2_9
            case hc2_9 => (intro w0 hSw; (try dsimp only at hSw); go_simp; try (with_reducible rfl))
            simp only [Act.put, List.setIfInBounds_toArray, List.set_cons_zero, List.set_cons_succ]
            refine wpAnyH_take (i := 10) (oi := { dst := some 36, op := Op.fieldAddr 23 (Operand.tmp 35) 5, type := 0, pos := "bytes.go:119", after := #[{ on := 9, ground := Ground.data }, { on := 6, ground := Ground.guard }], guard := some (6, false) }) (v := ?vc2_10) rfl (by kernel_rfl) (by kernel_rfl) (by kernel_rfl) (fun _ _ _ h => h) (Or.inl ⟨by rfl, ?hc2_10⟩) (by assumption) ?rc2_10
            case hc2_10 => (intro w0 hSw; (try dsimp only at hSw); go_simp; try (with_reducible rfl))
            simp only [Act.put, List.setIfInBounds_toArray, List.set_cons_zero, List.set_cons_succ]
            refine wpAnyH_take (i := 11) (oi := { dst := some 37, op := Op.load 3 (Operand.tmp 36), type := 3, pos := "bytes.go:119", after := #[{ on := 10, ground := Ground.data }, { on := 6, ground := Ground.guard }], guard := some (6, false) }) (v := ?vc2_11) rfl (by kernel_rfl) (by kernel_rfl) (by kernel_rfl) (fun _ _ _ h => h) (Or.inl ⟨by rfl, ?hc2_11⟩) (by assumption) ?rc2_11
            case hc2_11 => (intro w0 hSw; (try dsimp only at hSw); go_simp; try (with_reducible rfl))
            simp only [Act.put, List.setIfInBounds_toArray, List.set_cons_zero, List.set_cons_succ]
            refine wpAnyH_take (i := 12) (oi := { dst := some 38, op := Op.binOp BinOp.lss 3 (Operand.tmp 37) (Operand.const (Value.int IntKind.i64 0)) 3, type := 4, pos := "bytes.go:119", after := #[{ on := 11, ground := Ground.data }, { on := 6, ground := Ground.guard }], guard := some (6, false) }) (v := ?vc2_12) rfl (by kernel_rfl) (by kernel_rfl) (by kernel_rfl) (fun _ _ _ h => h) (Or.inl ⟨by rfl, ?hc2_12⟩) (by assumption) ?rc2_12
            case hc2_12 => (intro w0 hSw; (try dsimp only at hSw); go_simp; try (with_reducible rfl))
            simp only [Act.put, List.setIfInBounds_toArray, List.set_cons_zero, List.set_cons_succ]
            refine wpAnyH_take (i := 13) (oi := { dst := some 39, op := Op.pick (Operand.tmp 32) (Operand.const (Value.bool true)) (Operand.tmp 38), type := 4, pos := "bytes.go:119", after := #[{ on := 6, ground := Ground.data }, { on := 12, ground := Ground.data }], guard := none }) (v := ?vc2_13) rfl (by kernel_rfl) (by kernel_rfl) (by kernel_rfl) (fun _ _ _ h => h) (Or.inl ⟨by rfl, ?hc2_13⟩) (by assumption) ?rc2_13
            case hc2_13 => (intro w0 hSw; (try dsimp only at hSw); go_simp; try (with_reducible rfl))
            simp only [Act.put, List.setIfInBounds_toArray, List.set_cons_zero, List.set_cons_succ]
            refine wpAnyH_take (i := 14) (oi := { dst := some 40, op := Op.move (Operand.tmp 39), type := 4, pos := "bytes.go:119", after := #[{ on := 13, ground := Ground.data }, { on := 6, ground := Ground.chain }], guard := none }) (v := ?vc2_14) rfl (by kernel_rfl) (by kernel_rfl) (by kernel_rfl) (fun _ _ _ h => h) (Or.inl ⟨by rfl, ?hc2_14⟩) (by assumption) ?rc2_14
            case hc2_14 => (intro w0 hSw; (try dsimp only at hSw); go_simp; try (with_reducible rfl))
            simp only [Act.put, List.setIfInBounds_toArray, List.set_cons_zero, List.set_cons_succ]
            refine wpAnyH_take (i := 15) (oi := { dst := some 41, op := Op.move (Operand.tmp 8), type := 30, pos := "bytes.go:119", after := #[{ on := 14, ground := Ground.guard }], guard := some (14, false) }) (v := ?vc2_15) rfl (by kernel_rfl) (by kernel_rfl) (by kernel_rfl) (fun _ _ _ h => h) (Or.inl ⟨by rfl, ?hc2_15⟩) (by assumption) ?rc2_15
            case hc2_15 => (intro w0 hSw; (try dsimp only at hSw); go_simp; try (with_reducible rfl))
            simp only [Act.put, List.setIfInBounds_toArray, List.set_cons_zero, List.set_cons_succ]
            refine wpAnyH_take (i := 16) (oi := { dst := some 42, op := Op.nilCheck (Operand.tmp 41), type := 0, pos := "bytes.go:119", after := #[{ on := 15, ground := Ground.data }, { on := 14, ground := Ground.guard }], guard := some (14, false) }) (v := ?vc2_16) rfl (by kernel_rfl) (by kernel_rfl) (by kernel_rfl) (fun _ _ _ h => h) (Or.inl ⟨by rfl, ?hc2_16⟩) (by assumption) ?rc2_16
            case hc2_16 => (intro w0 hSw; (try dsimp only at hSw); go_simp; try (with_reducible rfl))
            simp only [Act.put, List.setIfInBounds_toArray, List.set_cons_zero, List.set_cons_succ]
            refine wpAnyH_take (i := 17) (oi := { dst := some 43, op := Op.fieldAddr 64 (Operand.tmp 42) 0, type := 0, pos := "bytes.go:119", after := #[{ on := 16, ground := Ground.data }, { on := 14, ground := Ground.guard }], guard := some (14, false) }) (v := ?vc2_17) rfl (by kernel_rfl) (by kernel_rfl) (by kernel_rfl) (fun _ _ _ h => h) (Or.inl ⟨by rfl, ?hc2_17⟩) (by assumption) ?rc2_17
            case hc2_17 => (intro w0 hSw; (try dsimp only at hSw); go_simp; try (with_reducible rfl))
            simp only [Act.put, List.setIfInBounds_toArray, List.set_cons_zero, List.set_cons_succ]
            refine wpAnyH_take (i := 18) (oi := { dst := some 44, op := Op.fieldAddr 23 (Operand.tmp 43) 5, type := 0, pos := "bytes.go:119", after := #[{ on := 17, ground := Ground.data }, { on := 14, ground := Ground.guard }], guard := some (14, false) }) (v := ?vc2_18) rfl (by kernel_rfl) (by kernel_rfl) (by kernel_rfl) (fun _ _ _ h => h) (Or.inl ⟨by rfl, ?hc2_18⟩) (by assumption) ?rc2_18
            case hc2_18 => (intro w0 hSw; (try dsimp only at hSw); go_simp; try (with_reducible rfl))
            simp only [Act.put, List.setIfInBounds_toArray, List.set_cons_zero, List.set_cons_succ]
            refine wpAnyH_take (i := 19) (oi := { dst := some 45, op := Op.load 3 (Operand.tmp 44), type := 3, pos := "bytes.go:119", after := #[{ on := 18, ground := Ground.data }, { on := 14, ground := Ground.guard }], guard := some (14, false) }) (v := ?vc2_19) rfl (by kernel_rfl) (by kernel_rfl) (by kernel_rfl) (fun _ _ _ h => h) (Or.inl ⟨by rfl, ?hc2_19⟩) (by assumption) ?rc2_19
            case hc2_19 => (intro w0 hSw; (try dsimp only at hSw); go_simp; try (with_reducible rfl))
            simp only [Act.put, List.setIfInBounds_toArray, List.set_cons_zero, List.set_cons_succ]
            refine wpAnyH_take (i := 20) (oi := { dst := some 46, op := Op.move (Operand.tmp 0), type := 9, pos := "bytes.go:119", after := #[{ on := 14, ground := Ground.guard }], guard := some (14, false) }) (v := ?vc2_20) rfl (by kernel_rfl) (by kernel_rfl) (by kernel_rfl) (fun _ _ _ h => h) (Or.inl ⟨by rfl, ?hc2_20⟩) (by assumption) ?rc2_20
            case hc2_20 => (intro w0 hSw; (try dsimp only at hSw); go_simp; try (with_reducible rfl))
            simp only [Act.put, List.setIfInBounds_toArray, List.set_cons_zero, List.set_cons_succ]
            refine wpAnyH_take (i := 21) (oi := { dst := some 47, op := Op.call { callee := Callee.builtin Builtin.len, args := #[Operand.tmp 46], argTypes := #[9] }, type := 3, pos := "bytes.go:119", after := #[{ on := 20, ground := Ground.data }, { on := 14, ground := Ground.guard }], guard := some (14, false) }) (v := ?vc2_21) rfl (by kernel_rfl) (by kernel_rfl) (by kernel_rfl) (fun _ _ _ h => h) (Or.inl ⟨by rfl, ?hc2_21⟩) (by assumption) ?rc2_21
            case hc2_21 => (intro w0 hSw; (try dsimp only at hSw); go_simp; try (with_reducible rfl))
            simp only [Act.put, List.setIfInBounds_toArray, List.set_cons_zero, List.set_cons_succ]
            refine wpAnyH_take (i := 22) (oi := { dst := some 48, op := Op.move (Operand.tmp 8), type := 30, pos := "bytes.go:119", after := #[{ on := 14, ground := Ground.guard }], guard := some (14, false) }) (v := ?vc2_22) rfl (by kernel_rfl) (by kernel_rfl) (by kernel_rfl) (fun _ _ _ h => h) (Or.inl ⟨by rfl, ?hc2_22⟩) (by assumption) ?rc2_22
            case hc2_22 => (intro w0 hSw; (try dsimp only at hSw); go_simp; try (with_reducible rfl))
            simp only [Act.put, List.setIfInBounds_toArray, List.set_cons_zero, List.set_cons_succ]
            refine wpAnyH_ready (rs := [23]) (by kernel_rfl) (by simp) ?_
            refine AllReadyH.cons rfl (fun K hK => ?_) AllReadyH.nil
            go_simp
            go_wp2_with (first | (go_at_call 22; refine (hch _).mono ?_; clear hch; rintro r w5 ⟨rfl, b5⟩; have z0 := cell_lat b5 y0; have z1 := cell_lat b5 y1; have z2 := cell_lat b5 y2; have z3 := cell_lat b5 y3; have z4 := cell_lat b5 y4; have z5 := cell_lat b5 y5) | (go_at_call 28; refine (hcb _ ((b5.block fb (World.block_lt_of_cell? _ _ y0)).trans hF)).mono ?_; clear hcb; rintro r w6 ⟨rfl, rfl⟩))
            refine hK.out _ _ ?_ (fun hHeld => ?_)
            · first | exact ⟨z0, z1, z2, z3, z4, z5⟩
            clear hK K
            refine wpAnyH_take (i := 24) (oi := { dst := some 50, op := Op.binOp BinOp.add 3 (Operand.tmp 49) (Operand.const (Value.int IntKind.i64 7)) 3, type := 3, pos := "bytes.go:119", after := #[{ on := 23, ground := Ground.data }, { on := 14, ground := Ground.guard }], guard := some (14, false) }) (v := ?vc2_24) rfl (by kernel_rfl) (by kernel_rfl) (by kernel_rfl) (fun _ _ _ h => h) (Or.inl ⟨by rfl, ?hc2_24⟩) (by assumption) ?rc2_24
            case hc2_24 => (intro w0 hSw; (try dsimp only at hSw); go_simp; try (with_reducible rfl))
            simp only [Act.put, List.setIfInBounds_toArray, List.set_cons_zero, List.set_cons_succ]
            refine wpAnyH_take (i := 25) (oi := { dst := some 51, op := Op.binOp BinOp.quo 3 (Operand.tmp 47) (Operand.tmp 50) 3, type := 3, pos := "bytes.go:119", after := #[{ on := 21, ground := Ground.data }, { on := 24, ground := Ground.data }, { on := 14, ground := Ground.guard }], guard := some (14, false) }) (v := ?vc2_25) rfl (by kernel_rfl) (by kernel_rfl) (by kernel_rfl) (fun _ _ _ h => h) (Or.inl ⟨by rfl, ?hc2_25⟩) (by assumption) ?rc2_25
            case hc2_25 => (intro w0 hSw; (try dsimp only at hSw); go_simp; try (with_reducible rfl))
            simp only [Act.put, List.setIfInBounds_toArray, List.set_cons_zero, List.set_cons_succ]
            refine wpAnyH_take (i := 26) (oi := { dst := some 52, op := Op.binOp BinOp.gtr 3 (Operand.tmp 45) (Operand.tmp 51) 3, type := 4, pos := "bytes.go:119", after := #[{ on := 19, ground := Ground.data }, { on := 25, ground := Ground.data }, { on := 14, ground := Ground.guard }], guard := some (14, false) }) (v := ?vc2_26) rfl (by kernel_rfl) (by kernel_rfl) (by kernel_rfl) (fun _ _ _ h => h) (Or.inl ⟨by rfl, ?hc2_26⟩) (by assumption) ?rc2_26
            case hc2_26 => (intro w0 hSw; (try dsimp only at hSw); go_simp; try (with_reducible rfl))
            simp only [Act.put, List.setIfInBounds_toArray, List.set_cons_zero, List.set_cons_succ]
            refine wpAnyH_take (i := 27) (oi := { dst := some 53, op := Op.pick (Operand.tmp 40) (Operand.const (Value.bool true)) (Operand.tmp 52), type := 4, pos := "bytes.go:119", after := #[{ on := 14, ground := Ground.data }, { on := 26, ground := Ground.data }], guard := none }) (v := ?vc2_27) rfl (by kernel_rfl) (by kernel_rfl) (by kernel_rfl) (fun _ _ _ h => h) (Or.inl ⟨by rfl, ?hc2_27⟩) (by assumption) ?rc2_27
            case hc2_27 => (intro w0 hSw; (try dsimp only at hSw); go_simp; try (with_reducible rfl))
            simp only [Act.put, List.setIfInBounds_toArray, List.set_cons_zero, List.set_cons_succ]
            refine wpAnyH_done (by kernel_rfl) ?_ _
            go_wp2
            go_ret2
            exact RdO.no hE (chain b13 (below_d b5) (Nat.le_refl _))
        · have hE : rdA b = none := by rw [HE1.out, if_neg (fun h => hc0 h.2.1)]
          have hc1 : decide (cn < 0) = true := decide_eq_true (by omega)
          clear HE1 hH hc0 hcb hCB hCB1 k1
          refine wp_region_held_drew (S := fun w' => w'.cell? ⟨fb, 0, none⟩ = some (.int .i64 wd) ∧ w'.cell? ⟨fb, 1, none⟩ = some (.int .i64 t) ∧ w'.cell? ⟨fb, 2, none⟩ = some (.int .i64 bt) ∧ w'.cell? ⟨fb, 3, none⟩ = some (.int .i64 lo) ∧ w'.cell? ⟨fb, 4, none⟩ = some (.int .i64 hi) ∧ w'.cell? ⟨fb, 5, none⟩ = some (.int .i64 cn)) (by kernel_rfl) ?_ (fun hHeld => ?_)
          · exact ⟨y0, y1, y2, y3, y4, y5⟩
          refine wpAnyH_take (i := 0) (oi := { dst := some 26, op := Op.move (Operand.tmp 8), type := 30, pos := "bytes.go:119", after := #[], guard := none }) (v := ?vb0) rfl (by kernel_rfl) (by kernel_rfl) (by kernel_rfl) (fun _ _ _ h => h) (Or.inl ⟨by rfl, ?hb0⟩) (by assumption) ?rb0
          case hb0 => (intro w0 hSw; (try dsimp only at hSw); go_simp; try (with_reducible rfl))
          simp only [Act.put, List.setIfInBounds_toArray, List.set_cons_zero, List.set_cons_succ]
          refine wpAnyH_take (i := 1) (oi := { dst := some 27, op := Op.nilCheck (Operand.tmp 26), type := 0, pos := "bytes.go:119", after := #[{ on := 0, ground := Ground.data }], guard := none }) (v := ?vb1) rfl (by kernel_rfl) (by kernel_rfl) (by kernel_rfl) (fun _ _ _ h => h) (Or.inl ⟨by rfl, ?hb1⟩) (by assumption) ?rb1
          case hb1 => (intro w0 hSw; (try dsimp only at hSw); go_simp; try (with_reducible rfl))
          simp only [Act.put, List.setIfInBounds_toArray, List.set_cons_zero, List.set_cons_succ]
          refine wpAnyH_take (i := 2) (oi := { dst := some 28, op := Op.fieldAddr 64 (Operand.tmp 27) 0, type := 0, pos := "bytes.go:119", after := #[{ on := 1, ground := Ground.data }], guard := none }) (v := ?vb2) rfl (by kernel_rfl) (by kernel_rfl) (by kernel_rfl) (fun _ _ _ h => h) (Or.inl ⟨by rfl, ?hb2⟩) (by assumption) ?rb2
          case hb2 => (intro w0 hSw; (try dsimp only at hSw); go_simp; try (with_reducible rfl))
          simp only [Act.put, List.setIfInBounds_toArray, List.set_cons_zero, List.set_cons_succ]
          refine wpAnyH_take (i := 3) (oi := { dst := some 29, op := Op.load 23 (Operand.tmp 28), type := 23, pos := "bytes.go:119", after := #[{ on := 2, ground := Ground.data }], guard := none }) (v := ?vb3) rfl (by kernel_rfl) (by kernel_rfl) (by kernel_rfl) (fun _ _ _ h => h) (Or.inl ⟨by rfl, ?hb3⟩) (by assumption) ?rb3
          case hb3 => (intro w0 hSw; (try dsimp only at hSw); go_simp; try (with_reducible rfl))
          simp only [Act.put, List.setIfInBounds_toArray, List.set_cons_zero, List.set_cons_succ]
          refine wpAnyH_ready (rs := [4]) (by kernel_rfl) (by simp) ?_
          refine AllReadyH.cons rfl (fun K hK => ?_) AllReadyH.nil
          go_simp
          go_wp2_with (first | (go_at_call 22; refine (hch _).mono ?_; clear hch; rintro r w5 ⟨rfl, b5⟩; have z0 := cell_lat b5 y0; have z1 := cell_lat b5 y1; have z2 := cell_lat b5 y2; have z3 := cell_lat b5 y3; have z4 := cell_lat b5 y4; have z5 := cell_lat b5 y5) | (go_at_call 28; refine (hcb _ ((b5.block fb (World.block_lt_of_cell? _ _ y0)).trans hF)).mono ?_; clear hcb; rintro r w6 ⟨rfl, rfl⟩))
          refine hK.out _ _ ?_ (fun hHeld => ?_)
          · first | exact ⟨z0, z1, z2, z3, z4, z5⟩
          clear hK K
          refine wpAnyH_take (i := 5) (oi := { dst := some 31, op := Op.binOp BinOp.neq 26 (Operand.tmp 30) (Operand.const (Value.int IntKind.i64 0)) 26, type := 4, pos := "bytes.go:119", after := #[{ on := 4, ground := Ground.data }], guard := none }) (v := ?vb5) rfl (by kernel_rfl) (by kernel_rfl) (by kernel_rfl) (fun _ _ _ h => h) (Or.inl ⟨by rfl, ?hb5⟩) (by assumption) ?rb5
          case hb5 => (intro w0 hSw; (try dsimp only at hSw); go_simp; try (with_reducible rfl))
          simp only [Act.put, List.setIfInBounds_toArray, List.set_cons_zero, List.set_cons_succ]
          refine wpAnyH_take (i := 6) (oi := { dst := some 32, op := Op.move (Operand.tmp 31), type := 4, pos := "bytes.go:119", after := #[{ on := 5, ground := Ground.data }, { on := 4, ground := Ground.chain }], guard := none }) (v := ?vb6) rfl (by kernel_rfl) (by kernel_rfl) (by kernel_rfl) (fun _ _ _ h => h) (Or.inl ⟨by rfl, ?hb6⟩) (by assumption) ?rb6
          case hb6 => (intro w0 hSw; (try dsimp only at hSw); go_simp; try (with_reducible rfl))
          simp only [Act.put, List.setIfInBounds_toArray, List.set_cons_zero, List.set_cons_succ]
          refine wpAnyH_take (i := 7) (oi := { dst := some 33, op := Op.move (Operand.tmp 8), type := 30, pos := "bytes.go:119", after := #[{ on := 6, ground := Ground.guard }], guard := some (6, false) }) (v := ?vb7) rfl (by kernel_rfl) (by kernel_rfl) (by kernel_rfl) (fun _ _ _ h => h) (Or.inl ⟨by rfl, ?hb7⟩) (by assumption) ?rb7
          case hb7 => (intro w0 hSw; (try dsimp only at hSw); go_simp; try (with_reducible rfl))
          simp only [Act.put, List.setIfInBounds_toArray, List.set_cons_zero, List.set_cons_succ]
          refine wpAnyH_take (i := 8) (oi := { dst := some 34, op := Op.nilCheck (Operand.tmp 33), type := 0, pos := "bytes.go:119", after := #[{ on := 7, ground := Ground.data }, { on := 6, ground := Ground.guard }], guard := some (6, false) }) (v := ?vb8) rfl (by kernel_rfl) (by kernel_rfl) (by kernel_rfl) (fun _ _ _ h => h) (Or.inl ⟨by rfl, ?hb8⟩) (by assumption) ?rb8
          case hb8 => (intro w0 hSw; (try dsimp only at hSw); go_simp; try (with_reducible rfl))
          simp only [Act.put, List.setIfInBounds_toArray, List.set_cons_zero, List.set_cons_succ]
          refine wpAnyH_take (i := 9) (oi := { dst := some 35, op := Op.fieldAddr 64 (Operand.tmp 34) 0, type := 0, pos := "bytes.go:119", after := #[{ on := 8, ground := Ground.data }, { on := 6, ground := Ground.guard }], guard := some (6, false) }) (v := ?vb9) rfl (by kernel_rfl) (by kernel_rfl) (by kernel_rfl) (fun _ _ _ h => h) (Or.inl ⟨by rfl, ?hb9⟩) (by assumption) ?rb9
          case hb9 => (intro w0 hSw; (try dsimp only at hSw); go_simp; try (with_reducible rfl))
          simp only [Act.put, List.setIfInBounds_toArray, List.set_cons_zero, List.set_cons_succ]
          refine wpAnyH_take (i := 10) (oi := { dst := some 36, op := Op.fieldAddr 23 (Operand.tmp 35) 5, type := 0, pos := "bytes.go:119", after := #[{ on := 9, ground := Ground.data }, { on := 6, ground := Ground.guard }], guard := some (6, false) }) (v := ?vb10) rfl (by kernel_rfl) (by kernel_rfl) (by kernel_rfl) (fun _ _ _ h => h) (Or.inl ⟨by rfl, ?hb10⟩) (by assumption) ?rb10
          case hb10 => (intro w0 hSw; (try dsimp only at hSw); go_simp; try (with_reducible rfl))
          simp only [Act.put, List.setIfInBounds_toArray, List.set_cons_zero, List.set_cons_succ]
          refine wpAnyH_take (i := 11) (oi := { dst := some 37, op := Op.load 3 (Operand.tmp 36), type := 3, pos := "bytes.go:119", after := #[{ on := 10, ground := Ground.data }, { on := 6, ground := Ground.guard }], guard := some (6, false) }) (v := ?vb11) rfl (by kernel_rfl) (by kernel_rfl) (by kernel_rfl) (fun _ _ _ h => h) (Or.inl ⟨by rfl, ?hb11⟩) (by assumption) ?rb11
          case hb11 => (intro w0 hSw; (try dsimp only at hSw); go_simp; try (with_reducible rfl))
          simp only [Act.put, List.setIfInBounds_toArray, List.set_cons_zero, List.set_cons_succ]
          refine wpAnyH_take (i := 12) (oi := { dst := some 38, op := Op.binOp BinOp.lss 3 (Operand.tmp 37) (Operand.const (Value.int IntKind.i64 0)) 3, type := 4, pos := "bytes.go:119", after := #[{ on := 11, ground := Ground.data }, { on := 6, ground := Ground.guard }], guard := some (6, false) }) (v := ?vb12) rfl (by kernel_rfl) (by kernel_rfl) (by kernel_rfl) (fun _ _ _ h => h) (Or.inl ⟨by rfl, ?hb12⟩) (by assumption) ?rb12
          case hb12 => (intro w0 hSw; (try dsimp only at hSw); go_simp; try (with_reducible rfl))
          simp only [Act.put, List.setIfInBounds_toArray, List.set_cons_zero, List.set_cons_succ]
          refine wpAnyH_take (i := 13) (oi := { dst := some 39, op := Op.pick (Operand.tmp 32) (Operand.const (Value.bool true)) (Operand.tmp 38), type := 4, pos := "bytes.go:119", after := #[{ on := 6, ground := Ground.data }, { on := 12, ground := Ground.data }], guard := none }) (v := ?vb13) rfl (by kernel_rfl) (by kernel_rfl) (by kernel_rfl) (fun _ _ _ h => h) (Or.inl ⟨by rfl, ?hb13⟩) (by assumption) ?rb13
          case hb13 => (intro w0 hSw; (try dsimp only at hSw); go_simp; try (with_reducible rfl))
          simp only [Act.put, List.setIfInBounds_toArray, List.set_cons_zero, List.set_cons_succ]
          refine wpAnyH_take (i := 14) (oi := { dst := some 40, op := Op.move (Operand.tmp 39), type := 4, pos := "bytes.go:119", after := #[{ on := 13, ground := Ground.data }, { on := 6, ground := Ground.chain }], guard := none }) (v := ?vb14) rfl (by kernel_rfl) (by kernel_rfl) (by kernel_rfl) (fun _ _ _ h => h) (Or.inl ⟨by rfl, ?hb14⟩) (by assumption) ?rb14
          case hb14 => (intro w0 hSw; (try dsimp only at hSw); go_simp; try (with_reducible rfl))
          simp only [Act.put, List.setIfInBounds_toArray, List.set_cons_zero, List.set_cons_succ]
          refine wpAnyH_take (i := 15) (oi := { dst := some 41, op := Op.move (Operand.tmp 8), type := 30, pos := "bytes.go:119", after := #[{ on := 14, ground := Ground.guard }], guard := some (14, false) }) rfl (by kernel_rfl) (by kernel_rfl) (by kernel_rfl) (fun _ _ _ h => h) (Or.inr ⟨by rfl, rfl⟩) (by assumption) ?_
          simp only [Act.put, List.setIfInBounds_toArray, List.set_cons_zero, List.set_cons_succ]
          refine wpAnyH_take (i := 16) (oi := { dst := some 42, op := Op.nilCheck (Operand.tmp 41), type := 0, pos := "bytes.go:119", after := #[{ on := 15, ground := Ground.data }, { on := 14, ground := Ground.guard }], guard := some (14, false) }) rfl (by kernel_rfl) (by kernel_rfl) (by kernel_rfl) (fun _ _ _ h => h) (Or.inr ⟨by rfl, rfl⟩) (by assumption) ?_
          simp only [Act.put, List.setIfInBounds_toArray, List.set_cons_zero, List.set_cons_succ]
          refine wpAnyH_take (i := 17) (oi := { dst := some 43, op := Op.fieldAddr 64 (Operand.tmp 42) 0, type := 0, pos := "bytes.go:119", after := #[{ on := 16, ground := Ground.data }, { on := 14, ground := Ground.guard }], guard := some (14, false) }) rfl (by kernel_rfl) (by kernel_rfl) (by kernel_rfl) (fun _ _ _ h => h) (Or.inr ⟨by rfl, rfl⟩) (by assumption) ?_
          simp only [Act.put, List.setIfInBounds_toArray, List.set_cons_zero, List.set_cons_succ]
          refine wpAnyH_take (i := 18) (oi := { dst := some 44, op := Op.fieldAddr 23 (Operand.tmp 43) 5, type := 0, pos := "bytes.go:119", after := #[{ on := 17, ground := Ground.data }, { on := 14, ground := Ground.guard }], guard := some (14, false) }) rfl (by kernel_rfl) (by kernel_rfl) (by kernel_rfl) (fun _ _ _ h => h) (Or.inr ⟨by rfl, rfl⟩) (by assumption) ?_
          simp only [Act.put, List.setIfInBounds_toArray, List.set_cons_zero, List.set_cons_succ]
          refine wpAnyH_take (i := 19) (oi := { dst := some 45, op := Op.load 3 (Operand.tmp 44), type := 3, pos := "bytes.go:119", after := #[{ on := 18, ground := Ground.data }, { on := 14, ground := Ground.guard }], guard := some (14, false) }) rfl (by kernel_rfl) (by kernel_rfl) (by kernel_rfl) (fun _ _ _ h => h) (Or.inr ⟨by rfl, rfl⟩) (by assumption) ?_
          simp only [Act.put, List.setIfInBounds_toArray, List.set_cons_zero, List.set_cons_succ]
          refine wpAnyH_take (i := 20) (oi := { dst := some 46, op := Op.move (Operand.tmp 0), type := 9, pos := "bytes.go:119", after := #[{ on := 14, ground := Ground.guard }], guard := some (14, false) }) rfl (by kernel_rfl) (by kernel_rfl) (by kernel_rfl) (fun _ _ _ h => h) (Or.inr ⟨by rfl, rfl⟩) (by assumption) ?_
          simp only [Act.put, List.setIfInBounds_toArray, List.set_cons_zero, List.set_cons_succ]
          refine wpAnyH_take (i := 21) (oi := { dst := some 47, op := Op.call { callee := Callee.builtin Builtin.len, args := #[Operand.tmp 46], argTypes := #[9] }, type := 3, pos := "bytes.go:119", after := #[{ on := 20, ground := Ground.data }, { on := 14, ground := Ground.guard }], guard := some (14, false) }) rfl (by kernel_rfl) (by kernel_rfl) (by kernel_rfl) (fun _ _ _ h => h) (Or.inr ⟨by rfl, rfl⟩) (by assumption) ?_
          simp only [Act.put, List.setIfInBounds_toArray, List.set_cons_zero, List.set_cons_succ]
          refine wpAnyH_take (i := 22) (oi := { dst := some 48, op := Op.move (Operand.tmp 8), type := 30, pos := "bytes.go:119", after := #[{ on := 14, ground := Ground.guard }], guard := some (14, false) }) rfl (by kernel_rfl) (by kernel_rfl) (by kernel_rfl) (fun _ _ _ h => h) (Or.inr ⟨by rfl, rfl⟩) (by assumption) ?_
          simp only [Act.put, List.setIfInBounds_toArray, List.set_cons_zero, List.set_cons_succ]
          refine wpAnyH_take (i := 23) (oi := { dst := some 49, op := Op.call { callee := Callee.value (Operand.func 28), args := #[Operand.tmp 48], argTypes := #[30] }, type := 3, pos := "bytes.go:119", after := #[{ on := 22, ground := Ground.data }, { on := 14, ground := Ground.chain }, { on := 14, ground := Ground.guard }], guard := some (14, false) }) rfl (by kernel_rfl) (by kernel_rfl) (by kernel_rfl) (fun _ _ _ h => h) (Or.inr ⟨by rfl, rfl⟩) (by assumption) ?_
          simp only [Act.put, List.setIfInBounds_toArray, List.set_cons_zero, List.set_cons_succ]
          refine wpAnyH_take (i := 24) (oi := { dst := some 50, op := Op.binOp BinOp.add 3 (Operand.tmp 49) (Operand.const (Value.int IntKind.i64 7)) 3, type := 3, pos := "bytes.go:119", after := #[{ on := 23, ground := Ground.data }, { on := 14, ground := Ground.guard }], guard := some (14, false) }) rfl (by kernel_rfl) (by kernel_rfl) (by kernel_rfl) (fun _ _ _ h => h) (Or.inr ⟨by rfl, rfl⟩) (by assumption) ?_
          simp only [Act.put, List.setIfInBounds_toArray, List.set_cons_zero, List.set_cons_succ]
          refine wpAnyH_take (i := 25) (oi := { dst := some 51, op := Op.binOp BinOp.quo 3 (Operand.tmp 47) (Operand.tmp 50) 3, type := 3, pos := "bytes.go:119", after := #[{ on := 21, ground := Ground.data }, { on := 24, ground := Ground.data }, { on := 14, ground := Ground.guard }], guard := some (14, false) }) rfl (by kernel_rfl) (by kernel_rfl) (by kernel_rfl) (fun _ _ _ h => h) (Or.inr ⟨by rfl, rfl⟩) (by assumption) ?_
          simp only [Act.put, List.setIfInBounds_toArray, List.set_cons_zero, List.set_cons_succ]
          refine wpAnyH_take (i := 26) (oi := { dst := some 52, op := Op.binOp BinOp.gtr 3 (Operand.tmp 45) (Operand.tmp 51) 3, type := 4, pos := "bytes.go:119", after := #[{ on := 19, ground := Ground.data }, { on := 25, ground := Ground.data }, { on := 14, ground := Ground.guard }], guard := some (14, false) }) rfl (by kernel_rfl) (by kernel_rfl) (by kernel_rfl) (fun _ _ _ h => h) (Or.inr ⟨by rfl, rfl⟩) (by assumption) ?_
          simp only [Act.put, List.setIfInBounds_toArray, List.set_cons_zero, List.set_cons_succ]
          refine wpAnyH_take (i := 27) (oi := { dst := some 53, op := Op.pick (Operand.tmp 40) (Operand.const (Value.bool true)) (Operand.tmp 52), type := 4, pos := "bytes.go:119", after := #[{ on := 14, ground := Ground.data }, { on := 26, ground := Ground.data }], guard := none }) (v := ?vb27) rfl (by kernel_rfl) (by kernel_rfl) (by kernel_rfl) (fun _ _ _ h => h) (Or.inl ⟨by rfl, ?hb27⟩) (by assumption) ?rb27
          case hb27 => (intro w0 hSw; (try dsimp only at hSw); go_simp; try (with_reducible rfl))
          simp only [Act.put, List.setIfInBounds_toArray, List.set_cons_zero, List.set_cons_succ]
          refine wpAnyH_done (by kernel_rfl) ?_ _
          go_wp2
          go_ret2
          exact RdO.no hE (chain b13 (below_d b5) (Nat.le_refl _))
      · have h1 : (hdE ⟨wd, t, bt, lo, hi, cn⟩ != 0) = true := by simpa using hH
        have hE : rdA b = none := by rw [HE1.out, if_neg (fun h => hH h.1)]
        generalize hdE ⟨wd, t, bt, lo, hi, cn⟩ = E at *
        clear HE1 hH
        refine wp_region_held_drew (S := fun w' => w'.cell? ⟨fb, 0, none⟩ = some (.int .i64 wd) ∧ w'.cell? ⟨fb, 1, none⟩ = some (.int .i64 t) ∧ w'.cell? ⟨fb, 2, none⟩ = some (.int .i64 bt) ∧ w'.cell? ⟨fb, 3, none⟩ = some (.int .i64 lo) ∧ w'.cell? ⟨fb, 4, none⟩ = some (.int .i64 hi) ∧ w'.cell? ⟨fb, 5, none⟩ = some (.int .i64 cn)) (by kernel_rfl) ?_ (fun hHeld => ?_)
        · exact ⟨y0, y1, y2, y3, y4, y5⟩
        refine wpAnyH_take (i := 0) (oi := { dst := some 26, op := Op.move (Operand.tmp 8), type := 30, pos := "bytes.go:119", after := #[], guard := none }) (v := ?va0) rfl (by kernel_rfl) (by kernel_rfl) (by kernel_rfl) (fun _ _ _ h => h) (Or.inl ⟨by rfl, ?ha0⟩) (by assumption) ?ra0
        case ha0 => (intro w0 hSw; (try dsimp only at hSw); go_simp; try (with_reducible rfl))
        simp only [Act.put, List.setIfInBounds_toArray, List.set_cons_zero, List.set_cons_succ]
        refine wpAnyH_take (i := 1) (oi := { dst := some 27, op := Op.nilCheck (Operand.tmp 26), type := 0, pos := "bytes.go:119", after := #[{ on := 0, ground := Ground.data }], guard := none }) (v := ?va1) rfl (by kernel_rfl) (by kernel_rfl) (by kernel_rfl) (fun _ _ _ h => h) (Or.inl ⟨by rfl, ?ha1⟩) (by assumption) ?ra1
        case ha1 => (intro w0 hSw; (try dsimp only at hSw); go_simp; try (with_reducible rfl))
        simp only [Act.put, List.setIfInBounds_toArray, List.set_cons_zero, List.set_cons_succ]
        refine wpAnyH_take (i := 2) (oi := { dst := some 28, op := Op.fieldAddr 64 (Operand.tmp 27) 0, type := 0, pos := "bytes.go:119", after := #[{ on := 1, ground := Ground.data }], guard := none }) (v := ?va2) rfl (by kernel_rfl) (by kernel_rfl) (by kernel_rfl) (fun _ _ _ h => h) (Or.inl ⟨by rfl, ?ha2⟩) (by assumption) ?ra2
        case ha2 => (intro w0 hSw; (try dsimp only at hSw); go_simp; try (with_reducible rfl))
        simp only [Act.put, List.setIfInBounds_toArray, List.set_cons_zero, List.set_cons_succ]
        refine wpAnyH_take (i := 3) (oi := { dst := some 29, op := Op.load 23 (Operand.tmp 28), type := 23, pos := "bytes.go:119", after := #[{ on := 2, ground := Ground.data }], guard := none }) (v := ?va3) rfl (by kernel_rfl) (by kernel_rfl) (by kernel_rfl) (fun _ _ _ h => h) (Or.inl ⟨by rfl, ?ha3⟩) (by assumption) ?ra3
        case ha3 => (intro w0 hSw; (try dsimp only at hSw); go_simp; try (with_reducible rfl))
        simp only [Act.put, List.setIfInBounds_toArray, List.set_cons_zero, List.set_cons_succ]
        refine wpAnyH_ready (rs := [4]) (by kernel_rfl) (by simp) ?_
        refine AllReadyH.cons rfl (fun K hK => ?_) AllReadyH.nil
        go_simp
        go_wp2_with (first | (go_at_call 22; refine (hch _).mono ?_; clear hch; rintro r w5 ⟨rfl, b5⟩; have z0 := cell_lat b5 y0; have z1 := cell_lat b5 y1; have z2 := cell_lat b5 y2; have z3 := cell_lat b5 y3; have z4 := cell_lat b5 y4; have z5 := cell_lat b5 y5) | (go_at_call 28; refine (hcb _ ((b5.block fb (World.block_lt_of_cell? _ _ y0)).trans hF)).mono ?_; clear hcb; rintro r w6 ⟨rfl, rfl⟩))
        refine hK.out _ _ ?_ (fun hHeld => ?_)
        · first | exact ⟨z0, z1, z2, z3, z4, z5⟩
        clear hK K
        refine wpAnyH_take (i := 5) (oi := { dst := some 31, op := Op.binOp BinOp.neq 26 (Operand.tmp 30) (Operand.const (Value.int IntKind.i64 0)) 26, type := 4, pos := "bytes.go:119", after := #[{ on := 4, ground := Ground.data }], guard := none }) (v := ?va5) rfl (by kernel_rfl) (by kernel_rfl) (by kernel_rfl) (fun _ _ _ h => h) (Or.inl ⟨by rfl, ?ha5⟩) (by assumption) ?ra5
        case ha5 => (intro w0 hSw; (try dsimp only at hSw); go_simp; try (with_reducible rfl))
        simp only [Act.put, List.setIfInBounds_toArray, List.set_cons_zero, List.set_cons_succ]
        refine wpAnyH_take (i := 6) (oi := { dst := some 32, op := Op.move (Operand.tmp 31), type := 4, pos := "bytes.go:119", after := #[{ on := 5, ground := Ground.data }, { on := 4, ground := Ground.chain }], guard := none }) (v := ?va6) rfl (by kernel_rfl) (by kernel_rfl) (by kernel_rfl) (fun _ _ _ h => h) (Or.inl ⟨by rfl, ?ha6⟩) (by assumption) ?ra6
        case ha6 => (intro w0 hSw; (try dsimp only at hSw); go_simp; try (with_reducible rfl))
        simp only [Act.put, List.setIfInBounds_toArray, List.set_cons_zero, List.set_cons_succ]
        refine wpAnyH_take (i := 7) (oi := { dst := some 33, op := Op.move (Operand.tmp 8), type := 30, pos := "bytes.go:119", after := #[{ on := 6, ground := Ground.guard }], guard := some (6, false) }) rfl (by kernel_rfl) (by kernel_rfl) (by kernel_rfl) (fun _ _ _ h => h) (Or.inr ⟨by rfl, rfl⟩) (by assumption) ?_
        simp only [Act.put, List.setIfInBounds_toArray, List.set_cons_zero, List.set_cons_succ]
        refine wpAnyH_take (i := 8) (oi := { dst := some 34, op := Op.nilCheck (Operand.tmp 33), type := 0, pos := "bytes.go:119", after := #[{ on := 7, ground := Ground.data }, { on := 6, ground := Ground.guard }], guard := some (6, false) }) rfl (by kernel_rfl) (by kernel_rfl) (by kernel_rfl) (fun _ _ _ h => h) (Or.inr ⟨by rfl, rfl⟩) (by assumption) ?_
        simp only [Act.put, List.setIfInBounds_toArray, List.set_cons_zero, List.set_cons_succ]
        refine wpAnyH_take (i := 9) (oi := { dst := some 35, op := Op.fieldAddr 64 (Operand.tmp 34) 0, type := 0, pos := "bytes.go:119", after := #[{ on := 8, ground := Ground.data }, { on := 6, ground := Ground.guard }], guard := some (6, false) }) rfl (by kernel_rfl) (by kernel_rfl) (by kernel_rfl) (fun _ _ _ h => h) (Or.inr ⟨by rfl, rfl⟩) (by assumption) ?_
        simp only [Act.put, List.setIfInBounds_toArray, List.set_cons_zero, List.set_cons_succ]
        refine wpAnyH_take (i := 10) (oi := { dst := some 36, op := Op.fieldAddr 23 (Operand.tmp 35) 5, type := 0, pos := "bytes.go:119", after := #[{ on := 9, ground := Ground.data }, { on := 6, ground := Ground.guard }], guard := some (6, false) }) rfl (by kernel_rfl) (by kernel_rfl) (by kernel_rfl) (fun _ _ _ h => h) (Or.inr ⟨by rfl, rfl⟩) (by assumption) ?_
        simp only [Act.put, List.setIfInBounds_toArray, List.set_cons_zero, List.set_cons_succ]
        refine wpAnyH_take (i := 11) (oi := { dst := some 37, op := Op.load 3 (Operand.tmp 36), type := 3, pos := "bytes.go:119", after := #[{ on := 10, ground := Ground.data }, { on := 6, ground := Ground.guard }], guard := some (6, false) }) rfl (by kernel_rfl) (by kernel_rfl) (by kernel_rfl) (fun _ _ _ h => h) (Or.inr ⟨by rfl, rfl⟩) (by assumption) ?_
        simp only [Act.put, List.setIfInBounds_toArray, List.set_cons_zero, List.set_cons_succ]
        refine wpAnyH_take (i := 12) (oi := { dst := some 38, op := Op.binOp BinOp.lss 3 (Operand.tmp 37) (Operand.const (Value.int IntKind.i64 0)) 3, type := 4, pos := "bytes.go:119", after := #[{ on := 11, ground := Ground.data }, { on := 6, ground := Ground.guard }], guard := some (6, false) }) rfl (by kernel_rfl) (by kernel_rfl) (by kernel_rfl) (fun _ _ _ h => h) (Or.inr ⟨by rfl, rfl⟩) (by assumption) ?_
        simp only [Act.put, List.setIfInBounds_toArray, List.set_cons_zero, List.set_cons_succ]
        refine wpAnyH_take (i := 13) (oi := { dst := some 39, op := Op.pick (Operand.tmp 32) (Operand.const (Value.bool true)) (Operand.tmp 38), type := 4, pos := "bytes.go:119", after := #[{ on := 6, ground := Ground.data }, { on := 12, ground := Ground.data }], guard := none }) (v := ?va13) rfl (by kernel_rfl) (by kernel_rfl) (by kernel_rfl) (fun _ _ _ h => h) (Or.inl ⟨by rfl, ?ha13⟩) (by assumption) ?ra13
        case ha13 => (intro w0 hSw; (try dsimp only at hSw); go_simp; try (with_reducible rfl))
        simp only [Act.put, List.setIfInBounds_toArray, List.set_cons_zero, List.set_cons_succ]
        refine wpAnyH_take (i := 14) (oi := { dst := some 40, op := Op.move (Operand.tmp 39), type := 4, pos := "bytes.go:119", after := #[{ on := 13, ground := Ground.data }, { on := 6, ground := Ground.chain }], guard := none }) (v := ?va14) rfl (by kernel_rfl) (by kernel_rfl) (by kernel_rfl) (fun _ _ _ h => h) (Or.inl ⟨by rfl, ?ha14⟩) (by assumption) ?ra14
        case ha14 => (intro w0 hSw; (try dsimp only at hSw); go_simp; try (with_reducible rfl))
        simp only [Act.put, List.setIfInBounds_toArray, List.set_cons_zero, List.set_cons_succ]
        refine wpAnyH_take (i := 15) (oi := { dst := some 41, op := Op.move (Operand.tmp 8), type := 30, pos := "bytes.go:119", after := #[{ on := 14, ground := Ground.guard }], guard := some (14, false) }) rfl (by kernel_rfl) (by kernel_rfl) (by kernel_rfl) (fun _ _ _ h => h) (Or.inr ⟨by rfl, rfl⟩) (by assumption) ?_
        simp only [Act.put, List.setIfInBounds_toArray, List.set_cons_zero, List.set_cons_succ]
        refine wpAnyH_take (i := 16) (oi := { dst := some 42, op := Op.nilCheck (Operand.tmp 41), type := 0, pos := "bytes.go:119", after := #[{ on := 15, ground := Ground.data }, { on := 14, ground := Ground.guard }], guard := some (14, false) }) rfl (by kernel_rfl) (by kernel_rfl) (by kernel_rfl) (fun _ _ _ h => h) (Or.inr ⟨by rfl, rfl⟩) (by assumption) ?_
        simp only [Act.put, List.setIfInBounds_toArray, List.set_cons_zero, List.set_cons_succ]
        refine wpAnyH_take (i := 17) (oi := { dst := some 43, op := Op.fieldAddr 64 (Operand.tmp 42) 0, type := 0, pos := "bytes.go:119", after := #[{ on := 16, ground := Ground.data }, { on := 14, ground := Ground.guard }], guard := some (14, false) }) rfl (by kernel_rfl) (by kernel_rfl) (by kernel_rfl) (fun _ _ _ h => h) (Or.inr ⟨by rfl, rfl⟩) (by assumption) ?_
        simp only [Act.put, List.setIfInBounds_toArray, List.set_cons_zero, List.set_cons_succ]
        refine wpAnyH_take (i := 18) (oi := { dst := some 44, op := Op.fieldAddr 23 (Operand.tmp 43) 5, type := 0, pos := "bytes.go:119", after := #[{ on := 17, ground := Ground.data }, { on := 14, ground := Ground.guard }], guard := some (14, false) }) rfl (by kernel_rfl) (by kernel_rfl) (by kernel_rfl) (fun _ _ _ h => h) (Or.inr ⟨by rfl, rfl⟩) (by assumption) ?_
        simp only [Act.put, List.setIfInBounds_toArray, List.set_cons_zero, List.set_cons_succ]
        refine wpAnyH_take (i := 19) (oi := { dst := some 45, op := Op.load 3 (Operand.tmp 44), type := 3, pos := "bytes.go:119", after := #[{ on := 18, ground := Ground.data }, { on := 14, ground := Ground.guard }], guard := some (14, false) }) rfl (by kernel_rfl) (by kernel_rfl) (by kernel_rfl) (fun _ _ _ h => h) (Or.inr ⟨by rfl, rfl⟩) (by assumption) ?_
        simp only [Act.put, List.setIfInBounds_toArray, List.set_cons_zero, List.set_cons_succ]
        refine wpAnyH_take (i := 20) (oi := { dst := some 46, op := Op.move (Operand.tmp 0), type := 9, pos := "bytes.go:119", after := #[{ on := 14, ground := Ground.guard }], guard := some (14, false) }) rfl (by kernel_rfl) (by kernel_rfl) (by kernel_rfl) (fun _ _ _ h => h) (Or.inr ⟨by rfl, rfl⟩) (by assumption) ?_
        simp only [Act.put, List.setIfInBounds_toArray, List.set_cons_zero, List.set_cons_succ]
        refine wpAnyH_take (i := 21) (oi := { dst := some 47, op := Op.call { callee := Callee.builtin Builtin.len, args := #[Operand.tmp 46], argTypes := #[9] }, type := 3, pos := "bytes.go:119", after := #[{ on := 20, ground := Ground.data }, { on := 14, ground := Ground.guard }], guard := some (14, false) }) rfl (by kernel_rfl) (by kernel_rfl) (by kernel_rfl) (fun _ _ _ h => h) (Or.inr ⟨by rfl, rfl⟩) (by assumption) ?_
        simp only [Act.put, List.setIfInBounds_toArray, List.set_cons_zero, List.set_cons_succ]
        refine wpAnyH_take (i := 22) (oi := { dst := some 48, op := Op.move (Operand.tmp 8), type := 30, pos := "bytes.go:119", after := #[{ on := 14, ground := Ground.guard }], guard := some (14, false) }) rfl (by kernel_rfl) (by kernel_rfl) (by kernel_rfl) (fun _ _ _ h => h) (Or.inr ⟨by rfl, rfl⟩) (by assumption) ?_
        simp only [Act.put, List.setIfInBounds_toArray, List.set_cons_zero, List.set_cons_succ]
        refine wpAnyH_take (i := 23) (oi := { dst := some 49, op := Op.call { callee := Callee.value (Operand.func 28), args := #[Operand.tmp 48], argTypes := #[30] }, type := 3, pos := "bytes.go:119", after := #[{ on := 22, ground := Ground.data }, { on := 14, ground := Ground.chain }, { on := 14, ground := Ground.guard }], guard := some (14, false) }) rfl (by kernel_rfl) (by kernel_rfl) (by kernel_rfl) (fun _ _ _ h => h) (Or.inr ⟨by rfl, rfl⟩) (by assumption) ?_
        simp only [Act.put, List.setIfInBounds_toArray, List.set_cons_zero, List.set_cons_succ]
        refine wpAnyH_take (i := 24) (oi := { dst := some 50, op := Op.binOp BinOp.add 3 (Operand.tmp 49) (Operand.const (Value.int IntKind.i64 7)) 3, type := 3, pos := "bytes.go:119", after := #[{ on := 23, ground := Ground.data }, { on := 14, ground := Ground.guard }], guard := some (14, false) }) rfl (by kernel_rfl) (by kernel_rfl) (by kernel_rfl) (fun _ _ _ h => h) (Or.inr ⟨by rfl, rfl⟩) (by assumption) ?_
        simp only [Act.put, List.setIfInBounds_toArray, List.set_cons_zero, List.set_cons_succ]
        refine wpAnyH_take (i := 25) (oi := { dst := some 51, op := Op.binOp BinOp.quo 3 (Operand.tmp 47) (Operand.tmp 50) 3, type := 3, pos := "bytes.go:119", after := #[{ on := 21, ground := Ground.data }, { on := 24, ground := Ground.data }, { on := 14, ground := Ground.guard }], guard := some (14, false) }) rfl (by kernel_rfl) (by kernel_rfl) (by kernel_rfl) (fun _ _ _ h => h) (Or.inr ⟨by rfl, rfl⟩) (by assumption) ?_
        simp only [Act.put, List.setIfInBounds_toArray, List.set_cons_zero, List.set_cons_succ]
        refine wpAnyH_take (i := 26) (oi := { dst := some 52, op := Op.binOp BinOp.gtr 3 (Operand.tmp 45) (Operand.tmp 51) 3, type := 4, pos := "bytes.go:119", after := #[{ on := 19, ground := Ground.data }, { on := 25, ground := Ground.data }, { on := 14, ground := Ground.guard }], guard := some (14, false) }) rfl (by kernel_rfl) (by kernel_rfl) (by kernel_rfl) (fun _ _ _ h => h) (Or.inr ⟨by rfl, rfl⟩) (by assumption) ?_
        simp only [Act.put, List.setIfInBounds_toArray, List.set_cons_zero, List.set_cons_succ]
        refine wpAnyH_take (i := 27) (oi := { dst := some 53, op := Op.pick (Operand.tmp 40) (Operand.const (Value.bool true)) (Operand.tmp 52), type := 4, pos := "bytes.go:119", after := #[{ on := 14, ground := Ground.data }, { on := 26, ground := Ground.data }], guard := none }) (v := ?va27) rfl (by kernel_rfl) (by kernel_rfl) (by kernel_rfl) (fun _ _ _ h => h) (Or.inl ⟨by rfl, ?ha27⟩) (by assumption) ?ra27
        case ha27 => (intro w0 hSw; (try dsimp only at hSw); go_simp; try (with_reducible rfl))
        simp only [Act.put, List.setIfInBounds_toArray, List.set_cons_zero, List.set_cons_succ]
        refine wpAnyH_done (by kernel_rfl) ?_ _
        go_wp2
        go_ret2
        exact RdO.no hE (chain b13 (below_d b5) (Nat.le_refl _))
    · have hE : rdA b = none := by
        unfold rdA
        rw [hR]
        dsimp only
        rw [if_neg (fun h => hk h.2)]
      have hk4 : ((k : Int) != 4) = true := by simp; omega
      clear hR hk
      go_enter Tryd.func26, Tryd.ntmps26
      go_wp2_with (go_at_call 54; refine c1.mono ?_; rintro e w1 ⟨rfl, b1⟩; clear c1)
      go_ret2
      exact RdO.no hE b1
  · have hE : rdA b = none := by
      unfold rdA
      rw [hR]
      dsimp only
      rw [if_neg (fun h => he h.1)]
    have hne : (e != 0) = true := by simpa using he
    clear hR he
    go_enter Tryd.func26, Tryd.ntmps26
    go_wp2_with (go_at_call 54; refine c1.mono ?_; rintro e w1 ⟨rfl, b1⟩; clear c1)
    go_ret2
    exact RdO.no hE b1
end Go.Proofs.YtdegclccbgpgiaaDoor
set_option linter.unusedVariables false
namespace Go.Proofs.YtdegclccbgpgiaaDoor
open Go.RowKit Go.Shelf
section
variable {F : Fence} {n : Nat} {P : Program} {α σ : Type}
theorem wpIn_rangeFunc_stN {g : Operand} {ps : Array Tmp} {assign body : Code} {Q : Exit → Act → World → Prop} {a : Act} {w : World}
    {l₀ : Nat} {r₀ : Loop} (hro : F.round = some l₀) (hl₀ : w.heap[l₀]? = some (.loop r₀)) (h1 : 1 ≤ n) {gf : Nat} {lb : Array Value} (hg : a.eval g = .func (.func gf) #[] lb) (hFg : F.fn gf) (eg : ∀ args w, (callFunc gf args).run P w = .ok (.enter gf args) w)
    {encs : α → Array Value} {Nx : List α → α → Prop} {Tr : σ → World → σ → World → Prop} {Kp : σ → World → World → Prop} {S Sp : List α → Prop} {s0 : σ}
    (hseq : SeqSt F (n - 1) P gf lb encs Nx Tr Kp S Sp s0 w)
    (hTr : ∀ s A s' B, Tr s A s' B → KeepsOthers A B)
    (hKt : ∀ {s A B C}, Kp s A B → Kp s B C → Kp s A C) (hKb : ∀ (s : σ) (A : World) (l : Nat) (o o' : Obj), w.heap.size ≤ l → A.heap[l]? = some o → o.isCells = false → o.isWalk = false → Kp s A (A.putObj l o'))
    (hps : ∀ x, (encs x).size = ps.size)
    (I : List α → σ → World → Prop) (Ix : Code → List α → σ → World → Prop)
    (hIt : ∀ p s A s' B, I p s A → Tr s A s' B → I p s' B) (hIxt : ∀ c p s A s' B, Ix c p s A → Tr s A s' B → Ix c p s' B)
    (hI : OwnFrom w.heap.size (fun (z : List α × σ) A => I z.1 z.2 A)) (hIx : ∀ c, OwnFrom w.heap.size (fun (z : List α × σ) A => Ix c z.1 z.2 A))
    (h0 : I [] s0 w) (Ax : α → Act → World → Prop) (hAx : ∀ x a', OwnFrom w.heap.size (fun (_ : Unit) A => Ax x a' A))
    (hassign : ∀ (l : Nat) (p : List α) (x : α) (s : σ) (A : World) (K : Act → World → Prop), I p s A → Nx p x → (∀ a' B, KeepsFrom w.heap.size A B → Kp s A B → I p s B → Ax x a' B → K a' B) →
      assign.wpIn (F.inRound l) (n - 1 - 1) P (Exit.then K (fun _ _ _ => False)) { tmps := (ps.zip (encs x)).foldl (fun t (p, v) => t.setIfInBounds p v) a.tmps, defers := [] } A)
    (hbody : ∀ (l : Nat) (p : List α) (x : α) (s : σ) (a' : Act) (A : World), w.heap.size ≤ l → (∃ r, A.heap[l]? = some (.loop r)) → I p s A → Ax x a' A → Nx p x → body.wpIn (F.inRound l) (n - 1 - 1) P (stPost w.heap.size Kp I Ix (p ++ [x]) s A) a' A)
    (hdone : ∀ (p : List α) (s : σ) (A : World), S p → I p s A → Q .normal a A)
    (hstop : ∀ (c : Code) (p : List α) (s : σ) (A : World), Sp p → Ix c p s A → c.wpIn F n P Q a A) :
    (Code.rangeFunc g ps assign body).wpIn F n P Q a w := by
  refine wpIn_rangeFunc fun fn hfn => ?_
  rw [hro]
  obtain ⟨rec, hrec⟩ : ∃ rec : LoopState → Option Code → Loop, rec = fun st pe => { state := st, pending := pe, fn, tmps := a.tmps, params := ps, assign, body, defers := r₀.defers } := ⟨_, rfl⟩
  obtain ⟨V, hV⟩ : ∃ V, V = w.alloc (.loop (rec .ready none)) := ⟨_, rfl⟩
  obtain ⟨lp, hlp⟩ : ∃ lp, lp = w.heap.size := ⟨_, rfl⟩
  have vl : V.heap[lp]? = some (.loop (rec .ready none)) := by rw [hV, hlp]; exact World.alloc_heap_new w _
  have vb : Below w.heap.size w V := by rw [hV]; exact (Below.refl _ w).alloc (Nat.le_refl _) _
  have v0 : I [] s0 V := by rw [hV]; exact hI.alloc (s := ([], s0)) _ h0
  refine ⟨lp, [], V, { target := .fn (.func gf) lb, args := #[.func (.yield lp) #[] #[]] }, V, gf, #[.func (.yield lp) #[] #[]] ++ lb, V, ?_, ?_, ?_, ?_, fun _ => h1, ?_⟩
  · rw [hV, hlp, hrec]; exact run_enterLoop_inner hl₀ _ _ _ _ _
  · simp only [resolve, hg]; simp [go_sem]
  · intro f' hf'; simp [Target.leads] at hf'; subst hf'; exact hFg
  · simp [invoke, go_sem, eg]
  · refine (hseq lp (fun p s A => I p s A ∧ A.heap[lp]? = some (.loop (rec .ready none)))
      (fun p s A => ∃ c, Ix c p s A ∧ A.heap[lp]? = some (.loop (rec .done (some c)))) V vb
      (fun p s A s' B h ht => ⟨hIt p s A s' B h.1 ht, (hTr _ _ _ _ ht).same _ _ h.2 rfl⟩)
      (fun p s A s' B h ht => by obtain ⟨c, hc, hl⟩ := h; exact ⟨c, hIxt c p s A s' B hc ht, (hTr _ _ _ _ ht).same _ _ hl rfl⟩)
      ?_ ⟨v0, vl⟩).mono ?_
    · rintro p x s A ⟨hi, hl⟩ hx
      have hy := run_yield (P := P) (args := encs x) hl (by rw [hrec]; exact hps x)
      rw [hrec] at hy
      refine ⟨fn, _, assign, body, hy, roundIn_of_wpIn hfn (hassign _ p x s A _ hi hx fun a' B kf kp hib hax => ?_)⟩
      clear hy
      have bl := kf.same _ _ (by omega) hl rfl
      have blt : lp < B.heap.size := (Array.getElem?_eq_some_iff.1 bl).1
      refine ⟨_, run_beginRound bl (by rw [hrec]), ?_⟩
      have cl : (B.putObj lp (.loop { rec .ready none with state := .busy })).heap[lp]? = some (.loop { rec .ready none with state := .busy }) := World.putObj_heap_same blt
      have ck : Kp s B (B.putObj lp (.loop { rec .ready none with state := .busy })) := hKb _ _ _ _ _ (by omega) bl rfl rfl
      refine wpIn_mono (hbody _ p x s a' _ (by omega) ⟨_, cl⟩ (hI.putObj (s := (p, s)) _ hib (by omega) bl rfl) ((hAx x a').putObj (s := ()) _ hax (by omega) bl rfl) hx) ?_
      have fin : ∀ (jump : Option Code) (C : World), KeepsFrom w.heap.size (B.putObj lp (.loop { rec .ready none with state := .busy })) C →
          (Instr.endRound lp jump).run P C = .ok (.bool jump.isNone) (C.putObj lp (.loop (rec (if jump.isNone then .ready else .done) jump))) ∧
          C.heap[lp]? = some (.loop { rec .ready none with state := .busy }) ∧
          (C.putObj lp (.loop (rec (if jump.isNone then .ready else .done) jump))).heap[lp]? = some (.loop (rec (if jump.isNone then .ready else .done) jump)) := fun jump C kc => by
        have l3 := kc.same _ _ (by omega) cl rfl
        have r3 := run_endRound (P := P) jump l3
        rw [hrec] at r3 ⊢
        exact ⟨r3, by rw [hrec] at l3; exact l3, World.putObj_heap_same (Array.getElem?_eq_some_iff.1 l3).1⟩
      rintro e a3 C hp
      cases e with
      | normal =>
        obtain ⟨k3, kp3, i3⟩ := hp
        obtain ⟨hr, l3, l4⟩ := fin none C k3
        exact ⟨_, _, hr, .inl ⟨rfl, ⟨hI.putObj (s := (p ++ [x], s)) _ i3 (by omega) l3 rfl, l4⟩, hKt kp (hKt (hKt ck kp3) (hKb _ _ _ _ _ (by omega) l3 rfl rfl))⟩⟩
      | ret =>
        obtain ⟨k3, kp3, i3⟩ := hp
        obtain ⟨hr, l3, l4⟩ := fin (some .ret) C k3
        exact ⟨_, _, hr, .inr ⟨rfl, ⟨.ret, (hIx _).putObj (s := (p ++ [x], s)) _ i3 (by omega) l3 rfl, l4⟩, hKt kp (hKt (hKt ck kp3) (hKb _ _ _ _ _ (by omega) l3 rfl rfl))⟩⟩
      | exit id =>
        obtain ⟨k3, kp3, i3⟩ := hp
        obtain ⟨hr, l3, l4⟩ := fin (some (.exit id)) C k3
        exact ⟨_, _, hr, .inr ⟨rfl, ⟨.exit id, (hIx _).putObj (s := (p ++ [x], s)) _ i3 (by omega) l3 rfl, l4⟩, hKt kp (hKt (hKt ck kp3) (hKb _ _ _ _ _ (by omega) l3 rfl rfl))⟩⟩
      | goto t =>
        obtain ⟨k3, kp3, i3⟩ := hp
        obtain ⟨hr, l3, l4⟩ := fin (some (.goto t)) C k3
        exact ⟨_, _, hr, .inr ⟨rfl, ⟨.goto t, (hIx _).putObj (s := (p ++ [x], s)) _ i3 (by omega) l3 rfl, l4⟩, hKt kp (hKt (hKt ck kp3) (hKb _ _ _ _ _ (by omega) l3 rfl rfl))⟩⟩
      | panic ch => exact hp.elim
      | outgrown => exact hp.elim
    · rintro e C ⟨⟨v, rfl⟩, (⟨p, s, hS, hi, hl⟩ | ⟨p, s, hSp, c, hi, hl⟩)⟩
      · exact ⟨none, _, by have := run_endLoop (P := P) hl (by rw [hrec]; simp); rw [hrec] at this; exact this, hdone p s _ hS (hI.putObj (s := (p, s)) _ hi (by omega) hl rfl)⟩
      · exact ⟨some c, _, by have := run_endLoop (P := P) hl (by rw [hrec]; simp); rw [hrec] at this; exact this, hstop c p s _ hSp ((hIx c).putObj (s := (p, s)) _ hi (by omega) hl rfl)⟩
end
end Go.Proofs.YtdegclccbgpgiaaDoor
set_option linter.unusedVariables false
set_option linter.unusedSimpArgs false
namespace Go.Proofs.YtdegclccbgpgiaaDoor
open Go.RowKit Go.Shelf Go.Proofs.SealMath
/-- A list in its box, gathered from W0 on; s is the iterator's own block. -/
structure AI (W0 : World) (lb : Nat) (lv0 : Value) (L : List En) (lv : Value) (s : Option Nat) (A : World) : Prop where
  lt : lb < W0.heap.size
  box : A.heap[lb]? = some (.cells #[lv] 24 (0, 0))
  row : A.ownsRow 0 40 5 lv L.length (L.flatMap enC)
  stay : Stay (fun k => k = lb ∨ lv0.ownBlock = some k) W0 A
  loc : ∀ k, lv.ownBlock = some k → lv0.ownBlock = some k ∨ W0.heap.size ≤ k
  own : ∀ k, s = some k → W0.heap.size ≤ k ∧ k < A.heap.size ∧ lv.ownBlock ≠ some k
section
variable {W0 A B : World} {lb : Nat} {lv0 lv : Value} {L : List En} {s s' : Option Nat}
theorem AI.row_lt (h : AI W0 lb lv0 L lv s A) {k : Nat} (hk : lv.ownBlock = some k) : k < A.heap.size := by
  obtain ⟨c, hc⟩ := row_block h.row hk
  exact (Array.getElem?_eq_some_iff.1 hc).1
theorem AI.row_lb (h : AI W0 lb lv0 L lv s A) {k : Nat} (hk : lv.ownBlock = some k) : k ≠ lb := fun e => by
  obtain ⟨c, hc⟩ := row_block h.row hk
  have := h.box
  rw [← e, hc] at this; simp at this
theorem AI.tr (h : AI W0 lb lv0 L lv s A) (t : TrB s A s' B) : AI W0 lb lv0 L lv s' B where
  lt := h.lt
  box := (t.stay.block lb (Array.getElem?_eq_some_iff.1 h.box).1 (fun e => by have := (h.own lb e).1; have := h.lt; omega)).trans h.box
  row := row_kept h.row t.stay (fun k hk e => (h.own k e).2.2 hk)
  stay := h.stay.andThen t.stay (fun k hk e => by have := (h.own k e).1; omega)
  loc := h.loc
  own := fun k hk => by
    have hlt := t.lt k hk
    rcases t.loc k hk with e | e
    · exact ⟨(h.own k e).1, hlt, (h.own k e).2.2⟩
    · refine ⟨Nat.le_trans h.stay.size e, hlt, fun e2 => ?_⟩
      have := h.row_lt e2
      omega
theorem AI.grown {row : Option Nat} (h : AI W0 lb lv0 L lv s A) (hg : A.grownBy B row) (hr : ∀ r, row = some r → W0.heap.size ≤ r ∧ ∃ o : Obj, A.heap[r]? = some o ∧ o.isCells = false) : AI W0 lb lv0 L lv s B := by
  have st : Stay (fun k => row = some k) A B := .grown hg (fun k hk => hk)
  exact {
    lt := h.lt
    box := (st.block lb (Array.getElem?_eq_some_iff.1 h.box).1 (fun e => by have := (hr lb e).1; have := h.lt; omega)).trans h.box
    row := row_kept h.row st (fun k hk e => by
      obtain ⟨-, o, ho, hc⟩ := hr k e
      obtain ⟨c, hc'⟩ := row_block h.row hk
      rw [hc'] at ho; cases ho; cases hc)
    stay := h.stay.andThen st (fun k hk e => by have := (hr k e).1; omega)
    loc := h.loc
    own := fun k hk => ⟨(h.own k hk).1, Nat.lt_of_lt_of_le (h.own k hk).2.1 hg.size, (h.own k hk).2.2⟩ }
theorem AI.below (h : AI W0 lb lv0 L lv s A) (b : Below A.heap.size A B) : AI W0 lb lv0 L lv s B := by
  have st : Stay (fun _ => False) A B := .below b
  exact {
    lt := h.lt
    box := (b.block lb (Array.getElem?_eq_some_iff.1 h.box).1).trans h.box
    row := row_kept h.row st (fun _ _ e => e)
    stay := h.stay.andThen st (fun _ _ e => e.elim)
    loc := h.loc
    own := fun k hk => ⟨(h.own k hk).1, Nat.lt_of_lt_of_le (h.own k hk).2.1 b.size, (h.own k hk).2.2⟩ }
/-- The list has grown. -/
theorem AI.app {L' : List En} {lv' : Value} {V : World} (h : AI W0 lb lv0 L lv s A) (hr : V.ownsRow 0 40 5 lv' L'.length (L'.flatMap enC)) (st : Stay (fun k => lv.ownBlock = some k) A V) (hloc : ∀ k, lv'.ownBlock = some k → lv.ownBlock = some k ∨ A.heap.size ≤ k) :
    AI W0 lb lv0 L' lv' s (V.setCell ⟨lb, 0, none⟩ lv') ∧ Stay (fun k => k = lb ∨ lv.ownBlock = some k) A (V.setCell ⟨lb, 0, none⟩ lv') := by
  have hb : V.heap[lb]? = _ := (st.block lb (Array.getElem?_eq_some_iff.1 h.box).1 (fun e => h.row_lb e rfl)).trans h.box
  have s1 : Stay (fun k => k = lb) V (V.setCell ⟨lb, 0, none⟩ lv') := stay1 _ _ _ _ _ (.refl _ _)
  have hb' : (V.setCell ⟨lb, 0, none⟩ lv').heap[lb]? = some (.cells #[lv'] 24 (0, 0)) := by
    rw [heap_setCell_same V lb 0 _ _ _ hb]; rfl
  have s2 : Stay (fun k => k = lb ∨ lv.ownBlock = some k) A (V.setCell ⟨lb, 0, none⟩ lv') := (st.mono (fun k _ e => .inr e)).trans (s1.mono (fun k _ e => .inl e))
  refine ⟨{ lt := h.lt, box := hb', row := row_kept hr s1 (fun k hk e => ?_), stay := h.stay.andThen s2 (fun k hk e => ?_), loc := fun k hk => ?_, own := fun k hk => ?_ }, s2⟩
  · obtain ⟨c, hc⟩ := row_block hr hk
    rw [e, hb] at hc; simp at hc
  · rcases e with e | e
    · exact .inl e
    · rcases h.loc k e with e | e
      · exact .inr e
      · omega
  · rcases hloc k hk with e | e
    · exact h.loc k e
    · exact .inr (Nat.le_trans h.stay.size e)
  · obtain ⟨k1, k2, k3⟩ := h.own k hk
    refine ⟨k1, Nat.lt_of_lt_of_le k2 s2.size, fun e => ?_⟩
    rcases hloc k e with e | e
    · exact k3 e
    · omega
/-- What a body keeps. -/
theorem AI.kp {K : Nat → Prop} (h : AI W0 lb lv0 L lv s A) (st : Stay (fun k => k = lb ∨ lv.ownBlock = some k) A B) (hK : ∀ k, K k → k ≠ lb ∧ lv.ownBlock ≠ some k) : KpB K s A B ∧ KeepsOthers A B := by
  have hc : ∀ k, (k = lb ∨ lv.ownBlock = some k) → ∃ c t m, A.heap[k]? = some (.cells c t m) := fun k e => by
    rcases e with e | e
    · subst e; exact ⟨_, _, _, h.box⟩
    · obtain ⟨c, hc⟩ := row_block h.row e; exact ⟨_, _, _, hc⟩
  refine ⟨⟨st.size, fun k c t m hk hh => (st.block k (Array.getElem?_eq_some_iff.1 hh).1 (fun e => ?_)).trans hh⟩, ⟨st.size, fun k o hk ho => (st.block k (Array.getElem?_eq_some_iff.1 hk).1 (fun e => ?_)).trans hk⟩⟩
  · rcases hk with hk | hk
    · rcases e with e | e
      · exact (hK k hk).1 e
      · exact (hK k hk).2 e
    · obtain ⟨k1, k2, k3⟩ := h.own k hk
      rcases e with e | e
      · have := h.lt; omega
      · exact k3 e
  · obtain ⟨c, t, m, h1⟩ := hc k e
    rw [hk] at h1; cases h1; cases ho
end
/-- Marks of loops among the deferred calls. -/
def markL (ds : List Nat) : List Deferred := ds.map fun D => { target := .collected D, args := #[] }
theorem stay_put {F : Nat → Prop} (w : World) (D : Nat) (o : Obj) (h : F D) : Stay F w (w.putObj D o) := ⟨rfl, rfl, rfl, by simp, fun k _ hn => World.putObj_heap_other (fun e => hn (e ▸ h))⟩
theorem leaves_marks {F : Fence} {n : Nat} {fn : Func} {tmps : Array Value} {R : Ending → World → Prop} (v : Value) :
    ∀ (ds : List Nat) (w : World), (∀ D ∈ ds, w.heap[D]? = some (.deferred (some []))) → ds.Nodup → (∀ w', Stay (fun k => k ∈ ds) w w' → (results fn tmps).run Tryd.prog w' = .ok v w' ∧ R (.returned v) w') → LeavesInM F n Tryd.prog fn tmps R (markL ds) .returning w
  | [], w, _, _, h => ⟨v, (h w (.refl _ _)).1, (h w (.refl _ _)).2⟩
  | D :: ds, w, hd, hn, h => by
    rw [List.nodup_cons] at hn
    have s1 : Stay (fun k => k ∈ D :: ds) w (w.putObj D (.deferred none)) := stay_put w D _ (by simp)
    refine ⟨by simp, .inl ⟨D, _, rfl, run_takeDeferred (hd D (by simp)), leaves_marks v ds _ (fun D' h' => ?_) hn.2 (fun w' s2 => h w' (s1.trans (s2.mono (fun k _ e => List.mem_cons_of_mem _ e))))⟩⟩
    have hne : D' ≠ D := fun e => hn.1 (by rw [← e]; exact h')
    exact (World.putObj_heap_other hne).trans (hd D' (List.mem_cons_of_mem _ h'))
end Go.Proofs.YtdegclccbgpgiaaDoor
set_option linter.unusedVariables false
set_option linter.unusedSimpArgs false
namespace Go.Proofs.YtdegclccbgpgiaaDoor
open Go.RowKit Go.Shelf Go.Proofs.SealMath
attribute [local go_sem] Oper.semAt_some
theorem ptr_nil (fb : Nat) (w : World) : (binOp .eql 30 (Pt fb) (.pointer none)).run Tryd.prog w = .ok (.bool false) w := by kernel_rfl
theorem len_sum : ∀ bl : List (List UInt8), bl.length ≤ (bl.map (·.length + 14)).sum
  | [] => by simp
  | x :: l => by have := len_sum l; simp only [List.length_cons, List.map_cons, List.sum_cons]; omega
/-- What stands while the blocks are gone through. -/
def AL (w : World) (fb : Nat) (h : Hd) (bl : List (List UInt8)) (ix : List En) (bv iv : Value) (rd lb CB i : Nat) (ds : List Nat) (A : World) : Prop :=
  ∃ lv : Value, A.heap[lb]? = some (.cells #[lv] 24 (0, 0)) ∧ A.ownsRow 0 40 5 lv (alA CB (bl.take i)).length ((alA CB (bl.take i)).flatMap enC) ∧ FA A fb h bl ix bv iv rd ∧ (∀ k, lv.ownBlock = some k → w.heap.size ≤ k) ∧ (∀ D ∈ ds, w.heap.size ≤ D ∧ A.heap[D]? = some (.deferred (some []))) ∧ ds.Nodup ∧ Below w.heap.size w A ∧ w.heap.size ≤ lb ∧ i ≤ bl.length
set_option maxHeartbeats 4000000 in
set_option maxRecDepth 100000 in
theorem all_any (fb : Nat) (h : Hd) (bl : List (List UInt8)) (ix : List En) (bv iv : Value) (rd : Nat) (w : World) (H : FA w fb h bl ix bv iv rd) (hw : 64 ≤ h.w ∧ h.w ≤ 1024) (hn : 0 ≤ h.n ∧ h.n ≤ 1099511627776) (hs : (bl.map (·.length + 14)).sum ≤ 1099511627776) :
    Calls Tryd.prog 13 #[Pt fb] w fun r w' => ∃ v, r = .returned v ∧ w'.ownsRow 0 40 5 v (alA (cbH h) bl).length ((alA (cbH h) bl).flatMap enC) ∧ (∀ k, v.ownBlock = some k → w.heap.size ≤ k) ∧ Below w.heap.size w w' := by
  obtain ⟨i0, hi, hz0, hz1, hz2⟩ := info_parts infoEn
  obtain ⟨⟨y0, y1, y2, y3, y4, y5⟩, y6, -⟩ := fl9 H.box
  obtain ⟨ba, bc, rfl, hbc⟩ := slice_form H.row
  obtain ⟨N, hN⟩ : ∃ N : Nat, h.n = N := ⟨h.n.toNat, by omega⟩
  rw [hN] at y5
  have hNl : N ≤ 1099511627776 := by omega
  obtain ⟨CB, hCB⟩ : ∃ CB, CB = cbH h := ⟨_, rfl⟩
  have hcb := fun W hbx => codeBytes_any fb h (.slice ba bl.length bc) iv rd W hbx hw
  rw [← hCB] at hcb ⊢
  have hCB2 : CB ≤ 128 := by rw [hCB]; unfold cbH; omega
  clear hCB
  refine (callsIn_wide (n := 9)).1 ?_
  refine callsIn_of_wp_marks Tryd.func13 rfl trivial ?_ rfl
  simp only [Tryd.ntmps13, List.size_toArray, List.length_cons, List.length_nil, Nat.reduceAdd, Nat.reduceSub, Array.replicate_succ, Array.replicate_zero, List.push_toArray, List.append_toArray, List.nil_append, List.cons_append]
  have hfz := H.lt
  gi_wp2_with (gi_at_make; refine wpListIn_make_own _ rfl _ _ 24 rfl 0 40 i0 _ 5 Tryd.underlying24 hi hz0 hz1 _ _ _ N rfl rfl rfl (by rw [hz2]; omega) (by unfold maxLen; omega) (Nat.zero_le _) ?_; intro w1 hrow1 hg1; have y6 := hg1.cell y6 (by simp); have hfz1 : fb < w1.heap.size := Nat.lt_of_lt_of_le hfz hg1.size)
  have b1 : Below w.heap.size w w1 := (Below.refl _ w).grown hg1 (Nat.le_refl _) (fun k h => by cases h)
  have b2 : Below w1.heap.size w1 (w1.alloc (.cells #[.slice (some ⟨w.heap.size, 0, none⟩) 0 N] 24)) := (Below.refl _ w1).alloc (Nat.le_refl _) _
  have hbox := heap_alloc_last w1 (.cells #[.slice (some ⟨w.heap.size, 0, none⟩) 0 N] 24)
  have hrow2 : (w1.alloc (.cells #[.slice (some ⟨w.heap.size, 0, none⟩) 0 N] 24)).ownsRow 0 40 5 (.slice (some ⟨w.heap.size, 0, none⟩) 0 N) 0 [] := row_kept (F := fun _ => False) hrow1 (.below b2) (fun _ _ e => e)
  obtain ⟨V, hV⟩ : ∃ V, V = w1.alloc (.cells #[.slice (some ⟨w.heap.size, 0, none⟩) 0 N] 24) := ⟨_, rfl⟩
  obtain ⟨lb, hlb⟩ : ∃ lb, lb = w1.heap.size := ⟨_, rfl⟩
  rw [← hV] at hrow2 b2
  rw [← hV, ← hlb] at hbox ⊢
  have bV := chain b1 b2 (Nat.le_refl _)
  have hlw : w.heap.size ≤ lb := by rw [hlb]; exact b1.size
  clear hV hlb b1 b2 hrow1 hg1 y6 hfz1
  refine wpIn_loop (fun a' w' => ∃ (i : Nat) (ds : List Nat) (u5 u21 u22 u23 u24 u25 u26 u27 u33 : Value), a' = { tmps := #[Pt fb, undef, .slice none 0 0, .pointer (some ⟨lb, 0, none⟩), undef, u5, undef, Pt fb, .bool false, Pt fb, .pointer (some ⟨fb, 0, none⟩), .pointer (some ⟨fb, 0, none⟩), .pointer (some ⟨fb, 5, none⟩), .int .i64 N, .slice (some ⟨w.heap.size, 0, none⟩) 0 N, Pt fb, .pointer (some ⟨fb, 0, none⟩), .pointer (some ⟨fb, 6, none⟩), .slice ba bl.length bc, .int .i64 bl.length, .int .i64 i, u21, u22, u23, u24, u25, u26, u27, undef, undef, undef, undef, undef, u33, undef], defers := markL ds } ∧ AL w fb h bl ix (.slice ba bl.length bc) iv rd lb CB i ds w')
    (fun a' _ => bl.length - (intOf (a'.tmps.getD 20 undef)).toNat) ?_ ?_
  · exact ⟨0, [], _, _, _, _, _, _, _, _, _, rfl, _, hbox, hrow2, H.kept (.below bV) (fun h => h) (fun _ _ h => h) (fun _ _ h => h), (fun _ h => by cases h; exact Nat.le_refl _), (by simp), (by simp), bV, hlw, by simp⟩
  · rintro a' wr ⟨i, ds, u5, u21, u22, u23, u24, u25, u26, u27, u33, rfl, lv, Lb, Lr, Lf, Ll, Lm, Ln, Lw, Lo, Li⟩
    by_cases hlt : i < bl.length
    · have i1 : (i : Int) < (bl.length : Int) := by omega
      obtain ⟨g, hg⟩ : ∃ g, ba = some ⟨g, 0, none⟩ := by
        rcases H.row.2 with ⟨e, -⟩ | ⟨g, cap, cur, e, -⟩
        · injection e with e1 e2; omega
        · injection e with e1 e2; exact ⟨g, e1⟩
      subst hg
      have xb := World.ownsRow.cells Lf.row (g := g) rfl i (sv bl[i]) (by simp [hlt])
      rw [show (⟨g, 0, none⟩ : Addr).add i = ⟨g, i, none⟩ by unfold Addr.add; split <;> simp_all] at xb
      obtain ⟨X, hX⟩ : ∃ X : ByteArray, X = ⟨bl[i].toArray⟩ := ⟨_, rfl⟩
      rw [show sv bl[i] = .string X by rw [hX]] at xb
      have cb1 := hcb wr Lf.box
      have HX := Hid.mk hX
      clear hX
      have HL := Hid.mk (And.intro Lb (And.intro Lr (And.intro Lf (And.intro Ll (And.intro Lm (And.intro Ln (And.intro Lw (And.intro Lo Li))))))))
      clear Lb Lr Lf Ll Lm Ln Lw Lo Li hcb
      gi_wp2_with fail
      refine ⟨trivial, (callsIn_wide.2 cb1).mono ?_⟩
      rintro r w2 ⟨rfl, rfl⟩
      gi_wp2_with fail
      refine ⟨trivial, (callsIn_wide.2 (entries_any X CB w2)).mono ?_⟩
      rintro r w3 ⟨rfl, rfl⟩
      gi_wp2_with fail
      obtain ⟨Lb, Lr, Lf, Ll, Lm, Ln, Lw, Lo, Li⟩ := HL.out
      obtain ⟨U, hU⟩ : ∃ U, U = (w2.alloc (.cells #[.string X] 9)).alloc (.cells #[.int .i64 CB] 3) := ⟨_, rfl⟩
      have bU : Below w2.heap.size w2 U := by rw [hU]; exact ((Below.refl _ w2).alloc (Nat.le_refl _) _).alloc (by simp) _
      have sU : U.heap.size = w2.heap.size + 2 := by rw [hU]; simp
      have U1 : U.heap[w2.heap.size]? = some (.cells #[.string X] 9 (0, 0)) := by
        have h1 := heap_alloc_last w2 (.cells #[.string X] 9)
        have h2 : Below (w2.alloc (.cells #[.string X] 9)).heap.size (w2.alloc (.cells #[.string X] 9)) U := by rw [hU]; exact (Below.refl _ _).alloc (Nat.le_refl _) _
        exact (h2.block _ (by simp)).trans h1
      have U2 : U.heap[w2.heap.size + 1]? = some (.cells #[.int .i64 CB] 3 (0, 0)) := by
        have h1 := heap_alloc_last (w2.alloc (.cells #[.string X] 9)) (.cells #[.int .i64 CB] 3)
        rw [World.size_alloc] at h1
        rw [hU]; exact h1
      rw [← hU]
      clear hU
      have hLb2 : lb < w2.heap.size := (Array.getElem?_eq_some_iff.1 Lb).1
      have hsum1 : ((bl.take (i + 1)).map (·.length + 14)).sum ≤ 1099511627776 := by
        have h1 := congrArg (fun l => (l.map (·.length + 14)).sum) (List.take_append_drop (i + 1) bl)
        simp only [List.map_append, List.sum_append] at h1
        omega
      have htk : alA CB (bl.take (i + 1)) = alA CB (bl.take i) ++ ents X 0 CB := by
        rw [List.take_add_one, List.getElem?_eq_getElem hlt]
        unfold alA
        rw [List.flatMap_append]
        simp [HX.out]
      have hal := alA_len CB (bl.take (i + 1))
      rw [htk, List.length_append] at hal
      have hXl : X.size < 1152921504606846976 := by
        have h1 : bl[i].length + 14 ≤ ((bl.take (i + 1)).map (·.length + 14)).sum := by
          rw [List.take_add_one, List.getElem?_eq_getElem hlt, List.map_append, List.sum_append]
          simp
        rw [HX.out, ba_len]; omega
      have hseq := entries_st X CB w2.heap.size (w2.heap.size + 1) 8 (fun k => k = w2.heap.size ∨ k = w2.heap.size + 1) U U1 U2 ⟨.inl rfl, .inr rfl⟩ (fun k hk => by
        rcases hk with rfl | rfl
        · exact ⟨_, _, _, U1⟩
        · exact ⟨_, _, _, U2⟩) hXl hCB2
      have a0 : AI U lb lv (alA CB (bl.take i) ++ []) lv none U :=
        { lt := by omega, box := (bU.block lb hLb2).trans Lb, row := by rw [List.append_nil]; exact row_kept (F := fun _ => False) Lr (.below bU) (fun _ _ e => e), stay := .refl _ _, loc := fun k hk => .inl hk, own := fun k hk => by cases hk }
      refine wpIn_rangeFunc_st rfl (by omega) (gf := 58) (lb := #[Pt w2.heap.size, Pt (w2.heap.size + 1)]) rfl trivial (enters_of Tryd.func58 (by kernel_rfl) rfl) hseq (fun _ _ _ _ h => h.others) KpB.trans (fun s A l o o' _ h ho _ => KpB.put s A l o o' h ho) (fun _ => rfl)
        (fun p s A => ∃ lv', AI U lb lv (alA CB (bl.take i) ++ p) lv' s A)
        (fun _ _ _ _ => False)
        (fun p s A s' B h ht => by obtain ⟨lv', hA⟩ := h; exact ⟨lv', hA.tr ht⟩)
        (fun _ _ _ _ _ _ h _ => h.elim)
        (fun z A B row h hg hr => by obtain ⟨lv', hA⟩ := h; exact ⟨lv', hA.grown hg hr⟩)
        (fun _ _ _ _ _ h _ _ => h)
        ⟨lv, a0⟩
        (fun x a' A => ∃ Bx, U.heap.size ≤ Bx ∧ A.heap[Bx]? = some (.cells (enV x) 40 (0, 0)) ∧ a' = { tmps := #[Pt fb, undef, .slice none 0 0, .pointer (some ⟨lb, 0, none⟩), undef, .string X, Pt Bx, Pt fb, .bool false, Pt fb, .pointer (some ⟨fb, 0, none⟩), .pointer (some ⟨fb, 0, none⟩), .pointer (some ⟨fb, 5, none⟩), .int .i64 N, .slice (some ⟨w.heap.size, 0, none⟩) 0 N, Pt fb, .pointer (some ⟨fb, 0, none⟩), .pointer (some ⟨fb, 6, none⟩), .slice (some ⟨g, 0, none⟩) bl.length bc, .int .i64 bl.length, .int .i64 i, .bool true, .pointer (some ⟨g, i, none⟩), .string X, .string X, Pt fb, .int .i64 CB, .func (.func 58) #[] #[Pt w2.heap.size, Pt (w2.heap.size + 1)], .agg (enV x), undef, undef, undef, undef, u33, undef], defers := [] })
        (fun x a' s A B row h hg hr => by
          obtain ⟨Bx, h1, h2, h3⟩ := h
          refine ⟨Bx, h1, (hg.block Bx (Array.getElem?_eq_some_iff.1 h2).1 (fun e => ?_)).trans h2, h3⟩
          obtain ⟨-, o, ho, hc⟩ := hr Bx e.symm
          rw [h2] at ho; cases ho; cases hc) ?assign ?body ?done ?stop
      case assign =>
        rintro lp p x s A K ⟨lv', hA⟩ hx hK
        simp only [encE]
        gi_wp2
        have bA : Below A.heap.size A (A.alloc (.cells (enV x) 40)) := (Below.refl _ A).alloc (Nat.le_refl _) _
        exact hK _ _ ((KeepsOthers.alloc _ _).from _) ⟨bA.size, fun k c t m _ h => (bA.block k (Array.getElem?_eq_some_iff.1 h).1).trans h⟩ ⟨lv', hA.below bA⟩ ⟨A.heap.size, hA.stay.size, heap_alloc_last A _, rfl⟩
      case body =>
        rintro lp p x s a' A hlp ⟨rc, hrc⟩ ⟨lv', hA⟩ ⟨Bx, hBu, hBx, rfl⟩ hx
        have hll : (alA CB (bl.take i) ++ p).length = (alA CB (bl.take i)).length + p.length := List.length_append
        obtain ⟨LL, hLL⟩ : ∃ LL, LL = alA CB (bl.take i) ++ p := ⟨_, rfl⟩
        rw [← hLL] at hA hll
        obtain ⟨qa, qc, rfl, -⟩ := slice_form hA.row
        obtain ⟨x0, x1, x2, x3, x4⟩ := en5 hBx
        have c0 := boxc (A := A) hA.box rfl
        have hpx : p.length + 1 ≤ (ents X 0 CB).length := by have := hx.length_le; simpa using this
        obtain ⟨v', V5, hap, ho5, st5, loc5⟩ := en_app A LL _ hA.row x (by have : (alA CB (bl.take i)).length + (ents X 0 CB).length ≤ ((alA CB (bl.take i)).length + (ents X 0 CB).length) * (CB + 7) := Nat.le_mul_of_pos_right _ (by omega); omega)
        obtain ⟨hA6, st6⟩ := hA.app ho5 st5 loc5
        have hb5 : V5.heap[lb]? = _ := (st5.block lb (Array.getElem?_eq_some_iff.1 hA.box).1 (fun e => hA.row_lb e rfl)).trans hA.box
        have z0 := boxc (A := V5) hb5 rfl
        have zf : V5.frozen? ⟨lb, 0, none⟩ = false := frozen_of_row _ _ _ _ _ hb5
        obtain ⟨kp, ko⟩ := hA.kp (K := fun k => k = w2.heap.size ∨ k = w2.heap.size + 1) st6 (fun k hk => by
          have hne : ∀ c t m, A.heap[k]? = some (.cells c t m) → t ≠ 24 → t ≠ 40 → k ≠ lb ∧ Value.ownBlock (.slice qa LL.length qc) ≠ some k := fun c t m h1 h2 h3 => ⟨fun e => by
            rw [e, hA.box] at h1; simp at h1; exact h2 h1.2.1.symm, fun e => by
            obtain ⟨c', hc'⟩ := row_block hA.row e
            rw [hc'] at h1; simp at h1; exact h3 h1.2.1.symm⟩
          have hlow : ∀ c t, U.heap[k]? = some (.cells c t (0, 0)) → t ≠ 24 → t ≠ 40 → A.heap[k]? = some (.cells c t (0, 0)) := fun c t h1 h2 h3 => (hA.stay.block k (Array.getElem?_eq_some_iff.1 h1).1 (fun e => by
            rcases e with e | e
            · have := (bU.block lb hLb2).trans Lb
              rw [e, this] at h1; simp at h1; exact h2 h1.2.symm
            · obtain ⟨c', hc'⟩ := row_block Lr e
              have := (bU.block k (Array.getElem?_eq_some_iff.1 hc').1).trans hc'
              rw [this] at h1; simp at h1; exact h3 h1.2.symm)).trans h1
          rcases hk with rfl | rfl
          · exact hne _ _ _ (hlow _ _ U1 (by decide) (by decide)) (by decide) (by decide)
          · exact hne _ _ _ (hlow _ _ U2 (by decide) (by decide)) (by decide) (by decide))
        obtain ⟨ra, rc5, hra, -⟩ := slice_form ho5
        have HA := Hid.mk (And.intro hA6 (And.intro kp ko))
        obtain ⟨n5, hn5⟩ : ∃ n5, n5 = LL.length := ⟨_, rfl⟩
        obtain ⟨m5, hm5⟩ : ∃ m5, m5 = (LL ++ [x]).length := ⟨_, rfl⟩
        rw [← hm5] at hra
        have HR := Hid.mk (And.intro hra hLL)
        rw [hra] at hap
        rw [← hn5] at hap c0 z0
        clear hA hA6 st6 ho5 st5 loc5 hb5 kp ko hra hseq a0 Lb Lr Lf Ll Lm Ln Lw Lo Li hBx hrc hx htk hal hsum1 hpx U1 U2 bU hll hLL hn5 hm5
        gi_wp2_with (gi_at_builtin; refine wpListIn_append_eq rfl _ _ _ _ rfl _ _ _ _ rfl rfl hap ?_)
        obtain ⟨hA6, kp, ko⟩ := HA.out
        rw [← HR.out.1]
        refine ⟨ko.from _, kp, v', ?_⟩
        rw [← List.append_assoc, ← HR.out.2]
        exact hA6
      case done =>
        rintro D p s A hD hS ⟨lv', hA⟩ hdef
        subst hS
        rw [← htk] at hA
        have stA : Stay (fun k => k = lb ∨ lv.ownBlock = some k) w2 A := (Stay.below bU).trans (hA.stay.mono (fun k _ e => e))
        have hcell : ∀ k, (k = lb ∨ lv.ownBlock = some k) → ∃ c t, w2.heap[k]? = some (.cells c t (0, 0)) ∧ (t = 24 ∨ t = 40) ∧ w.heap.size ≤ k := fun k e => by
          rcases e with e | e
          · subst e; exact ⟨_, _, Lb, .inl rfl, Lo⟩
          · obtain ⟨c, hc⟩ := row_block Lr e; exact ⟨_, _, hc, .inr rfl, Ll k e⟩
        have fA : FA A fb h bl ix (.slice (some ⟨g, 0, none⟩) bl.length bc) iv rd := Lf.kept stA (fun e => by
            obtain ⟨c, t, h1, h2, -⟩ := hcell fb e
            rw [Lf.box] at h1; simp at h1
            rcases h2 with h2 | h2 <;> rw [h2] at h1 <;> simp at h1) (fun k hk e => by
            obtain ⟨c, t, h1, h2, -⟩ := hcell k e
            obtain ⟨c', hc'⟩ := row_block Lf.row hk
            rw [hc'] at h1; simp at h1
            rcases h2 with h2 | h2 <;> rw [h2] at h1 <;> simp at h1) (fun k hk e => by
            have := (hcell k e).choose_spec.choose_spec.2.2
            have h3 := row_lt H.idx hk
            omega)
        have bA : Below w.heap.size w A := Lw.trans (stA.toBelow (fun k hk e => by
          obtain ⟨c, t, h1, h2, h3⟩ := hcell k e
          omega) Lw.size)
        have mk : ∀ D' ∈ D :: ds, w.heap.size ≤ D' ∧ A.heap[D']? = some (.deferred (some [])) := fun D' hD' => by
          rcases List.mem_cons.1 hD' with e | e
          · subst e; exact ⟨Nat.le_trans Lw.size (by omega), hdef⟩
          · obtain ⟨m1, m2⟩ := Lm D' e
            refine ⟨m1, (stA.block D' (Array.getElem?_eq_some_iff.1 m2).1 (fun e2 => ?_)).trans m2⟩
            obtain ⟨c, t, h1, -⟩ := hcell D' e2
            rw [m2] at h1; cases h1
        have nd : (D :: ds).Nodup := List.nodup_cons.2 ⟨fun e => by
          have := (Array.getElem?_eq_some_iff.1 (Lm D e).2).1
          omega, Ln⟩
        have fin : AL w fb h bl ix (.slice (some ⟨g, 0, none⟩) bl.length bc) iv rd lb CB (i + 1) (D :: ds) A := ⟨lv', hA.box, hA.row, fA, fun k hk => by
          rcases hA.loc k hk with e | e
          · exact Ll k e
          · exact Nat.le_trans Lw.size (by omega), mk, nd, bA, Lo, hlt⟩
        have hwi : wrap64 ((i : Int) + 1) = ((i + 1 : Nat) : Int) := by have := len_sum bl; unfold wrap64; omega
        have HW := Hid.mk hwi
        clear hwi
        have HF := Hid.mk fin
        clear hA stA hcell fA bA mk nd fin hdef hseq a0 Lb Lr Lf Ll Lm Ln Lw Lo Li U1 U2 bU htk hal hsum1
        gi_wp2
        rw [HW.out]
        refine ⟨⟨i + 1, D :: ds, _, _, _, _, _, _, _, _, _, rfl, HF.out⟩, ?_⟩
        show bl.length - (intOf (.int .i64 ((i + 1 : Nat) : Int))).toNat < bl.length - (intOf (.int .i64 (i : Int))).toNat
        simp only [intOf]
        omega
      case stop =>
        rintro D c p s A _ _ h _
        exact h.elim
    · have i1 : ¬ (i : Int) < (bl.length : Int) := by omega
      have e1 : bl.take i = bl := List.take_of_length_le (by omega)
      rw [e1] at Lr
      have c0 := boxc (A := wr) Lb rfl
      have fin : ∀ (tmps : Array Value) (hres : ∀ w', (results Tryd.f13 tmps).run Tryd.prog w' = .ok lv w'), LeavesInM Fence.wide 9 Tryd.prog Tryd.f13 tmps (fun r w' => ∃ v, r = .returned v ∧ w'.ownsRow 0 40 5 v (alA CB bl).length ((alA CB bl).flatMap enC) ∧ (∀ k, v.ownBlock = some k → w.heap.size ≤ k) ∧ Below w.heap.size w w') (markL ds) .returning wr := fun tmps hres =>
        leaves_marks lv ds wr (fun D hD => (Lm D hD).2) Ln (fun w' st => ⟨hres w', lv, rfl, row_kept Lr st (fun k hk e => by
          obtain ⟨c, hc⟩ := row_block Lr hk
          rw [(Lm k e).2] at hc; cases hc), Ll, Lw.trans (st.toBelow (fun k hk e => by have := (Lm k e).1; omega) Lw.size)⟩)
      obtain ⟨qa, qc, rfl, -⟩ := slice_form Lr
      have HF := Hid.mk fin
      clear fin Lb Lr Lf Ll Lm Ln Lw Lo Li hcb e1
      gi_wp2
      exact HF.out _ (fun w' => results_tmp (t := 2) rfl _ _ w')
end Go.Proofs.YtdegclccbgpgiaaDoor
set_option linter.unusedVariables false
set_option linter.unusedSimpArgs false
namespace Go.Proofs.YtdegclccbgpgiaaDoor
open Go.RowKit Go.Shelf Go.Proofs.SealMath
attribute [local go_sem] Oper.semAt_some
/-- The first entry of each block. -/
def ixL (cb : Nat) (bl : List (List UInt8)) : List En := bl.map fun p => eE (eaA ⟨p.toArray⟩ 0 cb)
/-- What Open is to tell. -/
def OpO (b : ByteArray) (w : World) (r : Ending) (w' : World) : Prop := Below w.heap.size w w' ∧ match opA b with
  | none => r = .returned (.tuple #[.pointer none, .int .i64 80])
  | some (h, bl) => ∃ fb bv iv, r = .returned (.tuple #[Pt fb, .int .i64 0]) ∧ w.heap.size ≤ fb ∧ FA w' fb h bl (ixL (cbH h) bl) bv iv 0 ∧ (∀ k, bv.ownBlock = some k → w.heap.size ≤ k) ∧ ∀ k, iv.ownBlock = some k → w.heap.size ≤ k
theorem OpO.no {b : ByteArray} {w w' : World} (h : opA b = none) (hb : Below w.heap.size w w') : OpO b w (.returned (.tuple #[.pointer none, .int .i64 80])) w' := ⟨hb, by rw [h]⟩
theorem OpO.yes {b : ByteArray} {w w' : World} {h : Hd} {bl : List (List UInt8)} {fb : Nat} {bv iv : Value} (e : opA b = some (h, bl)) (hb : Below w.heap.size w w') (hf : w.heap.size ≤ fb) (hF : FA w' fb h bl (ixL (cbH h) bl) bv iv 0) (hv : ∀ k, bv.ownBlock = some k → w.heap.size ≤ k) (hi : ∀ k, iv.ownBlock = some k → w.heap.size ≤ k) : OpO b w (.returned (.tuple #[Pt fb, .int .i64 0])) w' := ⟨hb, by rw [e]; exact ⟨fb, bv, iv, rfl, hf, hF, hv, hi⟩⟩
theorem lat_row {W : World} {v : Value} {l : List En} (h : W.ownsRow 0 40 5 v l.length (l.flatMap enC)) : ∃ la cap, v = .slice la l.length cap ∧ l.length ≤ cap ∧ LAt W la l := by
  obtain ⟨la, cap, rfl, hc⟩ := slice_form h
  refine ⟨la, cap, rfl, hc, ⟨fun hn => ?_⟩⟩
  rcases h.2 with ⟨e, -⟩ | ⟨g, cp, cur, e, -⟩
  · injection e with e1 e2; exact absurd (List.eq_nil_of_length_eq_zero e2) hn
  · injection e with e1 e2
    subst e1
    refine ⟨g, 0, rfl, fun j x hx => ?_⟩
    have := World.ownsRow.cells h (g := g) rfl j x hx
    rw [show (⟨g, 0, none⟩ : Addr).add j = ⟨g, 0 + j, none⟩ by unfold Addr.add; split <;> simp_all] at this
    exact this
set_option maxHeartbeats 8000000 in
set_option maxRecDepth 100000 in
theorem open_any (b : ByteArray) (w : World) (ht : Tab w) (hg : 0 < w.heap.size) (hb : b.size ≤ 1099511627776) :
    Calls Tryd.prog 10 #[.string b] w (OpO b w) := by
  have c1 := read_any b w ht hg hb
  refine (callsIn_wide (n := 9)).1 ?_
  refine callsIn_of_wp Tryd.func10 rfl trivial ?_ rfl
  simp only [Tryd.ntmps10, List.size_toArray, List.length_cons, List.length_nil, Nat.reduceAdd, Nat.reduceSub, Array.replicate_succ, Array.replicate_zero, List.push_toArray, List.append_toArray, List.nil_append, List.cons_append]
  gi_wp2_with fail
  refine ⟨trivial, (callsIn_wide.2 c1).mono ?_⟩
  clear c1
  rintro r w1 ⟨b1, hR⟩
  cases hrd : rdA b with
  | none =>
    rw [hrd] at hR
    simp only [] at hR
    subst hR
    have hE : opA b = none := by unfold opA; rw [hrd]
    gi_wp2
    go_ret2
    exact OpO.no hE b1
  | some x =>
    obtain ⟨h, bl⟩ := x
    rw [hrd] at hR
    simp only [] at hR
    obtain ⟨fb, bv, rfl, hfw, hF, hbv⟩ := hR
    obtain ⟨r1, r2, r3, r4⟩ := rdA_some hrd
    obtain ⟨k1, -⟩ := hdE0 r1
    have hw := isW_bd k1
    have hn3 : h.n ≤ (b.size : Int) := Int.le_trans r3 (Int.ediv_le_self _ (by omega))
    have eO : opA b = if bdE h (alA (cbH h) bl) = 0 ∧ bdT h (alA (cbH h) bl) = b.data.toList then some (h, bl) else none := by unfold opA; rw [hrd]
    have F1 := hF.below (b_drew w1)
    have hall := all_any fb h bl [] bv (.slice none 0 0) 0 w1.drew F1 hw ⟨r2, by omega⟩ (by omega)
    obtain ⟨⟨y0, y1, y2, y3, y4, y5⟩, -⟩ := fl9 F1.box
    have HF := Hid.mk (And.intro F1 (And.intro hbv (And.intro hw (Nat.le_trans r4 hb))))
    have HT := Hid.mk (And.intro ht hg)
    have HO := Hid.mk eO
    have b1d : Below w.heap.size w w1.drew := b1.drew
    clear hrd hF hbv r1 r2 r3 r4 k1 hn3 eO F1 ht hg hb b1
    obtain ⟨AE, hAE⟩ : ∃ AE, AE = alA (cbH h) bl := ⟨_, rfl⟩
    rw [← hAE] at hall HO
    have HAE := Hid.mk hAE
    clear hAE hw
    obtain ⟨wd, t, bt, lo, hi, cn⟩ := h
    dsimp only at y0 y1 y2 y3 y4 y5
    gi_wp2_with fail
    refine region_held mixed 12 rfl (S := fun w' => w'.cell? ⟨fb, 0, none⟩ = some (.int .i64 wd) ∧ w'.cell? ⟨fb, 1, none⟩ = some (.int .i64 t) ∧ w'.cell? ⟨fb, 2, none⟩ = some (.int .i64 bt) ∧ w'.cell? ⟨fb, 3, none⟩ = some (.int .i64 lo) ∧ w'.cell? ⟨fb, 4, none⟩ = some (.int .i64 hi) ∧ w'.cell? ⟨fb, 5, none⟩ = some (.int .i64 cn)) ?_
    refine AnyS.take (i := 0) (v := ?vo0) (by kernel_rfl) rfl (by kernel_rfl) (by kernel_rfl) (by kernel_rfl) (fun _ _ _ h => h) ⟨Or.inl ⟨by rfl, fun w' hS => ?yo0⟩, fun _ => rfl⟩ ⟨y0, y1, y2, y3, y4, y5⟩ ?_
    case yo0 => go_simp; rfl
    refine AnyS.take (i := 1) (v := ?vo1) (by kernel_rfl) rfl (by kernel_rfl) (by kernel_rfl) (by kernel_rfl) (fun _ _ _ h => h) ⟨Or.inl ⟨by rfl, fun w' hS => ?yo1⟩, fun _ => rfl⟩ ⟨y0, y1, y2, y3, y4, y5⟩ ?_
    case yo1 => go_simp; rfl
    refine AnyS.take (i := 2) (v := ?vo2) (by kernel_rfl) rfl (by kernel_rfl) (by kernel_rfl) (by kernel_rfl) (fun _ _ _ h => h) ⟨Or.inl ⟨by rfl, fun w' hS => ?yo2⟩, fun _ => rfl⟩ ⟨y0, y1, y2, y3, y4, y5⟩ ?_
    case yo2 => go_simp; rfl
    refine AnyS.take (i := 3) (v := ?vo3) (by kernel_rfl) rfl (by kernel_rfl) (by kernel_rfl) (by kernel_rfl) (fun _ _ _ h => h) ⟨Or.inl ⟨by rfl, fun w' hS => ?yo3⟩, fun _ => rfl⟩ ⟨y0, y1, y2, y3, y4, y5⟩ ?_
    case yo3 => obtain ⟨g0, g1, g2, g3, g4, g5⟩ := hS; go_simp; rfl
    refine AnyS.take (i := 4) (v := ?vo4) (by kernel_rfl) rfl (by kernel_rfl) (by kernel_rfl) (by kernel_rfl) (fun _ _ _ h => h) ⟨Or.inl ⟨by rfl, fun w' hS => ?yo4⟩, fun _ => rfl⟩ ⟨y0, y1, y2, y3, y4, y5⟩ ?_
    case yo4 => go_simp; rfl
    refine AnyS.one (i := 5) (by kernel_rfl) (wpOpIn_step rfl (fun K hK => ?_))
    go_simp
    refine ⟨trivial, (callsIn_wide.2 hall).mono ?_⟩
    clear hall
    rintro r w3 ⟨v, rfl, rw3, lc3, b3⟩
    have S3 : w3.cell? ⟨fb, 0, none⟩ = some (.int .i64 wd) ∧ w3.cell? ⟨fb, 1, none⟩ = some (.int .i64 t) ∧ w3.cell? ⟨fb, 2, none⟩ = some (.int .i64 bt) ∧ w3.cell? ⟨fb, 3, none⟩ = some (.int .i64 lo) ∧ w3.cell? ⟨fb, 4, none⟩ = some (.int .i64 hi) ∧ w3.cell? ⟨fb, 5, none⟩ = some (.int .i64 cn) := ⟨cell_lat b3 y0, cell_lat b3 y1, cell_lat b3 y2, cell_lat b3 y3, cell_lat b3 y4, cell_lat b3 y5⟩
    have bw3 := chain b1d b3 (Nat.le_refl _)
    obtain ⟨la, cap, rfl, hcap, hLA⟩ := lat_row rw3
    obtain ⟨ht3, hg3⟩ := HT.out.1.blk HT.out.2 bw3
    have hbd := build_any ⟨wd, t, bt, lo, hi, cn⟩ AE la cap w3 ht3 hLA hcap
    simp only [hdC] at hbd
    obtain ⟨BE, hBE⟩ : ∃ BE, BE = bdE ⟨wd, t, bt, lo, hi, cn⟩ AE := ⟨_, rfl⟩
    obtain ⟨BT, hBT⟩ : ∃ BT : ByteArray, BT = ⟨(bdT ⟨wd, t, bt, lo, hi, cn⟩ AE).toArray⟩ := ⟨_, rfl⟩
    have hBT2 : bdT ⟨wd, t, bt, lo, hi, cn⟩ AE = BT.data.toList := by rw [hBT]
    rw [← hBE, ← hBT] at hbd
    rw [← hBE, hBT2] at HO
    clear hBE hBT hBT2
    refine hK _ _ ⟨S3, ?_⟩
    clear hK K
    refine AnyS.one (i := 6) (by kernel_rfl) (wpOpIn_step rfl (fun K hK => ?_))
    go_simp
    refine ⟨trivial, (callsIn_wide.2 hbd).mono ?_⟩
    clear hbd
    rintro r w4 ⟨rfl, b4⟩
    have S4 : w4.cell? ⟨fb, 0, none⟩ = some (.int .i64 wd) ∧ w4.cell? ⟨fb, 1, none⟩ = some (.int .i64 t) ∧ w4.cell? ⟨fb, 2, none⟩ = some (.int .i64 bt) ∧ w4.cell? ⟨fb, 3, none⟩ = some (.int .i64 lo) ∧ w4.cell? ⟨fb, 4, none⟩ = some (.int .i64 hi) ∧ w4.cell? ⟨fb, 5, none⟩ = some (.int .i64 cn) := ⟨cell_lat b4 S3.1, cell_lat b4 S3.2.1, cell_lat b4 S3.2.2.1, cell_lat b4 S3.2.2.2.1, cell_lat b4 S3.2.2.2.2.1, cell_lat b4 S3.2.2.2.2.2⟩
    refine hK _ _ ⟨S4, ?_⟩
    clear hK K
    refine AnyS.take (i := 7) (v := ?vo7) (by kernel_rfl) rfl (by kernel_rfl) (by kernel_rfl) (by kernel_rfl) (fun _ _ _ h => h) ⟨Or.inl ⟨by rfl, fun w' hS => ?yo7⟩, fun _ => rfl⟩ S4 ?_
    case yo7 => go_simp; rfl
    refine AnyS.take (i := 8) (v := ?vo8) (by kernel_rfl) rfl (by kernel_rfl) (by kernel_rfl) (by kernel_rfl) (fun _ _ _ h => h) ⟨Or.inl ⟨by rfl, fun w' hS => ?yo8⟩, fun _ => rfl⟩ S4 ?_
    case yo8 => go_simp; rfl
    refine AnyS.take (i := 9) (v := ?vo9) (by kernel_rfl) rfl (by kernel_rfl) (by kernel_rfl) (by kernel_rfl) (fun _ _ _ h => h) ⟨Or.inl ⟨by rfl, fun w' hS => ?yo9⟩, fun _ => rfl⟩ S4 ?_
    case yo9 => go_simp; rfl
    refine AnyS.take (i := 10) (v := ?vo10) (by kernel_rfl) rfl (by kernel_rfl) (by kernel_rfl) (by kernel_rfl) (fun _ _ _ h => h) ⟨Or.inl ⟨by rfl, fun w' hS => ?yo10⟩, fun _ => rfl⟩ S4 ?_
    case yo10 => go_simp; rfl
    refine AnyS.take (i := 11) (v := ?vo11) (by kernel_rfl) rfl (by kernel_rfl) (by kernel_rfl) (by kernel_rfl) (fun _ _ _ h => h) ⟨Or.inl ⟨by rfl, fun w' hS => ?yo11⟩, fun _ => rfl⟩ S4 ?_
    case yo11 => go_simp; rfl
    refine AnyS.done (by kernel_rfl) ?_
    have bw4 := chain bw3 b4 (Nat.le_refl _)
    have F4 := (HF.out.1.below b3).below b4
    clear S3 S4 y0 y1 y2 y3 y4 y5 rw3 lc3 b3 b4 hLA ht3 hg3 b1d bw3
    by_cases hE0 : BE = 0
    · subst hE0
      by_cases hTb : BT = b
      · have hE : opA b = some (⟨wd, t, bt, lo, hi, cn⟩, bl) := by rw [HO.out, if_pos ⟨rfl, by rw [hTb]⟩]
        have HE := Hid.mk hE
        subst hTb
        obtain ⟨-, y6, -⟩ := fl9 F4.box
        obtain ⟨ba, bc, rfl, hbc⟩ := slice_form F4.row
        have hself : (BT.toList == BT.toList) = true := by simp
        clear hE HO
        obtain ⟨hbv, hw, hsum⟩ := HF.out.2
        try dsimp only at hw
        obtain ⟨CB, hCB⟩ : ∃ CB, CB = cbH ⟨wd, t, bt, lo, hi, cn⟩ := ⟨_, rfl⟩
        have hCB2 : CB ≤ 128 := by rw [hCB]; unfold cbH; dsimp only; omega
        have hcb := fun iv W hbx => codeBytes_any fb ⟨wd, t, bt, lo, hi, cn⟩ (.slice ba bl.length bc) iv 0 W hbx hw
        rw [← hCB] at hcb
        have HCB := Hid.mk hCB
        clear hCB hw hself
        gi_wp2_with fail
        gi_loopw [42] (fun u wr => ∃ (i : Nat) (iv : Value), u = .int .i64 i ∧ i ≤ bl.length ∧ FA wr fb ⟨wd, t, bt, lo, hi, cn⟩ bl (ixL CB (bl.take i)) (.slice ba bl.length bc) iv 0 ∧ (∀ k, iv.ownBlock = some k → w.heap.size ≤ k) ∧ Below w.heap.size w wr) (fun u _ => bl.length - (intOf u).toNat)
        case atStart => exact ⟨0, .slice none 0 0, rfl, Nat.zero_le _, F4, (fun k h => by cases h), bw4⟩
        case round =>
          obtain ⟨i, iv, rfl, hi, hFA, hiv, hbw⟩ := hrel
          clear F4 y6 bw4
          by_cases hlt : i < bl.length
          · have i1 : (i : Int) < (bl.length : Int) := by omega
            obtain ⟨g, hg⟩ : ∃ g, ba = some ⟨g, 0, none⟩ := by
              rcases hFA.row.2 with ⟨e, -⟩ | ⟨g, cap, cur, e, -⟩
              · injection e with e1 e2; omega
              · injection e with e1 e2; exact ⟨g, e1⟩
            subst hg
            have xb := World.ownsRow.cells hFA.row (g := g) rfl i (sv bl[i]) (by simp [hlt])
            rw [show (⟨g, 0, none⟩ : Addr).add i = ⟨g, i, none⟩ by unfold Addr.add; split <;> simp_all] at xb
            obtain ⟨X, hX⟩ : ∃ X : ByteArray, X = ⟨bl[i].toArray⟩ := ⟨_, rfl⟩
            rw [show sv bl[i] = .string X by rw [hX]] at xb
            have cb1 := hcb iv wr hFA.box
            have hXl : X.size < 1152921504606846976 := by
              have h1 : bl[i].length + 14 ≤ (bl.map (·.length + 14)).sum := by
                have h2 := congrArg (fun l => (l.map (·.length + 14)).sum) (List.take_append_drop (i + 1) bl)
                rw [List.take_add_one, List.getElem?_eq_getElem hlt] at h2
                simp only [List.map_append, List.sum_append] at h2
                simp at h2
                omega
              rw [hX, ba_len]; omega
            have HX := Hid.mk hX
            have HA := Hid.mk (And.intro hFA (And.intro hiv hbw))
            clear hX hFA hiv hbw hcb
            gi_wp2_with fail
            refine ⟨trivial, (callsIn_wide.2 cb1).mono ?_⟩
            rintro r w5 ⟨rfl, rfl⟩
            clear cb1
            gi_wp2_with fail
            have hea := entryAt_any X 0 CB w5 hXl (Nat.zero_le _) hCB2
            rw [show ((0 : Nat) : Int) = 0 from rfl] at hea
            refine ⟨trivial, (callsIn_wide.2 hea).mono ?_⟩
            clear hea
            rintro r w6 ⟨rfl, b6⟩
            obtain ⟨E0, hE0⟩ : ∃ E0, E0 = eE (eaA X 0 CB) := ⟨_, rfl⟩
            have HE0 := Hid.mk hE0
            clear hE0
            gi_wp2_with fail
            rw [← HE0.out]
            obtain ⟨Y, hY⟩ : ∃ Y, Y = w6.alloc (.cells (enV E0) 40) := ⟨_, rfl⟩
            obtain ⟨be, hbe⟩ : ∃ be, be = w6.heap.size := ⟨_, rfl⟩
            have bY : Below w6.heap.size w6 Y := by rw [hY]; exact (Below.refl _ w6).alloc (Nat.le_refl _) _
            have hEb : Y.heap[be]? = some (.cells (enV E0) 40 (0, 0)) := by rw [hY, hbe]; exact heap_alloc_last w6 _
            rw [← hbe, ← hY]
            obtain ⟨hFA, hiv, hbw⟩ := HA.out
            have bYd : Below w5.heap.size w5 Y.drew := (chain b6 bY (Nat.le_refl _)).drew
            have FY := hFA.below bYd
            obtain ⟨x0, x1, x2, x3, x4⟩ := en5 hEb
            obtain ⟨ia, ic, hivf, -⟩ := slice_form FY.idx
            obtain ⟨ni, hni⟩ : ∃ ni, ni = (ixL CB (bl.take i)).length := ⟨_, rfl⟩
            rw [← hni] at hivf
            obtain ⟨-, -, x7, -⟩ := fl9 FY.box
            have hlen : (ixL CB (bl.take i)).length ≤ i := by unfold ixL; simp; omega
            have hbl := len_sum bl
            obtain ⟨v7, W7, hap, ho7, st7, loc7⟩ := en_app Y.drew _ _ FY.idx E0 (by omega)
            have hb7 : W7.heap[fb]? = _ := (st7.block fb FY.lt (fun e => FY.idx_ne e rfl)).trans FY.box
            have hbe7 : ¬ iv.ownBlock = some be := fun e => by
              have := row_lt hFA.idx e
              have := b6.size
              omega
            have hE7 : W7.heap[be]? = _ := (st7.block be (by rw [hbe]; show w6.heap.size < Y.heap.size; rw [hY]; simp) hbe7).trans hEb
            obtain ⟨-, -, q7, -, qf⟩ := fl9 hb7
            have qf7 := qf 7
            have p5 := en5 hE7
            rw [hivf] at x7 hap q7
            have T0 : Y.drew.cell? ⟨fb, 7, none⟩ = some (.slice ia ni ic) ∧ Y.drew.cell? ⟨be, 0, none⟩ = some (.int .i64 E0.v) ∧ Y.drew.cell? ⟨be, 1, none⟩ = some (.string E0.c) ∧ Y.drew.cell? ⟨be, 2, none⟩ = some (.int .i64 E0.i) ∧ Y.drew.cell? ⟨be, 3, none⟩ = some (.int .i64 E0.s) ∧ Y.drew.cell? ⟨be, 4, none⟩ = some (.bool E0.d) := ⟨x7, x0, x1, x2, x3, x4⟩
            have T2 : W7.cell? ⟨fb, 7, none⟩ = some (.slice ia ni ic) ∧ W7.cell? ⟨be, 0, none⟩ = some (.int .i64 E0.v) ∧ W7.cell? ⟨be, 1, none⟩ = some (.string E0.c) ∧ W7.cell? ⟨be, 2, none⟩ = some (.int .i64 E0.i) ∧ W7.cell? ⟨be, 3, none⟩ = some (.int .i64 E0.s) ∧ W7.cell? ⟨be, 4, none⟩ = some (.bool E0.d) := ⟨q7, p5⟩
            obtain ⟨ja, jc, hv7, -⟩ := slice_form ho7
            obtain ⟨m7, hm7⟩ : ∃ m7, m7 = (ixL CB (bl.take i) ++ [E0]).length := ⟨_, rfl⟩
            rw [← hm7] at hv7
            rw [hv7] at hap
            have hbl40 : bl.length ≤ 1099511627776 := by omega
            have HY := Hid.mk (And.intro FY (And.intro hiv (And.intro hbw (And.intro bYd (And.intro ho7 (And.intro st7 (And.intro loc7 (And.intro hb7 hv7))))))))
            clear FY hiv hbw bYd ho7 st7 loc7 hb7 hv7 hm7 hni hivf hFA x0 x1 x2 x3 x4 x7 q7 qf p5 hE7 hbe7 hEb bY b6 hlen hbl hY hbe xb
            refine region_late mixed 11 rfl (L := [10]) (S := fun w' => w'.cell? ⟨fb, 7, none⟩ = some (.slice ia ni ic) ∧ w'.cell? ⟨be, 0, none⟩ = some (.int .i64 E0.v) ∧ w'.cell? ⟨be, 1, none⟩ = some (.string E0.c) ∧ w'.cell? ⟨be, 2, none⟩ = some (.int .i64 E0.i) ∧ w'.cell? ⟨be, 3, none⟩ = some (.int .i64 E0.s) ∧ w'.cell? ⟨be, 4, none⟩ = some (.bool E0.d)) ?_
            refine AnyL.take (i := 0) (v := ?vp0) (by kernel_rfl) rfl (by kernel_rfl) (by kernel_rfl) (by kernel_rfl) (by kernel_rfl) (fun _ _ _ h => h) ⟨Or.inl ⟨by rfl, fun w' hS => ?yp0⟩, fun _ => rfl⟩ T0 ?_
            case yp0 => go_simp; rfl
            refine AnyL.take (i := 1) (v := ?vp1) (by kernel_rfl) rfl (by kernel_rfl) (by kernel_rfl) (by kernel_rfl) (by kernel_rfl) (fun _ _ _ h => h) ⟨Or.inl ⟨by rfl, fun w' hS => ?yp1⟩, fun _ => rfl⟩ T0 ?_
            case yp1 => go_simp; rfl
            refine AnyL.take (i := 2) (v := ?vp2) (by kernel_rfl) rfl (by kernel_rfl) (by kernel_rfl) (by kernel_rfl) (by kernel_rfl) (fun _ _ _ h => h) ⟨Or.inl ⟨by rfl, fun w' hS => ?yp2⟩, fun _ => rfl⟩ T0 ?_
            case yp2 => go_simp; rfl
            refine AnyL.take (i := 3) (v := ?vp3) (by kernel_rfl) rfl (by kernel_rfl) (by kernel_rfl) (by kernel_rfl) (by kernel_rfl) (fun _ _ _ h => h) ⟨Or.inl ⟨by rfl, fun w' hS => ?yp3⟩, fun _ => rfl⟩ T0 ?_
            case yp3 => go_simp; rfl
            refine AnyL.take (i := 4) (v := ?vp4) (by kernel_rfl) rfl (by kernel_rfl) (by kernel_rfl) (by kernel_rfl) (by kernel_rfl) (fun _ _ _ h => h) ⟨Or.inl ⟨by rfl, fun w' hS => ?yp4⟩, fun _ => rfl⟩ T0 ?_
            case yp4 => have g0 := hS.1; clear hS; go_simp; rfl
            refine AnyL.take (i := 5) (v := ?vp5) (by kernel_rfl) rfl (by kernel_rfl) (by kernel_rfl) (by kernel_rfl) (by kernel_rfl) (fun _ _ _ h => h) ⟨Or.inl ⟨by rfl, fun w' hS => ?yp5⟩, fun _ => rfl⟩ T0 ?_
            case yp5 => obtain ⟨-, g0, g1, g2, g3, g4⟩ := hS; go_simp; rfl
            refine AnyL.one (i := 6) (by kernel_rfl) (wpOpIn_step rfl (fun K hK => ?_))
            go_simp
            have bA : Below Y.drew.heap.size Y.drew (Y.drew.alloc (.cells (enV E0) 40)) := (Below.refl _ _).alloc (Nat.le_refl _) _
            have T1 : (Y.drew.alloc (.cells (enV E0) 40)).cell? ⟨fb, 7, none⟩ = some (.slice ia ni ic) ∧ (Y.drew.alloc (.cells (enV E0) 40)).cell? ⟨be, 0, none⟩ = some (.int .i64 E0.v) ∧ (Y.drew.alloc (.cells (enV E0) 40)).cell? ⟨be, 1, none⟩ = some (.string E0.c) ∧ (Y.drew.alloc (.cells (enV E0) 40)).cell? ⟨be, 2, none⟩ = some (.int .i64 E0.i) ∧ (Y.drew.alloc (.cells (enV E0) 40)).cell? ⟨be, 3, none⟩ = some (.int .i64 E0.s) ∧ (Y.drew.alloc (.cells (enV E0) 40)).cell? ⟨be, 4, none⟩ = some (.bool E0.d) := ⟨cell_lat bA T0.1, cell_lat bA T0.2.1, cell_lat bA T0.2.2.1, cell_lat bA T0.2.2.2.1, cell_lat bA T0.2.2.2.2.1, cell_lat bA T0.2.2.2.2.2⟩
            refine hK _ _ ⟨fun _ => T1, ?_⟩
            clear hK K
            refine AnyL.one (i := 7) (by kernel_rfl) (wpOpIn_step rfl (fun K hK => ?_))
            refine stepIn_append_eq rfl _ _ _ _ rfl _ _ _ _ rfl rfl hap ?_
            refine hK _ _ ⟨fun _ => T2, ?_⟩
            clear hK K hap T1 bA
            refine AnyL.one (i := 8) (by kernel_rfl) (wpOpIn_step rfl (fun K hK => ?_))
            go_simp
            refine hK _ _ ⟨fun _ => T2, ?_⟩
            clear hK K
            refine AnyL.one (i := 9) (by kernel_rfl) (wpOpIn_step rfl (fun K hK => ?_))
            go_simp
            refine hK _ _ ⟨fun _ => T2, ?_⟩
            clear hK K
            refine AnyL.one (i := 10) (by kernel_rfl) (wpOpIn_step rfl (fun K hK => ?_))
            go_simp
            refine hK _ _ ⟨fun h => absurd (by simp) h, ?_⟩
            clear hK K
            refine AnyL.done (by kernel_rfl) ?_
            gi_wp2
            obtain ⟨FY, hiv, hbw, bYd, ho7, st7, loc7, hb7, hv7⟩ := HY.out
            rw [← hv7]
            have hix : ixL CB (bl.take (i + 1)) = ixL CB (bl.take i) ++ [E0] := by
              rw [List.take_add_one, List.getElem?_eq_getElem hlt, HE0.out, HX.out]
              unfold ixL
              rw [List.map_append]
              rfl
            have stF : Stay (fun k => k = fb) W7 (W7.setCell ⟨fb, 7, none⟩ v7) := stay1 _ _ _ _ _ (.refl _ _)
            have hr7 := row_kept FY.row st7 (fun k hk e => FY.apart hk e)
            have hsz : w.heap.size ≤ Y.drew.heap.size := Nat.le_trans hbw.size bYd.size
            have hr8 : (W7.setCell ⟨fb, 7, none⟩ v7).ownsRow 0 40 5 v7 (ixL CB (bl.take (i + 1))).length ((ixL CB (bl.take (i + 1))).flatMap enC) := by
              rw [hix]
              exact row_kept ho7 stF (fun k hk e => by
                obtain ⟨c, hc⟩ := row_block ho7 hk
                rw [e, hb7] at hc; simp at hc)
            refine ⟨⟨i + 1, v7, ival (by omega), hlt, ⟨fl_set7 hb7 v7, row_kept hr7 stF (fun k hk e => FY.row_ne hk e), hr8⟩, fun k hk => ?_, ?_⟩, by simp only [intOf]; omega⟩
            · rcases loc7 k hk with h | h
              · exact hiv k h
              · exact Nat.le_trans hsz h
            · exact (((hbw.trans (bYd.mono hbw.size)).trans (st7.toBelow (fun k hk e => by have := hiv k e; omega) hsz)).setCell (p := ⟨fb, 7, none⟩) hfw _)
          · have i1 : ¬ (i : Int) < (bl.length : Int) := by omega
            have e1 : bl.take i = bl := List.take_of_length_le (by omega)
            rw [e1, HCB.out] at hFA
            have fin := Hid.mk (OpO.yes HE.out hbw hfw hFA hbv hiv)
            clear hFA hiv hbw e1
            gi_wp2
            go_ret2
            exact fin.out
      · have hE : opA b = none := by rw [HO.out, if_neg (fun h => hTb (ba_ext h.2))]
        have hne : (BT.toList == b.toList) = false := by
          apply beq_false_of_ne
          intro e
          rw [toL, toL] at e
          exact hTb (ba_ext e)
        clear HO hTb F4
        gi_wp2
        go_ret2
        exact OpO.no hE bw4
    · have hE : opA b = none := by rw [HO.out, if_neg (fun h => hE0 h.1)]
      have hne : (BE != 0) = true := by simpa using hE0
      clear HO hE0 F4
      gi_wp2
      go_ret2
      exact OpO.no hE bw4
end Go.Proofs.YtdegclccbgpgiaaDoor
