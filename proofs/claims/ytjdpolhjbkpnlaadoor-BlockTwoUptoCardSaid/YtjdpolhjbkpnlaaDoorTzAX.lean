/-
  DERIVED. BW2, BTwoRow, as one text.
-/
import Derived.Test.YtjdpolhjbkpnlaaDoorTzAW
import Derived.Test.YtjdpolhjbkpnlaaDoorTzAA
import Derived.ChangeMaps5
import Derived.ChangeSlices
import Derived.Deep.DeepHandedRow
import Derived.JoinedCond
set_option linter.unusedVariables false
set_option linter.unusedSimpArgs false
namespace Go.Proofs.YtjdpolhjbkpnlaaDoor.Dx
open Go.RowKit Go.Proofs.SealMath
open Go.Proofs.YtjdpolhjbkpnlaaDoor.Rb
/-- The program's Open. -/
def PO (b : ByteArray) (w : World) (a : Value) (x : Int) (w' : World) : Prop := Below w.heap.size w w' ∧ ((opA b = none ∧ a = .pointer none ∧ x = 80) ∨
  ∃ h bl fb bv iv, opA b = some (h, bl) ∧ a = Pt fb ∧ x = 0 ∧ w.heap.size ≤ fb ∧ FA w' fb h bl (ixL (cbH h) bl) bv iv 0)
/-- The document's Open. -/
def RO (b : ByteArray) (w : World) (a : Value) (x : Int) (w' : World) : Prop := Below w.heap.size w w' ∧ ((opA b = none ∧ a = .pointer none ∧ x = 80) ∨
  ∃ h bl rb lv sv, opA b = some (h, bl) ∧ a = Pt rb ∧ x = 0 ∧ w.heap.size ≤ rb ∧ RF w' rb h (alA (cbH h) bl) lv sv 0)
theorem po_any (b : ByteArray) (w : World) (ht : Tab w) (hg : 0 < w.heap.size) (hb : b.size ≤ 1099511627776) :
    Calls Tryd.prog 4 #[.string b] w fun r w' => ∃ a x, r = .returned (.tuple #[a, .int .i64 x]) ∧ PO b w a x w' := by
  refine (open_any b w ht hg hb).mono ?_
  rintro r w1 ⟨b1, hO⟩
  cases hA : opA b with
  | none =>
    rw [hA] at hO
    simp only [] at hO
    subst hO
    exact ⟨_, _, rfl, b1, .inl ⟨hA, rfl, rfl⟩⟩
  | some p =>
    obtain ⟨h, bl⟩ := p
    rw [hA] at hO
    simp only [] at hO
    obtain ⟨fb, bv, iv, rfl, hfb, hF, -, -⟩ := hO
    exact ⟨_, _, rfl, b1, .inr ⟨h, bl, fb, bv, iv, hA, rfl, rfl, hfb, hF⟩⟩
theorem ro_any (b : ByteArray) (w : World) (hb : b.size ≤ 1099511627776) :
    Calls Tryd.prog 5 #[.string b] w fun r w' => ∃ a x, r = .returned (.tuple #[a, .int .i64 x]) ∧ RO b w a x w' := by
  have hE := opD_eq b
  refine (ropen_any b w hb).mono ?_
  rintro r w2 ⟨b2, ⟨e, rfl⟩ | ⟨h', m, rb, lv, sv, e, rfl, hrb, hR, -, -⟩⟩
  · rw [hE] at e
    have hA : opA b = none := by cases hA : opA b with
      | none => rfl
      | some p => rw [hA] at e; simp at e
    exact ⟨_, _, rfl, b2, .inl ⟨hA, rfl, rfl⟩⟩
  · cases hA : opA b with
    | none => rw [hE, hA] at e; simp at e
    | some p =>
      obtain ⟨h, bl⟩ := p
      rw [hE, hA] at e
      simp only [Option.map_some, Option.some.injEq, Prod.mk.injEq] at e
      obtain ⟨rfl, rfl⟩ := e
      exact ⟨_, _, rfl, b2, .inr ⟨_, bl, rb, lv, sv, hA, rfl, rfl, hrb, hR⟩⟩
/-- Both of one text. -/
def Bo (w W : World) (a c : Value) (x y : Int) : Prop := (a = .pointer none ∧ c = .pointer none ∧ x = 80 ∧ y = 80) ∨
  ∃ fb rb h l bl ix bv iv lv sv, a = Pt fb ∧ c = Pt rb ∧ x = 0 ∧ y = 0 ∧ FF h l bl ix ∧ BF W fb rb h l bl ix bv iv lv sv 0
theorem two_pick {b : ByteArray} {w w1 w2 w3 W : World} {a c : Value} {x y : Int} (P : PO b w a x w1) (R : RO b w2 c y w3) (b1 : Below w1.heap.size w1 W) (b3 : Below w3.heap.size w3 W) (hb : b.size ≤ 1099511627776) :
    (a = .pointer none ∧ c = .pointer none ∧ x = 80 ∧ y = 80) ∨
    ∃ fb rb h l bl ix bv iv lv sv, a = Pt fb ∧ c = Pt rb ∧ x = 0 ∧ y = 0 ∧ w.heap.size ≤ fb ∧ fb < w1.heap.size ∧ w2.heap.size ≤ rb ∧ rb < w3.heap.size ∧ FF h l bl ix ∧ BF W fb rb h l bl ix bv iv lv sv 0 := by
  obtain ⟨-, ⟨e, rfl, rfl⟩ | ⟨h, bl, fb, bv, iv, e, rfl, rfl, k1, hF⟩⟩ := P
  · obtain ⟨-, ⟨-, rfl, rfl⟩ | ⟨h, bl, rb, lv, sv, e', -⟩⟩ := R
    · exact .inl ⟨rfl, rfl, rfl, rfl⟩
    · rw [e] at e'; cases e'
  · obtain ⟨-, ⟨e', -⟩ | ⟨h', bl', rb, lv, sv, e', rfl, rfl, k2, hR⟩⟩ := R
    · rw [e] at e'; cases e'
    · rw [e] at e'
      simp only [Option.some.injEq, Prod.mk.injEq] at e'
      obtain ⟨rfl, rfl⟩ := e'
      exact .inr ⟨fb, rb, h, _, bl, _, bv, iv, lv, sv, rfl, rfl, rfl, rfl, k1, (Array.getElem?_eq_some_iff.1 hF.box).1, k2, hR.lt, FF.of e hb, ⟨hF.kept (.below b1) (fun h => h) (fun _ _ h => h) (fun _ _ h => h), hR.below b3⟩⟩
section
variable {W W' : World} {fa fc : Nat} {h1 : Hd} {l1 : List En} {bl1 : List (List UInt8)} {ix1 : List En} {bv1 iv1 lv1 sv1 : Value} {rd1 rd1' : Nat} {fb rb : Nat} {h : Hd} {l : List En} {bl : List (List UInt8)} {ix : List En} {bv iv lv sv : Value} {rd : Nat}
theorem BF.aside (H : BF W fb rb h l bl ix bv iv lv sv rd) (K : BF W fa fc h1 l1 bl1 ix1 bv1 iv1 lv1 sv1 rd1) (s : Stay (fun k => k = fa ∨ k = fc) W W') (n1 : fb ≠ fa) (n2 : rb ≠ fc) : BF W' fb rb h l bl ix bv iv lv sv rd := by
  have t1 : ∀ {k : Nat} {cur : Array Value} {t : TypeId}, W.heap[k]? = some (.cells cur t (0, 0)) → t ≠ 46 → t ≠ 60 → ¬ (k = fa ∨ k = fc) := by
    rintro k cur t hk m1 m2 (rfl | rfl)
    · rw [K.p.box] at hk; simp at hk; exact m1 hk.2.symm
    · rw [K.r.box] at hk; simp at hk; exact m2 hk.2.symm
  refine ⟨H.p.kept s ?_ ?_ ?_, H.r.kept s ?_ ?_ ?_⟩
  · rintro (e | rfl)
    · exact n1 e
    · have hk := H.p.box; rw [K.r.box] at hk; simp at hk
  · intro k hk
    obtain ⟨c, hc⟩ := row_block H.p.row hk
    exact t1 hc (by decide) (by decide)
  · intro k hk
    obtain ⟨c, hc⟩ := row_block H.p.idx hk
    exact t1 hc (by decide) (by decide)
  · rintro (rfl | e)
    · have hk := H.r.box; rw [K.p.box] at hk; simp at hk
    · exact n2 e
  · intro k hk
    obtain ⟨c, hc⟩ := row_block H.r.row hk
    exact t1 hc (by decide) (by decide)
  · intro k hk
    obtain ⟨c, hc⟩ := row_block H.r.szr hk
    exact t1 hc (by decide) (by decide)
end
/-- What the loop keeps: both pairs. -/
structure TI (w W : World) (fa fc : Nat) (h1 : Hd) (l1 : List En) (bl1 : List (List UInt8)) (ix1 : List En) (bv1 iv1 lv1 sv1 : Value) (r1 : Nat) (fb fd : Nat) (h2 : Hd) (l2 : List En) (bl2 : List (List UInt8)) (ix2 : List En) (bv2 iv2 lv2 sv2 : Value) (r2 : Nat) : Prop where
  one : BF W fa fc h1 l1 bl1 ix1 bv1 iv1 lv1 sv1 r1
  two : BF W fb fd h2 l2 bl2 ix2 bv2 iv2 lv2 sv2 r2
  old : Below w.heap.size w W
  na : fb ≠ fa ∧ fd ≠ fc
  fresh : w.heap.size ≤ fa ∧ w.heap.size ≤ fb ∧ w.heap.size ≤ fc ∧ w.heap.size ≤ fd
section
variable {w W W' : World} {fa fc : Nat} {h1 : Hd} {l1 : List En} {bl1 : List (List UInt8)} {ix1 : List En} {bv1 iv1 lv1 sv1 : Value} {r1 t : Nat} {fb fd : Nat} {h2 : Hd} {l2 : List En} {bl2 : List (List UInt8)} {ix2 : List En} {bv2 iv2 lv2 sv2 : Value} {r2 : Nat}
theorem TI.goOne (T : TI w W fa fc h1 l1 bl1 ix1 bv1 iv1 lv1 sv1 r1 fb fd h2 l2 bl2 ix2 bv2 iv2 lv2 sv2 r2) (H : BF W' fa fc h1 l1 bl1 ix1 bv1 iv1 lv1 sv1 (r1 + t)) (s : Stay (fun k => k = fa ∨ k = fc) W W') : TI w W' fa fc h1 l1 bl1 ix1 bv1 iv1 lv1 sv1 (r1 + t) fb fd h2 l2 bl2 ix2 bv2 iv2 lv2 sv2 r2 :=
  ⟨H, T.two.aside T.one s T.na.1 T.na.2, T.old.trans (s.toBelow (fun k hk e => by have := T.fresh; omega) T.old.size), T.na, T.fresh⟩
theorem TI.goTwo (T : TI w W fa fc h1 l1 bl1 ix1 bv1 iv1 lv1 sv1 r1 fb fd h2 l2 bl2 ix2 bv2 iv2 lv2 sv2 r2) (H : BF W' fb fd h2 l2 bl2 ix2 bv2 iv2 lv2 sv2 (r2 + t)) (s : Stay (fun k => k = fb ∨ k = fd) W W') : TI w W' fa fc h1 l1 bl1 ix1 bv1 iv1 lv1 sv1 r1 fb fd h2 l2 bl2 ix2 bv2 iv2 lv2 sv2 (r2 + t) :=
  ⟨T.one.aside T.two s (fun e => T.na.1 e.symm) (fun e => T.na.2 e.symm), H, T.old.trans (s.toBelow (fun k hk e => by have := T.fresh; omega) T.old.size), T.na, T.fresh⟩
end
def TwI (w : World) (fa fc : Nat) (h1 : Hd) (l1 : List En) (bl1 : List (List UInt8)) (ix1 : List En) (bv1 iv1 lv1 sv1 : Value) (fb fd : Nat) (h2 : Hd) (l2 : List En) (bl2 : List (List UInt8)) (ix2 : List En) (bv2 iv2 lv2 sv2 : Value) (n : Nat) (iv' : Value) (wr : World) : Prop :=
  ∃ k r1 r2 : Nat, iv' = .int .i64 (k : Nat) ∧ k ≤ n ∧ r1 ≤ k * 2097152 ∧ r2 ≤ k * 2097152 ∧ TI w wr fa fc h1 l1 bl1 ix1 bv1 iv1 lv1 sv1 r1 fb fd h2 l2 bl2 ix2 bv2 iv2 lv2 sv2 r2
theorem wrap_sub1 (n : Nat) (h : n ≤ 1099511627776) : wrap64 ((n : Int) - 1) = (n : Int) - 1 := by unfold wrap64; omega
theorem wrap_sub2 (n k : Nat) (h : n ≤ 1099511627776) (hk : k < n) : wrap64 ((n : Int) - 1 - (k : Int)) = ((n - 1 - k : Nat) : Int) := by unfold wrap64; omega
set_option maxHeartbeats 8000000 in
set_option maxRecDepth 100000 in
theorem law_two (b1 b2 : ByteArray) (qs : List Qn) (la : Option Addr) (cap : Nat) (n : Nat) (w : World) (ht : Tab w) (hg : 0 < w.heap.size) (hq : QAt w la qs) (hn : qs.length = n) (hN : n ≤ 1099511627776) (hb1 : b1.size ≤ 1099511627776) (hb2 : b2.size ≤ 1099511627776) :
    Calls Tryd.prog 3 #[.string b1, .string b2, .slice la n cap] w fun r w' => r = .returned (.bool true) ∧ Below w.heap.size w w' := by
  have o1 := po_any b1 w ht hg hb1
  have o2 := fun W (b : Below w.heap.size w W) => po_any b2 W (ht.blk hg b).1 (ht.blk hg b).2 hb2
  have o3 := fun W => ro_any b1 W hb1
  have o4 := fun W => ro_any b2 W hb2
  have HH := Hid.mk (And.intro hb1 (And.intro hb2 (And.intro hq (And.intro hn hN))))
  clear ht hg hb1 hb2 hq hn hN
  go_enter Tryd.func3, Tryd.ntmps3
  go_wp2_with (go_at_call 4; refine o1.mono ?_; clear o1; rintro r w1 ⟨a, x1, rfl, P1⟩)
  go_wp2_with (go_at_call 4; refine (o2 w1 P1.1).mono ?_; clear o2; rintro r w2 ⟨b, x2, rfl, P2⟩)
  go_wp2_with (go_at_call 5; refine (o3 w2).mono ?_; clear o3; rintro r w3 ⟨c, x3, rfl, R1⟩)
  refine (o4 w3).mono ?_
  clear o4
  rintro r w4 ⟨d, x4, rfl, R2⟩
  have s1 := P1.1.size
  have s2 := P2.1.size
  have s3 := R1.1.size
  have s4 := R2.1.size
  have b24 := chain R1.1 R2.1 (Nat.le_refl _)
  have b14 := chain P2.1 b24 (Nat.le_refl _)
  have bw4 := chain P1.1 b14 (Nat.le_refl _)
  have K1 := two_pick P1 R1 b14 R2.1 HH.out.1
  have K2 := two_pick P2 R2 b24 (Below.refl _ _) HH.out.2.1
  clear P1 P2 R1 R2 b24 b14
  rcases K1 with ⟨rfl, rfl, rfl, rfl⟩ | ⟨fa, fc, h1, l1, bl1, ix1, bv1, iv1, lv1, sv1, rfl, rfl, rfl, rfl, n1, n2, n3, n4, F1, H1⟩
  · rcases K2 with ⟨rfl, rfl, rfl, rfl⟩ | ⟨fb, fd, h2, l2, bl2, ix2, bv2, iv2, lv2, sv2, rfl, rfl, rfl, rfl, -⟩
    · clear s1 s2 s3 s4
      go_wp2
      go_ret
      exact ⟨rfl, bw4⟩
    · clear s1 s2 s3 s4
      go_wp2
      go_ret
      exact ⟨rfl, bw4⟩
  · rcases K2 with ⟨rfl, rfl, rfl, rfl⟩ | ⟨fb, fd, h2, l2, bl2, ix2, bv2, iv2, lv2, sv2, rfl, rfl, rfl, rfl, m1, m2, m3, m4, F2, H2⟩
    · clear s1 s2 s3 s4 H1 F1 n1 n2 n3 n4
      go_wp2
      go_ret
      exact ⟨rfl, bw4⟩
    · have T0 : TI w w4 fa fc h1 l1 bl1 ix1 bv1 iv1 lv1 sv1 0 fb fd h2 l2 bl2 ix2 bv2 iv2 lv2 sv2 0 := ⟨H1, H2, bw4, ⟨by omega, by omega⟩, by omega⟩
      have HT := Hid.mk T0
      have HF := Hid.mk (And.intro F1 F2)
      clear s1 s2 s3 s4 H1 F1 n1 n2 n3 n4 H2 F2 m1 m2 m3 m4 T0 bw4
      go_wp2
      go_loopw [15, 16, 17] (fun u _ _ wr => TwI w fa fc h1 l1 bl1 ix1 bv1 iv1 lv1 sv1 fb fd h2 l2 bl2 ix2 bv2 iv2 lv2 sv2 n u wr) (fun u _ _ _ => n - (intOf u).toNat)
      case atStart => exact ⟨0, 0, 0, rfl, Nat.zero_le _, Nat.zero_le _, Nat.zero_le _, HT.out⟩
      case round =>
        obtain ⟨k, r1, r2, rfl, hk, hr1, hr2, hT⟩ := hrel
        by_cases hlt : k < n
        · as_aux_lemma =>
          have hkl : k < qs.length := by have := HH.out.2.2.2.1; omega
          have hjl : n - 1 - k < qs.length := by have := HH.out.2.2.2.1; omega
          obtain ⟨g, off, e, hrow⟩ := HH.out.2.2.1.at' (fun e => by rw [e] at hkl; simp at hkl)
          have hrowr : RowAt wr g off (qs.flatMap qC) := fun j x hx => cell_lat hT.old (hrow j x hx)
          have z0 := q_at hrowr k hkl 0 _ rfl
          have z1 := q_at hrowr k hkl 1 _ rfl
          have z2 := q_at hrowr k hkl 2 _ rfl
          have z3 := q_at hrowr k hkl 3 _ rfl
          have z4 := q_at hrowr k hkl 4 _ rfl
          have z5 := q_at hrowr k hkl 5 _ rfl
          rw [Nat.add_zero] at z0
          have hask := asked_any fa fc h1 l1 bl1 ix1 bv1 iv1 lv1 sv1 r1 (qs[k]).e.v (qs[k]).e.c (qs[k]).e.i (qs[k]).e.s (qs[k]).e.d (qs[k]).m wr hT.one HF.out.1 (by have := HH.out.2.2.2.2; omega)
          generalize qs[k] = q at z0 z1 z2 z3 z4 z5 hask
          obtain ⟨⟨qv, qc, qi, qs', qd⟩, qm⟩ := q
          obtain ⟨qb, hqb⟩ : ∃ qb, qb = qs[n - 1 - k] := ⟨_, rfl⟩
          have ya : ∀ W, Below w.heap.size w W → W.cell? ⟨g, off + (n - 1 - k) * 6, none⟩ = some (.int .i64 qb.e.v) ∧ W.cell? ⟨g, off + (n - 1 - k) * 6 + 1, none⟩ = some (.string qb.e.c) ∧ W.cell? ⟨g, off + (n - 1 - k) * 6 + 2, none⟩ = some (.int .i64 qb.e.i) ∧ W.cell? ⟨g, off + (n - 1 - k) * 6 + 3, none⟩ = some (.int .i64 qb.e.s) ∧ W.cell? ⟨g, off + (n - 1 - k) * 6 + 4, none⟩ = some (.bool qb.e.d) ∧ W.cell? ⟨g, off + (n - 1 - k) * 6 + 5, none⟩ = some (.int .i64 qb.m) := fun W b => by
            have hrw : RowAt W g off (qs.flatMap qC) := fun j x hx => cell_lat b (hrow j x hx)
            rw [hqb]
            have t0 := q_at hrw (n - 1 - k) hjl 0 _ rfl
            rw [Nat.add_zero] at t0
            exact ⟨t0, q_at hrw (n - 1 - k) hjl 1 _ rfl, q_at hrw (n - 1 - k) hjl 2 _ rfl, q_at hrw (n - 1 - k) hjl 3 _ rfl, q_at hrw (n - 1 - k) hjl 4 _ rfl, q_at hrw (n - 1 - k) hjl 5 _ rfl⟩
          obtain ⟨⟨pv, pc, pi, ps, pd⟩, pm⟩ := qb
          obtain ⟨jj, hjj⟩ : ∃ jj, jj = n - 1 - k := ⟨_, rfl⟩
          have i1 : (k : Int) < (n : Int) := by omega
          have i2 : 0 ≤ (k : Int) := by omega
          have i3 : 0 ≤ (jj : Int) := by omega
          have i4 : (jj : Int) < (n : Int) := by omega
          have e1 := wrap_sub1 n HH.out.2.2.2.2
          have e2 := wrap_sub2 n k HH.out.2.2.2.2 hlt
          rw [← hjj] at ya e2
          rw [e]
          have HR := Hid.mk (And.intro hk (And.intro hr1 (And.intro hr2 (And.intro hT hlt))))
          have HY := Hid.mk ya
          clear hk hr1 hr2 hT hrow hrowr e hkl hjl hqb ya hjj hlt
          dsimp only at z0 z1 z2 z3 z4 z5 hask
          go_wp2_with fail
          refine hask.mono ?_
          clear hask z0 z1 z2 z3 z4 z5
          rintro r w5 ⟨rfl, t, ht, hH5, st⟩
          have T5 := HR.out.2.2.2.1.goOne hH5 st
          obtain ⟨y0, y1, y2, y3, y4, y5⟩ := HY.out w5 T5.old
          have hask2 := asked_any fb fd h2 l2 bl2 ix2 bv2 iv2 lv2 sv2 r2 pv pc pi ps pd pm w5 T5.two HF.out.2 (by have := HH.out.2.2.2.2; have := HR.out.2.2.1; have := HR.out.1; omega)
          have HT5 := Hid.mk (And.intro T5 ht)
          clear T5 ht hH5 st
          try dsimp only at y0 y1 y2 y3 y4 y5
          go_wp2_with fail
          refine hask2.mono ?_
          clear hask2 y0 y1 y2 y3 y4 y5
          rintro r w6 ⟨rfl, t2, ht2, hH6, st2⟩
          have T6 := HT5.out.1.goTwo hH6 st2
          have fin : TwI w fa fc h1 l1 bl1 ix1 bv1 iv1 lv1 sv1 fb fd h2 l2 bl2 ix2 bv2 iv2 lv2 sv2 n (.int .i64 ((k : Int) + 1)) w6 := ⟨k + 1, r1 + t, r2 + t2, rfl, HR.out.2.2.2.2, by have := HR.out.2.1; have := HT5.out.2; omega, by have := HR.out.2.2.1; omega, T6⟩
          have HX := Hid.mk fin
          have hlt := HR.out.2.2.2.2
          clear fin T6 hH6 st2 ht2
          have hwu := wrap_up k (by have := HH.out.2.2.2.2; omega)
          have hend : n - (intOf (.int .i64 ((k : Int) + 1))).toNat < n - (intOf (.int .i64 (k : Int))).toNat := by simp only [intOf]; omega
          clear hlt
          go_wp2
          rw [hwu]
          exact ⟨HX.out, hend⟩
        · as_aux_lemma =>
          have hk0 : ¬ (k : Int) < (n : Int) := by omega
          have q1 := fun W (b : Below wr.heap.size wr W) => reads_any fa h1 bv1 iv1 r1 W (hT.one.below b).p.box
          have q2 := fun W (b : Below wr.heap.size wr W) => rreads_any fc h1 lv1 sv1 r1 W (hT.one.below b).r.box
          have q3 := fun W (b : Below wr.heap.size wr W) => reads_any fb h2 bv2 iv2 r2 W (hT.two.below b).p.box
          have q4 := fun W (b : Below wr.heap.size wr W) => rreads_any fd h2 lv2 sv2 r2 W (hT.two.below b).r.box
          have HR := Hid.mk hT.old
          clear hk hr1 hr2 hT
          go_wp2_with (first | (go_at_call 7; refine (q1 wr (Below.refl _ _)).mono ?_; clear q1; rintro r w5 ⟨rfl, b5⟩) | (go_at_call 8; refine (q2 w5 b5).mono ?_; clear q2; rintro r w6 ⟨rfl, rfl⟩) | (go_at_call 7; refine (q3 _ b5).mono ?_; clear q3; rintro r w7 ⟨rfl, b7⟩; have b57 := chain b5 b7 (Nat.le_refl _)) | (go_at_call 8; refine (q4 w7 b57).mono ?_; clear q4; rintro r w8 ⟨rfl, rfl⟩))
          go_ret
          exact ⟨rfl, chain HR.out b57 (Nat.le_refl _)⟩
end Go.Proofs.YtjdpolhjbkpnlaaDoor.Dx
set_option linter.unusedVariables false
set_option linter.unusedSimpArgs false
namespace Go.Proofs.YtjdpolhjbkpnlaaDoor
open Go.Proofs.YtjdpolhjbkpnlaaDoor.Dx
open Go.ChangeMaps (open_string shut_string)
open Go.ChangeShapes Go.WideShapes Go.ChangeAt Go.WideMaps Go.WideElems Go.RowKit Go.Proofs.SealMath
theorem two_small {H : Type} {d2 : DataW H} {b c : ByteArray} (hk : Rows.uptoSmall H [.lit (.string b.data.toList), .lit (.string c.data.toList), d2] = true) : b.size ≤ 1048576 ∧ c.size ≤ 1048576 ∧ Rows.uptoBulk d2 ≤ 1048576 := by
  have h : Rows.uptoBulkAll [DataW.lit (H := H) (.string b.data.toList), DataW.lit (H := H) (.string c.data.toList), d2] ≤ 1048576 := of_decide_eq_true hk
  simp only [Rows.uptoBulkAll, Rows.uptoBulk] at h
  have e : b.data.toList.length = b.size := Array.length_toList
  have e' : c.data.toList.length = c.size := Array.length_toList
  omega
theorem two_reads (os : Os) {H : Type} (enc : TypeId × Value → H) : ∃ places, DataW.whole enc Tryd.prog ((World.doorLaid Tryd.prog 4000 os).forCall (fun _ _ => 0) ⟨#[], #[.string ⟨#[]⟩, .string ⟨#[]⟩, .slice none 0 0], []⟩).memory Tryd.f3.params.toList Rows.blockTwoSpec.vars false #[Value.string ⟨#[]⟩, .string ⟨#[]⟩, .slice none 0 0].toList 8 = some ([.lit (.string []), .lit (.string []), .nil], [], places) :=
  ⟨[], by kernel_rfl⟩
set_option maxRecDepth 100000 in
theorem two_lifted (os : Os) (started : os.Started) (H : Type) (enc : TypeId × Value → H) (F : Stop.Interp) :
    ReturnsInHanded {} Tryd.checked os 3 .any ((Rows.OpenSpec.upto Rows.blockTwoSpec).preRow enc Tryd.prog Tryd.f3 Rows.blockTwoUptoRow.domain false Rows.blockTwoUptoRow.laid) (((Rows.OpenSpec.upto Rows.blockTwoSpec).at F).post enc Tryd.prog Tryd.f3 false true false false) := by
  obtain ⟨places, hx⟩ := two_reads os enc
  refine returnsInHanded_of_row (C := Tryd.checked) (s := Rows.OpenSpec.upto Rows.blockTwoSpec) own started (by kernel_rfl) Tryd.func3
    (witness_row_at (enc := enc) (C := Tryd.checked) false (World.doorLaid Tryd.prog 4000 os) #[.string ⟨#[]⟩, .string ⟨#[]⟩, .slice none 0 0] rfl (by kernel_rfl) (by kernel_rfl) (by kernel_rfl)
      (OpenSpec.preRow_of_cond 8 hx (by kernel_rfl) (fun k hk => by cases hk; kernel_rfl) (by kernel_rfl) (laidMet_of_run' 8 (by kernel_rfl) (by kernel_rfl)))) ?_
  intro W base args ds gs before hval0 hW0 _ hcond _ hL0 _ _
  have hL : laidMetH Tryd.prog lst W := hL0
  have hW : DataW.Whole enc Tryd.prog Tryd.f3.params.toList Rows.blockTwoSpec.vars false W args.toList ds gs before := hW0
  have hk : Rows.uptoSmall H (ds ++ gs) = true := hcond _ rfl
  show Calls Tryd.prog 3 args W _
  have hval : ∀ (j : Nat) t v, Tryd.f3.params[j]? = some t → args[j]? = some v → Value.okWide Tryd.prog W .any base t v := hval0
  clear hval0 hW0 hL0 hcond
  have hW' := hW
  obtain ⟨p, q, hA0, hV, rfl, hfz, hnd⟩ := hW
  have hA : DataW.TrodAll enc Tryd.prog W 0 (fun _ => true) true Tryd.f3.params.toList args.toList ds p := hA0
  rw [Tryd.params3] at hA hval
  obtain ⟨v0, v1, v2, d0, d1, d2, p0, p1, p2, rfl, rfl, rfl, h0, h1, h2⟩ := trodAll_three hA
  obtain ⟨rfl, rfl⟩ := trodVars_none hV
  obtain ⟨b, rfl, rfl, rfl, hb⟩ := open_string Tryd.underlying9 (hval 0 9 v0 rfl rfl) h0
  obtain ⟨c, rfl, rfl, rfl, hc⟩ := open_string Tryd.underlying9 (hval 1 9 v1 rfl rfl) h1
  obtain ⟨a2, len2, cap2, rfl⟩ := okWide_slice Tryd.underlying22 (hval 2 22 v2 rfl rfl)
  have h2k := h2
  obtain ⟨fuel2, hf2⟩ := h2
  clear hA0
  simp only [List.append_nil, List.nil_append] at hW' hk
  have hsm := two_small hk
  have hlt2 : ∀ x ∈ p2, x.block < W.heap.size := fun x hx => hW'.lt x (by simp [hx])
  have e1 : Rows.blockTwoSpec.fn H ([.lit (.string b.data.toList), .lit (.string c.data.toList), d2] ++ []) = { results := [.lit (.bool true)], args := [.lit (.string b.data.toList), .lit (.string c.data.toList), d2] } := by simp [Rows.blockTwoSpec]
  have fin : ∀ (e : Ending) (W' : World), (e = .returned (.bool true) ∧ Below W.heap.size W W') → ∃ v, e = .returned v ∧ ((Rows.OpenSpec.upto Rows.blockTwoSpec).at F).post enc Tryd.prog Tryd.f3 false true false false W #[.string b, .string c, .slice a2 len2 cap2] v W' := by
    rintro e W' ⟨rfl, hbl⟩
    refine ⟨_, rfl, _, _, _, [], p2, [], hW', ?_, ?_, ?_, hbl.frame _, fun h => by cases h⟩
    · exact (show _ from by rw [show ((Rows.OpenSpec.upto Rows.blockTwoSpec).at F).fn = Rows.blockTwoSpec.fn from rfl, e1]; exact trodAll_mk1 (shut_bool Tryd.underlying4 true))
    · exact (show _ from by rw [show ((Rows.OpenSpec.upto Rows.blockTwoSpec).at F).fn = Rows.blockTwoSpec.fn from rfl, e1]; have h5 := trodAll_mk3 (shut_string Tryd.underlying9 hb) (shut_string Tryd.underlying9 hc) (Below.trod laidOut (by kernel_rfl) (of_decide_eq_true (by kernel_rfl)) h2k hbl hlt2); simp only [List.append_nil, List.nil_append] at h5; exact h5)
    · exact (show _ from by rw [show ((Rows.OpenSpec.upto Rows.blockTwoSpec).at F).fn = Rows.blockTwoSpec.fn from rfl, e1]; rfl)
  have ht := tab_of hL
  have hg0 := tab_pos ht
  obtain ⟨qs, hl, hQ, hB⟩ := open_qs (show DataW.trod enc Tryd.prog W 0 (fun _ => true) true fuel2 22 [.slice a2 len2 cap2] = some (d2, p2) by simpa [Value.cells] using hf2)
  exact (law_two b c qs a2 cap2 len2 W ht hg0 hQ hl (by omega) (by omega) (by omega)).mono fin
theorem two_row : Rows.BlockTwoUptoSaid :=
  OpenClaim.holds_of_cond 3 Tryd.f3 rfl rfl rfl rfl rfl rfl rfl ⟨rfl, rfl, rfl, rfl, rfl⟩ rfl rfl rfl rfl rfl (by kernel_rfl) Tryd.func3 (by kernel_rfl)
    (of_decide_eq_true (by kernel_rfl)) (by unfold Func.isWrapper; first | (rw [if_pos (by decide +kernel)]; kernel_rfl) | (rw [if_neg (by decide +kernel)]; exact ⟨rfl, rfl⟩))
    (fun os started H enc _ F => by rw [OpenClaim.pre_eq_preRow]; exact two_lifted os started H enc F)
theorem two_plain (f : FuncId) (fn : Func) (hf : Tryd.pinned.checked.prog.funcNamed "kindred/kindredlaw6.BlockTwo" = some f) (hfn : Tryd.pinned.checked.prog.funcs[f]? = some fn) :
    false = Tryd.pinned.checked.prog.looks [] ∧ ∀ (j : Nat) t, fn.params[j]? = some t → Tryd.pinned.checked.prog.wantsStandIn t = false := by
  obtain rfl : f = 3 := Option.some.inj ((show Tryd.prog.funcNamed "kindred/kindredlaw6.BlockTwo" = some 3 by kernel_rfl).symm.trans hf) |>.symm
  obtain rfl : fn = Tryd.f3 := (Option.some.inj (Tryd.func3.symm.trans hfn)).symm
  refine ⟨by kernel_rfl, fun j t ht => ?_⟩
  rw [Tryd.params3] at ht
  have hm : t ∈ [9, 9, 22] := by simpa using Array.mem_of_getElem? ht
  have hall : ([9, 9, 22].all fun u => !Tryd.prog.wantsStandIn u) = true := by kernel_rfl
  exact (show Tryd.prog.wantsStandIn t = false by simpa using List.all_eq_true.1 hall t hm)
theorem two_holds : Rows.BlockTwoUptoCardSaid :=
  Claim7.holds_tied_plain_at .later [] _ _ _ _ two_row (fun _ h => by cases h) (by kernel_rfl) (fun _ h => by cases h) blockTwoUpto_row_tie rfl ⟨rfl, rfl⟩ (by kernel_rfl) rfl two_plain (by kernel_rfl)
#print axioms two_holds
end Go.Proofs.YtjdpolhjbkpnlaaDoor
